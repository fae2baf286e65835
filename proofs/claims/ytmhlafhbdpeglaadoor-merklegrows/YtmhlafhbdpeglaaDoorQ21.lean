/-
  The walk of the reference's both.
  The walk of the reference's Grown.
-/
import Derived.Test.YtmhlafhbdpeglaaDoorQ17
import Derived.Test.YtmhlafhbdpeglaaDoorQ18
namespace Go.Proofs.YtmhlafhbdpeglaaDoor
open Go.RowKit
set_option maxRecDepth 100000 in
set_option maxHeartbeats 8000000 in
theorem both_c : ∀ (q ls : List Bs), ls.reverse = q → All32 ls → ls.length ≤ 1000 → ∀ (w : World) (x : Value) (first : Bs) (same : Bool) (m n : Nat) (s : Option Addr) (k c : Nat) (kn : Option Bs), (if same then some first else none) = kn → 1 ≤ m → m ≤ n → n ≤ 9223372036854775807 → BytesAt w x first → first.length = 32 → LL w (.slice s k c) ls →
    Crosses w 44 #[.int .i64 (m : Int), .int .i64 (n : Int), x, .slice s k c, .bool same] (bothP Sha.shaOf m n kn q) := by
  intro q
  induction q with
  | nil =>
    intro ls hq h32 hll w x first same m n s k c kn hkn hm1 hmn hn hx hf hp
    obtain rfl : ls = [] := by simpa using hq
    obtain rfl : k = 0 := hp.len.1
    obtain ⟨sx, nx, cx, rfl⟩ := hx.forms
    have n0 : (1 : Int) ≤ (n : Int) := by omega
    have n1 : (n : Int) ≤ 9223372036854775807 := by omega
    have m0 : (1 : Int) ≤ (m : Int) := by omega
    have HX := hide hx
    have Hf := hide hf
    clear hp h32 hq hll hx hf
    by_cases h1 : m = n
    · subst h1
      have d1 : ((m : Int) == (m : Int)) = true := by simp
      cases same with
      | false =>
        have He : Hid (bothP Sha.shaOf m m kn [] = none) := by show _ = _; rw [← hkn]; simp [bothP]
        clear hkn
        go_enter Tryd.func44, Tryd.ntmps44
        go_wp2
        refine bodyPost_ret (v := .tuple #[.slice none 0 0, .slice none 0 0, .bool false]) (by simp [results, Tryd.results44, go_sem]) rfl ⟨_, _, [], [], by rw [unhide He]; rfl, bytes_nil _, bytes_nil _, Below.refl _ _, by simp, by simp, fun x y hx => by rw [unhide He] at hx; cases hx⟩
      | true =>
        have He : Hid (bothP Sha.shaOf m m kn [] = some (first, first)) := by show _ = _; rw [← hkn]; simp [bothP]
        clear hkn
        go_enter Tryd.func44, Tryd.ntmps44
        go_wp2
        refine bodyPost_ret (v := .tuple #[.slice sx nx cx, .slice sx nx cx, .bool true]) (by simp [results, Tryd.results44, go_sem]) rfl ⟨_, _, first, first, by rw [unhide He]; rfl, unhide HX, unhide HX, Below.refl _ _, by have := unhide Hf; omega, by have := unhide Hf; omega, fun x y hx => by rw [unhide He] at hx; cases hx; exact ⟨rfl, rfl⟩⟩
    · have He : Hid (bothP Sha.shaOf m n kn [] = none) := by show _ = _; simp [bothP, h1]
      clear hkn
      have d1 : ((m : Int) == (n : Int)) = false := by simp; omega
      go_enter Tryd.func44, Tryd.ntmps44
      go_wp2
      refine bodyPost_ret (v := .tuple #[.slice none 0 0, .slice none 0 0, .bool false]) (by simp [results, Tryd.results44, go_sem]) rfl ⟨_, _, [], [], by rw [unhide He]; rfl, bytes_nil _, bytes_nil _, Below.refl _ _, by simp, by simp, fun x y hx => by rw [unhide He] at hx; cases hx⟩
  | cons last rest ih =>
    intro ls hq h32 hll w x first same m n s k c kn hkn hm1 hmn hn hx hf hp
    have hls := snoc_of hq
    obtain ⟨sx, nx, cx, rfl⟩ := hx.forms
    have HX := hide hx
    have Hf := hide hf
    have hk := hp.len
    have hk1 : ls.length = rest.length + 1 := by rw [hls]; simp
    obtain ⟨p, rfl⟩ : ∃ p, k = p + 1 := ⟨k - 1, by omega⟩
    have n0 : (1 : Int) ≤ (n : Int) := by omega
    have n1 : (n : Int) ≤ 9223372036854775807 := by omega
    have m0 : (1 : Int) ≤ (m : Int) := by omega
    have p0 : (0 : Int) ≤ (p : Int) := by omega
    have p1 : (p : Int) ≤ 1000 := by omega
    have hp2 := LL.front hp p (by omega)
    have hpl : p = rest.length := by omega
    have Hpl := hide hpl
    rw [hls, hpl, List.take_left' (by simp)] at hp2
    rw [← hpl] at hp2
    have HP2 := hide hp2
    have hlast : ls.getD p [] = last := by rw [hls, hpl]; simp [List.getD_eq_getElem?_getD]
    have h32r : All32 rest.reverse := fun b hb => h32 b (by rw [hls]; exact List.mem_append_left _ hb)
    have h32l : last.length = 32 := h32 last (by rw [hls]; simp)
    have Hih := hide (ih rest.reverse (by simp) h32r (by simp; omega))
    have H32l := hide h32l
    obtain ⟨bb, o, c', v1, e, hb, hc, hv⟩ := hp.at p (by omega)
    simp only [Value.slice.injEq] at e
    obtain ⟨rfl, hml, rfl⟩ := e
    have hs : ∀ w, (Instr.sliceAt 22 (.slice (some ⟨bb, o, none⟩) (p + 1) c) none (some (.int .i64 (p : Int))) none).run Tryd.prog w = .ok (.slice (some ⟨bb, o, none⟩) p c) w := slice_frontbb _ _ _ p (by omega)
    have e1 : ((p + 1 : Nat) : Int) - 1 = (p : Int) := by omega
    rw [hlast] at hv
    have d0 : (((p + 1 : Nat) : Int) == 0) = false := by simp; omega
    obtain ⟨s1, c1, hf1, _⟩ := bytes_open hv
    have HV1 := hide hv
    subst hf1
    clear hx hf hp h32 hq hll hls hk hk1 hp2 hpl hlast h32r h32l ih hv hml hb
    by_cases h1 : m = n
    · subst h1
      have d1 : ((m : Int) == (m : Int)) = true := by simp
      cases same with
      | false =>
        have He : Hid (bothP Sha.shaOf m m kn (last :: rest) = if rest = [] then some (last, last) else none) := by show _ = _; rw [← hkn]; simp [bothP]
        clear hkn
        by_cases hp0 : p = 0
        · subst hp0
          have He2 : Hid (bothP Sha.shaOf m m kn (last :: rest) = some (last, last)) := by show _ = _; rw [unhide He, if_pos (List.eq_nil_of_length_eq_zero (unhide Hpl).symm)]
          rw [Nat.add_zero] at hc
          clear hs e1 d0
          go_enter Tryd.func44, Tryd.ntmps44
          go_wp2
          go_region
          go_wp2
          refine bodyPost_ret (v := .tuple #[.slice s1 last.length c1, .slice s1 last.length c1, .bool true]) (by simp [results, Tryd.results44, go_sem]) rfl ⟨_, _, last, last, by rw [unhide He2]; rfl, (unhide HV1).below (Below.refl _ _).drew, (unhide HV1).below (Below.refl _ _).drew, (Below.refl _ _).drew, by have := unhide H32l; omega, by have := unhide H32l; omega, fun x y hx => by rw [unhide He2] at hx; cases hx; exact ⟨rfl, rfl⟩⟩
        · have He2 : Hid (bothP Sha.shaOf m m kn (last :: rest) = none) := by show _ = _; rw [unhide He, if_neg (by rintro rfl; exact hp0 (unhide Hpl))]
          have dp : (((p + 1 : Nat) : Int) != 1) = true := by simp; omega
          have dp2 : ((p : Int) + 1 != 1) = true := by simp; omega
          go_enter Tryd.func44, Tryd.ntmps44
          go_wp2
          refine bodyPost_ret (v := .tuple #[.slice none 0 0, .slice none 0 0, .bool false]) (by simp [results, Tryd.results44, go_sem]) rfl ⟨_, _, [], [], by rw [unhide He2]; rfl, bytes_nil _, bytes_nil _, Below.refl _ _, by simp, by simp, fun x y hx => by rw [unhide He2] at hx; cases hx⟩
      | true =>
        have He : Hid (bothP Sha.shaOf m m kn (last :: rest) = none) := by show _ = _; rw [← hkn]; simp [bothP]
        clear hkn
        go_enter Tryd.func44, Tryd.ntmps44
        go_wp2
        refine bodyPost_ret (v := .tuple #[.slice sx nx cx, .slice sx nx cx, .bool false]) (by simp [results, Tryd.results44, go_sem]; omega) rfl ⟨_, _, first, first, by rw [unhide He]; rfl, unhide HX, unhide HX, Below.refl _ _, by have := unhide Hf; omega, by have := unhide Hf; omega, fun x y hx => by rw [unhide He] at hx; cases hx⟩
    · have d1 : ((m : Int) == (n : Int)) = false := by simp; omega
      have hk1 := cut_lt (n := n) (by omega)
      have hk0 := cut_pos n
      have Hcut : ∀ w, Calls Tryd.prog 32 #[.int .i64 (n : Int)] w fun e w' => e = .returned (.int .i64 (cutP n : Int)) ∧ w' = w := fun w => qcut_c w n (by omega) hn
      have He : Hid (bothP Sha.shaOf m n kn (last :: rest) = if m ≤ cutP n then (bothP Sha.shaOf m (cutP n) kn rest).map fun x => (x.1, nodeH Sha.shaOf x.2 last) else (bothP Sha.shaOf (m - cutP n) (n - cutP n) none rest).map fun x => (nodeH Sha.shaOf last x.1, nodeH Sha.shaOf last x.2)) := by show _ = _; rw [bothP, if_neg h1]
      obtain ⟨K, hK⟩ : ∃ K, cutP n = K := ⟨_, rfl⟩
      rw [hK] at hk1 hk0 Hcut He
      have k0 : (1 : Int) ≤ (K : Int) := by omega
      have k1 : (K : Int) < (n : Int) := by omega
      have Hcu := hide Hcut
      have Hkn := hide hkn
      clear hK Hcut hkn
      go_enter Tryd.func44, Tryd.ntmps44
      go_wp2_with fail
      refine (unhide Hcu w).mono ?_
      rintro e w1' ⟨rfl, hw1'⟩
      subst hw1'
      by_cases hm : m ≤ K
      · have dm : decide ((m : Int) ≤ (K : Int)) = true := by simp; omega
        have dmn : decide (m ≤ K) = true := by simp; omega
        have He2 : Hid (bothP Sha.shaOf m n kn (last :: rest) = (bothP Sha.shaOf m K kn rest).map fun x => (x.1, nodeH Sha.shaOf x.2 last)) := by show _ = _; rw [unhide He, if_pos hm]
        clear He
        go_wp2_with fail
        refine (unhide Hih w1' _ first same m K _ p c kn (unhide Hkn) hm1 hm (by omega) (unhide HX) (unhide Hf) (unhide HP2)).mono ?_
        rintro e w2 ⟨v2, u2, l2, r2, rfl, hv2, hu2, hb2, hl2, hlr2, hr2⟩
        obtain ⟨s2, n2, c2, rfl⟩ := hv2.forms
        obtain ⟨s3, n3, c3, rfl⟩ := hu2.forms
        have HV2 := hide hv2
        have HU2 := hide hu2
        have Hr2 := hide hr2
        have HB2 := hide hb2
        have HV12 := hide ((unhide HV1).below hb2)
        have Hl2 := hide hl2
        have Hlr2 := hide hlr2
        clear hv2 hu2 hb2 hl2 hr2 hlr2
        obtain ⟨r, hr⟩ : ∃ r, bothP Sha.shaOf m K kn rest = r := ⟨_, rfl⟩
        rw [hr] at Hr2 He2
        rw [hr]
        clear hr
        obtain ⟨ok, hok⟩ : ∃ ok, r.isSome = ok := ⟨_, rfl⟩
        rw [hok]
        have Hok := hide hok
        clear hok
        go_wp2_with fail
        refine (qnode_c ref_hash w2 _ _ r2 last (unhide HU2) (unhide HV12) (by have := unhide Hlr2; omega) (by have := unhide H32l; omega)).mono ?_
        rintro e w3 ⟨v3, rfl, hR3⟩
        have HV23 := hide ((unhide HV2).below hR3.b)
        have HR3 := hide (hR3.up (unhide HB2))
        clear hR3
        go_wp2
        refine bodyPost_ret (v := .tuple #[.slice s2 n2 c2, v3, .bool ok]) (by simp [results, Tryd.results44, go_sem]) rfl ⟨_, _, _, _, by rw [unhide He2, Option.isSome_map, unhide Hok], unhide HV23, (unhide HR3).bytes, (unhide HR3).b, unhide Hl2, by rw [len_node]; omega, fun x y hx => ?_⟩
        rw [unhide He2] at hx
        obtain ⟨⟨y1, y2⟩, hy, hxy⟩ := Option.map_eq_some_iff.1 hx
        cases hxy
        obtain ⟨z1, z2⟩ := unhide Hr2 y1 y2 hy
        exact ⟨z1, by rw [z2]⟩
      · have dm : decide ((m : Int) ≤ (K : Int)) = false := by simp; omega
        have dmn : decide (m ≤ K) = false := by simp; omega
        obtain ⟨m', hm'⟩ : ∃ m', m - K = m' := ⟨_, rfl⟩
        obtain ⟨n', hn'⟩ : ∃ n', n - K = n' := ⟨_, rfl⟩
        have em : (m : Int) - (K : Int) = (m' : Int) := by omega
        have en : (n : Int) - (K : Int) = (n' : Int) := by omega
        have hmn' : m' ≤ n' := by omega
        have hm1' : 1 ≤ m' := by omega
        have hn'b : n' ≤ 9223372036854775807 := by omega
        have He2 : Hid (bothP Sha.shaOf m n kn (last :: rest) = (bothP Sha.shaOf m' n' none rest).map fun x => (nodeH Sha.shaOf last x.1, nodeH Sha.shaOf last x.2)) := by show _ = _; rw [unhide He, if_neg hm, hm', hn']
        have Hmn := hide hmn'
        have Hm1 := hide hm1'
        have Hnb := hide hn'b
        have Hih2 := hide (fun w => unhide Hih w (.slice sx nx cx) first false m' n')
        clear He hm' hn' hmn' hn'b hm1' Hih
        go_wp2_with fail
        refine (unhide Hih2 w1' _ p c none (by simp) (unhide Hm1) (unhide Hmn) (unhide Hnb) (unhide HX) (unhide Hf) (unhide HP2)).mono ?_
        rintro e w2 ⟨v2, u2, l2, r2, rfl, hv2, hu2, hb2, hl2, hlr2, hr2⟩
        obtain ⟨s2, n2, c2, rfl⟩ := hv2.forms
        obtain ⟨s3, n3, c3, rfl⟩ := hu2.forms
        have HV2 := hide hv2
        have HU2 := hide hu2
        have Hr2 := hide hr2
        have HB2 := hide hb2
        have HV12 := hide ((unhide HV1).below hb2)
        have Hl2 := hide hl2
        have Hlr2 := hide hlr2
        clear hv2 hu2 hb2 hl2 hr2 hlr2
        obtain ⟨r, hr⟩ : ∃ r, bothP Sha.shaOf m' n' none rest = r := ⟨_, rfl⟩
        rw [hr] at Hr2 He2
        rw [hr]
        clear hr
        obtain ⟨ok, hok⟩ : ∃ ok, r.isSome = ok := ⟨_, rfl⟩
        rw [hok]
        have Hok := hide hok
        clear hok
        go_wp2_with fail
        refine (qnode_c ref_hash w2 _ _ last l2 (unhide HV12) (unhide HV2) (by have := unhide H32l; omega) (by have := unhide Hl2; omega)).mono ?_
        rintro e w3 ⟨v3, rfl, hR3⟩
        have HV3 := hide hR3.bytes
        have HB3 := hide ((unhide HB2).trans (hR3.b.mono (unhide HB2).size))
        have HV13 := hide ((unhide HV12).below hR3.b)
        have HU3 := hide ((unhide HU2).below hR3.b)
        clear hR3
        go_wp2_with fail
        refine (qnode_c ref_hash w3 _ _ last r2 (unhide HV13) (unhide HU3) (by have := unhide H32l; omega) (by have := unhide Hlr2; omega)).mono ?_
        rintro e w4 ⟨v4, rfl, hR4⟩
        have HV34 := hide ((unhide HV3).below hR4.b)
        have HR4 := hide (hR4.up (unhide HB3))
        clear hR4
        go_wp2
        refine bodyPost_ret (v := .tuple #[v3, v4, .bool ok]) (by simp [results, Tryd.results44, go_sem]) rfl ⟨_, _, _, _, by rw [unhide He2, Option.isSome_map, unhide Hok], unhide HV34, (unhide HR4).bytes, (unhide HR4).b, by rw [len_node]; omega, by rw [len_node]; omega, fun x y hx => ?_⟩
        rw [unhide He2] at hx
        obtain ⟨⟨y1, y2⟩, hy, hxy⟩ := Option.map_eq_some_iff.1 hx
        cases hxy
        obtain ⟨z1, z2⟩ := unhide Hr2 y1 y2 hy
        exact ⟨by rw [z1], by rw [z2]⟩
end Go.Proofs.YtmhlafhbdpeglaaDoor
namespace Go.Proofs.YtmhlafhbdpeglaaDoor
open Go.RowKit
set_option maxRecDepth 100000 in
set_option maxHeartbeats 8000000 in
theorem qgrown_c (w : World) (x y p : Value) (first second : Bs) (bridge : List Bs) (m n : Int) (hm : -9223372036854775808 ≤ m ∧ m ≤ 9223372036854775807) (hn : -9223372036854775808 ≤ n ∧ n ≤ 9223372036854775807) (hx : BytesAt w x first) (hy : BytesAt w y second) (hp : LL w p bridge) (hl : bridge.length ≤ 1000) :
    Says w 25 #[.int .i64 m, .int .i64 n, x, y, p] (grownB Sha.shaOf m n first second bridge) := by
  obtain ⟨sx, nx, cx, rfl⟩ := hx.forms
  obtain ⟨sy, ny, cy, rfl⟩ := hy.forms
  obtain ⟨sp, cp, rfl⟩ := hp.form
  obtain ⟨np, hnp⟩ : ∃ np, bridge.length = np := ⟨_, rfl⟩
  rw [hnp] at hp hl ⊢
  obtain ⟨m1, m2⟩ := hm
  obtain ⟨n1, n2⟩ := hn
  have hbA : Below w.heap.size w (w.alloc (.cells #[.slice sx nx cx, .slice sy ny cy] 28)) := (Below.refl _ _).alloc (Nat.le_refl _) _
  have HL := hide (ll_new2 w _ _ first second 28 hx hy)
  obtain ⟨wA, hwA⟩ : ∃ wA, w.alloc (.cells #[.slice sx nx cx, .slice sy ny cy] 28) = wA := ⟨_, rfl⟩
  rw [hwA] at hbA HL
  have HX := hide (hx.below hbA)
  have HY := hide (hy.below hbA)
  have HP := hide (hp.below hbA)
  have HP0 := hide hp
  have HB := hide hbA
  have Hl := hide hl
  have Hnp := hide hnp
  have np0 : (0 : Int) ≤ (np : Int) := by omega
  have np1 : (np : Int) ≤ 1000 := by omega
  clear hx hy hp hbA hl hnp
  by_cases hout : m < 0 ∨ n < m
  · have He := hide (gr_out (H := Sha.shaOf) (first := first) (second := second) (bridge := bridge) hout)
    by_cases h00 : m < 0
    · have d2 : decide (m < 0) = true := by simp; omega
      go_enter Tryd.func25, Tryd.ntmps25
      go_wp2
      go_ret
      exact ⟨by rw [unhide He]; rfl, Below.refl _ _⟩
    · have d2 : decide (m < 0) = false := by simp; omega
      have d3 : decide (n < m) = true := by simp; omega
      go_enter Tryd.func25, Tryd.ntmps25
      go_wp2
      go_ret
      exact ⟨by rw [unhide He]; rfl, Below.refl _ _⟩
  obtain ⟨a, rfl⟩ : ∃ a : Nat, m = (a : Int) := ⟨m.toNat, by omega⟩
  obtain ⟨b, rfl⟩ : ∃ b : Nat, n = (b : Int) := ⟨n.toNat, by omega⟩
  have d2 : decide ((a : Int) < 0) = false := by simp
  have d3 : decide ((b : Int) < (a : Int)) = false := by simp; omega
  have d3n : decide (b < a) = false := by simp; omega
  by_cases h32p : is32 bridge = true
  case neg =>
    have h32f : is32 bridge = false := by simpa using h32p
    have H32p := hide h32f
    have He := hide (gr_bad (H := Sha.shaOf) (first := first) (second := second) (m := (a : Int)) (n := (b : Int)) (Or.inr h32f))
    clear h32p h32f
    go_enter Tryd.func25, Tryd.ntmps25
    go_wp2_with (
        (refine (qsized_c w _ bridge (unhide HP0) (by have := unhide Hl; have := unhide Hnp; omega)).mono ?_
         rintro e w2 ⟨rfl, hw2⟩
         subst hw2
         rw [unhide H32p]
         clear HP0))
    go_ret
    exact ⟨by rw [unhide He]; rfl, Below.refl _ _⟩
  case pos =>
  have H32p := hide h32p
  by_cases h32 : is32 [first, second] = true
  case neg =>
    have h32f : is32 [first, second] = false := by simpa using h32
    have H32 := hide h32f
    have He := hide (gr_bad (H := Sha.shaOf) (m := (a : Int)) (n := (b : Int)) (bridge := bridge) (Or.inl h32f))
    clear h32 h32p h32f
    go_enter Tryd.func25, Tryd.ntmps25
    go_wp2_with (first
        | (refine (qsized_c w _ bridge (unhide HP0) (by have := unhide Hl; have := unhide Hnp; omega)).mono ?_
           rintro e w2 ⟨rfl, hw2⟩
           subst hw2
           rw [unhide H32p]
           clear HP0)
        | (refine (qsized_c wA _ [first, second] (unhide HL) (by simp)).mono ?_
           rintro e w1 ⟨rfl, hw1⟩
           subst hw1
           rw [unhide H32]
           clear HL))
    go_ret
    exact ⟨by rw [unhide He]; rfl, unhide HB⟩
  case pos =>
  have H32 := hide h32
  have hlf : first.length = 32 := (is32_iff _).1 h32 first (by simp)
  have Hlf := hide hlf
  by_cases he : a = b
  · subst he
    have He := hide (gr_eq (H := Sha.shaOf) (first := first) (second := second) (m := a) h32 h32p)
    rw [unhide Hnp] at He
    have d1 : ((a : Int) == (a : Int)) = true := by simp
    clear h32 h32p hlf hout d3 d3n
    have d3 : decide ((a : Int) < (a : Int)) = false := by simp
    by_cases hz : np = 0
    · subst hz
      have He2 : Hid (grownB Sha.shaOf a a first second bridge = decide (first = second)) := by show _ = _; rw [unhide He]; simp
      clear He
      go_enter Tryd.func25, Tryd.ntmps25
      go_wp2_with (first
          | (refine (qsized_c w _ bridge (unhide HP0) (by have := unhide Hl; have := unhide Hnp; omega)).mono ?_
             rintro e w2 ⟨rfl, hw2⟩
             subst hw2
             rw [unhide H32p]
             clear HP0)
          | (refine (qsized_c wA _ [first, second] (unhide HL) (by simp)).mono ?_
             rintro e w1 ⟨rfl, hw1⟩
             subst hw1
             rw [unhide H32]
             clear HL))
      refine (same_any _ _ _ first second (unhide HX) (unhide HY) (by have := unhide Hlf; omega)).mono ?_
      rintro e w4 ⟨rfl, hb4⟩
      have HB4 := hide ((unhide HB).trans (hb4.mono (unhide HB).size))
      clear hb4
      go_wp2
      go_ret
      exact ⟨by rw [unhide He2]; rfl, unhide HB4⟩
    · have dp : ((np : Int) == 0) = false := by simp; omega
      have He2 : Hid (grownB Sha.shaOf a a first second bridge = false) := by show _ = _; rw [unhide He]; simp [hz]
      clear He
      go_enter Tryd.func25, Tryd.ntmps25
      go_wp2_with (first
          | (refine (qsized_c w _ bridge (unhide HP0) (by have := unhide Hl; have := unhide Hnp; omega)).mono ?_
             rintro e w2 ⟨rfl, hw2⟩
             subst hw2
             rw [unhide H32p]
             clear HP0)
          | (refine (qsized_c wA _ [first, second] (unhide HL) (by simp)).mono ?_
             rintro e w1 ⟨rfl, hw1⟩
             subst hw1
             rw [unhide H32]
             clear HL))
      go_ret
      exact ⟨by rw [unhide He2]; rfl, unhide HB⟩
  · have d1 : ((a : Int) == (b : Int)) = false := by simp; omega
    by_cases hz : a = 0
    · subst hz
      have He := hide (gr_zero (H := Sha.shaOf) (first := first) (second := second) (n := b) (bridge := bridge) (by omega) h32 h32p)
      rw [unhide Hnp] at He
      clear h32 h32p hlf hout he
      by_cases hz : np = 0
      · subst hz
        have He2 : Hid (grownB Sha.shaOf 0 b first second bridge = decide (first = Sha.shaOf [])) := by show _ = _; rw [unhide He]; simp
        clear He
        go_enter Tryd.func25, Tryd.ntmps25
        go_wp2_with (first
            | (refine (qsized_c w _ bridge (unhide HP0) (by have := unhide Hl; have := unhide Hnp; omega)).mono ?_
               rintro e w2 ⟨rfl, hw2⟩
               subst hw2
               rw [unhide H32p]
               clear HP0)
            | (refine (qsized_c wA _ [first, second] (unhide HL) (by simp)).mono ?_
               rintro e w1 ⟨rfl, hw1⟩
               subst hw1
               rw [unhide H32]
               clear HL))
        refine (ref_hash.sum _ _ [] (bytes_nil _) (by simp)).mono ?_
        rintro e w3 ⟨v3, rfl, hR3⟩
        have HV3 := hide hR3.bytes
        have HX3 := hide ((unhide HX).below hR3.b)
        have HB3 := hide ((unhide HB).trans (hR3.b.mono (unhide HB).size))
        clear hR3
        go_wp2_with fail
        refine (same_any _ _ _ first (Sha.shaOf []) (unhide HX3) (unhide HV3) (by have := unhide Hlf; omega)).mono ?_
        rintro e w4 ⟨rfl, hb4⟩
        have HB4 := hide ((unhide HB3).trans (hb4.mono (unhide HB3).size))
        clear hb4
        go_wp2
        go_ret
        exact ⟨by first | (rw [unhide He2]; rfl) | (simp only [Int.natCast_zero]; rw [unhide He2]; rfl), unhide HB4⟩
      · have dp : ((np : Int) == 0) = false := by simp; omega
        have He2 : Hid (grownB Sha.shaOf 0 b first second bridge = false) := by show _ = _; rw [unhide He]; simp [hz]
        clear He
        go_enter Tryd.func25, Tryd.ntmps25
        go_wp2_with (first
            | (refine (qsized_c w _ bridge (unhide HP0) (by have := unhide Hl; have := unhide Hnp; omega)).mono ?_
               rintro e w2 ⟨rfl, hw2⟩
               subst hw2
               rw [unhide H32p]
               clear HP0)
            | (refine (qsized_c wA _ [first, second] (unhide HL) (by simp)).mono ?_
               rintro e w1 ⟨rfl, hw1⟩
               subst hw1
               rw [unhide H32]
               clear HL))
        go_ret
        exact ⟨by first | (rw [unhide He2]; rfl) | (simp only [Int.natCast_zero]; rw [unhide He2]; rfl), unhide HB⟩
    · have dz : ((a : Int) == 0) = false := by simp; omega
      have hab : a < b := by omega
      have ha1 : 1 ≤ a := by omega
      have Hab := hide (show a ≤ b by omega)
      have Ha1 := hide ha1
      have Hbb := hide (show b ≤ 9223372036854775807 by omega)
      have He := hide (gr_more (H := Sha.shaOf) (first := first) (second := second) (bridge := bridge) (by omega) hab h32 h32p)
      have Hcl := hide (both_c bridge.reverse bridge rfl ((is32_iff _).1 h32p) (by have := unhide Hl; have := unhide Hnp; omega))
      clear h32 h32p hlf hout he hz hab ha1
      go_enter Tryd.func25, Tryd.ntmps25
      go_wp2_with (first
          | (refine (qsized_c w _ bridge (unhide HP0) (by have := unhide Hl; have := unhide Hnp; omega)).mono ?_
             rintro e w2 ⟨rfl, hw2⟩
             subst hw2
             rw [unhide H32p]
             clear HP0)
          | (refine (qsized_c wA _ [first, second] (unhide HL) (by simp)).mono ?_
             rintro e w1 ⟨rfl, hw1⟩
             subst hw1
             rw [unhide H32]
             clear HL))
      refine (unhide Hcl _ _ first true a b _ _ _ (some first) rfl (unhide Ha1) (unhide Hab) (unhide Hbb) (unhide HX) (unhide Hlf) (unhide HP)).mono ?_
      rintro e w3 ⟨v3, u3, l3, r3, rfl, hv3, hu3, hb3, hl3, hlr3, hr3⟩
      obtain ⟨s3, n3, c3, rfl⟩ := hv3.forms
      obtain ⟨s4, n4, c4, rfl⟩ := hu3.forms
      have HV3 := hide hv3
      have HU3 := hide hu3
      have HX3 := hide ((unhide HX).below hb3)
      have HY3 := hide ((unhide HY).below hb3)
      have HB3 := hide ((unhide HB).trans (hb3.mono (unhide HB).size))
      have Hr3 := hide hr3
      have Hl3 := hide hl3
      have Hlr3 := hide hlr3
      clear hv3 hu3 hb3 hr3 hl3 hlr3
      obtain ⟨r, hr⟩ : ∃ r, bothP Sha.shaOf a b (some first) bridge.reverse = r := ⟨_, rfl⟩
      rw [hr] at Hr3 He
      rw [hr]
      clear hr Hcl
      cases r with
      | none =>
        have He2 : Hid (grownB Sha.shaOf a b first second bridge = false) := by show _ = _; rw [unhide He]; simp
        rw [Option.isSome_none]
        clear He
        go_wp2
        go_ret
        exact ⟨by rw [unhide He2]; rfl, unhide HB3⟩
      | some z =>
        obtain ⟨z1, z2⟩ := z
        obtain ⟨hz1, hz2⟩ := unhide Hr3 z1 z2 rfl
        have He2 : Hid (grownB Sha.shaOf a b first second bridge = (decide (l3 = first) && decide (r3 = second))) := by show _ = _; rw [unhide He, hz1, hz2]; simp
        rw [Option.isSome_some]
        clear He Hr3 hz1 hz2
        go_wp2_with fail
        refine (same_any _ _ _ l3 first (unhide HV3) (unhide HX3) (by have := unhide Hl3; omega)).mono ?_
        rintro e w4 ⟨rfl, hb4⟩
        have HU4 := hide ((unhide HU3).below hb4)
        have HY4 := hide ((unhide HY3).below hb4)
        have HB4 := hide ((unhide HB3).trans (hb4.mono (unhide HB3).size))
        clear hb4
        by_cases hfs : l3 = first
        · have dz : decide (l3 = first) = true := by simp [hfs]
          rw [dz] at He2 ⊢
          clear hfs dz
          go_wp2_with fail
          refine (same_any _ _ _ r3 second (unhide HU4) (unhide HY4) (by have := unhide Hlr3; omega)).mono ?_
          rintro e w5 ⟨rfl, hb5⟩
          have HB5 := hide ((unhide HB4).trans (hb5.mono (unhide HB4).size))
          clear hb5
          go_wp2
          go_ret
          exact ⟨by rw [unhide He2, Bool.true_and]; rfl, unhide HB5⟩
        · have dz : decide (l3 = first) = false := by simp [hfs]
          have He3 : Hid (grownB Sha.shaOf a b first second bridge = false) := by show _ = _; rw [unhide He2]; simp [hfs]
          rw [dz]
          clear He2 hfs dz
          go_wp2
          go_ret
          exact ⟨by rw [unhide He3]; rfl, unhide HB4⟩
end Go.Proofs.YtmhlafhbdpeglaaDoor
