/-
  The walk of the landed cross.
  Plain words: is it a path, is it a bridge; what the tree tells is.
  The walks of Included, the landed one and the reference's.
-/
import Derived.Test.YtmhlafhbdpeglaaDoorQ13
import Derived.Test.YtmhlafhbdpeglaaDoorQ0
import Derived.Test.YtmhlafhbdpeglaaDoorQ15
namespace Go.Proofs.YtmhlafhbdpeglaaDoor
open Go.RowKit
/-- The call tells two hashes, or that there are none. -/
def Crosses (w : World) (f : FuncId) (args : Array Value) (r : Option (Bs × Bs)) : Prop :=
  Calls Tryd.prog f args w fun e w' => ∃ va vb a b, e = .returned (.tuple #[va, vb, .bool r.isSome]) ∧ BytesAt w' va a ∧ BytesAt w' vb b ∧ Below w.heap.size w w' ∧ a.length ≤ 32 ∧ b.length ≤ 32 ∧ ∀ x y, r = some (x, y) → a = x ∧ b = y
/-- What is known, as a value: nil where nothing is. -/
def KnownAt (w : World) (kv : Value) (known : Option Bs) : Prop := (known = none ∧ kv = .slice none 0 0) ∨ ∃ a ad c, known = some a ∧ BytesAt w kv a ∧ a.length = 32 ∧ kv = .slice (some ad) 32 c
theorem KnownAt.below {w w' : World} {kv : Value} {known : Option Bs} (h : KnownAt w kv known) (hb : Below w.heap.size w w') : KnownAt w' kv known := by
  rcases h with h | ⟨a, ad, c, h1, h2, h3⟩
  · exact Or.inl h
  · exact Or.inr ⟨a, ad, c, h1, h2.below hb, h3⟩
theorem known_some {w : World} {kv : Value} {a : Bs} (h : BytesAt w kv a) (ha : a.length = 32) : KnownAt w kv (some a) := by
  obtain ⟨sp, c, rfl, _, _, h3⟩ := bytes_open h
  obtain ⟨b, o, rfl, _⟩ := h3 (by rintro rfl; simp at ha)
  exact Or.inr ⟨a, _, c, rfl, h, ha, by rw [ha]⟩
set_option maxRecDepth 100000 in
set_option maxHeartbeats 8000000 in
theorem cross_c : ∀ (q ls : List Bs), ls.reverse = q → All32 ls → ls.length ≤ 1000 → ∀ (w : World) (kv : Value) (known : Option Bs) (m n : Nat) (s : Option Addr) (k c : Nat), Sha.Ready w → 1 ≤ m → m ≤ n → n ≤ 9223372036854775807 → KnownAt w kv known → LL w (.slice s k c) ls →
    Crosses w 41 #[.int .i64 (m : Int), .int .i64 (n : Int), kv, .slice s k c] (bothP Sha.shaOf m n known q) := by
  intro q
  induction q with
  | nil =>
    intro ls hq h32 hll w kv known m n s k c hr hm1 hmn hn hkn hp
    obtain rfl : ls = [] := by simpa using hq
    have HP := hide hp
    obtain rfl : k = 0 := hp.len.1
    have n0 : (1 : Int) ≤ (n : Int) := by omega
    have n1 : (n : Int) ≤ 9223372036854775807 := by omega
    have m0 : (1 : Int) ≤ (m : Int) := by omega
    clear hp hr h32 hq hll
    by_cases h1 : m = n
    · subst h1
      have d1 : ((m : Int) == (m : Int)) = true := by simp
      rcases hkn with ⟨rfl, rfl⟩ | ⟨a, ad, ca, rfl, hk, hl, rfl⟩
      · have heq : ∀ w, (binOp .neq 28 (.slice none 0 0) (.slice none 0 0)).run Tryd.prog w = .ok (.bool false) w := fun w => by kernel_rfl
        have He : Hid (bothP Sha.shaOf m m none [] = none) := by show _ = _; simp [bothP]
        go_enter Tryd.func41, Tryd.ntmps41
        go_wp2_with fail
        refine (cutlast_c w s 0 c [] (unhide HP) (by omega)).mono ?_
        rintro e w1 ⟨hb, h2, _⟩
        rw [h2 rfl]
        have HB := hide hb
        clear hb h2
        go_wp2
        refine bodyPost_ret (v := .tuple #[.slice none 0 0, .slice none 0 0, .bool false]) (by simp [results, Tryd.results41, go_sem]) rfl ⟨_, _, [], [], by rw [unhide He]; rfl, bytes_nil _, bytes_nil _, unhide HB, by simp, by simp, fun x y hx => by rw [unhide He] at hx; cases hx⟩
      · have heq : ∀ w, (binOp .neq 28 (.slice (some ad) 32 ca) (.slice none 0 0)).run Tryd.prog w = .ok (.bool true) w := fun w => by kernel_rfl
        have He : Hid (bothP Sha.shaOf m m (some a) [] = some (a, a)) := by show _ = _; simp [bothP]
        have HK := hide hk
        have Hl := hide hl
        clear hk hl
        go_enter Tryd.func41, Tryd.ntmps41
        go_wp2
        refine bodyPost_ret (v := .tuple #[.slice (some ad) 32 ca, .slice (some ad) 32 ca, .bool true]) (by simp [results, Tryd.results41, go_sem]) rfl ⟨_, _, a, a, by rw [unhide He]; rfl, unhide HK, unhide HK, Below.refl _ _, by have := unhide Hl; omega, by have := unhide Hl; omega, fun x y hx => by rw [unhide He] at hx; cases hx; exact ⟨rfl, rfl⟩⟩
    · have He : Hid (bothP Sha.shaOf m n known [] = none) := by show _ = _; simp [bothP, h1]
      have d1 : ((m : Int) == (n : Int)) = false := by simp; omega
      clear hkn
      go_enter Tryd.func41, Tryd.ntmps41
      go_wp2_with fail
      refine (cutlast_c w s 0 c [] (unhide HP) (by omega)).mono ?_
      rintro e w1 ⟨hb, h2, _⟩
      rw [h2 rfl]
      have HB := hide hb
      clear hb h2
      go_wp2
      refine bodyPost_ret (v := .tuple #[.slice none 0 0, .slice none 0 0, .bool false]) (by simp [results, Tryd.results41, go_sem]) rfl ⟨_, _, [], [], by rw [unhide He]; rfl, bytes_nil _, bytes_nil _, unhide HB, by simp, by simp, fun x y hx => by rw [unhide He] at hx; cases hx⟩
  | cons last rest ih =>
    intro ls hq h32 hll w kv known m n s k c hr hm1 hmn hn hkn hp
    have hls := snoc_of hq
    have hne : ls ≠ [] := by rw [hls]; simp
    have HP := hide hp
    have hk := hp.len
    have hk1 : ls.length = rest.length + 1 := by rw [hls]; simp
    obtain ⟨p, rfl⟩ : ∃ p, k = p + 1 := ⟨k - 1, by omega⟩
    have n0 : (1 : Int) ≤ (n : Int) := by omega
    have n1 : (n : Int) ≤ 9223372036854775807 := by omega
    have m0 : (1 : Int) ≤ (m : Int) := by omega
    have p0 : (0 : Int) ≤ (p : Int) := by omega
    have hp2 := LL.front hp p (by omega)
    have hpl : p = rest.length := by omega
    have Hpl := hide hpl
    rw [hls, hpl, List.take_left' (by simp)] at hp2
    rw [← hpl] at hp2
    have HP2 := hide hp2
    have hlast : ls.getD (ls.length - 1) [] = last := by rw [hls]; simp [List.getD_eq_getElem?_getD]
    have Hlast := hide hlast
    have h32r : All32 rest.reverse := fun b hb => h32 b (by rw [hls]; exact List.mem_append_left _ hb)
    have h32l : last.length = 32 := h32 last (by rw [hls]; simp)
    have Hih := hide (ih rest.reverse (by simp) h32r (by simp; omega))
    have H32l := hide h32l
    have HR := hide hr
    have Hk := hide (show p + 1 ≤ 1000 by omega)
    have Hne := hide hne
    clear hp hr h32 hq hll hls hne hk hk1 hp2 hpl hlast h32r h32l ih
    by_cases h1 : m = n
    · subst h1
      have d1 : ((m : Int) == (m : Int)) = true := by simp
      rcases hkn with ⟨rfl, rfl⟩ | ⟨a, ad, ca, rfl, hk, hl, rfl⟩
      · have heq : ∀ w, (binOp .neq 28 (.slice none 0 0) (.slice none 0 0)).run Tryd.prog w = .ok (.bool false) w := fun w => by kernel_rfl
        have He : Hid (bothP Sha.shaOf m m none (last :: rest) = if rest = [] then some (last, last) else none) := by show _ = _; simp [bothP]
        go_enter Tryd.func41, Tryd.ntmps41
        go_wp2_with fail
        refine (cutlast_c w s (p + 1) c ls (unhide HP) (unhide Hk)).mono ?_
        rintro e w1 ⟨hb, _, h2⟩
        obtain ⟨v1, rfl, hv1⟩ := h2 (unhide Hne)
        rw [unhide Hlast] at hv1
        rw [Nat.add_sub_cancel]
        obtain ⟨s1, c1, hf1, _⟩ := bytes_open hv1
        have HB1 := hide hb
        have HV1 := hide (hv1.below hb)
        rw [hf1] at HV1
        rw [hf1]
        clear hb hv1 h2 hf1
        by_cases hp0 : p = 0
        · subst hp0
          have He2 : Hid (bothP Sha.shaOf m m none (last :: rest) = some (last, last)) := by show _ = _; rw [unhide He, if_pos (List.eq_nil_of_length_eq_zero (unhide Hpl).symm)]
          go_wp2
          refine bodyPost_ret (v := .tuple #[.slice s1 last.length c1, .slice s1 last.length c1, .bool true]) (by simp [results, Tryd.results41, go_sem]) rfl ⟨_, _, last, last, by rw [unhide He2]; rfl, unhide HV1, unhide HV1, unhide HB1, by have := unhide H32l; omega, by have := unhide H32l; omega, fun x y hx => by rw [unhide He2] at hx; cases hx; exact ⟨rfl, rfl⟩⟩
        · have He2 : Hid (bothP Sha.shaOf m m none (last :: rest) = none) := by show _ = _; rw [unhide He, if_neg (by rintro rfl; exact hp0 (unhide Hpl))]
          have dp : ((p : Int) == 0) = false := by simp; omega
          go_wp2
          refine bodyPost_ret (v := .tuple #[.slice s1 last.length c1, .slice s1 last.length c1, .bool false]) (by simp [results, Tryd.results41, go_sem]) rfl ⟨_, _, last, last, by rw [unhide He2]; rfl, unhide HV1, unhide HV1, unhide HB1, by have := unhide H32l; omega, by have := unhide H32l; omega, fun x y hx => by rw [unhide He2] at hx; cases hx⟩
      · have heq : ∀ w, (binOp .neq 28 (.slice (some ad) 32 ca) (.slice none 0 0)).run Tryd.prog w = .ok (.bool true) w := fun w => by kernel_rfl
        have He : Hid (bothP Sha.shaOf m m (some a) (last :: rest) = none) := by show _ = _; simp [bothP]
        have HK := hide hk
        have Hl := hide hl
        clear hk hl
        go_enter Tryd.func41, Tryd.ntmps41
        go_wp2
        refine bodyPost_ret (v := .tuple #[.slice (some ad) 32 ca, .slice (some ad) 32 ca, .bool false]) (by simp [results, Tryd.results41, go_sem]; omega) rfl ⟨_, _, a, a, by rw [unhide He]; rfl, unhide HK, unhide HK, Below.refl _ _, by have := unhide Hl; omega, by have := unhide Hl; omega, fun x y hx => by rw [unhide He] at hx; cases hx⟩
    · have d1 : ((m : Int) == (n : Int)) = false := by simp; omega
      have hk1 := cut_lt (n := n) (by omega)
      have hk0 := cut_pos n
      have Hcut : ∀ w, Calls Tryd.prog 52 #[.int .i64 (n : Int)] w fun e w' => e = .returned (.int .i64 (cutP n : Int)) ∧ w' = w := fun w => split_c w n (by omega) hn
      have He : Hid (bothP Sha.shaOf m n known (last :: rest) = if m ≤ cutP n then (bothP Sha.shaOf m (cutP n) known rest).map fun x => (x.1, nodeH Sha.shaOf x.2 last) else (bothP Sha.shaOf (m - cutP n) (n - cutP n) none rest).map fun x => (nodeH Sha.shaOf last x.1, nodeH Sha.shaOf last x.2)) := by show _ = _; rw [bothP, if_neg h1]
      obtain ⟨K, hK⟩ : ∃ K, cutP n = K := ⟨_, rfl⟩
      rw [hK] at hk1 hk0 Hcut He
      have k0 : (1 : Int) ≤ (K : Int) := by omega
      have k1 : (K : Int) < (n : Int) := by omega
      have Hcu := hide Hcut
      have HKn := hide hkn
      clear hK Hcut hkn
      go_enter Tryd.func41, Tryd.ntmps41
      go_wp2_with fail
      refine (cutlast_c w s (p + 1) c ls (unhide HP) (unhide Hk)).mono ?_
      rintro e w1 ⟨hb, _, h2⟩
      obtain ⟨v1, rfl, hv1⟩ := h2 (unhide Hne)
      rw [unhide Hlast] at hv1
      rw [Nat.add_sub_cancel]
      obtain ⟨s1, c1, hf1, _⟩ := bytes_open hv1
      have HB1 := hide hb
      have HV1 := hide (hv1.below hb)
      have HKn1 := hide ((unhide HKn).below hb)
      have HP1 := hide ((unhide HP2).below hb)
      have HR1 := hide (ready_on (unhide HR) hb)
      rw [hf1] at HV1
      rw [hf1]
      clear hb hv1 h2 hf1
      go_wp2_with fail
      refine (unhide Hcu w1).mono ?_
      rintro e w1' ⟨rfl, hw1'⟩
      subst hw1'
      by_cases hm : m ≤ K
      · have dm : decide ((m : Int) ≤ (K : Int)) = true := by simp; omega
        have dmn : decide (m ≤ K) = true := by simp; omega
        have He2 : Hid (bothP Sha.shaOf m n known (last :: rest) = (bothP Sha.shaOf m K known rest).map fun x => (x.1, nodeH Sha.shaOf x.2 last)) := by show _ = _; rw [unhide He, if_pos hm]
        clear He
        go_wp2_with fail
        refine (unhide Hih w1' kv known m K s p c (unhide HR1) hm1 hm (by omega) (unhide HKn1) (unhide HP1)).mono ?_
        rintro e w2 ⟨v2, u2, l2, r2, rfl, hv2, hu2, hb2, hl2, hlr2, hr2⟩
        obtain ⟨s2, n2, c2, rfl⟩ := hv2.forms
        obtain ⟨s3, n3, c3, rfl⟩ := hu2.forms
        have HV2 := hide hv2
        have HU2 := hide hu2
        have Hr2 := hide hr2
        have HB2 := hide ((unhide HB1).trans (hb2.mono (unhide HB1).size))
        have HV12 := hide ((unhide HV1).below hb2)
        have HR2 := hide (ready_on (unhide HR1) hb2)
        have Hl2 := hide hl2
        have Hlr2 := hide hlr2
        clear hv2 hu2 hb2 hl2 hr2 hlr2
        obtain ⟨r, hr⟩ : ∃ r, bothP Sha.shaOf m K known rest = r := ⟨_, rfl⟩
        rw [hr] at Hr2 He2
        rw [hr]
        clear hr
        obtain ⟨ok, hok⟩ : ∃ ok, r.isSome = ok := ⟨_, rfl⟩
        rw [hok]
        have Hok := hide hok
        clear hok
        go_wp2_with fail
        refine (joined_c w2 (unhide HR2) _ _ r2 last (unhide HU2) (unhide HV12) (by have := unhide Hlr2; omega) (by have := unhide H32l; omega)).mono ?_
        rintro e w3 ⟨v3, rfl, hR3⟩
        have HV23 := hide ((unhide HV2).below hR3.b)
        have HR3 := hide (hR3.up (unhide HB2))
        clear hR3
        go_wp2
        refine bodyPost_ret (v := .tuple #[.slice s2 n2 c2, v3, .bool ok]) (by simp [results, Tryd.results41, go_sem]) rfl ⟨_, _, _, _, by rw [unhide He2, Option.isSome_map, unhide Hok], unhide HV23, (unhide HR3).bytes, (unhide HR3).b, unhide Hl2, by rw [len_node]; omega, fun x y hx => ?_⟩
        rw [unhide He2] at hx
        obtain ⟨⟨y1, y2⟩, hy, hxy⟩ := Option.map_eq_some_iff.1 hx
        cases hxy
        obtain ⟨z1, z2⟩ := unhide Hr2 y1 y2 hy
        exact ⟨z1, by rw [z2]⟩
      · have dm : decide ((m : Int) ≤ (K : Int)) = false := by simp; omega
        have dmn : decide (m ≤ K) = false := by simp; omega
        obtain ⟨m', hm'⟩ : ∃ m', m - K = m' := ⟨_, rfl⟩
        obtain ⟨n', hn'⟩ : ∃ n', n - K = n' := ⟨_, rfl⟩
        have em : (m : Int) - (K : Int) = (m' : Int) := by omega
        have en : (n : Int) - (K : Int) = (n' : Int) := by omega
        have hmn' : m' ≤ n' := by omega
        have hm1' : 1 ≤ m' := by omega
        have hn'b : n' ≤ 9223372036854775807 := by omega
        have He2 : Hid (bothP Sha.shaOf m n known (last :: rest) = (bothP Sha.shaOf m' n' none rest).map fun x => (nodeH Sha.shaOf last x.1, nodeH Sha.shaOf last x.2)) := by show _ = _; rw [unhide He, if_neg hm, hm', hn']
        have Hmn := hide hmn'
        have Hm1 := hide hm1'
        have Hnb := hide hn'b
        clear He hm' hn' hmn' hn'b hm1'
        go_wp2_with fail
        refine (unhide Hih w1' (.slice none 0 0) none m' n' s p c (unhide HR1) (unhide Hm1) (unhide Hmn) (unhide Hnb) (Or.inl ⟨rfl, rfl⟩) (unhide HP1)).mono ?_
        rintro e w2 ⟨v2, u2, l2, r2, rfl, hv2, hu2, hb2, hl2, hlr2, hr2⟩
        obtain ⟨s2, n2, c2, rfl⟩ := hv2.forms
        obtain ⟨s3, n3, c3, rfl⟩ := hu2.forms
        have HV2 := hide hv2
        have HU2 := hide hu2
        have Hr2 := hide hr2
        have HB2 := hide ((unhide HB1).trans (hb2.mono (unhide HB1).size))
        have HV12 := hide ((unhide HV1).below hb2)
        have HR2 := hide (ready_on (unhide HR1) hb2)
        have Hl2 := hide hl2
        have Hlr2 := hide hlr2
        clear hv2 hu2 hb2 hl2 hr2 hlr2
        obtain ⟨r, hr⟩ : ∃ r, bothP Sha.shaOf m' n' none rest = r := ⟨_, rfl⟩
        rw [hr] at Hr2 He2
        rw [hr]
        clear hr
        obtain ⟨ok, hok⟩ : ∃ ok, r.isSome = ok := ⟨_, rfl⟩
        rw [hok]
        have Hok := hide hok
        clear hok
        go_wp2_with fail
        refine (joined_c w2 (unhide HR2) _ _ last l2 (unhide HV12) (unhide HV2) (by have := unhide H32l; omega) (by have := unhide Hl2; omega)).mono ?_
        rintro e w3 ⟨v3, rfl, hR3⟩
        have HV3 := hide hR3.bytes
        have HB3 := hide ((unhide HB2).trans (hR3.b.mono (unhide HB2).size))
        have HV13 := hide ((unhide HV12).below hR3.b)
        have HU3 := hide ((unhide HU2).below hR3.b)
        have HR3 := hide (ready_on (unhide HR2) hR3.b)
        clear hR3
        go_wp2_with fail
        refine (joined_c w3 (unhide HR3) _ _ last r2 (unhide HV13) (unhide HU3) (by have := unhide H32l; omega) (by have := unhide Hlr2; omega)).mono ?_
        rintro e w4 ⟨v4, rfl, hR4⟩
        have HV34 := hide ((unhide HV3).below hR4.b)
        have HR4 := hide (hR4.up (unhide HB3))
        clear hR4
        go_wp2
        refine bodyPost_ret (v := .tuple #[v3, v4, .bool ok]) (by simp [results, Tryd.results41, go_sem]) rfl ⟨_, _, _, _, by rw [unhide He2, Option.isSome_map, unhide Hok], unhide HV34, (unhide HR4).bytes, (unhide HR4).b, by rw [len_node]; omega, by rw [len_node]; omega, fun x y hx => ?_⟩
        rw [unhide He2] at hx
        obtain ⟨⟨y1, y2⟩, hy, hxy⟩ := Option.map_eq_some_iff.1 hx
        cases hxy
        obtain ⟨z1, z2⟩ := unhide Hr2 y1 y2 hy
        exact ⟨by rw [z1], by rw [z2]⟩
end Go.Proofs.YtmhlafhbdpeglaaDoor
namespace Go.Proofs.YtmhlafhbdpeglaaDoor
/-- Is it a path? -/
def includedB (H : Bs → Bs) (leaf : Bs) (m n : Int) (path : List Bs) (root : Bs) : Bool := !decide (m < 0) && !decide (n ≤ m) && is32 [leaf, root] && is32 path && decide (climbP H leaf m.toNat n.toNat path.reverse = some root)
/-- Is it a bridge? -/
def grownB (H : Bs → Bs) (m n : Int) (first second : Bs) (bridge : List Bs) : Bool := !decide (m < 0) && !decide (n < m) && is32 [first, second] && is32 bridge && (if m = n then decide (bridge = []) && decide (first = second) else if m = 0 then decide (bridge = []) && decide (first = H []) else decide (bothP H m.toNat n.toNat (some first) bridge.reverse = some (first, second)))
theorem is32_two {a b : Bs} (ha : a.length = 32) (hb : b.length = 32) : is32 [a, b] = true := (is32_iff _).2 fun x hx => by
  simp only [List.mem_cons, List.not_mem_nil, or_false] at hx
  rcases hx with rfl | rfl
  · exact ha
  · exact hb
/-- THE PATH OF A TREE IS ONE. -/
theorem path_included {H : Bs → Bs} {g : Nat → Bs} (hH : ∀ l, (H l).length = 32) (m n : Nat) (hmn : m < n) (hg : ∀ i, i < n → (g i).length = 32) : includedB H (g m) m n (pathP H g 0 m n) (rootP H g 0 n) = true := by
  have h1 : is32 [g m, rootP H g 0 n] = true := is32_two (hg m hmn) (len_root hH n 0 fun i _ hi => hg i (by omega))
  have h2 : is32 (pathP H g 0 m n) = true := (is32_iff _).2 (path_32 hH n 0 m fun i _ hi => hg i (by omega))
  have h3 := path_climbs (H := H) (g := g) n 0 m hmn
  rw [Nat.zero_add] at h3
  unfold includedB
  rw [h1, h2, Int.toNat_natCast, Int.toNat_natCast, h3]
  simp; omega
/-- THE BRIDGE OF A TREE IS ONE. -/
theorem bridge_grown {H : Bs → Bs} {g : Nat → Bs} (hH : ∀ l, (H l).length = 32) (m n : Nat) (hmn : m ≤ n) (hg : ∀ i, i < n → (g i).length = 32) : grownB H m n (rootP H g 0 m) (rootP H g 0 n) (if m = 0 ∨ m = n then [] else bridgeP H g 0 m n true) = true := by
  have h1 : is32 [rootP H g 0 m, rootP H g 0 n] = true := is32_two (len_root hH m 0 fun i _ hi => hg i (by omega)) (len_root hH n 0 fun i _ hi => hg i (by omega))
  have h2 : is32 (bridgeP H g 0 m n true) = true := (is32_iff _).2 (bridge_32 hH n 0 m true hmn fun i _ hi => hg i (by omega))
  have h0 : is32 ([] : List Bs) = true := rfl
  unfold grownB
  rw [h1]
  by_cases he : m = n
  · subst he
    rw [if_pos (Or.inr rfl), h0]
    simp
  · by_cases hz : m = 0
    · subst hz
      rw [if_pos (Or.inl rfl), h0, root_zero, if_neg (by omega), if_pos (by simp)]
      simp
    · rw [if_neg (by omega), h2, if_neg (by omega), if_neg (by omega), Int.toNat_natCast, Int.toNat_natCast]
      have h3 := bridge_bears (H := H) (g := g) n 0 m true (by omega) hmn
      rw [if_pos rfl] at h3
      rw [h3]
      simp; omega
end Go.Proofs.YtmhlafhbdpeglaaDoor
namespace Go.Proofs.YtmhlafhbdpeglaaDoor
open Go.RowKit
theorem inc_neg {H : Bs → Bs} {leaf root : Bs} {m n : Int} {path : List Bs} (h : m < 0 ∨ n ≤ m) : includedB H leaf m n path root = false := by
  unfold includedB
  rcases h with h | h <;> simp [h]
theorem inc_bad {H : Bs → Bs} {leaf root : Bs} {m n : Int} {path : List Bs} (h : is32 [leaf, root] = false ∨ is32 path = false) : includedB H leaf m n path root = false := by
  unfold includedB
  rcases h with h | h <;> simp [h]
theorem inc_good {H : Bs → Bs} {leaf root : Bs} {m n : Nat} {path : List Bs} (h : m < n) (h1 : is32 [leaf, root] = true) (h2 : is32 path = true) : includedB H leaf m n path root = decide (climbP H leaf m n path.reverse = some root) := by
  unfold includedB
  rw [h1, h2]
  simp; omega
set_option maxRecDepth 100000 in
set_option maxHeartbeats 4000000 in
theorem included_c (w : World) (hr : Sha.Ready w) (x y p : Value) (leaf root : Bs) (path : List Bs) (m n : Int) (hm : -9223372036854775808 ≤ m ∧ m ≤ 9223372036854775807) (hn : -9223372036854775808 ≤ n ∧ n ≤ 9223372036854775807) (hx : BytesAt w x leaf) (hy : BytesAt w y root) (hp : LL w p path) (hl : path.length ≤ 1000) :
    Says w 21 #[x, .int .i64 m, .int .i64 n, p, y] (includedB Sha.shaOf leaf m n path root) := by
  obtain ⟨sx, nx, cx, rfl⟩ := hx.forms
  obtain ⟨sy, ny, cy, rfl⟩ := hy.forms
  obtain ⟨sp, cp, rfl⟩ := hp.form
  obtain ⟨np, hnp⟩ : ∃ np, path.length = np := ⟨_, rfl⟩
  rw [hnp] at hp ⊢
  obtain ⟨m1, m2⟩ := hm
  obtain ⟨n1, n2⟩ := hn
  by_cases h0 : m < 0
  · have He := hide (inc_neg (H := Sha.shaOf) (leaf := leaf) (root := root) (n := n) (path := path) (Or.inl h0))
    have d0 : decide (m < 0) = true := by simp; omega
    clear hx hy hp hr
    go_enter Tryd.func21, Tryd.ntmps21
    go_wp2
    go_ret
    exact ⟨by rw [unhide He]; rfl, Below.refl _ _⟩
  · have d0 : decide (m < 0) = false := by simp; omega
    by_cases h1 : n ≤ m
    · have He := hide (inc_neg (H := Sha.shaOf) (leaf := leaf) (root := root) (m := m) (n := n) (path := path) (Or.inr h1))
      have d1 : decide (n ≤ m) = true := by simp; omega
      clear hx hy hp hr
      go_enter Tryd.func21, Tryd.ntmps21
      go_wp2
      go_ret
      exact ⟨by rw [unhide He]; rfl, Below.refl _ _⟩
    · have d1 : decide (n ≤ m) = false := by simp; omega
      have hbA : Below w.heap.size w (w.alloc (.cells #[.slice sx nx cx, .slice sy ny cy] 28)) := (Below.refl _ _).alloc (Nat.le_refl _) _
      have HL := hide (ll_new2 w _ _ leaf root 28 hx hy)
      obtain ⟨wA, hwA⟩ : ∃ wA, w.alloc (.cells #[.slice sx nx cx, .slice sy ny cy] 28) = wA := ⟨_, rfl⟩
      rw [hwA] at hbA HL
      have HX := hide (hx.below hbA)
      have HY := hide (hy.below hbA)
      have HP := hide (hp.below hbA)
      have HR := hide (hr.below hbA)
      have HB := hide hbA
      have Hl := hide hl
      clear hx hy hp hr hbA
      obtain ⟨a, rfl⟩ : ∃ a : Nat, m = (a : Int) := ⟨m.toNat, by omega⟩
      obtain ⟨b, rfl⟩ : ∃ b : Nat, n = (b : Int) := ⟨n.toNat, by omega⟩
      have hab : a < b := by omega
      have hbb : b ≤ 9223372036854775807 := by omega
      have Hab := hide hab
      have Hbb := hide hbb
      by_cases h32 : is32 [leaf, root] = true
      · have H32 := hide h32
        have hlf : leaf.length = 32 := (is32_iff _).1 h32 leaf (by simp)
        have Hlf := hide hlf
        by_cases h32p : is32 path = true
        · have H32p := hide h32p
          have He := hide (inc_good (H := Sha.shaOf) (leaf := leaf) (root := root) (path := path) hab h32 h32p)
          have Hcl := hide (climb_c path.reverse path rfl ((is32_iff _).1 h32p) hl)
          clear h32 h32p hab hbb h0 h1 hlf
          go_enter Tryd.func21, Tryd.ntmps21
          go_wp2_with (first
            | (refine (hashes_c wA _ [leaf, root] (unhide HL) (by simp)).mono ?_
               rintro e w1 ⟨rfl, hw1⟩
               subst hw1
               rw [unhide H32]
               clear HL)
            | (refine (hashes_c _ _ path (unhide HP) (unhide Hl)).mono ?_
               rintro e w2 ⟨rfl, hw2⟩
               subst hw2
               rw [unhide H32p]))
          refine (unhide Hcl w2 _ leaf a b _ _ _ (unhide HR) (unhide Hab) (unhide Hbb) (unhide HX) (unhide Hlf) (unhide HP)).mono ?_
          rintro e w3 ⟨v3, l3, rfl, hv3, hb3, _, hr3⟩
          obtain ⟨s3, n3, c3, rfl⟩ := hv3.forms
          have HV3 := hide hv3
          have HY3 := hide ((unhide HY).below hb3)
          have HB3 := hide ((unhide HB).trans (hb3.mono (unhide HB).size))
          have Hr3 := hide hr3
          clear hv3 hb3 hr3
          obtain ⟨r, hr⟩ : ∃ r, climbP Sha.shaOf leaf a b path.reverse = r := ⟨_, rfl⟩
          rw [hr] at Hr3 He
          rw [hr]
          clear hr Hcl
          cases r with
          | none =>
            have He2 : Hid (includedB Sha.shaOf leaf a b path root = false) := by show _ = _; rw [unhide He]; simp
            rw [Option.isSome_none]
            clear He
            go_wp2
            go_ret
            exact ⟨by rw [unhide He2]; rfl, unhide HB3⟩
          | some z =>
            have hz := unhide Hr3 z rfl
            have He2 : Hid (includedB Sha.shaOf leaf a b path root = decide (l3 = root)) := by show _ = _; rw [unhide He, hz]; simp
            rw [Option.isSome_some]
            clear He Hr3 hz
            go_wp2_with fail
            refine (beq_c (unhide HV3) (unhide HY3)).mono ?_
            rintro e w4 ⟨rfl, hw4⟩
            subst hw4
            go_wp2
            go_ret
            exact ⟨by rw [unhide He2]; rfl, unhide HB3⟩
        · have h32f : is32 path = false := by simpa using h32p
          have H32p := hide h32f
          have He := hide (inc_bad (H := Sha.shaOf) (leaf := leaf) (root := root) (m := (a : Int)) (n := (b : Int)) (path := path) (Or.inr h32f))
          clear h32 h32p hab hbb h0 h1 hlf h32f
          go_enter Tryd.func21, Tryd.ntmps21
          go_wp2_with (first
            | (refine (hashes_c wA _ [leaf, root] (unhide HL) (by simp)).mono ?_
               rintro e w1 ⟨rfl, hw1⟩
               subst hw1
               rw [unhide H32]
               clear HL)
            | (refine (hashes_c _ _ path (unhide HP) (unhide Hl)).mono ?_
               rintro e w2 ⟨rfl, hw2⟩
               subst hw2
               rw [unhide H32p]))
          go_ret
          exact ⟨by rw [unhide He]; rfl, unhide HB⟩
      · have h32f : is32 [leaf, root] = false := by simpa using h32
        have H32 := hide h32f
        have He := hide (inc_bad (H := Sha.shaOf) (leaf := leaf) (root := root) (m := (a : Int)) (n := (b : Int)) (path := path) (Or.inl h32f))
        clear h32 hab hbb h0 h1 h32f
        go_enter Tryd.func21, Tryd.ntmps21
        go_wp2_with (
            (refine (hashes_c wA _ [leaf, root] (unhide HL) (by simp)).mono ?_
             rintro e w1 ⟨rfl, hw1⟩
             subst hw1
             rw [unhide H32]
             clear HL))
        go_ret
        exact ⟨by rw [unhide He]; rfl, unhide HB⟩
end Go.Proofs.YtmhlafhbdpeglaaDoor
