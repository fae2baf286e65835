/-
  The walk of the landed Grown.
  The walk of MerkleProves.
  The walk of the reference's Included.
-/
import Derived.Test.YtmhlafhbdpeglaaDoorQ17
import Derived.Test.YtmhlafhbdpeglaaDoorQ16
namespace Go.Proofs.YtmhlafhbdpeglaaDoor
open Go.RowKit
theorem gr_bad {H : Bs → Bs} {first second : Bs} {m n : Int} {bridge : List Bs} (h : is32 [first, second] = false ∨ is32 bridge = false) : grownB H m n first second bridge = false := by
  unfold grownB
  rcases h with h | h <;> simp [h]
theorem gr_out {H : Bs → Bs} {first second : Bs} {m n : Int} {bridge : List Bs} (h : m < 0 ∨ n < m) : grownB H m n first second bridge = false := by
  unfold grownB
  rcases h with h | h <;> simp [h]
theorem gr_eq {H : Bs → Bs} {first second : Bs} {m : Nat} {bridge : List Bs} (h1 : is32 [first, second] = true) (h2 : is32 bridge = true) : grownB H m m first second bridge = (decide (bridge.length = 0) && decide (first = second)) := by
  unfold grownB
  rw [h1, h2]
  simp
theorem gr_zero {H : Bs → Bs} {first second : Bs} {n : Nat} {bridge : List Bs} (h0 : 0 < n) (h1 : is32 [first, second] = true) (h2 : is32 bridge = true) : grownB H 0 n first second bridge = (decide (bridge.length = 0) && decide (first = H [])) := by
  unfold grownB
  rw [h1, h2, if_neg (by omega), if_pos rfl]
  simp
theorem gr_more {H : Bs → Bs} {first second : Bs} {m n : Nat} {bridge : List Bs} (h0 : 0 < m) (h : m < n) (h1 : is32 [first, second] = true) (h2 : is32 bridge = true) : grownB H m n first second bridge = decide (bothP H m n (some first) bridge.reverse = some (first, second)) := by
  unfold grownB
  rw [h1, h2, if_neg (by omega), if_neg (by omega)]
  simp; omega
set_option maxRecDepth 100000 in
set_option maxHeartbeats 8000000 in
theorem grown_c (w : World) (hr : Sha.Ready w) (x y p : Value) (first second : Bs) (bridge : List Bs) (m n : Int) (hm : -9223372036854775808 ≤ m ∧ m ≤ 9223372036854775807) (hn : -9223372036854775808 ≤ n ∧ n ≤ 9223372036854775807) (hmn : m = n → 0 ≤ m) (hx : BytesAt w x first) (hy : BytesAt w y second) (hp : LL w p bridge) (hl : bridge.length ≤ 1000) :
    Says w 23 #[.int .i64 m, .int .i64 n, x, y, p] (grownB Sha.shaOf m n first second bridge) := by
  obtain ⟨sx, nx, cx, hfx, rfl, ncx⟩ : ∃ sx nx cx, nx = first.length ∧ x = .slice sx nx cx ∧ nx ≤ cx := by
    obtain ⟨s, c, e, h, _⟩ := bytes_open hx
    exact ⟨s, _, c, rfl, e, h⟩
  obtain ⟨sy, ny, cy, rfl⟩ := hy.forms
  obtain ⟨sp, cp, rfl⟩ := hp.form
  obtain ⟨np, hnp⟩ : ∃ np, bridge.length = np := ⟨_, rfl⟩
  rw [hnp] at hp hl ⊢
  obtain ⟨m1, m2⟩ := hm
  obtain ⟨n1, n2⟩ := hn
  have hbA : Below w.heap.size w (w.alloc (.cells #[.slice sx nx cx, .slice sy ny cy] 28)) := (Below.refl _ _).alloc (Nat.le_refl _) _
  have HL := hide (ll_new2 w _ _ first second 28 hx hy)
  obtain ⟨wA, hwA⟩ : ∃ wA, w.alloc (.cells #[.slice sx nx cx, .slice sy ny cy] 28) = wA := ⟨_, rfl⟩
  rw [hwA] at hbA HL
  have HX := hide (hx.below hbA)
  have HY := hide (hy.below hbA)
  have HP := hide (hp.below hbA)
  have HR := hide (hr.below hbA)
  have HB := hide hbA
  have Hl := hide hl
  have Hnp := hide hnp
  have Hmn := hide hmn
  have np0 : (0 : Int) ≤ (np : Int) := by omega
  have np1 : (np : Int) ≤ 1000 := by omega
  clear hx hy hp hr hbA hfx ncx hl hnp hmn
  by_cases h32 : is32 [first, second] = true
  case neg =>
    have h32f : is32 [first, second] = false := by simpa using h32
    have H32 := hide h32f
    have He := hide (gr_bad (H := Sha.shaOf) (m := m) (n := n) (bridge := bridge) (Or.inl h32f))
    clear h32 h32f
    go_enter Tryd.func23, Tryd.ntmps23
    go_wp2_with (
        (refine (hashes_c wA _ [first, second] (unhide HL) (by simp)).mono ?_
         rintro e w1 ⟨rfl, hw1⟩
         subst hw1
         rw [unhide H32]
         clear HL))
    go_ret
    exact ⟨by rw [unhide He]; rfl, unhide HB⟩
  case pos =>
  have H32 := hide h32
  have hlf : first.length = 32 := (is32_iff _).1 h32 first (by simp)
  have Hlf := hide hlf
  by_cases h32p : is32 bridge = true
  case neg =>
    have h32f : is32 bridge = false := by simpa using h32p
    have H32p := hide h32f
    have He := hide (gr_bad (H := Sha.shaOf) (first := first) (second := second) (m := m) (n := n) (Or.inr h32f))
    clear h32 h32p h32f hlf
    go_enter Tryd.func23, Tryd.ntmps23
    go_wp2_with (first
        | (refine (hashes_c wA _ [first, second] (unhide HL) (by simp)).mono ?_
           rintro e w1 ⟨rfl, hw1⟩
           subst hw1
           rw [unhide H32]
           clear HL)
        | (refine (hashes_c _ _ bridge (unhide HP) (by have := unhide Hl; have := unhide Hnp; omega)).mono ?_
           rintro e w2 ⟨rfl, hw2⟩
           subst hw2
           rw [unhide H32p]))
    go_ret
    exact ⟨by rw [unhide He]; rfl, unhide HB⟩
  case pos =>
  have H32p := hide h32p
  by_cases he : m = n
  · subst he
    have h0 := unhide Hmn rfl
    obtain ⟨a, rfl⟩ : ∃ a : Nat, m = (a : Int) := ⟨m.toNat, by omega⟩
    have He := hide (gr_eq (H := Sha.shaOf) (first := first) (second := second) (m := a) h32 h32p)
    rw [unhide Hnp] at He
    have d1 : ((a : Int) == (a : Int)) = true := by simp
    clear h32 h32p hlf h0
    go_enter Tryd.func23, Tryd.ntmps23
    go_wp2_with (first
        | (refine (hashes_c wA _ [first, second] (unhide HL) (by simp)).mono ?_
           rintro e w1 ⟨rfl, hw1⟩
           subst hw1
           rw [unhide H32]
           clear HL)
        | (refine (hashes_c _ _ bridge (unhide HP) (by have := unhide Hl; have := unhide Hnp; omega)).mono ?_
           rintro e w2 ⟨rfl, hw2⟩
           subst hw2
           rw [unhide H32p]))
    refine (beq_c (unhide HX) (unhide HY)).mono ?_
    rintro e w4 ⟨rfl, hw4⟩
    subst hw4
    by_cases hfs : first = second
    · have dz : decide (first = second) = true := by simp [hfs]
      rw [dz] at He ⊢
      clear hfs dz
      by_cases hz : np = 0
      · subst hz
        go_wp2
        go_ret
        exact ⟨by rw [unhide He]; rfl, unhide HB⟩
      · have dp : ((np : Int) == 0) = false := by simp; omega
        have He2 : Hid (grownB Sha.shaOf a a first second bridge = false) := by show _ = _; rw [unhide He]; simp [hz]
        clear He
        go_wp2
        go_ret
        exact ⟨by rw [unhide He2]; rfl, unhide HB⟩
    · have dz : decide (first = second) = false := by simp [hfs]
      have He2 : Hid (grownB Sha.shaOf a a first second bridge = false) := by show _ = _; rw [unhide He]; simp [hfs]
      rw [dz]
      clear He hfs dz
      go_wp2
      go_ret
      exact ⟨by rw [unhide He2]; rfl, unhide HB⟩
  · have d1 : (m == n) = false := by simp; omega
    by_cases hout : m < 0 ∨ n < m
    · have He := hide (gr_out (H := Sha.shaOf) (first := first) (second := second) (bridge := bridge) hout)
      clear h32 h32p hlf
      rcases hout with h0 | h0
      · have d2 : decide (m < 0) = true := by simp; omega
        go_enter Tryd.func23, Tryd.ntmps23
        go_wp2_with (first
            | (refine (hashes_c wA _ [first, second] (unhide HL) (by simp)).mono ?_
               rintro e w1 ⟨rfl, hw1⟩
               subst hw1
               rw [unhide H32]
               clear HL)
            | (refine (hashes_c _ _ bridge (unhide HP) (by have := unhide Hl; have := unhide Hnp; omega)).mono ?_
               rintro e w2 ⟨rfl, hw2⟩
               subst hw2
               rw [unhide H32p]))
        go_ret
        exact ⟨by rw [unhide He]; rfl, unhide HB⟩
      · by_cases h00 : m < 0
        · have d2 : decide (m < 0) = true := by simp; omega
          go_enter Tryd.func23, Tryd.ntmps23
          go_wp2_with (first
              | (refine (hashes_c wA _ [first, second] (unhide HL) (by simp)).mono ?_
                 rintro e w1 ⟨rfl, hw1⟩
                 subst hw1
                 rw [unhide H32]
                 clear HL)
              | (refine (hashes_c _ _ bridge (unhide HP) (by have := unhide Hl; have := unhide Hnp; omega)).mono ?_
                 rintro e w2 ⟨rfl, hw2⟩
                 subst hw2
                 rw [unhide H32p]))
          go_ret
          exact ⟨by rw [unhide He]; rfl, unhide HB⟩
        · have d2 : decide (m < 0) = false := by simp; omega
          have d3 : decide (n < m) = true := by simp; omega
          go_enter Tryd.func23, Tryd.ntmps23
          go_wp2_with (first
              | (refine (hashes_c wA _ [first, second] (unhide HL) (by simp)).mono ?_
                 rintro e w1 ⟨rfl, hw1⟩
                 subst hw1
                 rw [unhide H32]
                 clear HL)
              | (refine (hashes_c _ _ bridge (unhide HP) (by have := unhide Hl; have := unhide Hnp; omega)).mono ?_
                 rintro e w2 ⟨rfl, hw2⟩
                 subst hw2
                 rw [unhide H32p]))
          go_ret
          exact ⟨by rw [unhide He]; rfl, unhide HB⟩
    · obtain ⟨a, rfl⟩ : ∃ a : Nat, m = (a : Int) := ⟨m.toNat, by omega⟩
      obtain ⟨b, rfl⟩ : ∃ b : Nat, n = (b : Int) := ⟨n.toNat, by omega⟩
      have d2 : decide ((a : Int) < 0) = false := by simp
      have d3 : decide ((b : Int) < (a : Int)) = false := by simp; omega
      have d3n : decide (b < a) = false := by simp; omega
      by_cases hz : a = 0
      · subst hz
        have He := hide (gr_zero (H := Sha.shaOf) (first := first) (second := second) (n := b) (bridge := bridge) (by omega) h32 h32p)
        rw [unhide Hnp] at He
        clear h32 h32p hlf hout he
        go_enter Tryd.func23, Tryd.ntmps23
        go_wp2_with (first
            | (refine (hashes_c wA _ [first, second] (unhide HL) (by simp)).mono ?_
               rintro e w1 ⟨rfl, hw1⟩
               subst hw1
               rw [unhide H32]
               clear HL)
            | (refine (hashes_c _ _ bridge (unhide HP) (by have := unhide Hl; have := unhide Hnp; omega)).mono ?_
               rintro e w2 ⟨rfl, hw2⟩
               subst hw2
               rw [unhide H32p]))
        refine (isnone_c _ (unhide HR) _ first (unhide HX)).mono ?_
        rintro e w4 ⟨rfl, hb4⟩
        have HB4 := hide ((unhide HB).trans (hb4.mono (unhide HB).size))
        clear hb4
        by_cases hfs : first = Sha.shaOf []
        · have dz : decide (first = Sha.shaOf []) = true := by simp [hfs]
          rw [dz] at He ⊢
          clear hfs dz
          by_cases hz : np = 0
          · subst hz
            have He2 : Hid (grownB Sha.shaOf 0 b first second bridge = true) := by show _ = _; rw [unhide He]; simp
            go_wp2
            go_ret
            exact ⟨by first | (rw [unhide He2]; rfl) | (simp only [Int.natCast_zero]; rw [unhide He2]; rfl), unhide HB4⟩
          · have dp : ((np : Int) == 0) = false := by simp; omega
            have He2 : Hid (grownB Sha.shaOf 0 b first second bridge = false) := by show _ = _; rw [unhide He]; simp [hz]
            clear He
            go_wp2
            go_ret
            exact ⟨by first | (rw [unhide He2]; rfl) | (simp only [Int.natCast_zero]; rw [unhide He2]; rfl), unhide HB4⟩
        · have dz : decide (first = Sha.shaOf []) = false := by simp [hfs]
          have He2 : Hid (grownB Sha.shaOf 0 b first second bridge = false) := by show _ = _; rw [unhide He]; simp [hfs]
          rw [dz]
          clear He hfs dz
          go_wp2
          go_ret
          exact ⟨by first | (rw [unhide He2]; rfl) | (simp only [Int.natCast_zero]; rw [unhide He2]; rfl), unhide HB4⟩
      · have dz : ((a : Int) == 0) = false := by simp; omega
        have hab : a < b := by omega
        have ha1 : 1 ≤ a := by omega
        have Hab := hide (show a ≤ b by omega)
        have Ha1 := hide ha1
        have Hbb := hide (show b ≤ 9223372036854775807 by omega)
        have He := hide (gr_more (H := Sha.shaOf) (first := first) (second := second) (bridge := bridge) (by omega) hab h32 h32p)
        have Hcl := hide (cross_c bridge.reverse bridge rfl ((is32_iff _).1 h32p) (by have := unhide Hl; have := unhide Hnp; omega))
        clear h32 h32p hlf hout he hz hab ha1
        go_enter Tryd.func23, Tryd.ntmps23
        go_wp2_with (first
            | (refine (hashes_c wA _ [first, second] (unhide HL) (by simp)).mono ?_
               rintro e w1 ⟨rfl, hw1⟩
               subst hw1
               rw [unhide H32]
               clear HL)
            | (refine (hashes_c _ _ bridge (unhide HP) (by have := unhide Hl; have := unhide Hnp; omega)).mono ?_
               rintro e w2 ⟨rfl, hw2⟩
               subst hw2
               rw [unhide H32p]))
        refine (unhide Hcl _ _ (some first) a b _ _ _ (unhide HR) (unhide Ha1) (unhide Hab) (unhide Hbb) (known_some (unhide HX) (unhide Hlf)) (unhide HP)).mono ?_
        rintro e w3 ⟨v3, u3, l3, r3, rfl, hv3, hu3, hb3, hl3, hlr3, hr3⟩
        obtain ⟨s3, n3, c3, rfl⟩ := hv3.forms
        obtain ⟨s4, n4, c4, rfl⟩ := hu3.forms
        have HV3 := hide hv3
        have HU3 := hide hu3
        have HX3 := hide ((unhide HX).below hb3)
        have HY3 := hide ((unhide HY).below hb3)
        have HB3 := hide ((unhide HB).trans (hb3.mono (unhide HB).size))
        have Hr3 := hide hr3
        clear hv3 hu3 hb3 hr3 hl3 hlr3
        obtain ⟨r, hr⟩ : ∃ r, bothP Sha.shaOf a b (some first) bridge.reverse = r := ⟨_, rfl⟩
        rw [hr] at Hr3 He
        rw [hr]
        clear hr Hcl
        cases r with
        | none =>
          have He2 : Hid (grownB Sha.shaOf a b first second bridge = false) := by show _ = _; rw [unhide He]; simp
          rw [Option.isSome_none]
          clear He
          go_wp2
          go_ret
          exact ⟨by rw [unhide He2]; rfl, unhide HB3⟩
        | some z =>
          obtain ⟨z1, z2⟩ := z
          obtain ⟨hz1, hz2⟩ := unhide Hr3 z1 z2 rfl
          have He2 : Hid (grownB Sha.shaOf a b first second bridge = (decide (l3 = first) && decide (r3 = second))) := by show _ = _; rw [unhide He, hz1, hz2]; simp
          rw [Option.isSome_some]
          clear He Hr3 hz1 hz2
          go_wp2_with fail
          refine (beq_c (unhide HV3) (unhide HX3)).mono ?_
          rintro e w4 ⟨rfl, hw4⟩
          subst hw4
          by_cases hfs : l3 = first
          · have dz : decide (l3 = first) = true := by simp [hfs]
            rw [dz] at He2 ⊢
            clear hfs dz
            go_wp2_with fail
            refine (beq_c (unhide HU3) (unhide HY3)).mono ?_
            rintro e w5 ⟨rfl, hw5⟩
            subst hw5
            go_wp2
            go_ret
            exact ⟨by rw [unhide He2, Bool.true_and]; rfl, unhide HB3⟩
          · have dz : decide (l3 = first) = false := by simp [hfs]
            have He3 : Hid (grownB Sha.shaOf a b first second bridge = false) := by show _ = _; rw [unhide He2]; simp [hfs]
            rw [dz]
            clear He2 hfs dz
            go_wp2
            go_ret
            exact ⟨by rw [unhide He3]; rfl, unhide HB3⟩
end Go.Proofs.YtmhlafhbdpeglaaDoor
namespace Go.Proofs.YtmhlafhbdpeglaaDoor
open Go.RowKit
theorem tree_n (w : World) (hr : Sha.Ready w) (x : Value) (ls : List Bs) (N : Nat) (hN : ls.length = N) (hx : LL w x ls) (hf : fewB ls = true) :
    Calls Tryd.prog 11 #[x] w fun e w' => ∃ t s c S, e = .returned (.tuple #[.pointer (some ⟨t, 0, none⟩), .slice s N c]) ∧ Treed w' t (.slice s N c) ls S w'.heap.size ∧ (∀ k, S k → w.heap.size ≤ k) ∧ Below w.heap.size w w' := by
  subst hN
  exact tree_t w hr x ls hx hf
set_option maxRecDepth 100000 in
set_option maxHeartbeats 8000000 in
/-- MERKLEPROVES. -/
theorem proves_true (w : World) (hr : Sha.Ready w) (x : Value) (ls : List Bs) (hx : LL w x ls) (hsm : ∀ b ∈ ls, b.length ≤ 1099511627776000) (hlb : ls.length ≤ 1099511627776000) (m n : Int) (hm : -9223372036854775808 ≤ m ∧ m ≤ 9223372036854775807) (hn : -9223372036854775808 ≤ n ∧ n ≤ 9223372036854775807) : Says w 6 #[x, .int .i64 m, .int .i64 n] true := by
  obtain ⟨sp, cp, rfl⟩ := hx.form
  obtain ⟨n1, n2⟩ := hn
  obtain ⟨m1, m2⟩ := hm
  have HX := hide hx
  have HR := hide hr
  have Hsm := hide hsm
  obtain ⟨N, hNN⟩ : ∃ N, ls.length = N := ⟨_, rfl⟩
  have HNN := hide hNN
  rw [hNN] at HX hlb ⊢
  have n0 : (0 : Int) ≤ (N : Int) := by omega
  have nb : (N : Int) ≤ 1099511627776000 := by omega
  clear hx hr hsm hNN
  go_enter Tryd.func6, Tryd.ntmps6
  go_wp2_with fail
  refine (anchor_c w (unhide HR)).mono ?_
  rintro e w1 ⟨rfl, hb1⟩
  have HB1 := hide hb1
  have HX1 := hide ((unhide HX).below hb1)
  have HR1 := hide (ready_on (unhide HR) hb1)
  clear hb1
  go_wp2_with fail
  refine (few_c w1 _ ls (unhide HX1) (unhide Hsm)).mono ?_
  rintro e w1' ⟨rfl, hw1⟩
  subst hw1
  by_cases hf : fewB ls = true
  case neg =>
    have hff : fewB ls = false := by simpa using hf
    rw [hff]
    clear hf hff
    go_wp2
    go_ret
    exact ⟨rfl, unhide HB1⟩
  case pos =>
  rw [hf]
  by_cases hin : 0 ≤ m ∧ m < n ∧ n ≤ (N : Int)
  case neg =>
    by_cases h0 : m < 0
    · have d1 : decide (m < 0) = true := by simp; omega
      go_wp2
      go_ret
      exact ⟨rfl, unhide HB1⟩
    · have d1 : decide (m < 0) = false := by simp; omega
      by_cases h1 : n ≤ m
      · have d2 : decide (n ≤ m) = true := by simp; omega
        go_wp2
        go_ret
        exact ⟨rfl, unhide HB1⟩
      · have d2 : decide (n ≤ m) = false := by simp; omega
        have d3 : decide ((N : Int) < n) = true := by simp; omega
        go_wp2
        go_ret
        exact ⟨rfl, unhide HB1⟩
  case pos =>
  obtain ⟨a, rfl⟩ : ∃ a : Nat, m = (a : Int) := ⟨m.toNat, by omega⟩
  obtain ⟨b, rfl⟩ : ∃ b : Nat, n = (b : Int) := ⟨n.toNat, by omega⟩
  have hN := (few_small hf).1
  have Hfs := hide (few_small hf).2
  rw [unhide HNN] at hN
  have d1 : decide ((a : Int) < 0) = false := by simp
  have d2 : decide ((b : Int) ≤ (a : Int)) = false := by simp; omega
  have d2n : decide (b ≤ a) = false := by simp; omega
  have d3 : decide ((N : Int) < (b : Int)) = false := by simp; omega
  have d3n : decide (N < b) = false := by simp; omega
  have hab : a < b := by omega
  have hbN : b ≤ N := by omega
  have a0 : (0 : Int) ≤ (a : Int) := by omega
  have a1 : (a : Int) < (N : Int) := by omega
  have b100 : (b : Int) ≤ 100 := by omega
  have Hinc := hide (path_included (H := Sha.shaOf) (g := leavesH ls) Sha.length_shaOf a b hab (fun i _ => len_leavesH ls i))
  have Hgro := hide (bridge_grown (H := Sha.shaOf) (g := leavesH ls) Sha.length_shaOf a b (Nat.le_of_lt hab) (fun i _ => len_leavesH ls i))
  have Hgre : Hid (grownB Sha.shaOf b b (rootP Sha.shaOf (leavesH ls) 0 b) (rootP Sha.shaOf (leavesH ls) 0 b) [] = true) := by
    show _ = _
    have h := bridge_grown (H := Sha.shaOf) (g := leavesH ls) Sha.length_shaOf b b (Nat.le_refl _) (fun i _ => len_leavesH ls i)
    rwa [if_pos (Or.inr rfl)] at h
  have Hpf : Hid ((pathP Sha.shaOf (leavesH ls) 0 a b).length ≤ 7) := path_few (by omega)
  have Hbf : Hid ((if a = 0 ∨ a = b then [] else bridgeP Sha.shaOf (leavesH ls) 0 a b true).length ≤ 8) := by
    show _ ≤ _
    split
    · simp
    · exact bridge_few (by omega)
  obtain ⟨P, hP⟩ : ∃ P, pathP Sha.shaOf (leavesH ls) 0 a b = P := ⟨_, rfl⟩
  obtain ⟨Bg, hBg⟩ : ∃ Bg, (if a = 0 ∨ a = b then [] else bridgeP Sha.shaOf (leavesH ls) 0 a b true) = Bg := ⟨_, rfl⟩
  obtain ⟨Rb, hRb⟩ : ∃ R, rootP Sha.shaOf (leavesH ls) 0 b = R := ⟨_, rfl⟩
  obtain ⟨Ra, hRa⟩ : ∃ R, rootP Sha.shaOf (leavesH ls) 0 a = R := ⟨_, rfl⟩
  rw [hP, hRb] at Hinc
  rw [hRa, hRb, hBg] at Hgro
  rw [hRb] at Hgre
  rw [hP] at Hpf
  rw [hBg] at Hbf
  have Hab := hide hab
  have HbN := hide hbN
  have Hf := hide hf
  clear hin hf n1 n2 m1 m2 hab hbN
  go_wp2_with fail
  refine (tree_n w1' (unhide HR1) _ ls N (unhide HNN) (unhide HX1) (unhide Hf)).mono ?_
  rintro e w2 ⟨t, ls', lc, S, rfl, hT, _, hb2⟩
  have HT2 := hide hT
  have HB2 := hide ((unhide HB1).trans (hb2.mono (unhide HB1).size))
  have HX2 := hide ((unhide HX1).below hb2)
  clear hT hb2
  have hr1 : YesB w2 12 #[.pointer (some ⟨t, 0, none⟩), .int .i64 (b : Int)] Rb := by
    rw [← hRb]; exact troot_yes (len_leavesH ls) (by have := unhide HNN; omega) w2 (unhide HT2).ready (unhide HT2).tree b (by have := unhide HNN; have := unhide HbN; omega)
  have Hr1 := hide hr1
  clear hr1
  go_wp2_with fail
  refine (unhide Hr1).mono ?_
  rintro e w3 ⟨v3, rfl, hR3⟩
  obtain ⟨s3, n3, c3, rfl⟩ := hR3.bytes.forms
  have HT3 := hide ((unhide HT2).on hR3.b)
  have HB3 := hide ((unhide HB2).trans (hR3.b.mono (unhide HB2).size))
  have HX3 := hide ((unhide HX2).below hR3.b)
  have HV3 := hide hR3.bytes
  have hr2 : YesB w3 12 #[.pointer (some ⟨t, 0, none⟩), .int .i64 (a : Int)] Ra := by
    rw [← hRa]; exact troot_yes (len_leavesH ls) (by have := unhide HNN; omega) w3 (unhide HT3).ready (unhide HT3).tree a (by have := unhide HNN; have := unhide HbN; have := unhide Hab; omega)
  have Hr2 := hide hr2
  clear hr2 hR3 Hr1
  go_wp2_with fail
  refine (unhide Hr2).mono ?_
  rintro e w4 ⟨v4, rfl, hR4⟩
  obtain ⟨s4, n4, c4, rfl⟩ := hR4.bytes.forms
  have HT4 := hide ((unhide HT3).on hR4.b)
  have HB4 := hide ((unhide HB3).trans (hR4.b.mono (unhide HB3).size))
  have HX4 := hide ((unhide HX3).below hR4.b)
  have HV34 := hide ((unhide HV3).below hR4.b)
  have HV4 := hide hR4.bytes
  have hp : YesL w4 16 #[.pointer (some ⟨t, 0, none⟩), .int .i64 (a : Int), .int .i64 (b : Int)] P := by
    rw [← hP]; exact tpath_yes (len_leavesH ls) (by have := unhide HNN; omega) w4 (unhide HT4).ready (unhide HT4).tree a b (unhide Hab) (by have := unhide HNN; have := unhide HbN; omega)
  have Hp := hide hp
  clear hp hR4 Hr2
  go_wp2_with fail
  refine (unhide Hp).mono ?_
  rintro e w5 ⟨v5, rfl, hG5, hb5⟩
  obtain ⟨s5, c5, hf5⟩ := hG5.form
  obtain ⟨pn, hpn⟩ : ∃ pn, P.length = pn := ⟨_, rfl⟩
  rw [hpn] at hf5
  subst hf5
  have HT5 := hide ((unhide HT4).on hb5)
  have HB5 := hide ((unhide HB4).trans (hb5.mono (unhide HB4).size))
  have HX5 := hide ((unhide HX4).below hb5)
  have HV35 := hide ((unhide HV34).below hb5)
  have HV45 := hide ((unhide HV4).below hb5)
  have HP5 := hide hG5.lists
  have hq : YesL w5 19 #[.pointer (some ⟨t, 0, none⟩), .int .i64 (a : Int), .int .i64 (b : Int)] Bg := by
    rw [← hBg]; exact tbridge_yes (len_leavesH ls) (by have := unhide HNN; omega) w5 (unhide HT5).ready (unhide HT5).tree a b (Nat.le_of_lt (unhide Hab)) (by have := unhide HNN; have := unhide HbN; omega)
  have Hq := hide hq
  clear hq hG5 hb5 Hp hpn
  go_wp2_with fail
  refine (unhide Hq).mono ?_
  rintro e w6 ⟨v6, rfl, hG6, hb6⟩
  obtain ⟨s6, c6, hf6⟩ := hG6.form
  obtain ⟨bn, hbn⟩ : ∃ bn, Bg.length = bn := ⟨_, rfl⟩
  rw [hbn] at hf6
  subst hf6
  have HR6 := hide (ready_on (unhide HT5).ready hb6)
  have HB6 := hide ((unhide HB5).trans (hb6.mono (unhide HB5).size))
  have hx6 := (unhide HX5).below hb6
  have HV36 := hide ((unhide HV35).below hb6)
  have HV46 := hide ((unhide HV45).below hb6)
  have HP6 := hide ((unhide HP5).below hb6)
  have HG6 := hide hG6.lists
  obtain ⟨d, hd⟩ : ∃ d, ls[a]? = some d := ⟨_, List.getElem?_eq_getElem (by have := unhide HNN; have := unhide HbN; have := unhide Hab; omega)⟩
  obtain ⟨lb, lo, lv, rfl, kl, hlv⟩ := hx6.atb hd
  obtain ⟨s7, n7, c7, rfl⟩ := hlv.forms
  have HLV := hide hlv
  have Hdl := hide (unhide Hfs d (List.mem_of_getElem? hd))
  have hld : leafH Sha.shaOf d = leavesH ls a := by unfold leavesH; rw [List.getD_eq_getElem?_getD, hd]; rfl
  have Hld := hide hld
  clear hG6 hb6 hx6 hlv hd hld Hq hbn hP hBg hRb hRa
  go_wp2_with fail
  refine (mleaf_c w6 (unhide HR6) _ d (unhide HLV) (by have := unhide Hdl; omega)).mono ?_
  rintro e w7 ⟨v7, rfl, hR7⟩
  rw [unhide Hld] at hR7
  obtain ⟨s8, n8, c8, rfl⟩ := hR7.bytes.forms
  have HR7 := hide (ready_on (unhide HR6) hR7.b)
  have HB7 := hide ((unhide HB6).trans (hR7.b.mono (unhide HB6).size))
  have HV37 := hide ((unhide HV36).below hR7.b)
  have HV47 := hide ((unhide HV46).below hR7.b)
  have HP7 := hide ((unhide HP6).below hR7.b)
  have HG7 := hide ((unhide HG6).below hR7.b)
  have HV7 := hide hR7.bytes
  clear hR7 HV36 HV46 HP6 HG6
  go_wp2_with fail
  refine (included_c w7 (unhide HR7) _ _ _ (leavesH ls a) Rb P (a : Int) (b : Int) (by omega) (by omega) (unhide HV7) (unhide HV37) (unhide HP7) (by have := unhide Hpf; omega)).mono ?_
  rintro e w8 ⟨rfl, hb8⟩
  rw [unhide Hinc]
  have HR8 := hide (ready_on (unhide HR7) hb8)
  have HB8 := hide ((unhide HB7).trans (hb8.mono (unhide HB7).size))
  have HV38 := hide ((unhide HV37).below hb8)
  have HV48 := hide ((unhide HV47).below hb8)
  have HG8 := hide ((unhide HG7).below hb8)
  clear hb8 HV37 HV47 HG7
  go_wp2_with fail
  refine (grown_c w8 (unhide HR8) _ _ _ Ra Rb Bg (a : Int) (b : Int) (by omega) (by omega) (fun _ => by omega) (unhide HV48) (unhide HV38) (unhide HG8) (by have := unhide Hbf; omega)).mono ?_
  rintro e w9 ⟨rfl, hb9⟩
  rw [unhide Hgro]
  have HR9 := hide (ready_on (unhide HR8) hb9)
  have HB9 := hide ((unhide HB8).trans (hb9.mono (unhide HB8).size))
  have HV39 := hide ((unhide HV38).below hb9)
  have HN9 : Hid (LL w9 (.slice none 0 0) []) := ⟨[], vals_nil _, rfl, fun i hi => by simp at hi⟩
  clear hb9 HV38 HV48 HG8
  go_wp2_with fail
  refine (grown_c w9 (unhide HR9) _ _ _ Rb Rb [] (b : Int) (b : Int) (by omega) (by omega) (fun _ => by omega) (unhide HV39) (unhide HV39) (unhide HN9) (by simp)).mono ?_
  rintro e w10 ⟨rfl, hb10⟩
  rw [unhide Hgre]
  have HB10 := hide ((unhide HB9).trans (hb10.mono (unhide HB9).size))
  clear hb10
  go_wp2
  go_ret
  exact ⟨rfl, unhide HB10⟩
end Go.Proofs.YtmhlafhbdpeglaaDoor
namespace Go.Proofs.YtmhlafhbdpeglaaDoor
open Go.RowKit
set_option maxRecDepth 100000 in
set_option maxHeartbeats 4000000 in
theorem qincluded_c (w : World) (x y p : Value) (leaf root : Bs) (path : List Bs) (m n : Int) (hm : -9223372036854775808 ≤ m ∧ m ≤ 9223372036854775807) (hn : -9223372036854775808 ≤ n ∧ n ≤ 9223372036854775807) (hx : BytesAt w x leaf) (hy : BytesAt w y root) (hp : LL w p path) (hl : path.length ≤ 1000) :
    Says w 24 #[x, .int .i64 m, .int .i64 n, p, y] (includedB Sha.shaOf leaf m n path root) := by
  obtain ⟨sx, nx, cx, rfl⟩ := hx.forms
  obtain ⟨sy, ny, cy, rfl⟩ := hy.forms
  obtain ⟨sp, cp, rfl⟩ := hp.form
  obtain ⟨np, hnp⟩ : ∃ np, path.length = np := ⟨_, rfl⟩
  rw [hnp] at hp ⊢
  obtain ⟨m1, m2⟩ := hm
  obtain ⟨n1, n2⟩ := hn
  by_cases h0 : m < 0
  · have He := hide (inc_neg (H := Sha.shaOf) (leaf := leaf) (root := root) (n := n) (path := path) (Or.inl h0))
    have d0 : decide (m < 0) = true := by simp; omega
    clear hx hy hp
    go_enter Tryd.func24, Tryd.ntmps24
    go_wp2
    go_ret
    exact ⟨by rw [unhide He]; rfl, Below.refl _ _⟩
  · have d0 : decide (m < 0) = false := by simp; omega
    by_cases h1 : n ≤ m
    · have He := hide (inc_neg (H := Sha.shaOf) (leaf := leaf) (root := root) (m := m) (n := n) (path := path) (Or.inr h1))
      have d1 : decide (n ≤ m) = true := by simp; omega
      clear hx hy hp
      go_enter Tryd.func24, Tryd.ntmps24
      go_wp2
      go_ret
      exact ⟨by rw [unhide He]; rfl, Below.refl _ _⟩
    · have d1 : decide (n ≤ m) = false := by simp; omega
      have hbA : Below w.heap.size w (w.alloc (.cells #[.slice sx nx cx, .slice sy ny cy] 28)) := (Below.refl _ _).alloc (Nat.le_refl _) _
      have HL := hide (ll_new2 w _ _ leaf root 28 hx hy)
      obtain ⟨wA, hwA⟩ : ∃ wA, w.alloc (.cells #[.slice sx nx cx, .slice sy ny cy] 28) = wA := ⟨_, rfl⟩
      rw [hwA] at hbA HL
      have HX := hide (hx.below hbA)
      have HY := hide (hy.below hbA)
      have HP := hide (hp.below hbA)
      have HP0 := hide hp
      have HB := hide hbA
      have Hl := hide hl
      clear hx hy hp hbA
      obtain ⟨a, rfl⟩ : ∃ a : Nat, m = (a : Int) := ⟨m.toNat, by omega⟩
      obtain ⟨b, rfl⟩ : ∃ b : Nat, n = (b : Int) := ⟨n.toNat, by omega⟩
      have hab : a < b := by omega
      have hbb : b ≤ 9223372036854775807 := by omega
      have Hab := hide hab
      have Hbb := hide hbb
      by_cases h32 : is32 [leaf, root] = true
      · have H32 := hide h32
        have hlf : leaf.length = 32 := (is32_iff _).1 h32 leaf (by simp)
        have Hlf := hide hlf
        by_cases h32p : is32 path = true
        · have H32p := hide h32p
          have He := hide (inc_good (H := Sha.shaOf) (leaf := leaf) (root := root) (path := path) hab h32 h32p)
          have Hcl := hide (qclimb_c path.reverse path rfl ((is32_iff _).1 h32p) hl)
          clear h32 h32p hab hbb h0 h1 hlf
          go_enter Tryd.func24, Tryd.ntmps24
          go_wp2_with (first
            | (refine (qsized_c w _ path (unhide HP0) (unhide Hl)).mono ?_
               rintro e w2 ⟨rfl, hw2⟩
               subst hw2
               rw [unhide H32p]
               clear HP0)
            | (refine (qsized_c wA _ [leaf, root] (unhide HL) (by simp)).mono ?_
               rintro e w1 ⟨rfl, hw1⟩
               subst hw1
               rw [unhide H32]
               clear HL))
          refine (unhide Hcl w1 _ leaf a b _ _ _ (unhide Hab) (unhide Hbb) (unhide HX) (unhide Hlf) (unhide HP)).mono ?_
          rintro e w3 ⟨v3, l3, rfl, hv3, hb3, hl3, hr3⟩
          obtain ⟨s3, n3, c3, rfl⟩ := hv3.forms
          have HV3 := hide hv3
          have HY3 := hide ((unhide HY).below hb3)
          have HB3 := hide ((unhide HB).trans (hb3.mono (unhide HB).size))
          have Hr3 := hide hr3
          clear hv3 hb3 hr3
          obtain ⟨r, hr⟩ : ∃ r, climbP Sha.shaOf leaf a b path.reverse = r := ⟨_, rfl⟩
          rw [hr] at Hr3 He
          rw [hr]
          clear hr Hcl
          cases r with
          | none =>
            have He2 : Hid (includedB Sha.shaOf leaf a b path root = false) := by show _ = _; rw [unhide He]; simp
            rw [Option.isSome_none]
            clear He
            go_wp2
            go_ret
            exact ⟨by rw [unhide He2]; rfl, unhide HB3⟩
          | some z =>
            have hz := unhide Hr3 z rfl
            have He2 : Hid (includedB Sha.shaOf leaf a b path root = decide (l3 = root)) := by show _ = _; rw [unhide He, hz]; simp
            rw [Option.isSome_some]
            clear He Hr3 hz
            go_wp2_with fail
            refine (same_any w3 _ _ l3 root (unhide HV3) (unhide HY3) (by omega)).mono ?_
            rintro e w4 ⟨rfl, hb4⟩
            have HB4 := hide ((unhide HB3).trans (hb4.mono (unhide HB3).size))
            clear hb4
            go_wp2
            go_ret
            exact ⟨by rw [unhide He2]; rfl, unhide HB4⟩
        · have h32f : is32 path = false := by simpa using h32p
          have H32p := hide h32f
          have He := hide (inc_bad (H := Sha.shaOf) (leaf := leaf) (root := root) (m := (a : Int)) (n := (b : Int)) (path := path) (Or.inr h32f))
          clear h32 h32p hab hbb h0 h1 hlf h32f
          go_enter Tryd.func24, Tryd.ntmps24
          go_wp2_with (
            (refine (qsized_c w _ path (unhide HP0) (unhide Hl)).mono ?_
             rintro e w2 ⟨rfl, hw2⟩
             subst hw2
             rw [unhide H32p]
             clear HP0))
          go_ret
          exact ⟨by rw [unhide He]; rfl, Below.refl _ _⟩
      · have h32f : is32 [leaf, root] = false := by simpa using h32
        have H32 := hide h32f
        have He := hide (inc_bad (H := Sha.shaOf) (leaf := leaf) (root := root) (m := (a : Int)) (n := (b : Int)) (path := path) (Or.inl h32f))
        clear h32 hab hbb h0 h1 h32f
        by_cases h32p : is32 path = true
        · have H32p := hide h32p
          clear h32p
          go_enter Tryd.func24, Tryd.ntmps24
          go_wp2_with (first
            | (refine (qsized_c w _ path (unhide HP0) (unhide Hl)).mono ?_
               rintro e w2 ⟨rfl, hw2⟩
               subst hw2
               rw [unhide H32p]
               clear HP0)
            | (refine (qsized_c wA _ [leaf, root] (unhide HL) (by simp)).mono ?_
               rintro e w1 ⟨rfl, hw1⟩
               subst hw1
               rw [unhide H32]
               clear HL))
          go_ret
          exact ⟨by rw [unhide He]; rfl, unhide HB⟩
        · have h32f : is32 path = false := by simpa using h32p
          have H32p := hide h32f
          clear h32p h32f
          go_enter Tryd.func24, Tryd.ntmps24
          go_wp2_with (
            (refine (qsized_c w _ path (unhide HP0) (unhide Hl)).mono ?_
             rintro e w2 ⟨rfl, hw2⟩
             subst hw2
             rw [unhide H32p]
             clear HP0))
          go_ret
          exact ⟨by rw [unhide He]; rfl, Below.refl _ _⟩
end Go.Proofs.YtmhlafhbdpeglaaDoor
