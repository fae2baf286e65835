/-
  The walks of same and of the statement RoundOnly: it returns true; nothing that was there has turned.
-/
import Derived.Test.YthciafobknaipaaRefUnH
namespace Go.Proofs.Ythciafobknaipaa
open Go.RowKit
/-- WHAT THE LAYER PROMISES OF HINTS. -/
structure RoundH (R : World → Prop) : Prop where
  packH : ∀ w x L most, R w → ListsAt w x L → L.length ≤ 1000 → (∀ l ∈ L, l.length ≤ 1000) → Calls Try.prog 26 #[x, .int .i64 most] w fun e w' => HintsAnswer w most L e w'
  unpackH : ∀ w x b n m, R w → ValsAt w x (bvals b) → (∀ z ∈ b, z < 256) → b.length ≤ 1000 → Calls Try.prog 28 #[x, .int .i64 n, .int .i64 m] w fun e w' => UnAnswer w b n m e w'
set_option maxRecDepth 100000 in
set_option maxHeartbeats 2000000 in
theorem refUnpackH_any (w : World) (x : Value) (b : List Nat) (n m : Int) (hx : ValsAt w x (bvals b)) (h8 : ∀ z ∈ b, z < 256) (_hl : b.length ≤ 1000) :
    Calls Try.prog 30 #[x, .int .i64 n, .int .i64 m] w fun e w' => UnAnswer w b n m e w' := by
  have hx' := hx
  obtain ⟨sp, c, rfl, _⟩ := bytes_open hx'
  by_cases h1 : n < 0
  · clear hx hx'
    go_enter Try.func30, Try.ntmps30
    go_wp2
    go_ret2
    exact Or.inr ⟨fun L h => by have := h.2.1; omega, _, rfl, vals_nil _, Below.refl _ _⟩
  · have m1 : decide (n < 0) = false := by simp; omega
    by_cases h2 : 16 < n
    · clear hx hx'
      go_enter Try.func30, Try.ntmps30
      go_wp2
      go_ret2
      exact Or.inr ⟨fun L h => by have := h.2.1; have := h.1.2.2.1; omega, _, rfl, vals_nil _, Below.refl _ _⟩
    · have m2 : decide (16 < n) = false := by simp; omega
      by_cases h3 : m < 0
      · clear hx hx'
        go_enter Try.func30, Try.ntmps30
        go_wp2
        go_ret2
        exact Or.inr ⟨fun L h => by have := h.1.1; omega, _, rfl, vals_nil _, Below.refl _ _⟩
      · have m3 : decide (m < 0) = false := by simp; omega
        by_cases h4 : 255 < m
        · clear hx hx'
          go_enter Try.func30, Try.ntmps30
          go_wp2
          go_ret2
          exact Or.inr ⟨fun L h => by have := h.1.2.1; omega, _, rfl, vals_nil _, Below.refl _ _⟩
        · have m4 : decide (255 < m) = false := by simp; omega
          by_cases h5 : (b.length : Int) = m + n
          · obtain ⟨N, rfl⟩ : ∃ N : Nat, n = (N : Int) := ⟨n.toNat, by omega⟩
            obtain ⟨M, rfl⟩ : ∃ M : Nat, m = (M : Int) := ⟨m.toNat, by omega⟩
            exact refUnpackH_main w sp c b N M hx h8 (by omega) (by omega) (by omega)
          · have m5 : ((b.length : Int) != m + n) = true := bne_iff_ne.2 h5
            have HNO := hide (no_hints_len h5)
            clear hx hx' h5
            go_enter Try.func30, Try.ntmps30
            go_wp2
            go_ret2
            exact Or.inr ⟨unhide HNO, _, rfl, vals_nil _, Below.refl _ _⟩
set_option maxRecDepth 100000 in
set_option maxHeartbeats 2000000 in
theorem lsame_eq (w : World) (x y : Value) (L : List (List Bool)) (hx : ListsAt w x L) (hy : ListsAt w y L) (hL : L.length ≤ 1000) (hLl : ∀ l ∈ L, l.length ≤ 1000) :
    Calls Try.prog 29 #[x, y] w fun e w' => e = .returned (.bool true) ∧ w' = w := by
  obtain ⟨sp, c, rfl, hc⟩ := lists_open hx
  obtain ⟨sp2, c2, rfl, hc2⟩ := lists_open hy
  have H1 := hide hc
  have H2 := hide hc2
  have HLl := hide hLl
  clear hx hy hc hc2 hLl
  go_enter Try.func29, Try.ntmps29
  go_wp2
  go_loopw [16] (fun ii wr => ∃ i : Nat, i ≤ L.length ∧ ii = .int .i64 (i : Int) ∧ Hid (w = wr)) (fun ii _ => L.length - (intOf ii).toNat)
  case atStart => exact ⟨0, by omega, rfl, rfl⟩
  case round =>
    obtain ⟨i, hi, rfl, hw⟩ := hrel
    have hw' := unhide hw
    clear hw
    subst hw'
    by_cases hlt : i < L.length
    · have hne : L ≠ [] := by intro e; rw [e] at hlt; simp at hlt
      obtain ⟨b1, o1, rfl, _, hcell⟩ := unhide H1 hne
      obtain ⟨b2, o2, rfl, _, hcell2⟩ := unhide H2 hne
      obtain ⟨s1, d1, e1, hin1⟩ := hcell i hlt
      obtain ⟨s2, d2, e2, hin2⟩ := hcell2 i hlt
      have hll := unhide HLl (L.getD i []) (by rw [List.getD_eq_getElem?_getD, List.getElem?_eq_getElem hlt]; exact List.getElem_mem hlt)
      generalize L.getD i [] = l at e1 e2 hin1 hin2 hll
      have HI1 := hide hin1
      have HI2 := hide hin2
      have i0 : (0 : Int) ≤ (i : Int) := by omega
      have i1 : (i : Int) < (L.length : Int) := by omega
      have lb : (l.length : Int) ≤ 1000 := by omega
      clear hcell hcell2 hin1 hin2 hne
      go_wp2
      go_loopw [31] (fun kk wr => ∃ k : Nat, k ≤ l.length ∧ kk = .int .i64 (k : Int) ∧ Hid (w = wr)) (fun kk _ => l.length - (intOf kk).toNat)
      case atStart => exact ⟨0, by omega, rfl, rfl⟩
      case round =>
        obtain ⟨k, hk, rfl, hw⟩ := hrel
        have hw' := unhide hw
        clear hw
        subst hw'
        by_cases hkl : k < l.length
        · have hne : l ≠ [] := by intro e; rw [e] at hkl; simp at hkl
          obtain ⟨b3, o3, rfl, _, hc3⟩ := unhide HI1 hne
          obtain ⟨b4, o4, rfl, _, hc4⟩ := unhide HI2 hne
          have e3 := hc3 k hkl
          have e4 := hc4 k hkl
          have hbb : ∀ q : Bool, (q != q) = false := fun q => by cases q <;> rfl
          have hb := hbb (l.getD k false)
          generalize l.getD k false = q at e3 e4 hb
          have k0 : (0 : Int) ≤ (k : Int) := by omega
          have k1 : (k : Int) < (l.length : Int) := by omega
          clear hc3 hc4 hbb hne
          go_wp2
          go_roundw
          case rel =>
            first
              | exact ⟨k + 1, by omega, by go_num, trivial⟩
              | exact ⟨k + 1, by omega, by go_num, rfl⟩
              | ((repeat apply Exists.intro); exact ⟨⟨k + 1, by omega, by go_num, trivial⟩, rfl⟩)
              | ((repeat apply Exists.intro); exact ⟨⟨k + 1, by omega, by go_num, rfl⟩, rfl⟩)
          case measure => simp [intOf]; omega
        · obtain rfl : k = l.length := by omega
          go_wp2
          go_roundw
          case rel =>
            first
              | exact ⟨i + 1, by omega, by go_num, trivial⟩
              | exact ⟨i + 1, by omega, by go_num, rfl⟩
              | ((repeat apply Exists.intro); exact ⟨⟨i + 1, by omega, by go_num, trivial⟩, rfl⟩)
              | ((repeat apply Exists.intro); exact ⟨⟨i + 1, by omega, by go_num, rfl⟩, rfl⟩)
          case measure => simp [intOf]; omega
    · obtain rfl : i = L.length := by omega
      go_wp2
      go_ret
      exact ⟨rfl, rfl⟩
theorem lists_nil (w : World) (v : Value) (h : ValsAt w v []) : ListsAt w v [] := ⟨[], rfl, h, fun i hi => by simp at hi⟩
theorem ListsAt.form {w : World} {x : Value} {L : List (List Bool)} (h : ListsAt w x L) : ∃ sp c, x = .slice sp L.length c := by
  obtain ⟨sp, c, e, _⟩ := lists_open h
  exact ⟨sp, c, e⟩
set_option maxRecDepth 100000 in
set_option maxHeartbeats 2000000 in
theorem roundOnly_any {R : World → Prop} (C : Round R) (D : RoundH R) (w : World) (hR : R w) (x : Value) (b : List Nat) (hx : ValsAt w x (bvals b)) (h8 : ∀ z ∈ b, z < 256) (n m : Int) :
    Calls Try.prog 8 #[x, .int .i64 n, .int .i64 m] w fun e w' => e = .returned (.bool true) ∧ Below w.heap.size w w' := by
  have HC := hide C
  have HD := hide D
  have HR := hide hR
  have HX := hide hx
  have H8 := hide h8
  obtain ⟨sp, c, rfl, _⟩ := bytes_open hx
  clear C D hR hx h8
  by_cases hl : b.length ≤ 400
  · have dl : decide (400 < (b.length : Int)) = false := by simp; omega
    have dl2 : decide (400 < b.length) = false := by simp; omega
    go_enter Try.func8, Try.ntmps8
    go_wp2_with fail
    refine (anchor_any (unhide HC) w (unhide HR)).mono ?_
    rintro e w1 ⟨rfl, hb1⟩
    have HR1 := hide ((unhide HC).below _ _ (unhide HR) hb1)
    have HX1 := hide ((unhide HX).below hb1)
    have HB1 := hide hb1
    clear hb1 HR HX
    go_wp2_with fail
    refine ((unhide HD).unpackH w1 _ b n m (unhide HR1) (unhide HX1) (unhide H8) (by omega)).mono ?_
    rintro e w2 (⟨L, hL, v2, rfl, hO2, hb2⟩ | ⟨hno, v2, rfl, hO2, hb2⟩)
    · have HR2 := hide ((unhide HC).below _ _ (unhide HR1) hb2)
      have HX2 := hide ((unhide HX1).below hb2)
      have HB2 := hide ((unhide HB1).trans (hb2.mono (unhide HB1).size))
      have HO2 := hide hO2
      have HL := hide hL
      clear hO2 hb2 hL HR1 HX1 HB1
      go_wp2_with fail
      refine (refUnpackH_any w2 _ b n m (unhide HX2) (unhide H8) (by omega)).mono ?_
      rintro e w3 (⟨L', hL', v3, rfl, hO3, hb3⟩ | ⟨hno, v3, rfl, hO3, hb3⟩)
      · have hLL : L' = L := (hintsOf_only hL').trans (hintsOf_only (unhide HL)).symm
        rw [hLL] at hO3
        clear hL' hLL
        have HR3 := hide ((unhide HC).below _ _ (unhide HR2) hb3)
        have HX3 := hide ((unhide HX2).below hb3)
        have HB3 := hide ((unhide HB2).trans (hb3.mono (unhide HB2).size))
        have HO2' := hide ((unhide HO2).below hb3)
        have HO3 := hide hO3
        have h16 : L.length ≤ 16 := (unhide HL).1.2.2.1
        have h256 : ∀ l ∈ L, l.length ≤ 1000 := fun l hl => by rw [(unhide HL).1.2.2.2.1 l hl]; omega
        have H256 := hide h256
        clear hO3 hb3 HR2 HX2 HB2 HO2 h256
        go_wp2_with fail
        refine (lsame_eq w3 _ _ L (unhide HO2') (unhide HO3) (by omega) (unhide H256)).mono ?_
        rintro e w3 ⟨rfl, rfl⟩
        go_wp2_with fail
        refine ((unhide HD).packH w3 _ L m (unhide HR3) (unhide HO2') (by omega) (unhide H256)).mono ?_
        rintro e w4 (⟨_, v4, rfl, hO4, hb4⟩ | ⟨hno, _⟩)
        · rw [← (unhide HL).2.2] at hO4
          have HX4 := hide ((unhide HX3).below hb4)
          have HB4 := hide ((unhide HB3).trans (hb4.mono (unhide HB3).size))
          have HO4 := hide hO4
          clear hO4 hb4 HX3 HB3 HR3
          go_wp2_with fail
          refine (bsame_eq w4 _ _ b (unhide HX4) (unhide HO4).vals (by omega)).mono ?_
          rintro e w5 ⟨rfl, hb5⟩
          have HB5 := hide ((unhide HB4).trans (hb5.mono (unhide HB4).size))
          clear hb5
          go_wp2
          go_ret
          exact ⟨rfl, unhide HB5⟩
        · exact absurd (unhide HL).1 hno
      · exact absurd (unhide HL) (hno L)
    · have HX2 := hide ((unhide HX1).below hb2)
      have HB2 := hide ((unhide HB1).trans (hb2.mono (unhide HB1).size))
      have HO2 := hide hO2
      have HNO := hide hno
      clear hO2 hb2 hno HR1 HX1 HB1
      go_wp2_with fail
      refine (refUnpackH_any w2 _ b n m (unhide HX2) (unhide H8) (by omega)).mono ?_
      rintro e w3 (⟨L', hL', _⟩ | ⟨_, v3, rfl, hO3, hb3⟩)
      · exact absurd hL' (unhide HNO L')
      · have HB3 := hide ((unhide HB2).trans (hb3.mono (unhide HB2).size))
        have HO2' := hide (lists_nil _ _ ((unhide HO2).below hb3))
        have HO3 := hide (lists_nil _ _ hO3)
        clear hO3 hb3 HX2 HB2 HO2
        go_wp2_with fail
        refine (lsame_eq w3 _ _ [] (unhide HO2') (unhide HO3) (by simp) (fun l hl => by simp at hl)).mono ?_
        rintro e w3 ⟨rfl, rfl⟩
        go_wp2
        go_ret
        exact ⟨rfl, unhide HB3⟩
  · have dl : decide (400 < (b.length : Int)) = true := by simp; omega
    have dl2 : decide (400 < b.length) = true := by simp; omega
    go_enter Try.func8, Try.ntmps8
    go_wp2_with fail
    refine (anchor_any (unhide HC) w (unhide HR)).mono ?_
    rintro e w1 ⟨rfl, hb1⟩
    have HB1 := hide hb1
    clear hb1
    go_wp2
    go_ret
    exact ⟨rfl, unhide HB1⟩
end Go.Proofs.Ythciafobknaipaa
