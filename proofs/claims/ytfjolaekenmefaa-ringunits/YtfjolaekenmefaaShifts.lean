/-
  The walk of the statement RingShifts: it returns true; nothing that was there has turned.
-/
import Derived.Test.YtfjolaekenmefaaNorms
namespace Go.Proofs.Ytfjolaekenmefaa
open Go.RowKit
def shiftL (a : List Int) (k : Nat) : List Int := (List.range 256).map fun t => if t < k then (8380417 - coef a (t + (256 - k))) % 8380417 else coef a (t - k)
theorem coef_shiftL (a : List Int) (k t : Nat) (ht : t < 256) : coef (shiftL a k) t = if t < k then (8380417 - coef a (t + (256 - k))) % 8380417 else coef a (t - k) := by
  unfold shiftL
  rw [coef, List.getD_eq_getElem?_getD, List.getElem?_map, List.getElem?_range ht]
  rfl
theorem poly_shiftL {a : List Int} (ha : Poly a) (k : Nat) : Poly (shiftL a k) := by
  refine poly_of_coef (by rw [shiftL, List.length_map, List.length_range]) fun t ht => ?_
  rw [coef_shiftL a k t ht]
  split
  · omega
  · exact ha.bound _
theorem mul_shift {a b : List Int} {k : Nat} (ha : Poly a) (hk : k < 256) (h : IsMul a (zeros.set k 1) b) : b = shiftL a k := by
  refine poly_unique h.1 (poly_shiftL ha k) fun s hs => ?_
  refine (h.2 s hs).trans ?_
  rw [zeros, ev_power _ k hk]
  refine (ev_shift hs a (shiftL a k) k hk (fun t ht => ?_) (fun t ht => ?_)).symm
  · rw [coef_shiftL a k _ (by omega), if_neg (by omega), Nat.add_sub_cancel]; exact Eqv.refl _
  · rw [coef_shiftL a k _ (by omega), if_pos ht]
    exact (eqv_emod _).trans ⟨1, by omega⟩
set_option maxRecDepth 100000 in
set_option maxHeartbeats 1000000 in
theorem shifts_main {R : World → Prop} (C : Ring R) (w : World) (hR : R w) (x : Value) (a : List Int) (hx : IntsAt w x a) (hp : Poly a) (k : Nat) (hk : k < 256) :
    Calls Try.prog 7 #[x, .int .i64 (k : Int)] w fun e w' => e = .returned (.bool true) ∧ Below w.heap.size w w' := by
  have hv := validB_true hp
  have d1 : decide ((k : Int) < 0) = false := by simp
  have d2 : decide ((255 : Int) < (k : Int)) = false := by simp; omega
  have k0 : (0 : Int) ≤ (k : Int) := by omega
  have k1 : (k : Int) < 256 := by omega
  have HC := hide C
  have HR := hide hR
  have HX := hide hx
  have HP := hide hp
  clear C hR hx hp
  go_enter Try.func7, Try.ntmps7
  go_wp2_with fail
  refine (anchor_any (unhide HC) w (unhide HR)).mono ?_
  rintro e w1 ⟨rfl, hb1⟩
  have HR1 := hide ((unhide HC).below _ _ (unhide HR) hb1)
  have HX1 := hide ((unhide HX).below hb1)
  have HB1 := hide hb1
  clear hb1
  go_wp2_with fail
  refine (valid_any w1 x a (unhide HX1) (by have := (unhide HP).1; omega)).mono ?_
  rw [hv]
  rintro e w1 ⟨rfl, rfl⟩
  go_wp2_with fail
  refine (power_any w1 k hk).mono ?_
  rintro e w2 ⟨rfl, hO2, hb2⟩
  have HR2 := hide ((unhide HC).below _ _ (unhide HR1) hb2)
  have HX2 := hide ((unhide HX1).below hb2)
  have HO2 := hide (hO2.ints 256 (len_zset _ _) (by omega))
  have HB2 := hide ((unhide HB1).trans (hb2.mono (unhide HB1).size))
  clear hb2 hO2 HR1 HX1 HB1
  go_wp2_with fail
  refine ((unhide HC).mul w2 _ _ _ _ (unhide HR2) (unhide HX2) (unhide HO2) (unhide HP) (poly_power k)).mono ?_
  rintro e w3 ⟨v3, b, rfl, hO3, hM3, hb3⟩
  obtain rfl := mul_shift (unhide HP) hk hM3
  obtain ⟨bb, cb, rfl, _, _, hcell⟩ := hO3.poly hM3.1.1
  obtain ⟨ba, oa, ca, rfl, _, hla, hca⟩ := ((unhide HX2).below hb3).polyCell (unhide HP)
  have HB3 := hide ((unhide HB2).trans (hb3.mono (unhide HB2).size))
  have H1 := hide hcell
  have H2 := hide hca
  clear hb3 hO3 hM3 HR2 HX2 HO2 HB2 hcell hca
  go_wp2
  go_loopw [35] (fun i wr => ∃ j : Nat, j ≤ 256 ∧ i = .int .i64 (j : Int) ∧ Hid (w3 = wr)) (fun i _ => 256 - (intOf i).toNat)
  case atStart => exact ⟨0, by omega, rfl, rfl⟩
  case round =>
    obtain ⟨j, hj, rfl, hw⟩ := hrel
    have hw' := unhide hw
    clear hw
    subst hw'
    by_cases hlt : j < 256
    · have e1 := unhide H2 j hlt
      have bj := (unhide HP).bound j
      have j0 : (0 : Int) ≤ (j : Int) := by omega
      have j1 : (j : Int) < 256 := by omega
      by_cases hs : j + k < 256
      · have e2 := unhide H1 (j + k) hs
        rw [coef_shiftL a k _ hs, if_neg (by omega), Nat.add_sub_cancel] at e2
        have s1 : decide ((256 : Int) ≤ (j : Int) + (k : Int)) = false := by simp; omega
        have s0 : (0 : Int) ≤ (j : Int) + (k : Int) := by omega
        have s3 : (j : Int) + (k : Int) < 256 := by omega
        have s2 : ((j : Int) + (k : Int)).toNat = j + k := by omega
        generalize coef a j = z at e1 e2 bj
        go_wp2
        go_roundw
        case rel =>
          first
            | exact ⟨j + 1, by omega, by go_num, trivial⟩
            | exact ⟨j + 1, by omega, by go_num, rfl⟩
        case measure => simp [intOf]; omega
      · have e2 := unhide H1 (j + k - 256) (by omega)
        rw [coef_shiftL a k _ (by omega), if_pos (by omega), show j + k - 256 + (256 - k) = j by omega] at e2
        have s1 : (256 : Int) ≤ (j : Int) + (k : Int) := by omega
        have s0 : (0 : Int) ≤ (j : Int) + (k : Int) - 256 := by omega
        have s3 : (j : Int) + (k : Int) - 256 < 256 := by omega
        have s2 : ((j : Int) + (k : Int) - 256).toNat = j + k - 256 := by omega
        generalize coef a j = z at e1 e2 bj
        obtain ⟨z0, z1⟩ := bj
        go_wp2
        go_roundw
        case rel =>
          first
            | exact ⟨j + 1, by omega, by go_num, trivial⟩
            | exact ⟨j + 1, by omega, by go_num, rfl⟩
        case measure => simp [intOf]; omega
    · obtain rfl : j = 256 := by omega
      go_wp2
      go_ret
      exact ⟨rfl, unhide HB3⟩
set_option maxRecDepth 100000 in
set_option maxHeartbeats 1000000 in
theorem ringShifts_any {R : World → Prop} (C : Ring R) (w : World) (hR : R w) (x : Value) (a : List Int) (hx : IntsAt w x a) (hl : a.length ≤ 4611686018427387904) (n : Int) :
    Calls Try.prog 7 #[x, .int .i64 n] w fun e w' => e = .returned (.bool true) ∧ Below w.heap.size w w' := by
  by_cases hp : Poly a
  · by_cases h0 : n < 0
    · have hv := validB_true hp
      have HC := hide C
      have HR := hide hR
      have HX := hide hx
      clear C hR hx hp
      go_enter Try.func7, Try.ntmps7
      go_wp2_with fail
      refine (anchor_any (unhide HC) w (unhide HR)).mono ?_
      rintro e w1 ⟨rfl, hb1⟩
      have HX1 := hide ((unhide HX).below hb1)
      have HB1 := hide hb1
      clear hb1
      go_wp2_with fail
      refine (valid_any w1 x a (unhide HX1) hl).mono ?_
      rw [hv]
      rintro e w1 ⟨rfl, rfl⟩
      go_wp2
      go_ret
      exact ⟨rfl, unhide HB1⟩
    · by_cases h1 : 255 < n
      · have hv := validB_true hp
        have d0 : decide (n < 0) = false := by simp; omega
        have HC := hide C
        have HR := hide hR
        have HX := hide hx
        clear C hR hx hp
        go_enter Try.func7, Try.ntmps7
        go_wp2_with fail
        refine (anchor_any (unhide HC) w (unhide HR)).mono ?_
        rintro e w1 ⟨rfl, hb1⟩
        have HX1 := hide ((unhide HX).below hb1)
        have HB1 := hide hb1
        clear hb1
        go_wp2_with fail
        refine (valid_any w1 x a (unhide HX1) hl).mono ?_
        rw [hv]
        rintro e w1 ⟨rfl, rfl⟩
        go_wp2
        go_ret
        exact ⟨rfl, unhide HB1⟩
      · obtain ⟨k, rfl⟩ := Int.eq_ofNat_of_zero_le (show 0 ≤ n by omega)
        exact shifts_main C w hR x a hx hp k (by omega)
  · have hv := validB_false hp
    have HC := hide C
    have HR := hide hR
    have HX := hide hx
    clear C hR hx hp
    go_enter Try.func7, Try.ntmps7
    go_wp2_with fail
    refine (anchor_any (unhide HC) w (unhide HR)).mono ?_
    rintro e w1 ⟨rfl, hb1⟩
    have HX1 := hide ((unhide HX).below hb1)
    have HB1 := hide hb1
    clear hb1
    go_wp2_with fail
    refine (valid_any w1 x a (unhide HX1) hl).mono ?_
    rw [hv]
    rintro e w1 ⟨rfl, rfl⟩
    go_wp2
    go_ret
    exact ⟨rfl, unhide HB1⟩
end Go.Proofs.Ytfjolaekenmefaa
