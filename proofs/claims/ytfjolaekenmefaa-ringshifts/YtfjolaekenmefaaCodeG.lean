/-
  The walk of Mul; what There, Back and Mul refuse; the record of what the layer promises.
-/
import Derived.Test.YtfjolaekenmefaaCodeF
namespace Go.Proofs.Ytfjolaekenmefaa
open Go.RowKit
theorem not_valid {a : List Int} (h : ¬ Poly a) : validB a = false := by
  rw [Bool.eq_false_iff]; exact fun e => h ((validB_iff a).1 e)
set_option maxRecDepth 100000 in
set_option maxHeartbeats 1000000 in
theorem there_no (w : World) (x : Value) (a : List Int) (hx : IntsAt w x a) (hal : a.length ≤ 1000) (hn : ¬ Poly a) : Refuses w 21 #[x] := by
  have hva := not_valid hn
  have HX := hide hx
  clear hx hn
  go_enter Try.func21, Try.ntmps21
  go_wp2_with fail
  refine (rvalid_any w _ a (unhide HX) (by omega)).mono ?_
  rw [hva]
  rintro e w1 ⟨rfl, rfl⟩
  go_wp2
  go_ret2
  exact ⟨_, rfl, ints_nil _, Below.refl _ _⟩
set_option maxRecDepth 100000 in
set_option maxHeartbeats 1000000 in
theorem back_no (w : World) (x : Value) (a : List Int) (hx : IntsAt w x a) (hal : a.length ≤ 1000) (hn : ¬ Poly a) : Refuses w 22 #[x] := by
  have hva := not_valid hn
  have HX := hide hx
  clear hx hn
  go_enter Try.func22, Try.ntmps22
  go_wp2_with fail
  refine (rvalid_any w _ a (unhide HX) (by omega)).mono ?_
  rw [hva]
  rintro e w1 ⟨rfl, rfl⟩
  go_wp2
  go_ret2
  exact ⟨_, rfl, ints_nil _, Below.refl _ _⟩
set_option maxRecDepth 100000 in
set_option maxHeartbeats 1000000 in
theorem mul_any (w : World) (x y : Value) (a b : List Int) (hx : IntsAt w x a) (hy : IntsAt w y b) (ha : Poly a) (hb : Poly b) : Gives w 14 #[x, y] (IsMul a b) := by
  have HX := hide hx
  have HY := hide hy
  have Ha := hide ha
  have Hb := hide hb
  clear hx hy ha hb
  go_enter Try.func14, Try.ntmps14
  go_wp2_with fail
  refine (there_any w _ a (unhide HX) (unhide Ha)).mono ?_
  rintro e w1 ⟨v1, ta, rfl, hO1, hT1, hb1⟩
  have HY1 := hide ((unhide HY).below hb1)
  have HB1 := hide hb1
  have HO1 := hide hO1
  have HT1 := hide hT1
  clear hO1 hT1 hb1 HX HY
  go_wp2_with fail
  refine (there_any w1 _ b (unhide HY1) (unhide Hb)).mono ?_
  rintro e w2 ⟨v2, tb, rfl, hO2, hT2, hb2⟩
  have HO1' := hide ((unhide HO1).below hb2)
  have HB2 := hide ((unhide HB1).trans (hb2.mono (unhide HB1).size))
  have HO2 := hide hO2
  have HT2 := hide hT2
  clear hO2 hT2 hb2 HB1 HO1 HY1
  go_wp2_with fail
  refine (rpoint_any w2 _ _ ta tb (unhide HO1').bytes (unhide HO2).bytes (unhide HT1).1 (unhide HT2).1).mono ?_
  rintro e w3 ⟨v3, tc, rfl, hO3, hT3, hb3⟩
  have HB3 := hide ((unhide HB2).trans (hb3.mono (unhide HB2).size))
  have HO3 := hide hO3
  have HT3 := hide hT3
  clear hO3 hT3 hb3 HB2 HO1' HO2
  go_wp2_with fail
  refine (back_any w3 _ tc (unhide HO3).bytes (unhide HT3).1).mono ?_
  rintro e w4 ⟨v4, out, rfl, hO4, hT4, hb4⟩
  have HB4 := hide ((unhide HB3).trans (hb4.mono (unhide HB3).size))
  have HO4 := hide (hO4.mono (unhide HB3).size)
  have HM := hide (isMul_of_there hT4.1 hT4.2 (unhide HT1) (unhide HT2) (unhide HT3))
  clear hO4 hT4 hb4 HB3 HO3
  go_wp2
  go_ret2
  exact ⟨v4, out, rfl, unhide HO4, unhide HM, unhide HB4⟩
set_option maxRecDepth 100000 in
set_option maxHeartbeats 1000000 in
theorem mul_no (w : World) (x y : Value) (a b : List Int) (hx : IntsAt w x a) (hy : IntsAt w y b) (hal : a.length ≤ 1000) (hbl : b.length ≤ 1000) (hn : ¬ (Poly a ∧ Poly b)) : Refuses w 14 #[x, y] := by
  have HX := hide hx
  have HY := hide hy
  clear hx hy
  by_cases ha : Poly a
  · have hb : ¬ Poly b := fun h => hn ⟨ha, h⟩
    have Ha := hide ha
    have Hb := hide hb
    clear ha hb hn
    go_enter Try.func14, Try.ntmps14
    go_wp2_with fail
    refine (there_any w _ a (unhide HX) (unhide Ha)).mono ?_
    rintro e w1 ⟨v1, ta, rfl, hO1, hT1, hb1⟩
    have HY1 := hide ((unhide HY).below hb1)
    have HB1 := hide hb1
    clear hO1 hT1 hb1 HX HY
    go_wp2_with fail
    refine (there_no w1 _ b (unhide HY1) hbl (unhide Hb)).mono ?_
    rintro e w2 ⟨v2, rfl, hO2, hb2⟩
    have HB2 := hide ((unhide HB1).trans (hb2.mono (unhide HB1).size))
    clear hO2 hb2 HB1 HY1
    go_wp2
    go_ret2
    exact ⟨_, rfl, ints_nil _, unhide HB2⟩
  · have Ha := hide ha
    clear ha hn
    by_cases hb : Poly b
    · have Hb := hide hb
      clear hb
      go_enter Try.func14, Try.ntmps14
      go_wp2_with fail
      refine (there_no w _ a (unhide HX) hal (unhide Ha)).mono ?_
      rintro e w1 ⟨v1, rfl, hO1, hb1⟩
      have HY1 := hide ((unhide HY).below hb1)
      have HB1 := hide hb1
      clear hO1 hb1 HX HY
      go_wp2_with fail
      refine (there_any w1 _ b (unhide HY1) (unhide Hb)).mono ?_
      rintro e w2 ⟨v2, tb, rfl, hO2, hT2, hb2⟩
      have HB2 := hide ((unhide HB1).trans (hb2.mono (unhide HB1).size))
      clear hO2 hT2 hb2 HB1 HY1
      go_wp2
      go_ret2
      exact ⟨_, rfl, ints_nil _, unhide HB2⟩
    · have Hb := hide hb
      clear hb
      go_enter Try.func14, Try.ntmps14
      go_wp2_with fail
      refine (there_no w _ a (unhide HX) hal (unhide Ha)).mono ?_
      rintro e w1 ⟨v1, rfl, hO1, hb1⟩
      have HY1 := hide ((unhide HY).below hb1)
      have HB1 := hide hb1
      clear hO1 hb1 HX HY
      go_wp2_with fail
      refine (there_no w1 _ b (unhide HY1) hbl (unhide Hb)).mono ?_
      rintro e w2 ⟨v2, rfl, hO2, hb2⟩
      have HB2 := hide ((unhide HB1).trans (hb2.mono (unhide HB1).size))
      clear hO2 hb2 HB1 HY1
      go_wp2
      go_ret2
      exact ⟨_, rfl, ints_nil _, unhide HB2⟩
/-- THE LAYER KEEPS WHAT IT PROMISES. -/
theorem ring_kept : Ring (fun _ => True) where
  below := fun _ _ _ _ => trivial
  valid := fun w x l _ h hl => (rvalid_any w x l h hl).mono fun e w' ⟨he, hw⟩ => ⟨he, by rw [hw]; exact Below.refl _ _⟩
  add := fun w x y a b _ hx hy ha hb => radd_any w x y a b hx hy ha hb
  sub := fun w x y a b _ hx hy ha hb => rsub_any w x y a b hx hy ha hb
  mul := fun w x y a b _ hx hy ha hb => mul_any w x y a b hx hy ha hb
  point := fun w x y a b _ hx hy ha hb => rpoint_any w x y a b hx hy ha hb
  there_ := fun w x a _ hx ha => there_any w x a hx ha
  back := fun w x a _ hx ha => back_any w x a hx ha
  noAdd := fun w x y a b _ hx hy ha hb hn => radd_no w x y a b hx hy ha hb hn
  noSub := fun w x y a b _ hx hy ha hb hn => rsub_no w x y a b hx hy ha hb hn
  noMul := fun w x y a b _ hx hy ha hb hn => mul_no w x y a b hx hy ha hb hn
  noPoint := fun w x y a b _ hx hy ha hb hn => rpoint_no w x y a b hx hy ha hb hn
  noThere := fun w x a _ hx hal hn => there_no w x a hx hal hn
  noBack := fun w x a _ hx hal hn => back_no w x a hx hal hn
  center := fun w n _ => (rcenter_any n w).mono fun e w' ⟨he, hw⟩ => ⟨he, by rw [hw]; exact Below.refl _ _⟩
  norm := fun w x l _ h hl => (rnorm_any w x l h hl).mono fun e w' ⟨he, hw⟩ => ⟨he, by rw [hw]; exact Below.refl _ _⟩
end Go.Proofs.Ytfjolaekenmefaa
