/-
  The walk of Mul; what There, Back and Mul refuse; the record of what the layer promises.
-/
import Derived.Test.YtfjolaekenmefabCodeF
namespace Go.Proofs.Ytfjolaekenmefab
open Go.RowKit
set_option maxRecDepth 100000 in
set_option maxHeartbeats 1000000 in
theorem mul_any (w : World) (x y : Value) (a b : List Int) (hx : IntsAt w x a) (hy : IntsAt w y b) (ha : Poly a) (hb : Poly b) : Gives w 6 #[x, y] (IsMul a b) := by
  have HX := hide hx
  have HY := hide hy
  have Ha := hide ha
  have Hb := hide hb
  clear hx hy ha hb
  go_enter Try.func6, Try.ntmps6
  go_wp2_with fail
  refine (there_any w _ a (unhide HX) (unhide Ha)).mono ?_
  rintro e w1 ⟨v1, ta, rfl, hO1, hT1, hb1⟩
  have HY1 := hide ((unhide HY).below hb1)
  have HB1 := hide hb1
  have HO1 := hide hO1
  have HT1 := hide hT1
  clear hO1 hT1 hb1 HX HY
  go_wp2_with fail
  refine (there_any w1 _ b (unhide HY1) (unhide Hb)).mono ?_
  rintro e w2 ⟨v2, tb, rfl, hO2, hT2, hb2⟩
  have HO1' := hide ((unhide HO1).below hb2)
  have HB2 := hide ((unhide HB1).trans (hb2.mono (unhide HB1).size))
  have HO2 := hide hO2
  have HT2 := hide hT2
  clear hO2 hT2 hb2 HB1 HO1 HY1
  go_wp2_with fail
  refine (rpoint_any w2 _ _ ta tb (unhide HO1').bytes (unhide HO2).bytes (unhide HT1).1 (unhide HT2).1).mono ?_
  rintro e w3 ⟨v3, tc, rfl, hO3, hT3, hb3⟩
  have HB3 := hide ((unhide HB2).trans (hb3.mono (unhide HB2).size))
  have HO3 := hide hO3
  have HT3 := hide hT3
  clear hO3 hT3 hb3 HB2 HO1' HO2
  go_wp2_with fail
  refine (back_any w3 _ tc (unhide HO3).bytes (unhide HT3).1).mono ?_
  rintro e w4 ⟨v4, out, rfl, hO4, hT4, hb4⟩
  have HB4 := hide ((unhide HB3).trans (hb4.mono (unhide HB3).size))
  have HO4 := hide (hO4.mono (unhide HB3).size)
  have HM := hide (isMul_of_there hT4.1 hT4.2 (unhide HT1) (unhide HT2) (unhide HT3))
  clear hO4 hT4 hb4 HB3 HO3
  go_wp2
  go_ret2
  exact ⟨v4, out, rfl, unhide HO4, unhide HM, unhide HB4⟩
/-- THE LAYER KEEPS WHAT IT PROMISES. -/
theorem ring_kept : Ring (fun _ => True) where
  below := fun _ _ _ _ => trivial
  add := fun w x y a b _ hx hy ha hb => radd_any w x y a b hx hy ha hb
  mul := fun w x y a b _ hx hy ha hb => mul_any w x y a b hx hy ha hb
  there_ := fun w x a _ hx ha => there_any w x a hx ha
  center := fun w n _ => (rcenter_any n w).mono fun e w' ⟨he, hw⟩ => ⟨he, by rw [hw]; exact Below.refl _ _⟩
end Go.Proofs.Ytfjolaekenmefab
