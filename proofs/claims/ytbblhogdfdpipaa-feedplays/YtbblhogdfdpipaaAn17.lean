/-
  The example: a reader of two places is told three things.
-/
import Derived.Test.YtbblhogdfdpipaaHm17i
namespace Go.Proofs.Ytbblhogdfdpipaa
open Go.RowKit
/-- One reader. -/
abbrev o1 (lost : Nat) (l : List Int) : Rs Int := [some ⟨2, lost, l⟩]
theorem few_lost {n : Nat} {l : List Int} (h : n < 1000000000) : ∀ m b, rd (o1 n l) m = some b → b.lost < 1000000000 := by
  intro m b hb
  obtain ⟨_, _, h2⟩ := rd_some hb
  have : some b ∈ o1 n l := List.mem_of_getElem? h2
  rw [List.mem_singleton] at this
  cases this
  exact h
set_option maxRecDepth 100000 in
theorem anchor_c (w : World) : Calls Try.prog 6 #[] w fun e w' => e = .returned (.bool true) ∧ Below w.heap.size w w' := by
  go_enter Try.func6, Try.ntmps6
  go_wp2_with (go_at_call 7; refine (newi_o w w (Below.refl _ _)).mono ?_; rintro e1 w1 ⟨P, rfl, H1⟩; have H1 := hide H1)
  go_wp2_with (go_at_call 8; refine (joini_h (unhide H1).hold 2 (by simp)).mono ?_; rintro e2 w2 ⟨rfl, h⟩; rw [show joinN ([] : Rs Int) 2 = 1 from rfl]; have H2 : Hid (OneF KI w w2 P (o1 0 [])) := hide h; clear h H1)
  go_wp2_with (go_at_call 10; refine (telli_h (unhide H2).hold 5 (few_lost (by omega))).mono ?_; rintro e3 w3 ⟨rfl, h⟩; have H3 : Hid (OneF KI w w3 P (o1 0 [5])) := hide h; clear h H2)
  go_wp2_with (go_at_call 10; refine (telli_h (unhide H3).hold 6 (few_lost (by omega))).mono ?_; rintro e3 w4 ⟨rfl, h⟩; have H4 : Hid (OneF KI w w4 P (o1 0 [5, 6])) := hide h; clear h H3)
  go_wp2_with (go_at_call 10; refine (telli_h (unhide H4).hold 7 (few_lost (by omega))).mono ?_; rintro e3 w5 ⟨rfl, h⟩; have H5 : Hid (OneF KI w w5 P (o1 1 [6, 7])) := hide h; clear h H4)
  refine (takei_h (unhide H5).hold 1).mono ?_
  rintro e3 w6 ⟨rfl, h⟩
  have H6 : Hid (OneF KI w w6 P (o1 1 [7])) := hide h
  rw [show takeV (o1 1 [6, 7]) 1 = some 6 from rfl, Option.getD_some, Option.isSome_some]
  clear h H5
  go_wp2_with (fail)
  refine (takei_h (unhide H6).hold 1).mono ?_
  rintro e3 w7 ⟨rfl, h⟩
  have H7 : Hid (OneF KI w w7 P (o1 1 [])) := hide h
  rw [show takeV (o1 1 [7]) 1 = some 7 from rfl, Option.getD_some, Option.isSome_some]
  clear h H6
  go_wp2_with (fail)
  refine (takei_h (unhide H7).hold 1).mono ?_
  rintro e3 w8 ⟨rfl, h⟩
  have H8 : Hid (OneF KI w w8 P (o1 1 [])) := hide h
  rw [show takeV (o1 1 []) 1 = none from rfl, Option.getD_none, Option.isSome_none]
  clear h H7
  go_wp2_with (fail)
  refine (losti_h (unhide H8).hold 1).mono ?_
  rintro e3 w9 ⟨rfl, rfl⟩
  rw [show ((lostN (o1 1 []) 1 : Nat) : Int) = 1 from rfl]
  go_wp2_with (fail)
  go_ret
  exact ⟨rfl, (unhide H8).below⟩
end Go.Proofs.Ytbblhogdfdpipaa
