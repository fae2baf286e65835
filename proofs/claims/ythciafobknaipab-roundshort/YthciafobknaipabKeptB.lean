/-
  The landed layer keeps what is promised of it.
-/
import Derived.Test.YthciafobknaipabCodeA
import Derived.Test.YthciafobknaipabCodeD
import Derived.Test.YthciafobknaipabShort
namespace Go.Proofs.Ythciafobknaipab
open Go.RowKit
theorem same_below {f : FuncId} {args : Array Value} {w : World} {v : Value} (h : Calls Try.prog f args w fun e w' => e = .returned v ∧ w' = w) : Calls Try.prog f args w fun e w' => e = .returned v ∧ Below w.heap.size w w' := by
  refine h.mono ?_
  rintro e w' ⟨rfl, rfl⟩
  exact ⟨rfl, Below.refl _ _⟩
theorem round_kept : Round (fun _ => True) where
  below := fun _ _ _ _ => trivial
  power := fun w r _ h0 h1 => same_below (power_any r h0 h1 w)
  dec := fun w r g _ hg h0 h1 => same_below (dec_any g hg r h0 h1 w)
  pack := fun w x l n _ hx hl n1 n24 hf => pack_any w x l n hx hl n1 n24 hf
  noPack := fun w x l n _ hx hl hn => noPack_any w x l n hx hl hn
theorem roundH_kept : RoundH (fun _ => True) where
  packH := fun w x L most _ hx hL hLl => packH_any w x L most hx hL hLl
end Go.Proofs.Ythciafobknaipab
