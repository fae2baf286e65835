/-
  What PackHints answers; how many bytes there are.
-/
import Derived.Test.YthciafobknaipaaTold
namespace Go.Proofs.Ythciafobknaipaa
open Go.RowKit
/-- What the call answers. -/
def HintsAnswer (w : World) (most : Int) (L : List (List Bool)) (e : Ending) (w' : World) : Prop :=
  (Hintable most L ∧ ∃ v, e = .returned (.tuple #[v, .bool true]) ∧ OwnV 5 w' w.heap.size v (bvals (hintBytes most.toNat L)) ∧ Below w.heap.size w w') ∨ (¬ Hintable most L ∧ ∃ v, e = .returned (.tuple #[v, .bool false]) ∧ ValsAt w' v [] ∧ Below w.heap.size w w')
theorem len_ends (L : List (List Bool)) : (endsOf L).length = L.length := by simp [endsOf]
theorem front_len {m : Nat} {L : List (List Bool)} (h : (placesAll L).length ≤ m) : (placesAll L ++ List.replicate (m - (placesAll L).length) 0).length = m := by rw [List.length_append, List.length_replicate]; omega
theorem len_hint {m : Nat} {L : List (List Bool)} (h : (placesAll L).length ≤ m) : (hintBytes m L).length = m + L.length := by
  unfold hintBytes
  rw [List.length_append, front_len h, len_ends]
end Go.Proofs.Ythciafobknaipaa
