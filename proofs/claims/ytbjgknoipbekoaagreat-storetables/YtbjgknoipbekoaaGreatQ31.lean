/-
  The reference's Commit, walked.
-/
import Derived.Test.YtbjgknoipbekoaaGreatQ30
import Derived.Test.YtbjgknoipbekoaaGreatQ28
namespace Go.Proofs.YtbjgknoipbekoaaGreat
open Go.RowKit
/-- A row of a store's cells. -/
def R4 (w : World) (A : Nat) (a b c d : Value) : Prop := w.heap[A]? = some (.cells [a, b, c, d].toArray 34 (0, 0))
theorem R4.below {w w' : World} {A : Nat} {a b c d : Value} (h : R4 w A a b c d) (hb : Below w.heap.size w w') : R4 w' A a b c d := (hb.block A (lt_of_row h)).trans h
theorem R4.cells {w : World} {A : Nat} {a b c d : Value} (h : R4 w A a b c d) : w.cell? ⟨A, 0, none⟩ = some a ∧ w.cell? ⟨A, 1, none⟩ = some b ∧ w.cell? ⟨A, 2, none⟩ = some c ∧ w.cell? ⟨A, 3, none⟩ = some d := ⟨row_cell h 0 _ rfl, row_cell h 1 _ rfl, row_cell h 2 _ rfl, row_cell h 3 _ rfl⟩
theorem R4.frozen {w : World} {A : Nat} {a b c d : Value} (h : R4 w A a b c d) : w.frozen? ⟨A, 0, none⟩ = false ∧ w.frozen? ⟨A, 1, none⟩ = false ∧ w.frozen? ⟨A, 2, none⟩ = false ∧ w.frozen? ⟨A, 3, none⟩ = false := ⟨row_frozen h 0, row_frozen h 1, row_frozen h 2, row_frozen h 3⟩
theorem R4.other {w : World} {A V k : Nat} {v a b c d : Value} (h : R4 w A a b c d) (hV : A ≠ V) : R4 (w.setCell ⟨V, k, none⟩ v) A a b c d := ((set_aside w V k v).block A (lt_of_row h) hV).trans h
theorem R4.put {w : World} {A : Nat} {a b c d a' b' c' d' : Value} (h : R4 w A a b c d) : R4 (put4 w A a' b' c' d') A a' b' c' d' := put4_row h
end Go.Proofs.YtbjgknoipbekoaaGreat
