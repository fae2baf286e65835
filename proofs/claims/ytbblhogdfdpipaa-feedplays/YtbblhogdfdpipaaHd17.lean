/-
  One feed, two feeds side by side; what a call leaves of them.
-/
import Derived.Test.YtbblhogdfdpipaaFf17
namespace Go.Proofs.Ytbblhogdfdpipaa
open Go.RowKit
section
variable {α : Type}
/-- A feed R at P; whatever a call makes of it, F holds of what it leaves. -/
def Hold (K : FK α) (w : World) (P : Nat) (R : Rs α) (F : World → Rs α → Prop) : Prop := ∃ X, FeedAt K X w (pt P) R ∧ ∀ w' R', Turned K X w w' (pt P) R' → F w' R'
/-- One feed, in memory that has come since w0. -/
def OneF (K : FK α) (w0 w : World) (P : Nat) (R : Rs α) : Prop := ∃ X, FeedAt K X w (pt P) R ∧ (∀ k, X k → w0.heap.size ≤ k) ∧ Below w0.heap.size w0 w
/-- Two feeds, apart. -/
def TwoF (K : FK α) (w0 w : World) (P Q : Nat) (R T : Rs α) : Prop := ∃ X Y, FeedAt K X w (pt P) R ∧ FeedAt K Y w (pt Q) T ∧ (∀ k, X k → ¬ Y k) ∧ (∀ k, X k → w0.heap.size ≤ k) ∧ (∀ k, Y k → w0.heap.size ≤ k) ∧ Below w0.heap.size w0 w
variable {K : FK α}
theorem OneF.hold {w0 w : World} {P : Nat} {R : Rs α} (h : OneF K w0 w P R) : Hold K w P R fun w' R' => OneF K w0 w' P R' := by
  obtain ⟨X, h1, h2, h3⟩ := h
  refine ⟨X, h1, fun w' R' ht => ?_⟩
  obtain ⟨X', t1, t2, t3⟩ := ht
  have hb := t2.below h3.size h2
  refine ⟨X', t1, fun k hk => ?_, h3.trans hb⟩
  rcases t3 k hk with hk | hk
  · exact h2 k hk
  · exact Nat.le_trans h3.size hk
theorem OneF.below {w0 w : World} {P : Nat} {R : Rs α} (h : OneF K w0 w P R) : Below w0.heap.size w0 w := by
  obtain ⟨X, h1, h2, h3⟩ := h
  exact h3
theorem TwoF.below {w0 w : World} {P Q : Nat} {R T : Rs α} (h : TwoF K w0 w P Q R T) : Below w0.heap.size w0 w := by
  obtain ⟨X, Y, h1, h2, h3, h4, h5, h6⟩ := h
  exact h6
theorem TwoF.swap {w0 w : World} {P Q : Nat} {R T : Rs α} (h : TwoF K w0 w P Q R T) : TwoF K w0 w Q P T R := by
  obtain ⟨X, Y, h1, h2, h3, h4, h5, h6⟩ := h
  exact ⟨Y, X, h2, h1, fun k hy hx => h3 k hx hy, h5, h4, h6⟩
theorem TwoF.left {w0 w : World} {P Q : Nat} {R T : Rs α} (h : TwoF K w0 w P Q R T) : Hold K w P R fun w' R' => TwoF K w0 w' P Q R' T := by
  obtain ⟨X, Y, h1, h2, h3, h4, h5, h6⟩ := h
  refine ⟨X, h1, fun w' R' ht => ?_⟩
  obtain ⟨X', t1, t2, t3⟩ := ht
  have hb := t2.below h6.size h4
  refine ⟨X', Y, t1, h2.aside t2 h3, fun k hk hy => ?_, fun k hk => ?_, h5, h6.trans hb⟩
  · rcases t3 k hk with hk | hk
    · exact h3 k hk hy
    · have := h2.old k hy; omega
  · rcases t3 k hk with hk | hk
    · exact h4 k hk
    · exact Nat.le_trans h6.size hk
theorem TwoF.right {w0 w : World} {P Q : Nat} {R T : Rs α} (h : TwoF K w0 w P Q R T) : Hold K w Q T fun w' T' => TwoF K w0 w' P Q R T' := by
  obtain ⟨X, h1, h2⟩ := h.swap.left
  exact ⟨X, h1, fun w' R' ht => (h2 w' R' ht).swap⟩
/-- A second one is made. -/
theorem OneF.two {w0 w w' : World} {P Q : Nat} {R T : Rs α} (h : OneF K w0 w P R) (hQ : FeedAt K (fun k => w.heap.size ≤ k ∧ k < w'.heap.size) w' (pt Q) T) (hb : Below w.heap.size w w') : TwoF K w0 w' P Q R T := by
  obtain ⟨X, h1, h2, h3⟩ := h
  refine ⟨X, _, h1.aside (S := none_) (Aside.of_below hb) fun _ h => h.elim, hQ, fun k hk hy => ?_, h2, fun k hk => Nat.le_trans h3.size hk.1, h3.trans (hb.mono h3.size)⟩
  have := h1.old k hk
  omega
theorem FeedAt.form {X : Set_} {w : World} {p : Value} {R : Rs α} (h : FeedAt K X w p R) : ∃ P, p = pt P := by
  obtain ⟨P, bm, Q, C, rfl, h⟩ := h
  exact ⟨P, rfl⟩
end
end Go.Proofs.Ytbblhogdfdpipaa
