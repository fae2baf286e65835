/-
  Plays of steps in plain words; the reference's cells that the statements look at.
-/
import Derived.Test.YtlmikagmcaicoaaAn13
namespace Go.Proofs.Ytlmikagmcaicoaa
open Go.RowKit
def playS (s : PS) (l : List OpP) : PS := l.foldl stepS s
theorem play_next {s : PS} {l : List OpP} {i : Nat} {o : OpP} (h : l[i]? = some o) : playS s (l.take (i + 1)) = stepS (playS s (l.take i)) o := by
  unfold playS
  rw [List.take_add_one, h, List.foldl_append]
  rfl
theorem step_len (s : PS) (o : OpP) : (stepS s o).safe.length = s.safe.length := by
  unfold stepS
  split
  · unfold writeS
    split
    · rfl
    · split
      · rfl
      · split <;> rfl
  · split
    · unfold syncS
      split
      · rfl
      · split
        · rfl
        · exact apply_len _ _
    · split
      · rfl
      · split
        · exact apply_len _ _
        · rfl
theorem play_len (s : PS) (l : List OpP) : (playS s l).safe.length = s.safe.length := by
  unfold playS
  induction l generalizing s with
  | nil => rfl
  | cons o l ih => rw [List.foldl_cons, ih, step_len]
theorem play_loose (s : PS) (l : List OpP) : (playS s l).loose.length ≤ s.loose.length + l.length := by
  unfold playS
  induction l generalizing s with
  | nil => exact Nat.le_refl _
  | cons o l ih =>
    rw [List.foldl_cons, List.length_cons]
    have h1 := ih (stepS s o)
    have h2 := step_loose s o
    omega
theorem play_take (s : PS) (l : List OpP) (i : Nat) : (playS s (l.take i)).loose.length ≤ s.loose.length + i := by
  have := play_loose s (l.take i)
  rw [List.length_take] at this
  omega
theorem anc_len (N : Nat) : (newS N).safe.length = N := List.length_replicate
theorem loose_new (N : Nat) : (newS N).loose.length = 0 := rfl
/-- The two cells of the reference's plate that are looked at. -/
theorem RAt.looks {Q : Set_} {w : World} {RR : Nat} {s : PS} (h : RAt Q w (.pointer (some ⟨RR, 0, none⟩)) s) : ∃ sp c, w.cell? ⟨RR, 2, none⟩ = some (.slice sp s.loose.length c) ∧ w.cell? ⟨RR, 4, none⟩ = some (.bool s.down) := by
  obtain ⟨R, A, D, vs, lv, ls, e, hf, _⟩ := h
  simp only [Value.pointer.injEq, Option.some.injEq, Addr.mk.injEq, and_true] at e
  subst e
  obtain ⟨_, _, q2, _, q4⟩ := five_row hf.str
  obtain ⟨sp, c, rfl, _, _⟩ := hf.own.form
  exact ⟨sp, c, q2, q4⟩
end Go.Proofs.Ytlmikagmcaicoaa
