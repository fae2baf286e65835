/-
  Steps of a play in memory.
-/
import Derived.Test.YtbblhogdfdpipaaAs17
namespace Go.Proofs.Ytbblhogdfdpipaa
open Go.RowKit
/-- A step: its kind, its number, its thing. -/
structure OpP where
  kind : Int
  n : Int
  v : Int
instance : Inhabited OpP := ⟨⟨0, 0, 0⟩⟩
def ocells (o : OpP) : List Value := [.int .i64 o.kind, .int .i64 o.n, .int .i64 o.v]
/-- A slice of steps. -/
def OpsAt (w : World) (x : Value) (l : List OpP) : Prop :=
  ∃ sp c, x = .slice sp l.length c ∧ (l ≠ [] → ∃ b o, sp = some ⟨b, o, none⟩ ∧ ∀ (i : Nat) (op : OpP), l[i]? = some op → -9223372036854775808 ≤ op.n ∧ op.n ≤ 9223372036854775807 ∧ ∀ (j : Nat) (u : Value), (ocells op)[j]? = some u → w.cell? ⟨b, o + (i * 3 + j), none⟩ = some u)
theorem OpsAt.below {a b : World} {x : Value} {l : List OpP} (h : OpsAt a x l) (hb : Below a.heap.size a b) : OpsAt b x l := by
  obtain ⟨sp, c, rfl, h1⟩ := h
  refine ⟨sp, c, rfl, fun hl => ?_⟩
  obtain ⟨bb, o, rfl, hr⟩ := h1 hl
  refine ⟨bb, o, rfl, fun i op hi => ?_⟩
  obtain ⟨r1, r2, r3⟩ := hr i op hi
  refine ⟨r1, r2, fun j u hu => ?_⟩
  have := r3 j u hu
  rw [World.cell?_of_block (hb.block bb (World.block_lt_of_cell? _ _ this))]; exact this
theorem OpsAt.nth {w : World} {s : Option Addr} {n c : Nat} {l : List OpP} (h : OpsAt w (.slice s n c) l) (i : Nat) {op : OpP} (ho : l[i]? = some op) :
    ∃ b o, s = some ⟨b, o, none⟩ ∧ -9223372036854775808 ≤ op.n ∧ op.n ≤ 9223372036854775807 ∧ w.cell? ⟨b, o + i * 3, none⟩ = some (.int .i64 op.kind) ∧ w.cell? ⟨b, o + i * 3 + 1, none⟩ = some (.int .i64 op.n) ∧ w.cell? ⟨b, o + i * 3 + 2, none⟩ = some (.int .i64 op.v) := by
  obtain ⟨sp, c', e, h1⟩ := h
  cases e
  obtain ⟨b, o, rfl, hr⟩ := h1 (by rintro rfl; simp at ho)
  obtain ⟨r1, r2, r3⟩ := hr i op ho
  exact ⟨b, o, rfl, r1, r2, r3 0 _ rfl, r3 1 _ rfl, r3 2 _ rfl⟩
end Go.Proofs.Ytbblhogdfdpipaa
