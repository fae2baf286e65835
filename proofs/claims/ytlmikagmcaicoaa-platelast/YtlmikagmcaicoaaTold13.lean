/-
  What the calls of a plate promise: the record Plate.
-/
import Derived.Test.YtlmikagmcaicoaaAs13
namespace Go.Proofs.Ytlmikagmcaicoaa
open Go.RowKit
/-- A row of bytes of the call's own, in a block of whatever type. -/
def OwnA (w : World) (base : Nat) (v : Value) (l : Bs) : Prop := ∃ e, OwnV e w base v (l.map bv)
theorem OwnB.any {w : World} {base : Nat} {v : Value} {l : Bs} (h : OwnB w base v l) : OwnA w base v l := ⟨5, h⟩
theorem OwnA.bytes {w : World} {base : Nat} {v : Value} {l : Bs} (h : OwnA w base v l) : BytesAt w v l := by obtain ⟨e, h⟩ := h; exact OwnV.vals h
theorem OwnA.below {a b : World} {B : Nat} {v : Value} {l : Bs} (h : OwnA a B v l) (hb : Below a.heap.size a b) : OwnA b B v l := by obtain ⟨e, h⟩ := h; exact ⟨e, OwnV.below h hb⟩
theorem OwnA.mono {w : World} {B B' : Nat} {v : Value} {l : Bs} (h : OwnA w B v l) (hB : B' ≤ B) : OwnA w B' v l := by obtain ⟨e, h⟩ := h; exact ⟨e, OwnV.mono h hB⟩
theorem OwnA.form {w : World} {B : Nat} {v : Value} {l : Bs} (h : OwnA w B v l) : ∃ sp c, v = .slice sp l.length c := by
  obtain ⟨e, h⟩ := h
  obtain ⟨sp, c, e⟩ := OwnV.form h
  rw [List.length_map] at e
  exact ⟨sp, c, e⟩
/-- A plate in memory: S the blocks that its calls may write, R those that they only read. -/
structure Plate (PAt : Set_ → Set_ → World → Value → PS → Prop) : Prop where
  ptr : ∀ {S R w p s}, PAt S R w p s → ∃ a, p = .pointer (some a)
  ok : ∀ {S R w p s}, PAt S R w p s → s.Ok
  old : ∀ {S R w p s}, PAt S R w p s → ∀ k, S k ∨ R k → k < w.heap.size
  apart : ∀ {S R w p s}, PAt S R w p s → ∀ k, S k → ¬ R k
  kept : ∀ {S R T w w' p s}, PAt S R w p s → Aside T w w' → (∀ k, T k → ¬ S k ∧ ¬ R k) → PAt S R w' p s
  new_yes : ∀ (w : World) (n : Nat), 8 ≤ n → n ≤ 16384 → Calls Try.prog 9 #[.int .i64 (n : Int)] w fun e w' => ∃ p, e = .returned p ∧ ∃ S R, PAt S R w' p (newS n) ∧ (∀ k, S k ∨ R k → w.heap.size ≤ k) ∧ Below w.heap.size w w'
  new_no : ∀ (w : World) (n : Int), n < 8 ∨ 16384 < n → Calls Try.prog 9 #[.int .i64 n] w fun e w' => e = .returned (.pointer none) ∧ Below w.heap.size w w'
  sectors : ∀ {S R w p s}, PAt S R w p s → Calls Try.prog 15 #[p] w fun e w' => e = .returned (.int .i64 (s.safe.length : Int)) ∧ Below w.heap.size w w'
  down : ∀ {S R w p s}, PAt S R w p s → Calls Try.prog 13 #[p] w fun e w' => e = .returned (.bool s.down) ∧ Below w.heap.size w w'
  loose : ∀ {S R w p s}, PAt S R w p s → Calls Try.prog 14 #[p] w fun e w' => e = .returned (.int .i64 (s.loose.length : Int)) ∧ Below w.heap.size w w'
  write : ∀ {S R w p s} (a : Int) (x : Value) (b : Bs), PAt S R w p s → BytesAt w x b → (b ≠ [] → ∀ k, x.ownBlock = some k → ¬ S k) → b.length ≤ 1000000 → s.loose.length ≤ 100000 → -9223372036854775808 ≤ a → a ≤ 9223372036854775807 →
    Calls Try.prog 22 #[p, .int .i64 a, x] w fun e w' => e = .returned (.int .i64 (writeE s a b)) ∧ ∃ S' R', PAt S' R' w' p (writeS s a b) ∧ (∀ k, S' k → S k ∨ w.heap.size ≤ k) ∧ (∀ k, R' k → R k ∨ w.heap.size ≤ k) ∧ Aside S w w'
  read : ∀ {S R w p s} (a : Int), PAt S R w p s → s.loose.length ≤ 100000 → -9223372036854775808 ≤ a → a ≤ 9223372036854775807 →
    Calls Try.prog 18 #[p, .int .i64 a] w fun e w' => ∃ v, e = .returned (.tuple #[v, .int .i64 (readE s a)]) ∧ OwnA w' w.heap.size v (readB s a) ∧ Below w.heap.size w w'
  sync : ∀ {S R w p s}, PAt S R w p s → s.loose.length ≤ 100000 →
    Calls Try.prog 24 #[p] w fun e w' => e = .returned (.int .i64 (syncE s)) ∧ ∃ S' R', PAt S' R' w' p (syncS s) ∧ (∀ k, S' k → S k ∨ w.heap.size ≤ k) ∧ (∀ k, R' k → R k ∨ w.heap.size ≤ k) ∧ Aside S w w'
  arm : ∀ {S R w p s} (n : Int), PAt S R w p s → -9223372036854775808 ≤ n → n ≤ 9223372036854775807 →
    Calls Try.prog 25 #[p, .int .i64 n] w fun e w' => e = .returned (.tuple #[]) ∧ ∃ S' R', PAt S' R' w' p (armS s n) ∧ (∀ k, S' k → S k ∨ w.heap.size ≤ k) ∧ (∀ k, R' k → R k ∨ w.heap.size ≤ k) ∧ Aside S w w'
  revive : ∀ {S R w p s} (x : Value) (keep : List Bool), PAt S R w p s → ValsAt w x (keep.map .bool) → (keep ≠ [] → ∀ k, x.ownBlock = some k → ¬ S k) → s.loose.length ≤ 100000 →
    Calls Try.prog 16 #[p, x] w fun e w' => e = .returned (.tuple #[]) ∧ ∃ S' R', PAt S' R' w' p (reviveS s keep) ∧ (∀ k, S' k → S k ∨ w.heap.size ≤ k) ∧ (∀ k, R' k → R k ∨ w.heap.size ≤ k) ∧ Aside S w w'
  clone : ∀ {S R w p s}, PAt S R w p s → s.loose.length ≤ 100000 →
    Calls Try.prog 21 #[p] w fun e w' => ∃ q, e = .returned q ∧ ∃ S' R', PAt S' R' w' q s ∧ (∀ k, S' k → w.heap.size ≤ k) ∧ (∀ k, R' k → R k ∨ w.heap.size ≤ k) ∧ Below w.heap.size w w'
end Go.Proofs.Ytlmikagmcaicoaa
