/-
  What a reading of six numbers gives; Printable as the record of its promise.
-/
import Derived.Test.YtngkidlgcdofhabDoorRow9
namespace Go.Proofs.YtngkidlgcdofhabDoor
open Go.ChangeShapes Go.WideShapes Go.ChangeAt Go.RowKit Go.Joins Go.Deep
theorem cellsA3 : Tryd.prog.cellsOf 3 = 1 := by kernel_rfl
theorem cellsA6 : Tryd.prog.cellsOf 33 = 6 := by kernel_rfl
theorem list6 {α : Type} {l : List α} (h : l.length = 6) : ∃ a b c d e f, l = [a, b, c, d, e, f] := by
  match l, h with
  | [a, b, c, d, e, f], _ => exact ⟨a, b, c, d, e, f, rfl⟩
theorem six_trod {H : Type} {enc : TypeId × Value → H} {W : World} (fuel : Nat) (c0 c1 c2 c3 c4 c5 : Value) (x : DataW H × List MemPlace) (h : DataW.trod enc Tryd.prog W 0 (fun _ => true) true fuel 33 [c0, c1, c2, c3, c4, c5] = some x) :
    ∃ l0 l1 l2 l3 l4 l5 : Int, [c0, c1, c2, c3, c4, c5] = [.int .i64 l0, .int .i64 l1, .int .i64 l2, .int .i64 l3, .int .i64 l4, .int .i64 l5] := by
  cases fuel with
  | zero => simp [DataW.trod] at h
  | succ n =>
    unfold DataW.trod at h
    rw [Tryd.underlying33] at h
    have r6 : List.range 6 = [0, 1, 2, 3, 4, 5] := rfl
    simp [r6, cellsA3] at h
    obtain ⟨_, h⟩ := h
    have one : ∀ {c : Value} {y : DataW H × List MemPlace}, DataW.trod enc Tryd.prog W 0 (fun _ => true) true n 3 [c] = some y → ∃ l : Int, c = .int .i64 l := fun hh => by
      obtain ⟨z, e, _, _⟩ := DataW.trod_int Tryd.underlying3 hh
      simp only [List.cons.injEq, and_true] at e
      exact ⟨z, e⟩
    cases h0 : DataW.trod enc Tryd.prog W 0 (fun _ => true) true n 3 [c0] with
    | none => simp [h0] at h
    | some y0 =>
    cases h1 : DataW.trod enc Tryd.prog W 0 (fun _ => true) true n 3 [c1] with
    | none => simp [h0, h1] at h
    | some y1 =>
    cases h2 : DataW.trod enc Tryd.prog W 0 (fun _ => true) true n 3 [c2] with
    | none => simp [h0, h1, h2] at h
    | some y2 =>
    cases h3 : DataW.trod enc Tryd.prog W 0 (fun _ => true) true n 3 [c3] with
    | none => simp [h0, h1, h2, h3] at h
    | some y3 =>
    cases h4 : DataW.trod enc Tryd.prog W 0 (fun _ => true) true n 3 [c4] with
    | none => simp [h0, h1, h2, h3, h4] at h
    | some y4 =>
    cases h5 : DataW.trod enc Tryd.prog W 0 (fun _ => true) true n 3 [c5] with
    | none => simp [h0, h1, h2, h3, h4, h5] at h
    | some y5 =>
    obtain ⟨l0, rfl⟩ := one h0
    obtain ⟨l1, rfl⟩ := one h1
    obtain ⟨l2, rfl⟩ := one h2
    obtain ⟨l3, rfl⟩ := one h3
    obtain ⟨l4, rfl⟩ := one h4
    obtain ⟨l5, rfl⟩ := one h5
    exact ⟨l0, l1, l2, l3, l4, l5, rfl⟩
/-- WHAT A READING OF SIX NUMBERS GIVES. -/
theorem six_arg {H : Type} {enc : TypeId × Value → H} {W : World} {b0 : Nat} {v : Value} {d : DataW H} {p : List MemPlace} (hv : Value.okWide Tryd.prog W .any b0 33 v) (h : DataW.Trod enc Tryd.prog W 0 (fun _ => true) true 33 v d p) : ∃ l0 l1 l2 l3 l4 l5 : Int, v = .agg #[.int .i64 l0, .int .i64 l1, .int .i64 l2, .int .i64 l3, .int .i64 l4, .int .i64 l5] := by
  simp only [Value.okWide, Tryd.underlying33] at hv
  obtain ⟨cs, rfl, hsz, _⟩ := hv
  rw [cellsA6] at hsz
  obtain ⟨c0, c1, c2, c3, c4, c5, hcs⟩ := list6 (l := cs.toList) (by simpa using hsz)
  obtain rfl : cs = #[c0, c1, c2, c3, c4, c5] := by cases cs; simp_all
  obtain ⟨fuel, hf⟩ := h
  obtain ⟨l0, l1, l2, l3, l4, l5, e⟩ := six_trod fuel c0 c1 c2 c3 c4 c5 _ hf
  simp only [List.cons.injEq, and_true] at e
  obtain ⟨rfl, rfl, rfl, rfl, rfl, rfl⟩ := e
  exact ⟨_, _, _, _, _, _, rfl⟩
end Go.Proofs.YtngkidlgcdofhabDoor
