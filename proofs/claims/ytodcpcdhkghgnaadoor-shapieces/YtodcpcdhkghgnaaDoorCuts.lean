/-
  Slices of bytes cut in two: what the two cuts come to, and that each holds its part.
-/
import Derived.Test.YtodcpcdhkghgnaaDoorAnchor
namespace Go.Proofs.YtodcpcdhkghgnaaDoor
open Go.RowKit
theorem slice_head (w : World) (a : Option Addr) (len cap n : Nat) (h : n ≤ cap) : (Instr.slice 22 (.slice a len cap) none (some (.int .i64 (n : Int))) none).run Tryd.prog w = .ok (.slice a n cap) w := by
  have h1 : (underlying 22).run Tryd.prog w = .ok (.slice 5) w := run_underlying Tryd.underlying22 w
  have h2 : (sizeOf 5).run Tryd.prog w = .ok 1 w := by kernel_rfl
  have h3 : (Instr.sliceBound (.int .i64 (n : Int)) cap .sliceAcap).run Tryd.prog w = .ok n w := by
    rw [run_sliceBound (k := .i64) (i := (n : Int)) (y := cap) (code := .sliceAcap) (h0 := by omega) (h1 := by omega)]; simp
  have e : (if cap = 0 then a else a.map (·.add 0)) = a := by
    split
    · rfl
    · cases a <;> simp [Addr.add]
  simp only [Instr.slice, Sem.run_bind, h1, Result.andThen_ok, Sem.run_pure, Instr.sliceBounds, h3, h2, if_true, Nat.zero_mul, Nat.sub_zero, e]
theorem BytesAt.take {w : World} {sp : Option Addr} {c : Nat} {l : List UInt8} (h : BytesAt w (.slice sp l.length c) l) (n : Nat) (hn : n ≤ l.length) : BytesAt w (.slice sp n c) (l.take n) := by
  obtain ⟨sp', c', e, h1, h2, h3⟩ := h
  cases e
  have hl : (l.take n).length = n := by rw [List.length_take]; omega
  refine ⟨sp, c, by rw [hl], by omega, h2, fun hne => ?_⟩
  obtain ⟨b, o, e, hr⟩ := h3 (by rintro rfl; simp at hne)
  refine ⟨b, o, e, fun j v hv => hr j v ?_⟩
  rw [List.map_take, List.getElem?_take] at hv
  split at hv
  · exact hv
  · cases hv
theorem BytesAt.drop {w : World} {sp : Option Addr} {c : Nat} {l : List UInt8} (h : BytesAt w (.slice sp l.length c) l) (n : Nat) (hn : n ≤ l.length) : BytesAt w (.slice (if c = n then sp else sp.map (·.add n)) (l.length - n) (c - n)) (l.drop n) := by
  obtain ⟨sp', c', e, h1, h2, h3⟩ := h
  cases e
  refine ⟨_, _, by rw [List.length_drop], by rw [List.length_drop]; omega, fun hn => ?_, fun hne => ?_⟩
  · by_cases hc : c = n
    · omega
    · rw [if_neg hc] at hn
      have := h2 (by simpa using hn); omega
  · have hlt : n < l.length := by
      rcases Nat.lt_or_ge n l.length with h | h
      · exact h
      · exact absurd (List.drop_of_length_le h) hne
    obtain ⟨b, o, rfl, hr⟩ := h3 (by rintro rfl; simp at hlt)
    rw [if_neg (by omega)]
    exact ⟨b, o + n, by simp [Addr.add_mid], range_drop hr n⟩
end Go.Proofs.YtodcpcdhkghgnaaDoor
