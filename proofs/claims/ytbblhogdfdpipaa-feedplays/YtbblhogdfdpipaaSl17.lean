/-
  The rest of a slice.
-/
import Derived.Test.YtbblhogdfdpipaaAs17
namespace Go.Proofs.Ytbblhogdfdpipaa
open Go.RowKit
theorem elem_of {t e : TypeId} {z : Value} {n : Nat} (hu : Try.prog.underlying t = some (.slice e)) (h : (Try.prog.info? e).map (fun i => (i.zero, i.size, i.bytes)) = some (some z, 1, n)) (h1 : z.cells.size = 1) (hn : n ≤ 64) : Elem Try.prog t e z n := by
  obtain ⟨i, hi, he⟩ := Option.map_eq_some_iff.1 h
  simp only [Prod.mk.injEq] at he
  exact ⟨hu, ⟨i, hi, he.1, he.2.1, he.2.2⟩, h1, hn⟩
theorem Est : Elem Try.prog 37 9 (.string ⟨#[]⟩) 16 := elem_of Try.underlying37 (by kernel_rfl) rfl (by omega)
theorem Eli : Elem Try.prog 29 3 (.int .i64 0) 8 := elem_of Try.underlying29 (by kernel_rfl) rfl (by omega)
def cutAt (sp : Option Addr) (c f : Nat) : Option Addr := if c = f then sp else sp.map (·.add f)
theorem slice_rest {T e : TypeId} {z : Value} {n : Nat} (E : Elem Try.prog T e z n) (he : Try.prog.elem T = e) (sp : Option Addr) (K c f : Nat) (hf : f ≤ K) (w : World) : (Instr.sliceAt T (.slice sp K c) (some (.int .i64 (f : Int))) none none).run Try.prog w = .ok (.slice (cutAt sp c f) (K - f) (c - f)) w := by
  obtain ⟨hu, ⟨i, hi, _, hsz, _⟩, _, _⟩ := E
  have hu' : Try.prog.underlying T = some (.slice (Try.prog.elem T)) := by rw [he]; exact hu
  have hs : ∀ w, (Go.sizeOf e).run Try.prog w = .ok 1 w := fun w => by simp [Go.sizeOf, typeInfo, hi, hsz]
  rw [run_sliceAt_slice w T _ _ _ _ hu', run_slice_l w T sp K c hu' .i64 (f : Int) (by omega) (by omega), he, hs, Result.andThen_ok]
  simp only [sliced, Int.toNat_natCast, Nat.mul_one]
  rfl
theorem vals_rest {w : World} {sp : Option Addr} {n c : Nat} {cs : List Value} (h : ValsAt w (.slice sp n c) cs) (f : Nat) (hf : f ≤ n) : ValsAt w (.slice (cutAt sp c f) (n - f) (c - f)) (cs.drop f) := by
  obtain ⟨sp', c', ex, h1, h2, h3⟩ := h
  simp only [Value.slice.injEq] at ex
  obtain ⟨rfl, rfl, rfl⟩ := ex
  have hl : (cs.drop f).length = cs.length - f := List.length_drop
  refine ⟨_, _, by rw [hl], by omega, fun h => ?_, fun hne => ?_⟩
  · unfold cutAt at h
    split at h
    · omega
    · have : sp = none := by cases sp with
        | none => rfl
        | some a => simp at h
      rw [h2 this]; omega
  · have hpos : 0 < cs.length - f := by
      rcases Nat.eq_zero_or_pos (cs.length - f) with h0 | h0
      · exact absurd (List.eq_nil_of_length_eq_zero (hl.trans h0)) hne
      · exact h0
    obtain ⟨bb, o, rfl, hr⟩ := h3 (by intro e0; rw [e0] at hpos; simp at hpos)
    unfold cutAt
    rw [if_neg (by omega)]
    refine ⟨bb, o + f, by simp [Addr.add_mid], fun j v hv => ?_⟩
    have := hr (f + j) v (by rw [← hv, List.getElem?_drop])
    rwa [← Nat.add_assoc] at this
theorem ValsAt.nth {w : World} {s : Option Addr} {n c : Nat} {cs : List Value} (h : ValsAt w (.slice s n c) cs) (i : Nat) {u : Value} (hu : cs[i]? = some u) : ∃ b o, s = some ⟨b, o, none⟩ ∧ w.cell? ⟨b, o + i, none⟩ = some u := by
  obtain ⟨hi, he⟩ := List.getElem?_eq_some_iff.1 hu
  obtain ⟨b, o, c', e, _, _, hc⟩ := h.cell (by rintro rfl; simp at hi)
  cases e
  have := hc i hi
  rw [List.getD_eq_getElem?_getD, hu] at this
  exact ⟨b, o, rfl, this⟩
end Go.Proofs.Ytbblhogdfdpipaa
