/-
  The types of the slices of numbers and bytes; what such slices hold.
-/
import Derived.Test.YthciafobknaipaaTold
import Derived.Deep.RegionHeld3
import Derived.BigRegion
import Derived.Deep.RegionWith
namespace Go.Proofs.Ythciafobknaipaa
open Go.RowKit
theorem elem_of {t e : TypeId} {z : Value} {n : Nat} (hu : Try.prog.underlying t = some (.slice e)) (h : (Try.prog.info? e).map (fun i => (i.zero, i.size, i.bytes)) = some (some z, 1, n)) (h1 : z.cells.size = 1) (hn : n ≤ 64) : Elem Try.prog t e z n := by
  obtain ⟨i, hi, h2⟩ := Option.map_eq_some_iff.1 h
  simp only [Prod.mk.injEq] at h2
  exact ⟨hu, ⟨i, hi, h2.1, h2.2.1, h2.2.2⟩, h1, hn⟩
theorem Ei : Elem Try.prog 33 3 (.int .i64 0) 8 := elem_of Try.underlying33 (by kernel_rfl) rfl (by omega)
theorem Eb : Elem Try.prog 34 5 (.int .u8 0) 1 := elem_of Try.underlying34 (by kernel_rfl) rfl (by omega)
theorem len_ivals (l : List Int) : (ivals l).length = l.length := by simp [ivals]
theorem len_bvals (l : List Nat) : (bvals l).length = l.length := by simp [bvals]
theorem one_ivals (l : List Int) : ∀ u ∈ ivals l, u.oneCell' = true := fun u hu => by obtain ⟨x, _, rfl⟩ := List.mem_map.1 hu; rfl
theorem ints_open {w : World} {x : Value} {l : List Int} (h : ValsAt w x (ivals l)) : ∃ sp c, x = .slice sp l.length c ∧ l.length ≤ c ∧ (sp = none → c = 0) ∧ (l ≠ [] → ∃ b o, sp = some ⟨b, o, none⟩ ∧ b < w.heap.size ∧ ∀ k, k < l.length → w.cell? ⟨b, o + k, none⟩ = some (.int .i64 (l.getD k 0))) := by
  have h' := h
  obtain ⟨sp, c, rfl, h1, h2, _⟩ := h'
  refine ⟨sp, c, by rw [len_ivals], by rw [len_ivals] at h1; exact h1, h2, fun hl => ?_⟩
  obtain ⟨b, o, c2, e, _, hb, hc⟩ := h.cell (by simpa [ivals] using hl)
  simp only [Value.slice.injEq] at e
  obtain ⟨rfl, _, _⟩ := e
  refine ⟨b, o, rfl, hb, fun k hk => ?_⟩
  rw [hc k (by rw [len_ivals]; exact hk)]
  simp [ivals, List.getD_eq_getElem?_getD, hk]
theorem bytes_open {w : World} {x : Value} {l : List Nat} (h : ValsAt w x (bvals l)) : ∃ sp c, x = .slice sp l.length c ∧ l.length ≤ c ∧ (sp = none → c = 0) ∧ (l ≠ [] → ∃ b o, sp = some ⟨b, o, none⟩ ∧ b < w.heap.size ∧ ∀ k, k < l.length → w.cell? ⟨b, o + k, none⟩ = some (.int .u8 ((l.getD k 0 : Nat) : Int))) := by
  have h' := h
  obtain ⟨sp, c, rfl, h1, h2, _⟩ := h'
  refine ⟨sp, c, by rw [len_bvals], by rw [len_bvals] at h1; exact h1, h2, fun hl => ?_⟩
  obtain ⟨b, o, c2, e, _, hb, hc⟩ := h.cell (by simpa [bvals] using hl)
  simp only [Value.slice.injEq] at e
  obtain ⟨rfl, _, _⟩ := e
  refine ⟨b, o, rfl, hb, fun k hk => ?_⟩
  rw [hc k (by rw [len_bvals]; exact hk)]
  simp [bvals, List.getD_eq_getElem?_getD, hk]
end Go.Proofs.Ythciafobknaipaa
