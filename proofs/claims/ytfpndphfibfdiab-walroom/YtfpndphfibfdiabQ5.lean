/-
  A write's value; what is laid when one is made.
-/
import Derived.Test.YtfpndphfibfdiabQ4
import Derived.Great.FillDense
import Derived.Great.BuildSlice
namespace Go.Proofs.Ytfpndphfibfdiab
open Go.RowKit
/-- The cells of one write. -/
def wone (n : Nat) (b : Bs) : List Value := .int .i64 (n : Int) :: b.map bv
theorem wone_len {n : Nat} {b : Bs} (h : b.length = 64) : (wone n b).length = 65 := by unfold wone; simp [h]
theorem wone_one (n : Nat) (b : Bs) : ∀ u ∈ wone n b, u.oneCell' = true := by
  intro u hu
  rcases List.mem_cons.1 hu with rfl | h
  · rfl
  · exact one_bytes b u h
theorem info_w : (Try.prog.info? 71).map (fun i => (i.zero, i.size)) = some (some (.agg (wone 0 zeros).toArray), 65) := by kernel_rfl
theorem size_w : (Try.prog.info? 71).map (·.size) = some 65 := by kernel_rfl
theorem built_w (n : Nat) (b : Bs) (hb : b.length = 64) : Try.prog.built 71 [(0, .int .i64 (n : Int)), (1, .agg (b.map bv).toArray)] = some (wone n b).toArray := by
  obtain ⟨f, hf1, hf2⟩ : ∃ f : Nat → Option (Nat × Nat), (∀ ps, Try.prog.built 71 ps = Instr.fill f (wone 0 zeros).toArray ps) ∧ f 0 = some (0, 1) ∧ f 1 = some (1, 64) := ⟨(#[(0, 1), (1, 64)][·]?), fun ps => rfl, rfl, rfl⟩
  rw [hf1]
  have e0 : (Value.int .i64 (n : Int)).cells = #[.int .i64 (n : Int)] := rfl
  have e1 : (Value.agg (b.map bv).toArray).cells = (b.map bv).toArray := rfl
  have hz : (wone 0 zeros).toArray.size = 65 := by simp [wone_len zeros_len]
  unfold Instr.fill
  rw [hf2.1]
  simp only [e0]
  rw [if_neg (by simp [hz])]
  unfold Instr.fill
  rw [hf2.2]
  simp only [e1]
  rw [if_neg (by simp [hb, wone_len zeros_len])]
  unfold Instr.fill
  congr 1
  apply Array.ext_getElem?
  intro k
  have h2 := (Great.foldl_set 1 (b.map bv) 0 ((wone 0 zeros).toArray.setIfInBounds 0 (.int .i64 (n : Int)))).2 k
  have e2 : Array.foldl (fun cs (x : Value × Nat) => cs.setIfInBounds (1 + x.2) x.1) (Array.foldl (fun cs (x : Value × Nat) => cs.setIfInBounds (0 + x.2) x.1) (wone 0 zeros).toArray (#[Value.int IntKind.i64 (n : Int)].zipIdx)) ((b.map bv).toArray.zipIdx) = List.foldl (fun cs (x : Value × Nat) => cs.setIfInBounds (1 + x.2) x.1) ((wone 0 zeros).toArray.setIfInBounds 0 (.int .i64 (n : Int))) ((b.map bv).zipIdx 0) := by
    simp
  refine (congrArg (fun a : Array Value => a[k]?) e2).trans (h2.trans ?_)
  simp only [Array.size_setIfInBounds, hz, List.length_map, hb, List.getElem?_toArray]
  by_cases h0 : k = 0
  · subst h0
    rw [if_neg (by omega)]
    simp [wone]
  · by_cases hk : k < 65
    · rw [if_pos (by omega)]
      unfold wone
      obtain ⟨j, rfl⟩ : ∃ j, k = j + 1 := ⟨k - 1, by omega⟩
      simp
    · rw [if_neg (by omega)]
      have h1 : (wone n b)[k]? = none := List.getElem?_eq_none (by rw [wone_len hb]; omega)
      rw [h1]
      exact Array.getElem?_eq_none (by rw [Array.size_setIfInBounds, hz]; omega)
theorem ElW : ElemN Try.prog 35 71 (.agg (wone 0 zeros).toArray) 65 72 := elemN_of Try.underlying35 (by kernel_rfl) (by simp [Value.cells, wone_len zeros_len]) (by omega) (by omega) (by omega)
theorem fill_one (X : Array Value) (hX : X.size = 65) (c : Array Value) (hc : c.size = 65) : Instr.fill (fun i => some (i * 65, 65)) c [(0, .agg X)] = some X := by
  have e1 : (Value.agg X).cells = X := rfl
  unfold Instr.fill
  dsimp only
  rw [e1, if_neg (by simp [hX, hc])]
  unfold Instr.fill
  congr 1
  apply Array.ext_getElem?
  intro k
  have h2 := (Great.foldl_set 0 X.toList 0 c).2 k
  have e2 : Array.foldl (fun cs (x : Value × Nat) => cs.setIfInBounds (0 * 65 + x.2) x.1) c X.zipIdx = List.foldl (fun cs (x : Value × Nat) => cs.setIfInBounds (0 + x.2) x.1) c (X.toList.zipIdx 0) := by
    rw [← Array.foldl_toList]
    simp
  refine (congrArg (fun a : Array Value => a[k]?) e2).trans (h2.trans ?_)
  by_cases hk : k < 65
  · rw [if_pos (by simp; omega)]; simp
  · rw [if_neg (by simp; omega), Array.getElem?_eq_none (by omega), Array.getElem?_eq_none (by omega)]
/-- A slice of one write. -/
theorem run_slice_w (w : World) (X : Array Value) (hX : X.size = 65) : (Instr.buildSlice 35 1 #[(0, .agg X)]).run Try.prog w = .ok (.slice (some ⟨w.heap.size, 0, none⟩) 1 1) (w.alloc (.cells X 71)) := by
  obtain ⟨i, hi, hz, hs, _⟩ := ElW.info
  refine run_buildSlice w 35 71 1 _ X i _ Try.underlying35 hi hz (by rw [hs]; decide) (by rw [hs]; decide) ?_
  rw [hs]
  exact fill_one X hX _ (by simp)
end Go.Proofs.Ytfpndphfibfdiab
