/-
  Six numbers in a block.
-/
import Derived.Test.YtngkidlgcdofhaaDoorDtime2
import Derived.Test.YtngkidlgcdofhaaDoorLeaf9
import Derived.Test.YtngkidlgcdofhaaDoorVrep9
namespace Go.Proofs.YtngkidlgcdofhaaDoor
open Go.RowKit
/-- The six numbers, as cells. -/
def six (f : Nat → Nat) : List Value := (List.range 6).map fun k => .int .i64 (f k : Int)
theorem six_len (f : Nat → Nat) : (six f).length = 6 := by simp [six]
theorem six_get (f : Nat → Nat) {k : Nat} (hk : k < 6) : (six f).getD k undef = .int .i64 (f k : Int) := by
  rw [List.getD_eq_getElem?_getD, List.getElem?_eq_getElem (by rw [six_len]; exact hk)]
  simp [six]
theorem six_set (f g : Nat → Nat) {k : Nat} (h : ∀ j, j ≠ k → g j = f j) : (six f).set k (.int .i64 (g k : Int)) = six g := by
  refine List.ext_getElem (by simp [six]) fun j h1 h2 => ?_
  rw [List.getElem_set]
  split
  · rename_i e
    subst e
    simp [six]
  · rename_i e
    simp [six, h j (fun e2 => e e2.symm)]
theorem RowAt.six {w : World} {O : Nat} {f : Nat → Nat} (h : RowAt 78 w O [] (six f)) {k : Nat} (hk : k < 6) : w.cell? ⟨O, k, none⟩ = some (.int .i64 (f k : Int)) := by
  rw [h.cell k (by rw [six_len]; exact hk), six_get f hk]
theorem RowAt.put6 {w : World} {O : Nat} {f : Nat → Nat} (h : RowAt 78 w O [] (Go.Proofs.YtngkidlgcdofhaaDoor.six f)) {k : Nat} (hk : k < 6) (g : Nat → Nat) (hg : ∀ j, j ≠ k → g j = f j) : RowAt 78 (w.setCell ⟨O, k, none⟩ (.int .i64 (g k : Int))) O [] (Go.Proofs.YtngkidlgcdofhaaDoor.six g) := by
  have := h.set k (by rw [six_len]; exact hk) (.int .i64 (g k : Int))
  rwa [six_set f g hg] at this
theorem six_congr {f g : Nat → Nat} (h : ∀ k, k < 6 → f k = g k) : six f = six g := by
  refine List.ext_getElem (by simp [six]) fun j h1 h2 => ?_
  have : j < 6 := by rw [six_len] at h1; exact h1
  simp [six, h j this]
theorem six_one (g : Nat → Nat) : (six g).toArray.all (·.oneCell') = true := by simp [six, Value.oneCell', List.range, List.range.loop]
/-- A row and a slot, handed back. -/
theorem results_row_tmp {P : Program} {fn : Func} {p u : Tmp} {ty : TypeId} (h : fn.results = #[.cell p ty, .tmp u]) (tmps : Array Value) (w : World) (g : Nat) (t : TypeId) (cs : Array Value) (fr : Nat × Nat) (d : TypeDesc)
    (hp : tmps.getD p undef = .pointer (some ⟨g, 0, none⟩)) (hg : w.heap[g]? = some (.cells cs t fr))
    (hu : P.underlying ty = some d) (hd : (match d with | .struct _ | .array _ _ => true | _ => false) = true) (hi : (P.info? ty).map (·.size) = some cs.size) (v : Value) (hv : tmps.getD u undef = v) :
    (results fn tmps).run P w = .ok (.tuple #[.agg cs, v]) w := by
  have hp' : tmps[p]?.getD undef = .pointer (some ⟨g, 0, none⟩) := by simpa using hp
  have hv' : tmps[u]?.getD undef = v := by simpa using hv
  simp [results, h, hp', hv', asAddr, run_loadVar_row w g t ty cs fr d hg hu hd hi]
/-- Writing into a block that came later turns nothing below. -/
theorem below_set {N : Nat} {a b : World} (h : Below N a b) (hN : N ≤ b.heap.size) (O : Nat) (hO : N ≤ O) (k : Nat) (v : Value) : Below N a (b.setCell ⟨O, k, none⟩ v) :=
  h.grown (grown_setCell (World.grownBy.refl _ (some O)) ⟨O, k, none⟩ v rfl) hN (fun g hg => by cases hg; exact hO)
theorem heap_drewN6 (w : World) : ∀ n, (w.drewN n).heap = w.heap
  | 0 => rfl
  | n + 1 => heap_drewN6 w n
theorem below_drewN6 {B : Nat} {a w : World} (h : Below B a w) : ∀ q, Below B a (w.drewN q)
  | 0 => h
  | q + 1 => (below_drewN6 h q).drew
theorem RowAt.drewN6 {t : TypeId} {w : World} {O : Nat} {u v : List Value} (h : RowAt t w O u v) (n : Nat) : RowAt t (w.drewN n) O u v := by
  unfold RowAt
  rw [heap_drewN6]
  exact h
end Go.Proofs.YtngkidlgcdofhaaDoor
