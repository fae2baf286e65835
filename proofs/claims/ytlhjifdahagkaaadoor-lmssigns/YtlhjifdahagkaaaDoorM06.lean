/-
  The walks of the statements' key and small.
-/
import Derived.Test.YtlhjifdahagkaaaDoorM04
namespace Go.Proofs.YtlhjifdahagkaaaDoor
open Go.RowKit
def shapeV (L h wd : Int) : Value := .agg #[.int .i64 L, .int .i64 h, .int .i64 wd]
set_option maxRecDepth 100000 in
set_option maxHeartbeats 4000000 in
theorem key_any (w0 : World) (L h wd : Int) (xi xs : Value) (id seed : Bs) (hi : BytesAt w0 xi id) (hs : BytesAt w0 xs seed) :
    Calls Tryd.prog 11 #[shapeV L h wd, xi, xs] w0 fun e w' => e = .returned (.tuple #[keyV L h wd xi xs, keyV L h wd xi xs]) ∧ Below w0.heap.size w0 w' := by
  obtain ⟨sp, c, rfl, _, _, _⟩ := bytes_open hi
  obtain ⟨sp2, c2, rfl, _, _, _⟩ := bytes_open hs
  clear hi hs
  unfold shapeV
  go_enter Tryd.func11, Tryd.ntmps11
  go_wp2
  go_region
  go_wp2
  refine bodyPost_ret (v := .tuple #[keyV L h wd (.slice sp id.length c) (.slice sp2 seed.length c2), keyV L h wd (.slice sp id.length c) (.slice sp2 seed.length c2)]) ?_ rfl ⟨rfl, (((Below.refl _ _).alloc (Nat.le_refl _) _).alloc (by simp) _).alloc (by simp; omega) _ |>.drew⟩
  simp [results, Tryd.results11, go_sem, keyV]
end Go.Proofs.YtlhjifdahagkaaaDoor
