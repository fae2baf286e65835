/-
  The walk of the statements' small.
-/
import Derived.Test.YtlhjifdahagkaaaDoorM06
namespace Go.Proofs.YtlhjifdahagkaaaDoor
open Go.RowKit
set_option maxRecDepth 100000 in
set_option maxHeartbeats 4000000 in
theorem small_any (w0 : World) (L h wd : Int) :
    Calls Tryd.prog 10 #[shapeV L h wd] w0 fun e w' => ∃ b, e = .returned (.bool b) ∧ Below w0.heap.size w0 w' := by
  obtain ⟨tT, tP, tL, tO, hwd, hok⟩ := widthOf_ok wd
  have Hwd := hide hwd
  clear hwd
  unfold shapeV
  go_enter Tryd.func10, Tryd.ntmps10
  go_wp2_with fail
  refine (width_any wd _).mono ?_
  rw [unhide Hwd]
  rintro e w1 ⟨rfl, hw1⟩
  have HB : Hid (Below w0.heap.size w0 w1) := by show Below _ _ _; rw [hw1]; exact (Below.refl _ _).alloc (Nat.le_refl _) _
  have c0 : w1.cell? ⟨w0.heap.size, 0, none⟩ = some (.int .i64 L) := by rw [hw1, cell_of_row _ _ _ _ 23 (0, 0) (heap_alloc_new w0 _)]; rfl
  have c1 : w1.cell? ⟨w0.heap.size, 1, none⟩ = some (.int .i64 h) := by rw [hw1, cell_of_row _ _ _ _ 23 (0, 0) (heap_alloc_new w0 _)]; rfl
  have c2 : w1.cell? ⟨w0.heap.size, 2, none⟩ = some (.int .i64 wd) := by rw [hw1, cell_of_row _ _ _ _ 23 (0, 0) (heap_alloc_new w0 _)]; rfl
  clear hw1
  cases tO with
  | false =>
    clear hok
    go_wp2
    go_region
    go_wp2
    go_ret
    exact ⟨_, rfl, (unhide HB).drew⟩
  | true =>
    have hW := hok.1 rfl
    clear hok
    by_cases h1 : L < 1
    · have d1 : decide (L < 1) = true := by simp; omega
      go_wp2
      go_region
      go_wp2
      go_ret
      exact ⟨_, rfl, (unhide HB).drew⟩
    have d1 : decide (L < 1) = false := by simp; omega
    by_cases h2 : 3 < L
    · have d2 : decide (3 < L) = true := by simp; omega
      go_wp2
      go_region
      go_wp2
      go_ret
      exact ⟨_, rfl, (unhide HB).drew⟩
    have d2 : decide (3 < L) = false := by simp; omega
    by_cases h3 : h < 1
    · have d3 : decide (h < 1) = true := by simp; omega
      go_wp2
      go_region
      go_wp2
      go_ret
      exact ⟨_, rfl, (unhide HB).drew⟩
    have d3 : decide (h < 1) = false := by simp; omega
    by_cases h4 : 6 < h
    · have d4 : decide (6 < h) = true := by simp; omega
      go_wp2
      go_region
      go_wp2
      go_ret
      exact ⟨_, rfl, (unhide HB).drew⟩
    have d4 : decide (6 < h) = false := by simp; omega
    obtain ⟨k, rfl⟩ : ∃ k : Nat, h = (k : Int) := ⟨h.toNat, by omega⟩
    obtain ⟨n, rfl⟩ : ∃ n : Nat, wd = (n : Int) := ⟨wd.toNat, by omega⟩
    have k6 : (k : Int) ≤ 6 := by omega
    have n8 : (n : Int) ≤ 8 := by omega
    have k0 : (0 : Int) ≤ (k : Int) := by omega
    have n0 : (0 : Int) ≤ (n : Int) := by omega
    obtain ⟨Q, hQw⟩ : ∃ Q, IntKind.i64.wrap ((2 : Int) ^ k) = Q := ⟨_, rfl⟩
    obtain ⟨W, hWw⟩ : ∃ W, IntKind.i64.wrap ((2 : Int) ^ n) = W := ⟨_, rfl⟩
    obtain ⟨A, hA⟩ : ∃ A, IntKind.i64.wrap (L * tP) = A := ⟨_, rfl⟩
    obtain ⟨B, hB⟩ : ∃ B, IntKind.i64.wrap (A * W) = B := ⟨_, rfl⟩
    obtain ⟨D, hD⟩ : ∃ D, IntKind.i64.wrap (B * Q) = D := ⟨_, rfl⟩
    clear hW h1 h2 h3 h4
    go_wp2
    go_region
    go_wp2
    go_ret
    exact ⟨_, rfl, (unhide HB).drew⟩
end Go.Proofs.YtlhjifdahagkaaaDoor
