/-
  The walks of the landed widthOfBits and widthOfKind, isLevels, isHeight, heightOfKind.
-/
import Derived.Test.YtlhjifdahagkaaaDoorM10
namespace Go.Proofs.YtlhjifdahagkaaaDoor
open Go.RowKit
def widFor (x a b c d : Int) : Value := if x = a then .tuple #[.agg #[.int .i64 1, .int .i64 1, .int .i64 265, .int .i64 7], .bool true] else if x = b then .tuple #[.agg #[.int .i64 2, .int .i64 2, .int .i64 133, .int .i64 6], .bool true] else if x = c then .tuple #[.agg #[.int .i64 4, .int .i64 3, .int .i64 67, .int .i64 4], .bool true] else if x = d then .tuple #[.agg #[.int .i64 8, .int .i64 4, .int .i64 34, .int .i64 0], .bool true] else .tuple #[.agg #[.int .i64 0, .int .i64 0, .int .i64 0, .int .i64 0], .bool false]
theorem widx0 (w : World) : (Instr.index 109 (.agg #[.int .i64 1, .int .i64 1, .int .i64 265, .int .i64 7, .int .i64 2, .int .i64 2, .int .i64 133, .int .i64 6, .int .i64 4, .int .i64 3, .int .i64 67, .int .i64 4, .int .i64 8, .int .i64 4, .int .i64 34, .int .i64 0]) (.int .i64 0)).run Tryd.prog w = .ok (.agg #[.int .i64 1, .int .i64 1, .int .i64 265, .int .i64 7]) w := by kernel_rfl
theorem widx1 (w : World) : (Instr.index 109 (.agg #[.int .i64 1, .int .i64 1, .int .i64 265, .int .i64 7, .int .i64 2, .int .i64 2, .int .i64 133, .int .i64 6, .int .i64 4, .int .i64 3, .int .i64 67, .int .i64 4, .int .i64 8, .int .i64 4, .int .i64 34, .int .i64 0]) (.int .i64 1)).run Tryd.prog w = .ok (.agg #[.int .i64 2, .int .i64 2, .int .i64 133, .int .i64 6]) w := by kernel_rfl
theorem widx2 (w : World) : (Instr.index 109 (.agg #[.int .i64 1, .int .i64 1, .int .i64 265, .int .i64 7, .int .i64 2, .int .i64 2, .int .i64 133, .int .i64 6, .int .i64 4, .int .i64 3, .int .i64 67, .int .i64 4, .int .i64 8, .int .i64 4, .int .i64 34, .int .i64 0]) (.int .i64 2)).run Tryd.prog w = .ok (.agg #[.int .i64 4, .int .i64 3, .int .i64 67, .int .i64 4]) w := by kernel_rfl
theorem widx3 (w : World) : (Instr.index 109 (.agg #[.int .i64 1, .int .i64 1, .int .i64 265, .int .i64 7, .int .i64 2, .int .i64 2, .int .i64 133, .int .i64 6, .int .i64 4, .int .i64 3, .int .i64 67, .int .i64 4, .int .i64 8, .int .i64 4, .int .i64 34, .int .i64 0]) (.int .i64 3)).run Tryd.prog w = .ok (.agg #[.int .i64 8, .int .i64 4, .int .i64 34, .int .i64 0]) w := by kernel_rfl
set_option maxRecDepth 100000 in
set_option maxHeartbeats 2000000 in
theorem wbits_0 (w0 : World) (hW : WidAt w0)  : Calls Tryd.prog 45 #[.int .i64 1] w0 fun e w' => e = .returned (.tuple #[.agg #[.int .i64 1, .int .i64 1, .int .i64 265, .int .i64 7], .bool true]) ∧ Below w0.heap.size w0 w' := by
  obtain ⟨tk, fr, hT⟩ := hW
  have hlt : 0 < w0.heap.size := (Array.getElem?_eq_some_iff.1 hT).1
  have hbZ : Below w0.heap.size w0 (w0.alloc (.cells #[.int .i64 0, .int .i64 0, .int .i64 0, .int .i64 0] 52)) := (Below.refl _ _).alloc (Nat.le_refl _) _
  have hZ := heap_alloc_new w0 (.cells #[.int .i64 0, .int .i64 0, .int .i64 0, .int .i64 0] 52)
  have hsz : w0.heap.size < (w0.alloc (.cells #[.int .i64 0, .int .i64 0, .int .i64 0, .int .i64 0] 52)).heap.size := by simp
  obtain ⟨wA, hwA⟩ : ∃ wA, w0.alloc (.cells #[.int .i64 0, .int .i64 0, .int .i64 0, .int .i64 0] 52) = wA := ⟨_, rfl⟩
  rw [hwA] at hbZ hZ hsz
  have HT : Hid (wA.heap[0]? = some (.cells #[.int .i64 1, .int .i64 1, .int .i64 265, .int .i64 7, .int .i64 2, .int .i64 2, .int .i64 133, .int .i64 6, .int .i64 4, .int .i64 3, .int .i64 67, .int .i64 4, .int .i64 8, .int .i64 4, .int .i64 34, .int .i64 0] tk fr)) := hide ((hbZ.block _ hlt).trans hT)
  have HZ := hide (And.intro hsz hZ)
  have HB := hide hbZ
  have i0 := widx0
  have i1 := widx1
  have i2 := widx2
  have i3 := widx3
  clear hT hbZ hZ hsz
  go_enter Tryd.func45, Tryd.ntmps45
  go_wp2_with (refine wpList_load_row rfl 109 _ rfl 0 rfl tk _ fr _ (unhide HT) Tryd.underlying109 rfl (by kernel_rfl) ?_)
  go_loopw [7] (fun ii wr => ∃ k : Nat, k ≤ 0 ∧ ii = .int .i64 (k : Int) ∧ Hid (Below wA.heap.size wA wr)) (fun ii _ => 4 - (intOf ii).toNat)
  case atStart => exact ⟨0, by omega, rfl, Below.refl _ _⟩
  case round =>
    obtain ⟨k, hk, rfl, HW⟩ := hrel
    rename World => wc
    have HWa := hide (fun o : Obj => (unhide HW).alloc (unhide HW).size o)
    have hZc : wc.heap[w0.heap.size]? = some (.cells #[.int .i64 0, .int .i64 0, .int .i64 0, .int .i64 0] 52 (0, 0)) := ((unhide HW).block _ (unhide HZ).1).trans (unhide HZ).2
    have hltc : w0.heap.size < wc.heap.size := Nat.lt_of_lt_of_le (unhide HZ).1 (unhide HW).size
    have z0 : wc.cell? ⟨w0.heap.size, 0, none⟩ = some (.int .i64 0) := cell_of_row wc w0.heap.size 0 _ 52 (0, 0) hZc
    have z1 : wc.cell? ⟨w0.heap.size, 1, none⟩ = some (.int .i64 0) := cell_of_row wc w0.heap.size 1 _ 52 (0, 0) hZc
    have z2 : wc.cell? ⟨w0.heap.size, 2, none⟩ = some (.int .i64 0) := cell_of_row wc w0.heap.size 2 _ 52 (0, 0) hZc
    have z3 : wc.cell? ⟨w0.heap.size, 3, none⟩ = some (.int .i64 0) := cell_of_row wc w0.heap.size 3 _ 52 (0, 0) hZc
    have fz := fun j => AggAt.fz hZc j
    have hne : w0.heap.size ≠ wc.heap.size := by omega
    clear hZc
    obtain rfl : k = 0 := by omega
    · have HF : Hid (Below w0.heap.size w0 ((((((wc).setCell ⟨w0.heap.size, 0, none⟩ (.int .i64 1)).setCell ⟨w0.heap.size, 1, none⟩ (.int .i64 1)).setCell ⟨w0.heap.size, 2, none⟩ (.int .i64 265)).setCell ⟨w0.heap.size, 3, none⟩ (.int .i64 7)).alloc (.cells #[.int .i64 1, .int .i64 1, .int .i64 265, .int .i64 7] 52))) := hide ((fun (h : Below _ _ _) => h.alloc h.size _) ((((((unhide HB).trans ((unhide HW).mono (unhide HB).size)).setCell (Nat.le_refl _) _).setCell (Nat.le_refl _) _).setCell (Nat.le_refl _) _).setCell (Nat.le_refl _) _))
      go_wp2
      exact bodyPost_ret (v := .tuple #[.agg #[.int .i64 1, .int .i64 1, .int .i64 265, .int .i64 7], .bool true]) (by simp [results, Tryd.results45, go_sem, z0, z1, z2, z3, hltc]) rfl ⟨rfl, unhide HF⟩
set_option maxRecDepth 100000 in
set_option maxHeartbeats 2000000 in
theorem wbits_1 (w0 : World) (hW : WidAt w0)  : Calls Tryd.prog 45 #[.int .i64 2] w0 fun e w' => e = .returned (.tuple #[.agg #[.int .i64 2, .int .i64 2, .int .i64 133, .int .i64 6], .bool true]) ∧ Below w0.heap.size w0 w' := by
  obtain ⟨tk, fr, hT⟩ := hW
  have hlt : 0 < w0.heap.size := (Array.getElem?_eq_some_iff.1 hT).1
  have hbZ : Below w0.heap.size w0 (w0.alloc (.cells #[.int .i64 0, .int .i64 0, .int .i64 0, .int .i64 0] 52)) := (Below.refl _ _).alloc (Nat.le_refl _) _
  have hZ := heap_alloc_new w0 (.cells #[.int .i64 0, .int .i64 0, .int .i64 0, .int .i64 0] 52)
  have hsz : w0.heap.size < (w0.alloc (.cells #[.int .i64 0, .int .i64 0, .int .i64 0, .int .i64 0] 52)).heap.size := by simp
  obtain ⟨wA, hwA⟩ : ∃ wA, w0.alloc (.cells #[.int .i64 0, .int .i64 0, .int .i64 0, .int .i64 0] 52) = wA := ⟨_, rfl⟩
  rw [hwA] at hbZ hZ hsz
  have HT : Hid (wA.heap[0]? = some (.cells #[.int .i64 1, .int .i64 1, .int .i64 265, .int .i64 7, .int .i64 2, .int .i64 2, .int .i64 133, .int .i64 6, .int .i64 4, .int .i64 3, .int .i64 67, .int .i64 4, .int .i64 8, .int .i64 4, .int .i64 34, .int .i64 0] tk fr)) := hide ((hbZ.block _ hlt).trans hT)
  have HZ := hide (And.intro hsz hZ)
  have HB := hide hbZ
  have i0 := widx0
  have i1 := widx1
  have i2 := widx2
  have i3 := widx3
  clear hT hbZ hZ hsz
  go_enter Tryd.func45, Tryd.ntmps45
  go_wp2_with (refine wpList_load_row rfl 109 _ rfl 0 rfl tk _ fr _ (unhide HT) Tryd.underlying109 rfl (by kernel_rfl) ?_)
  go_loopw [7] (fun ii wr => ∃ k : Nat, k ≤ 1 ∧ ii = .int .i64 (k : Int) ∧ Hid (Below wA.heap.size wA wr)) (fun ii _ => 4 - (intOf ii).toNat)
  case atStart => exact ⟨0, by omega, rfl, Below.refl _ _⟩
  case round =>
    obtain ⟨k, hk, rfl, HW⟩ := hrel
    rename World => wc
    have HWa := hide (fun o : Obj => (unhide HW).alloc (unhide HW).size o)
    have hZc : wc.heap[w0.heap.size]? = some (.cells #[.int .i64 0, .int .i64 0, .int .i64 0, .int .i64 0] 52 (0, 0)) := ((unhide HW).block _ (unhide HZ).1).trans (unhide HZ).2
    have hltc : w0.heap.size < wc.heap.size := Nat.lt_of_lt_of_le (unhide HZ).1 (unhide HW).size
    have z0 : wc.cell? ⟨w0.heap.size, 0, none⟩ = some (.int .i64 0) := cell_of_row wc w0.heap.size 0 _ 52 (0, 0) hZc
    have z1 : wc.cell? ⟨w0.heap.size, 1, none⟩ = some (.int .i64 0) := cell_of_row wc w0.heap.size 1 _ 52 (0, 0) hZc
    have z2 : wc.cell? ⟨w0.heap.size, 2, none⟩ = some (.int .i64 0) := cell_of_row wc w0.heap.size 2 _ 52 (0, 0) hZc
    have z3 : wc.cell? ⟨w0.heap.size, 3, none⟩ = some (.int .i64 0) := cell_of_row wc w0.heap.size 3 _ 52 (0, 0) hZc
    have fz := fun j => AggAt.fz hZc j
    have hne : w0.heap.size ≠ wc.heap.size := by omega
    clear hZc
    obtain rfl | rfl : k = 0 ∨ k = 1 := by omega
    · have HWn := hide (unhide HWa (.cells #[.int .i64 1, .int .i64 1, .int .i64 265, .int .i64 7] 52))
      go_wp2
      go_roundw
      case rel =>
        first
          | exact ⟨1, by omega, by go_num, HWn⟩
          | ((repeat apply Exists.intro); exact ⟨⟨1, by omega, by go_num, HWn⟩, rfl⟩)
      case measure => simp [intOf]
    · have HF : Hid (Below w0.heap.size w0 ((((((wc).setCell ⟨w0.heap.size, 0, none⟩ (.int .i64 2)).setCell ⟨w0.heap.size, 1, none⟩ (.int .i64 2)).setCell ⟨w0.heap.size, 2, none⟩ (.int .i64 133)).setCell ⟨w0.heap.size, 3, none⟩ (.int .i64 6)).alloc (.cells #[.int .i64 2, .int .i64 2, .int .i64 133, .int .i64 6] 52))) := hide ((fun (h : Below _ _ _) => h.alloc h.size _) ((((((unhide HB).trans ((unhide HW).mono (unhide HB).size)).setCell (Nat.le_refl _) _).setCell (Nat.le_refl _) _).setCell (Nat.le_refl _) _).setCell (Nat.le_refl _) _))
      go_wp2
      exact bodyPost_ret (v := .tuple #[.agg #[.int .i64 2, .int .i64 2, .int .i64 133, .int .i64 6], .bool true]) (by simp [results, Tryd.results45, go_sem, z0, z1, z2, z3, hltc]) rfl ⟨rfl, unhide HF⟩
set_option maxRecDepth 100000 in
set_option maxHeartbeats 2000000 in
theorem wbits_2 (w0 : World) (hW : WidAt w0)  : Calls Tryd.prog 45 #[.int .i64 4] w0 fun e w' => e = .returned (.tuple #[.agg #[.int .i64 4, .int .i64 3, .int .i64 67, .int .i64 4], .bool true]) ∧ Below w0.heap.size w0 w' := by
  obtain ⟨tk, fr, hT⟩ := hW
  have hlt : 0 < w0.heap.size := (Array.getElem?_eq_some_iff.1 hT).1
  have hbZ : Below w0.heap.size w0 (w0.alloc (.cells #[.int .i64 0, .int .i64 0, .int .i64 0, .int .i64 0] 52)) := (Below.refl _ _).alloc (Nat.le_refl _) _
  have hZ := heap_alloc_new w0 (.cells #[.int .i64 0, .int .i64 0, .int .i64 0, .int .i64 0] 52)
  have hsz : w0.heap.size < (w0.alloc (.cells #[.int .i64 0, .int .i64 0, .int .i64 0, .int .i64 0] 52)).heap.size := by simp
  obtain ⟨wA, hwA⟩ : ∃ wA, w0.alloc (.cells #[.int .i64 0, .int .i64 0, .int .i64 0, .int .i64 0] 52) = wA := ⟨_, rfl⟩
  rw [hwA] at hbZ hZ hsz
  have HT : Hid (wA.heap[0]? = some (.cells #[.int .i64 1, .int .i64 1, .int .i64 265, .int .i64 7, .int .i64 2, .int .i64 2, .int .i64 133, .int .i64 6, .int .i64 4, .int .i64 3, .int .i64 67, .int .i64 4, .int .i64 8, .int .i64 4, .int .i64 34, .int .i64 0] tk fr)) := hide ((hbZ.block _ hlt).trans hT)
  have HZ := hide (And.intro hsz hZ)
  have HB := hide hbZ
  have i0 := widx0
  have i1 := widx1
  have i2 := widx2
  have i3 := widx3
  clear hT hbZ hZ hsz
  go_enter Tryd.func45, Tryd.ntmps45
  go_wp2_with (refine wpList_load_row rfl 109 _ rfl 0 rfl tk _ fr _ (unhide HT) Tryd.underlying109 rfl (by kernel_rfl) ?_)
  go_loopw [7] (fun ii wr => ∃ k : Nat, k ≤ 2 ∧ ii = .int .i64 (k : Int) ∧ Hid (Below wA.heap.size wA wr)) (fun ii _ => 4 - (intOf ii).toNat)
  case atStart => exact ⟨0, by omega, rfl, Below.refl _ _⟩
  case round =>
    obtain ⟨k, hk, rfl, HW⟩ := hrel
    rename World => wc
    have HWa := hide (fun o : Obj => (unhide HW).alloc (unhide HW).size o)
    have hZc : wc.heap[w0.heap.size]? = some (.cells #[.int .i64 0, .int .i64 0, .int .i64 0, .int .i64 0] 52 (0, 0)) := ((unhide HW).block _ (unhide HZ).1).trans (unhide HZ).2
    have hltc : w0.heap.size < wc.heap.size := Nat.lt_of_lt_of_le (unhide HZ).1 (unhide HW).size
    have z0 : wc.cell? ⟨w0.heap.size, 0, none⟩ = some (.int .i64 0) := cell_of_row wc w0.heap.size 0 _ 52 (0, 0) hZc
    have z1 : wc.cell? ⟨w0.heap.size, 1, none⟩ = some (.int .i64 0) := cell_of_row wc w0.heap.size 1 _ 52 (0, 0) hZc
    have z2 : wc.cell? ⟨w0.heap.size, 2, none⟩ = some (.int .i64 0) := cell_of_row wc w0.heap.size 2 _ 52 (0, 0) hZc
    have z3 : wc.cell? ⟨w0.heap.size, 3, none⟩ = some (.int .i64 0) := cell_of_row wc w0.heap.size 3 _ 52 (0, 0) hZc
    have fz := fun j => AggAt.fz hZc j
    have hne : w0.heap.size ≠ wc.heap.size := by omega
    clear hZc
    obtain rfl | rfl | rfl : k = 0 ∨ k = 1 ∨ k = 2 := by omega
    · have HWn := hide (unhide HWa (.cells #[.int .i64 1, .int .i64 1, .int .i64 265, .int .i64 7] 52))
      go_wp2
      go_roundw
      case rel =>
        first
          | exact ⟨1, by omega, by go_num, HWn⟩
          | ((repeat apply Exists.intro); exact ⟨⟨1, by omega, by go_num, HWn⟩, rfl⟩)
      case measure => simp [intOf]
    · have HWn := hide (unhide HWa (.cells #[.int .i64 2, .int .i64 2, .int .i64 133, .int .i64 6] 52))
      go_wp2
      go_roundw
      case rel =>
        first
          | exact ⟨2, by omega, by go_num, HWn⟩
          | ((repeat apply Exists.intro); exact ⟨⟨2, by omega, by go_num, HWn⟩, rfl⟩)
      case measure => simp [intOf]
    · have HF : Hid (Below w0.heap.size w0 ((((((wc).setCell ⟨w0.heap.size, 0, none⟩ (.int .i64 4)).setCell ⟨w0.heap.size, 1, none⟩ (.int .i64 3)).setCell ⟨w0.heap.size, 2, none⟩ (.int .i64 67)).setCell ⟨w0.heap.size, 3, none⟩ (.int .i64 4)).alloc (.cells #[.int .i64 4, .int .i64 3, .int .i64 67, .int .i64 4] 52))) := hide ((fun (h : Below _ _ _) => h.alloc h.size _) ((((((unhide HB).trans ((unhide HW).mono (unhide HB).size)).setCell (Nat.le_refl _) _).setCell (Nat.le_refl _) _).setCell (Nat.le_refl _) _).setCell (Nat.le_refl _) _))
      go_wp2
      exact bodyPost_ret (v := .tuple #[.agg #[.int .i64 4, .int .i64 3, .int .i64 67, .int .i64 4], .bool true]) (by simp [results, Tryd.results45, go_sem, z0, z1, z2, z3, hltc]) rfl ⟨rfl, unhide HF⟩
set_option maxRecDepth 100000 in
set_option maxHeartbeats 2000000 in
theorem wbits_3 (w0 : World) (hW : WidAt w0)  : Calls Tryd.prog 45 #[.int .i64 8] w0 fun e w' => e = .returned (.tuple #[.agg #[.int .i64 8, .int .i64 4, .int .i64 34, .int .i64 0], .bool true]) ∧ Below w0.heap.size w0 w' := by
  obtain ⟨tk, fr, hT⟩ := hW
  have hlt : 0 < w0.heap.size := (Array.getElem?_eq_some_iff.1 hT).1
  have hbZ : Below w0.heap.size w0 (w0.alloc (.cells #[.int .i64 0, .int .i64 0, .int .i64 0, .int .i64 0] 52)) := (Below.refl _ _).alloc (Nat.le_refl _) _
  have hZ := heap_alloc_new w0 (.cells #[.int .i64 0, .int .i64 0, .int .i64 0, .int .i64 0] 52)
  have hsz : w0.heap.size < (w0.alloc (.cells #[.int .i64 0, .int .i64 0, .int .i64 0, .int .i64 0] 52)).heap.size := by simp
  obtain ⟨wA, hwA⟩ : ∃ wA, w0.alloc (.cells #[.int .i64 0, .int .i64 0, .int .i64 0, .int .i64 0] 52) = wA := ⟨_, rfl⟩
  rw [hwA] at hbZ hZ hsz
  have HT : Hid (wA.heap[0]? = some (.cells #[.int .i64 1, .int .i64 1, .int .i64 265, .int .i64 7, .int .i64 2, .int .i64 2, .int .i64 133, .int .i64 6, .int .i64 4, .int .i64 3, .int .i64 67, .int .i64 4, .int .i64 8, .int .i64 4, .int .i64 34, .int .i64 0] tk fr)) := hide ((hbZ.block _ hlt).trans hT)
  have HZ := hide (And.intro hsz hZ)
  have HB := hide hbZ
  have i0 := widx0
  have i1 := widx1
  have i2 := widx2
  have i3 := widx3
  clear hT hbZ hZ hsz
  go_enter Tryd.func45, Tryd.ntmps45
  go_wp2_with (refine wpList_load_row rfl 109 _ rfl 0 rfl tk _ fr _ (unhide HT) Tryd.underlying109 rfl (by kernel_rfl) ?_)
  go_loopw [7] (fun ii wr => ∃ k : Nat, k ≤ 3 ∧ ii = .int .i64 (k : Int) ∧ Hid (Below wA.heap.size wA wr)) (fun ii _ => 4 - (intOf ii).toNat)
  case atStart => exact ⟨0, by omega, rfl, Below.refl _ _⟩
  case round =>
    obtain ⟨k, hk, rfl, HW⟩ := hrel
    rename World => wc
    have HWa := hide (fun o : Obj => (unhide HW).alloc (unhide HW).size o)
    have hZc : wc.heap[w0.heap.size]? = some (.cells #[.int .i64 0, .int .i64 0, .int .i64 0, .int .i64 0] 52 (0, 0)) := ((unhide HW).block _ (unhide HZ).1).trans (unhide HZ).2
    have hltc : w0.heap.size < wc.heap.size := Nat.lt_of_lt_of_le (unhide HZ).1 (unhide HW).size
    have z0 : wc.cell? ⟨w0.heap.size, 0, none⟩ = some (.int .i64 0) := cell_of_row wc w0.heap.size 0 _ 52 (0, 0) hZc
    have z1 : wc.cell? ⟨w0.heap.size, 1, none⟩ = some (.int .i64 0) := cell_of_row wc w0.heap.size 1 _ 52 (0, 0) hZc
    have z2 : wc.cell? ⟨w0.heap.size, 2, none⟩ = some (.int .i64 0) := cell_of_row wc w0.heap.size 2 _ 52 (0, 0) hZc
    have z3 : wc.cell? ⟨w0.heap.size, 3, none⟩ = some (.int .i64 0) := cell_of_row wc w0.heap.size 3 _ 52 (0, 0) hZc
    have fz := fun j => AggAt.fz hZc j
    have hne : w0.heap.size ≠ wc.heap.size := by omega
    clear hZc
    obtain rfl | rfl | rfl | rfl : k = 0 ∨ k = 1 ∨ k = 2 ∨ k = 3 := by omega
    · have HWn := hide (unhide HWa (.cells #[.int .i64 1, .int .i64 1, .int .i64 265, .int .i64 7] 52))
      go_wp2
      go_roundw
      case rel =>
        first
          | exact ⟨1, by omega, by go_num, HWn⟩
          | ((repeat apply Exists.intro); exact ⟨⟨1, by omega, by go_num, HWn⟩, rfl⟩)
      case measure => simp [intOf]
    · have HWn := hide (unhide HWa (.cells #[.int .i64 2, .int .i64 2, .int .i64 133, .int .i64 6] 52))
      go_wp2
      go_roundw
      case rel =>
        first
          | exact ⟨2, by omega, by go_num, HWn⟩
          | ((repeat apply Exists.intro); exact ⟨⟨2, by omega, by go_num, HWn⟩, rfl⟩)
      case measure => simp [intOf]
    · have HWn := hide (unhide HWa (.cells #[.int .i64 4, .int .i64 3, .int .i64 67, .int .i64 4] 52))
      go_wp2
      go_roundw
      case rel =>
        first
          | exact ⟨3, by omega, by go_num, HWn⟩
          | ((repeat apply Exists.intro); exact ⟨⟨3, by omega, by go_num, HWn⟩, rfl⟩)
      case measure => simp [intOf]
    · have HF : Hid (Below w0.heap.size w0 ((((((wc).setCell ⟨w0.heap.size, 0, none⟩ (.int .i64 8)).setCell ⟨w0.heap.size, 1, none⟩ (.int .i64 4)).setCell ⟨w0.heap.size, 2, none⟩ (.int .i64 34)).setCell ⟨w0.heap.size, 3, none⟩ (.int .i64 0)).alloc (.cells #[.int .i64 8, .int .i64 4, .int .i64 34, .int .i64 0] 52))) := hide ((fun (h : Below _ _ _) => h.alloc h.size _) ((((((unhide HB).trans ((unhide HW).mono (unhide HB).size)).setCell (Nat.le_refl _) _).setCell (Nat.le_refl _) _).setCell (Nat.le_refl _) _).setCell (Nat.le_refl _) _))
      go_wp2
      exact bodyPost_ret (v := .tuple #[.agg #[.int .i64 8, .int .i64 4, .int .i64 34, .int .i64 0], .bool true]) (by simp [results, Tryd.results45, go_sem, z0, z1, z2, z3, hltc]) rfl ⟨rfl, unhide HF⟩
set_option maxRecDepth 100000 in
set_option maxHeartbeats 2000000 in
theorem wbits_4 (w0 : World) (hW : WidAt w0) (x : Int) (d0 : ((1 : Int) == x) = false) (d1 : ((2 : Int) == x) = false) (d2 : ((4 : Int) == x) = false) (d3 : ((8 : Int) == x) = false) : Calls Tryd.prog 45 #[.int .i64 x] w0 fun e w' => e = .returned (.tuple #[.agg #[.int .i64 0, .int .i64 0, .int .i64 0, .int .i64 0], .bool false]) ∧ Below w0.heap.size w0 w' := by
  obtain ⟨tk, fr, hT⟩ := hW
  have hlt : 0 < w0.heap.size := (Array.getElem?_eq_some_iff.1 hT).1
  have hbZ : Below w0.heap.size w0 (w0.alloc (.cells #[.int .i64 0, .int .i64 0, .int .i64 0, .int .i64 0] 52)) := (Below.refl _ _).alloc (Nat.le_refl _) _
  have hZ := heap_alloc_new w0 (.cells #[.int .i64 0, .int .i64 0, .int .i64 0, .int .i64 0] 52)
  have hsz : w0.heap.size < (w0.alloc (.cells #[.int .i64 0, .int .i64 0, .int .i64 0, .int .i64 0] 52)).heap.size := by simp
  obtain ⟨wA, hwA⟩ : ∃ wA, w0.alloc (.cells #[.int .i64 0, .int .i64 0, .int .i64 0, .int .i64 0] 52) = wA := ⟨_, rfl⟩
  rw [hwA] at hbZ hZ hsz
  have HT : Hid (wA.heap[0]? = some (.cells #[.int .i64 1, .int .i64 1, .int .i64 265, .int .i64 7, .int .i64 2, .int .i64 2, .int .i64 133, .int .i64 6, .int .i64 4, .int .i64 3, .int .i64 67, .int .i64 4, .int .i64 8, .int .i64 4, .int .i64 34, .int .i64 0] tk fr)) := hide ((hbZ.block _ hlt).trans hT)
  have HZ := hide (And.intro hsz hZ)
  have HB := hide hbZ
  have i0 := widx0
  have i1 := widx1
  have i2 := widx2
  have i3 := widx3
  clear hT hbZ hZ hsz
  go_enter Tryd.func45, Tryd.ntmps45
  go_wp2_with (refine wpList_load_row rfl 109 _ rfl 0 rfl tk _ fr _ (unhide HT) Tryd.underlying109 rfl (by kernel_rfl) ?_)
  go_loopw [7] (fun ii wr => ∃ k : Nat, k ≤ 4 ∧ ii = .int .i64 (k : Int) ∧ Hid (Below wA.heap.size wA wr)) (fun ii _ => 4 - (intOf ii).toNat)
  case atStart => exact ⟨0, by omega, rfl, Below.refl _ _⟩
  case round =>
    obtain ⟨k, hk, rfl, HW⟩ := hrel
    rename World => wc
    have HWa := hide (fun o : Obj => (unhide HW).alloc (unhide HW).size o)
    have hZc : wc.heap[w0.heap.size]? = some (.cells #[.int .i64 0, .int .i64 0, .int .i64 0, .int .i64 0] 52 (0, 0)) := ((unhide HW).block _ (unhide HZ).1).trans (unhide HZ).2
    have hltc : w0.heap.size < wc.heap.size := Nat.lt_of_lt_of_le (unhide HZ).1 (unhide HW).size
    have z0 : wc.cell? ⟨w0.heap.size, 0, none⟩ = some (.int .i64 0) := cell_of_row wc w0.heap.size 0 _ 52 (0, 0) hZc
    have z1 : wc.cell? ⟨w0.heap.size, 1, none⟩ = some (.int .i64 0) := cell_of_row wc w0.heap.size 1 _ 52 (0, 0) hZc
    have z2 : wc.cell? ⟨w0.heap.size, 2, none⟩ = some (.int .i64 0) := cell_of_row wc w0.heap.size 2 _ 52 (0, 0) hZc
    have z3 : wc.cell? ⟨w0.heap.size, 3, none⟩ = some (.int .i64 0) := cell_of_row wc w0.heap.size 3 _ 52 (0, 0) hZc
    have fz := fun j => AggAt.fz hZc j
    have hne : w0.heap.size ≠ wc.heap.size := by omega
    clear hZc
    obtain rfl | rfl | rfl | rfl | rfl : k = 0 ∨ k = 1 ∨ k = 2 ∨ k = 3 ∨ k = 4 := by omega
    · have HWn := hide (unhide HWa (.cells #[.int .i64 1, .int .i64 1, .int .i64 265, .int .i64 7] 52))
      go_wp2
      go_roundw
      case rel =>
        first
          | exact ⟨1, by omega, by go_num, HWn⟩
          | ((repeat apply Exists.intro); exact ⟨⟨1, by omega, by go_num, HWn⟩, rfl⟩)
      case measure => simp [intOf]
    · have HWn := hide (unhide HWa (.cells #[.int .i64 2, .int .i64 2, .int .i64 133, .int .i64 6] 52))
      go_wp2
      go_roundw
      case rel =>
        first
          | exact ⟨2, by omega, by go_num, HWn⟩
          | ((repeat apply Exists.intro); exact ⟨⟨2, by omega, by go_num, HWn⟩, rfl⟩)
      case measure => simp [intOf]
    · have HWn := hide (unhide HWa (.cells #[.int .i64 4, .int .i64 3, .int .i64 67, .int .i64 4] 52))
      go_wp2
      go_roundw
      case rel =>
        first
          | exact ⟨3, by omega, by go_num, HWn⟩
          | ((repeat apply Exists.intro); exact ⟨⟨3, by omega, by go_num, HWn⟩, rfl⟩)
      case measure => simp [intOf]
    · have HWn := hide (unhide HWa (.cells #[.int .i64 8, .int .i64 4, .int .i64 34, .int .i64 0] 52))
      go_wp2
      go_roundw
      case rel =>
        first
          | exact ⟨4, by omega, by go_num, HWn⟩
          | ((repeat apply Exists.intro); exact ⟨⟨4, by omega, by go_num, HWn⟩, rfl⟩)
      case measure => simp [intOf]
    · have HF : Hid (Below w0.heap.size w0 (((((wc).setCell ⟨w0.heap.size, 0, none⟩ (.int .i64 0)).setCell ⟨w0.heap.size, 1, none⟩ (.int .i64 0)).setCell ⟨w0.heap.size, 2, none⟩ (.int .i64 0)).setCell ⟨w0.heap.size, 3, none⟩ (.int .i64 0))) := hide (((((((unhide HB).trans ((unhide HW).mono (unhide HB).size)).setCell (Nat.le_refl _) _).setCell (Nat.le_refl _) _).setCell (Nat.le_refl _) _).setCell (Nat.le_refl _) _))
      go_wp2
      exact bodyPost_ret (v := .tuple #[.agg #[.int .i64 0, .int .i64 0, .int .i64 0, .int .i64 0], .bool false]) (by simp [results, Tryd.results45, go_sem, z0, z1, z2, z3]) rfl ⟨rfl, unhide HF⟩
set_option maxRecDepth 100000 in
set_option maxHeartbeats 2000000 in
theorem wkind_0 (w0 : World) (hW : WidAt w0)  : Calls Tryd.prog 79 #[.int .i64 1] w0 fun e w' => e = .returned (.tuple #[.agg #[.int .i64 1, .int .i64 1, .int .i64 265, .int .i64 7], .bool true]) ∧ Below w0.heap.size w0 w' := by
  obtain ⟨tk, fr, hT⟩ := hW
  have hlt : 0 < w0.heap.size := (Array.getElem?_eq_some_iff.1 hT).1
  have hbZ : Below w0.heap.size w0 (w0.alloc (.cells #[.int .i64 0, .int .i64 0, .int .i64 0, .int .i64 0] 52)) := (Below.refl _ _).alloc (Nat.le_refl _) _
  have hZ := heap_alloc_new w0 (.cells #[.int .i64 0, .int .i64 0, .int .i64 0, .int .i64 0] 52)
  have hsz : w0.heap.size < (w0.alloc (.cells #[.int .i64 0, .int .i64 0, .int .i64 0, .int .i64 0] 52)).heap.size := by simp
  obtain ⟨wA, hwA⟩ : ∃ wA, w0.alloc (.cells #[.int .i64 0, .int .i64 0, .int .i64 0, .int .i64 0] 52) = wA := ⟨_, rfl⟩
  rw [hwA] at hbZ hZ hsz
  have HT : Hid (wA.heap[0]? = some (.cells #[.int .i64 1, .int .i64 1, .int .i64 265, .int .i64 7, .int .i64 2, .int .i64 2, .int .i64 133, .int .i64 6, .int .i64 4, .int .i64 3, .int .i64 67, .int .i64 4, .int .i64 8, .int .i64 4, .int .i64 34, .int .i64 0] tk fr)) := hide ((hbZ.block _ hlt).trans hT)
  have HZ := hide (And.intro hsz hZ)
  have HB := hide hbZ
  have i0 := widx0
  have i1 := widx1
  have i2 := widx2
  have i3 := widx3
  clear hT hbZ hZ hsz
  go_enter Tryd.func79, Tryd.ntmps79
  go_wp2_with (refine wpList_load_row rfl 109 _ rfl 0 rfl tk _ fr _ (unhide HT) Tryd.underlying109 rfl (by kernel_rfl) ?_)
  go_loopw [7] (fun ii wr => ∃ k : Nat, k ≤ 0 ∧ ii = .int .i64 (k : Int) ∧ Hid (Below wA.heap.size wA wr)) (fun ii _ => 4 - (intOf ii).toNat)
  case atStart => exact ⟨0, by omega, rfl, Below.refl _ _⟩
  case round =>
    obtain ⟨k, hk, rfl, HW⟩ := hrel
    rename World => wc
    have HWa := hide (fun o : Obj => (unhide HW).alloc (unhide HW).size o)
    have hZc : wc.heap[w0.heap.size]? = some (.cells #[.int .i64 0, .int .i64 0, .int .i64 0, .int .i64 0] 52 (0, 0)) := ((unhide HW).block _ (unhide HZ).1).trans (unhide HZ).2
    have hltc : w0.heap.size < wc.heap.size := Nat.lt_of_lt_of_le (unhide HZ).1 (unhide HW).size
    have z0 : wc.cell? ⟨w0.heap.size, 0, none⟩ = some (.int .i64 0) := cell_of_row wc w0.heap.size 0 _ 52 (0, 0) hZc
    have z1 : wc.cell? ⟨w0.heap.size, 1, none⟩ = some (.int .i64 0) := cell_of_row wc w0.heap.size 1 _ 52 (0, 0) hZc
    have z2 : wc.cell? ⟨w0.heap.size, 2, none⟩ = some (.int .i64 0) := cell_of_row wc w0.heap.size 2 _ 52 (0, 0) hZc
    have z3 : wc.cell? ⟨w0.heap.size, 3, none⟩ = some (.int .i64 0) := cell_of_row wc w0.heap.size 3 _ 52 (0, 0) hZc
    have fz := fun j => AggAt.fz hZc j
    have hne : w0.heap.size ≠ wc.heap.size := by omega
    clear hZc
    obtain rfl : k = 0 := by omega
    · have HF : Hid (Below w0.heap.size w0 ((((((wc).setCell ⟨w0.heap.size, 0, none⟩ (.int .i64 1)).setCell ⟨w0.heap.size, 1, none⟩ (.int .i64 1)).setCell ⟨w0.heap.size, 2, none⟩ (.int .i64 265)).setCell ⟨w0.heap.size, 3, none⟩ (.int .i64 7)).alloc (.cells #[.int .i64 1, .int .i64 1, .int .i64 265, .int .i64 7] 52))) := hide ((fun (h : Below _ _ _) => h.alloc h.size _) ((((((unhide HB).trans ((unhide HW).mono (unhide HB).size)).setCell (Nat.le_refl _) _).setCell (Nat.le_refl _) _).setCell (Nat.le_refl _) _).setCell (Nat.le_refl _) _))
      go_wp2
      exact bodyPost_ret (v := .tuple #[.agg #[.int .i64 1, .int .i64 1, .int .i64 265, .int .i64 7], .bool true]) (by simp [results, Tryd.results79, go_sem, z0, z1, z2, z3, hltc]) rfl ⟨rfl, unhide HF⟩
set_option maxRecDepth 100000 in
set_option maxHeartbeats 2000000 in
theorem wkind_1 (w0 : World) (hW : WidAt w0)  : Calls Tryd.prog 79 #[.int .i64 2] w0 fun e w' => e = .returned (.tuple #[.agg #[.int .i64 2, .int .i64 2, .int .i64 133, .int .i64 6], .bool true]) ∧ Below w0.heap.size w0 w' := by
  obtain ⟨tk, fr, hT⟩ := hW
  have hlt : 0 < w0.heap.size := (Array.getElem?_eq_some_iff.1 hT).1
  have hbZ : Below w0.heap.size w0 (w0.alloc (.cells #[.int .i64 0, .int .i64 0, .int .i64 0, .int .i64 0] 52)) := (Below.refl _ _).alloc (Nat.le_refl _) _
  have hZ := heap_alloc_new w0 (.cells #[.int .i64 0, .int .i64 0, .int .i64 0, .int .i64 0] 52)
  have hsz : w0.heap.size < (w0.alloc (.cells #[.int .i64 0, .int .i64 0, .int .i64 0, .int .i64 0] 52)).heap.size := by simp
  obtain ⟨wA, hwA⟩ : ∃ wA, w0.alloc (.cells #[.int .i64 0, .int .i64 0, .int .i64 0, .int .i64 0] 52) = wA := ⟨_, rfl⟩
  rw [hwA] at hbZ hZ hsz
  have HT : Hid (wA.heap[0]? = some (.cells #[.int .i64 1, .int .i64 1, .int .i64 265, .int .i64 7, .int .i64 2, .int .i64 2, .int .i64 133, .int .i64 6, .int .i64 4, .int .i64 3, .int .i64 67, .int .i64 4, .int .i64 8, .int .i64 4, .int .i64 34, .int .i64 0] tk fr)) := hide ((hbZ.block _ hlt).trans hT)
  have HZ := hide (And.intro hsz hZ)
  have HB := hide hbZ
  have i0 := widx0
  have i1 := widx1
  have i2 := widx2
  have i3 := widx3
  clear hT hbZ hZ hsz
  go_enter Tryd.func79, Tryd.ntmps79
  go_wp2_with (refine wpList_load_row rfl 109 _ rfl 0 rfl tk _ fr _ (unhide HT) Tryd.underlying109 rfl (by kernel_rfl) ?_)
  go_loopw [7] (fun ii wr => ∃ k : Nat, k ≤ 1 ∧ ii = .int .i64 (k : Int) ∧ Hid (Below wA.heap.size wA wr)) (fun ii _ => 4 - (intOf ii).toNat)
  case atStart => exact ⟨0, by omega, rfl, Below.refl _ _⟩
  case round =>
    obtain ⟨k, hk, rfl, HW⟩ := hrel
    rename World => wc
    have HWa := hide (fun o : Obj => (unhide HW).alloc (unhide HW).size o)
    have hZc : wc.heap[w0.heap.size]? = some (.cells #[.int .i64 0, .int .i64 0, .int .i64 0, .int .i64 0] 52 (0, 0)) := ((unhide HW).block _ (unhide HZ).1).trans (unhide HZ).2
    have hltc : w0.heap.size < wc.heap.size := Nat.lt_of_lt_of_le (unhide HZ).1 (unhide HW).size
    have z0 : wc.cell? ⟨w0.heap.size, 0, none⟩ = some (.int .i64 0) := cell_of_row wc w0.heap.size 0 _ 52 (0, 0) hZc
    have z1 : wc.cell? ⟨w0.heap.size, 1, none⟩ = some (.int .i64 0) := cell_of_row wc w0.heap.size 1 _ 52 (0, 0) hZc
    have z2 : wc.cell? ⟨w0.heap.size, 2, none⟩ = some (.int .i64 0) := cell_of_row wc w0.heap.size 2 _ 52 (0, 0) hZc
    have z3 : wc.cell? ⟨w0.heap.size, 3, none⟩ = some (.int .i64 0) := cell_of_row wc w0.heap.size 3 _ 52 (0, 0) hZc
    have fz := fun j => AggAt.fz hZc j
    have hne : w0.heap.size ≠ wc.heap.size := by omega
    clear hZc
    obtain rfl | rfl : k = 0 ∨ k = 1 := by omega
    · have HWn := hide (unhide HWa (.cells #[.int .i64 1, .int .i64 1, .int .i64 265, .int .i64 7] 52))
      go_wp2
      go_roundw
      case rel =>
        first
          | exact ⟨1, by omega, by go_num, HWn⟩
          | ((repeat apply Exists.intro); exact ⟨⟨1, by omega, by go_num, HWn⟩, rfl⟩)
      case measure => simp [intOf]
    · have HF : Hid (Below w0.heap.size w0 ((((((wc).setCell ⟨w0.heap.size, 0, none⟩ (.int .i64 2)).setCell ⟨w0.heap.size, 1, none⟩ (.int .i64 2)).setCell ⟨w0.heap.size, 2, none⟩ (.int .i64 133)).setCell ⟨w0.heap.size, 3, none⟩ (.int .i64 6)).alloc (.cells #[.int .i64 2, .int .i64 2, .int .i64 133, .int .i64 6] 52))) := hide ((fun (h : Below _ _ _) => h.alloc h.size _) ((((((unhide HB).trans ((unhide HW).mono (unhide HB).size)).setCell (Nat.le_refl _) _).setCell (Nat.le_refl _) _).setCell (Nat.le_refl _) _).setCell (Nat.le_refl _) _))
      go_wp2
      exact bodyPost_ret (v := .tuple #[.agg #[.int .i64 2, .int .i64 2, .int .i64 133, .int .i64 6], .bool true]) (by simp [results, Tryd.results79, go_sem, z0, z1, z2, z3, hltc]) rfl ⟨rfl, unhide HF⟩
set_option maxRecDepth 100000 in
set_option maxHeartbeats 2000000 in
theorem wkind_2 (w0 : World) (hW : WidAt w0)  : Calls Tryd.prog 79 #[.int .i64 3] w0 fun e w' => e = .returned (.tuple #[.agg #[.int .i64 4, .int .i64 3, .int .i64 67, .int .i64 4], .bool true]) ∧ Below w0.heap.size w0 w' := by
  obtain ⟨tk, fr, hT⟩ := hW
  have hlt : 0 < w0.heap.size := (Array.getElem?_eq_some_iff.1 hT).1
  have hbZ : Below w0.heap.size w0 (w0.alloc (.cells #[.int .i64 0, .int .i64 0, .int .i64 0, .int .i64 0] 52)) := (Below.refl _ _).alloc (Nat.le_refl _) _
  have hZ := heap_alloc_new w0 (.cells #[.int .i64 0, .int .i64 0, .int .i64 0, .int .i64 0] 52)
  have hsz : w0.heap.size < (w0.alloc (.cells #[.int .i64 0, .int .i64 0, .int .i64 0, .int .i64 0] 52)).heap.size := by simp
  obtain ⟨wA, hwA⟩ : ∃ wA, w0.alloc (.cells #[.int .i64 0, .int .i64 0, .int .i64 0, .int .i64 0] 52) = wA := ⟨_, rfl⟩
  rw [hwA] at hbZ hZ hsz
  have HT : Hid (wA.heap[0]? = some (.cells #[.int .i64 1, .int .i64 1, .int .i64 265, .int .i64 7, .int .i64 2, .int .i64 2, .int .i64 133, .int .i64 6, .int .i64 4, .int .i64 3, .int .i64 67, .int .i64 4, .int .i64 8, .int .i64 4, .int .i64 34, .int .i64 0] tk fr)) := hide ((hbZ.block _ hlt).trans hT)
  have HZ := hide (And.intro hsz hZ)
  have HB := hide hbZ
  have i0 := widx0
  have i1 := widx1
  have i2 := widx2
  have i3 := widx3
  clear hT hbZ hZ hsz
  go_enter Tryd.func79, Tryd.ntmps79
  go_wp2_with (refine wpList_load_row rfl 109 _ rfl 0 rfl tk _ fr _ (unhide HT) Tryd.underlying109 rfl (by kernel_rfl) ?_)
  go_loopw [7] (fun ii wr => ∃ k : Nat, k ≤ 2 ∧ ii = .int .i64 (k : Int) ∧ Hid (Below wA.heap.size wA wr)) (fun ii _ => 4 - (intOf ii).toNat)
  case atStart => exact ⟨0, by omega, rfl, Below.refl _ _⟩
  case round =>
    obtain ⟨k, hk, rfl, HW⟩ := hrel
    rename World => wc
    have HWa := hide (fun o : Obj => (unhide HW).alloc (unhide HW).size o)
    have hZc : wc.heap[w0.heap.size]? = some (.cells #[.int .i64 0, .int .i64 0, .int .i64 0, .int .i64 0] 52 (0, 0)) := ((unhide HW).block _ (unhide HZ).1).trans (unhide HZ).2
    have hltc : w0.heap.size < wc.heap.size := Nat.lt_of_lt_of_le (unhide HZ).1 (unhide HW).size
    have z0 : wc.cell? ⟨w0.heap.size, 0, none⟩ = some (.int .i64 0) := cell_of_row wc w0.heap.size 0 _ 52 (0, 0) hZc
    have z1 : wc.cell? ⟨w0.heap.size, 1, none⟩ = some (.int .i64 0) := cell_of_row wc w0.heap.size 1 _ 52 (0, 0) hZc
    have z2 : wc.cell? ⟨w0.heap.size, 2, none⟩ = some (.int .i64 0) := cell_of_row wc w0.heap.size 2 _ 52 (0, 0) hZc
    have z3 : wc.cell? ⟨w0.heap.size, 3, none⟩ = some (.int .i64 0) := cell_of_row wc w0.heap.size 3 _ 52 (0, 0) hZc
    have fz := fun j => AggAt.fz hZc j
    have hne : w0.heap.size ≠ wc.heap.size := by omega
    clear hZc
    obtain rfl | rfl | rfl : k = 0 ∨ k = 1 ∨ k = 2 := by omega
    · have HWn := hide (unhide HWa (.cells #[.int .i64 1, .int .i64 1, .int .i64 265, .int .i64 7] 52))
      go_wp2
      go_roundw
      case rel =>
        first
          | exact ⟨1, by omega, by go_num, HWn⟩
          | ((repeat apply Exists.intro); exact ⟨⟨1, by omega, by go_num, HWn⟩, rfl⟩)
      case measure => simp [intOf]
    · have HWn := hide (unhide HWa (.cells #[.int .i64 2, .int .i64 2, .int .i64 133, .int .i64 6] 52))
      go_wp2
      go_roundw
      case rel =>
        first
          | exact ⟨2, by omega, by go_num, HWn⟩
          | ((repeat apply Exists.intro); exact ⟨⟨2, by omega, by go_num, HWn⟩, rfl⟩)
      case measure => simp [intOf]
    · have HF : Hid (Below w0.heap.size w0 ((((((wc).setCell ⟨w0.heap.size, 0, none⟩ (.int .i64 4)).setCell ⟨w0.heap.size, 1, none⟩ (.int .i64 3)).setCell ⟨w0.heap.size, 2, none⟩ (.int .i64 67)).setCell ⟨w0.heap.size, 3, none⟩ (.int .i64 4)).alloc (.cells #[.int .i64 4, .int .i64 3, .int .i64 67, .int .i64 4] 52))) := hide ((fun (h : Below _ _ _) => h.alloc h.size _) ((((((unhide HB).trans ((unhide HW).mono (unhide HB).size)).setCell (Nat.le_refl _) _).setCell (Nat.le_refl _) _).setCell (Nat.le_refl _) _).setCell (Nat.le_refl _) _))
      go_wp2
      exact bodyPost_ret (v := .tuple #[.agg #[.int .i64 4, .int .i64 3, .int .i64 67, .int .i64 4], .bool true]) (by simp [results, Tryd.results79, go_sem, z0, z1, z2, z3, hltc]) rfl ⟨rfl, unhide HF⟩
set_option maxRecDepth 100000 in
set_option maxHeartbeats 2000000 in
theorem wkind_3 (w0 : World) (hW : WidAt w0)  : Calls Tryd.prog 79 #[.int .i64 4] w0 fun e w' => e = .returned (.tuple #[.agg #[.int .i64 8, .int .i64 4, .int .i64 34, .int .i64 0], .bool true]) ∧ Below w0.heap.size w0 w' := by
  obtain ⟨tk, fr, hT⟩ := hW
  have hlt : 0 < w0.heap.size := (Array.getElem?_eq_some_iff.1 hT).1
  have hbZ : Below w0.heap.size w0 (w0.alloc (.cells #[.int .i64 0, .int .i64 0, .int .i64 0, .int .i64 0] 52)) := (Below.refl _ _).alloc (Nat.le_refl _) _
  have hZ := heap_alloc_new w0 (.cells #[.int .i64 0, .int .i64 0, .int .i64 0, .int .i64 0] 52)
  have hsz : w0.heap.size < (w0.alloc (.cells #[.int .i64 0, .int .i64 0, .int .i64 0, .int .i64 0] 52)).heap.size := by simp
  obtain ⟨wA, hwA⟩ : ∃ wA, w0.alloc (.cells #[.int .i64 0, .int .i64 0, .int .i64 0, .int .i64 0] 52) = wA := ⟨_, rfl⟩
  rw [hwA] at hbZ hZ hsz
  have HT : Hid (wA.heap[0]? = some (.cells #[.int .i64 1, .int .i64 1, .int .i64 265, .int .i64 7, .int .i64 2, .int .i64 2, .int .i64 133, .int .i64 6, .int .i64 4, .int .i64 3, .int .i64 67, .int .i64 4, .int .i64 8, .int .i64 4, .int .i64 34, .int .i64 0] tk fr)) := hide ((hbZ.block _ hlt).trans hT)
  have HZ := hide (And.intro hsz hZ)
  have HB := hide hbZ
  have i0 := widx0
  have i1 := widx1
  have i2 := widx2
  have i3 := widx3
  clear hT hbZ hZ hsz
  go_enter Tryd.func79, Tryd.ntmps79
  go_wp2_with (refine wpList_load_row rfl 109 _ rfl 0 rfl tk _ fr _ (unhide HT) Tryd.underlying109 rfl (by kernel_rfl) ?_)
  go_loopw [7] (fun ii wr => ∃ k : Nat, k ≤ 3 ∧ ii = .int .i64 (k : Int) ∧ Hid (Below wA.heap.size wA wr)) (fun ii _ => 4 - (intOf ii).toNat)
  case atStart => exact ⟨0, by omega, rfl, Below.refl _ _⟩
  case round =>
    obtain ⟨k, hk, rfl, HW⟩ := hrel
    rename World => wc
    have HWa := hide (fun o : Obj => (unhide HW).alloc (unhide HW).size o)
    have hZc : wc.heap[w0.heap.size]? = some (.cells #[.int .i64 0, .int .i64 0, .int .i64 0, .int .i64 0] 52 (0, 0)) := ((unhide HW).block _ (unhide HZ).1).trans (unhide HZ).2
    have hltc : w0.heap.size < wc.heap.size := Nat.lt_of_lt_of_le (unhide HZ).1 (unhide HW).size
    have z0 : wc.cell? ⟨w0.heap.size, 0, none⟩ = some (.int .i64 0) := cell_of_row wc w0.heap.size 0 _ 52 (0, 0) hZc
    have z1 : wc.cell? ⟨w0.heap.size, 1, none⟩ = some (.int .i64 0) := cell_of_row wc w0.heap.size 1 _ 52 (0, 0) hZc
    have z2 : wc.cell? ⟨w0.heap.size, 2, none⟩ = some (.int .i64 0) := cell_of_row wc w0.heap.size 2 _ 52 (0, 0) hZc
    have z3 : wc.cell? ⟨w0.heap.size, 3, none⟩ = some (.int .i64 0) := cell_of_row wc w0.heap.size 3 _ 52 (0, 0) hZc
    have fz := fun j => AggAt.fz hZc j
    have hne : w0.heap.size ≠ wc.heap.size := by omega
    clear hZc
    obtain rfl | rfl | rfl | rfl : k = 0 ∨ k = 1 ∨ k = 2 ∨ k = 3 := by omega
    · have HWn := hide (unhide HWa (.cells #[.int .i64 1, .int .i64 1, .int .i64 265, .int .i64 7] 52))
      go_wp2
      go_roundw
      case rel =>
        first
          | exact ⟨1, by omega, by go_num, HWn⟩
          | ((repeat apply Exists.intro); exact ⟨⟨1, by omega, by go_num, HWn⟩, rfl⟩)
      case measure => simp [intOf]
    · have HWn := hide (unhide HWa (.cells #[.int .i64 2, .int .i64 2, .int .i64 133, .int .i64 6] 52))
      go_wp2
      go_roundw
      case rel =>
        first
          | exact ⟨2, by omega, by go_num, HWn⟩
          | ((repeat apply Exists.intro); exact ⟨⟨2, by omega, by go_num, HWn⟩, rfl⟩)
      case measure => simp [intOf]
    · have HWn := hide (unhide HWa (.cells #[.int .i64 4, .int .i64 3, .int .i64 67, .int .i64 4] 52))
      go_wp2
      go_roundw
      case rel =>
        first
          | exact ⟨3, by omega, by go_num, HWn⟩
          | ((repeat apply Exists.intro); exact ⟨⟨3, by omega, by go_num, HWn⟩, rfl⟩)
      case measure => simp [intOf]
    · have HF : Hid (Below w0.heap.size w0 ((((((wc).setCell ⟨w0.heap.size, 0, none⟩ (.int .i64 8)).setCell ⟨w0.heap.size, 1, none⟩ (.int .i64 4)).setCell ⟨w0.heap.size, 2, none⟩ (.int .i64 34)).setCell ⟨w0.heap.size, 3, none⟩ (.int .i64 0)).alloc (.cells #[.int .i64 8, .int .i64 4, .int .i64 34, .int .i64 0] 52))) := hide ((fun (h : Below _ _ _) => h.alloc h.size _) ((((((unhide HB).trans ((unhide HW).mono (unhide HB).size)).setCell (Nat.le_refl _) _).setCell (Nat.le_refl _) _).setCell (Nat.le_refl _) _).setCell (Nat.le_refl _) _))
      go_wp2
      exact bodyPost_ret (v := .tuple #[.agg #[.int .i64 8, .int .i64 4, .int .i64 34, .int .i64 0], .bool true]) (by simp [results, Tryd.results79, go_sem, z0, z1, z2, z3, hltc]) rfl ⟨rfl, unhide HF⟩
set_option maxRecDepth 100000 in
set_option maxHeartbeats 2000000 in
theorem wkind_4 (w0 : World) (hW : WidAt w0) (x : Int) (d0 : ((1 : Int) == x) = false) (d1 : ((2 : Int) == x) = false) (d2 : ((3 : Int) == x) = false) (d3 : ((4 : Int) == x) = false) : Calls Tryd.prog 79 #[.int .i64 x] w0 fun e w' => e = .returned (.tuple #[.agg #[.int .i64 0, .int .i64 0, .int .i64 0, .int .i64 0], .bool false]) ∧ Below w0.heap.size w0 w' := by
  obtain ⟨tk, fr, hT⟩ := hW
  have hlt : 0 < w0.heap.size := (Array.getElem?_eq_some_iff.1 hT).1
  have hbZ : Below w0.heap.size w0 (w0.alloc (.cells #[.int .i64 0, .int .i64 0, .int .i64 0, .int .i64 0] 52)) := (Below.refl _ _).alloc (Nat.le_refl _) _
  have hZ := heap_alloc_new w0 (.cells #[.int .i64 0, .int .i64 0, .int .i64 0, .int .i64 0] 52)
  have hsz : w0.heap.size < (w0.alloc (.cells #[.int .i64 0, .int .i64 0, .int .i64 0, .int .i64 0] 52)).heap.size := by simp
  obtain ⟨wA, hwA⟩ : ∃ wA, w0.alloc (.cells #[.int .i64 0, .int .i64 0, .int .i64 0, .int .i64 0] 52) = wA := ⟨_, rfl⟩
  rw [hwA] at hbZ hZ hsz
  have HT : Hid (wA.heap[0]? = some (.cells #[.int .i64 1, .int .i64 1, .int .i64 265, .int .i64 7, .int .i64 2, .int .i64 2, .int .i64 133, .int .i64 6, .int .i64 4, .int .i64 3, .int .i64 67, .int .i64 4, .int .i64 8, .int .i64 4, .int .i64 34, .int .i64 0] tk fr)) := hide ((hbZ.block _ hlt).trans hT)
  have HZ := hide (And.intro hsz hZ)
  have HB := hide hbZ
  have i0 := widx0
  have i1 := widx1
  have i2 := widx2
  have i3 := widx3
  clear hT hbZ hZ hsz
  go_enter Tryd.func79, Tryd.ntmps79
  go_wp2_with (refine wpList_load_row rfl 109 _ rfl 0 rfl tk _ fr _ (unhide HT) Tryd.underlying109 rfl (by kernel_rfl) ?_)
  go_loopw [7] (fun ii wr => ∃ k : Nat, k ≤ 4 ∧ ii = .int .i64 (k : Int) ∧ Hid (Below wA.heap.size wA wr)) (fun ii _ => 4 - (intOf ii).toNat)
  case atStart => exact ⟨0, by omega, rfl, Below.refl _ _⟩
  case round =>
    obtain ⟨k, hk, rfl, HW⟩ := hrel
    rename World => wc
    have HWa := hide (fun o : Obj => (unhide HW).alloc (unhide HW).size o)
    have hZc : wc.heap[w0.heap.size]? = some (.cells #[.int .i64 0, .int .i64 0, .int .i64 0, .int .i64 0] 52 (0, 0)) := ((unhide HW).block _ (unhide HZ).1).trans (unhide HZ).2
    have hltc : w0.heap.size < wc.heap.size := Nat.lt_of_lt_of_le (unhide HZ).1 (unhide HW).size
    have z0 : wc.cell? ⟨w0.heap.size, 0, none⟩ = some (.int .i64 0) := cell_of_row wc w0.heap.size 0 _ 52 (0, 0) hZc
    have z1 : wc.cell? ⟨w0.heap.size, 1, none⟩ = some (.int .i64 0) := cell_of_row wc w0.heap.size 1 _ 52 (0, 0) hZc
    have z2 : wc.cell? ⟨w0.heap.size, 2, none⟩ = some (.int .i64 0) := cell_of_row wc w0.heap.size 2 _ 52 (0, 0) hZc
    have z3 : wc.cell? ⟨w0.heap.size, 3, none⟩ = some (.int .i64 0) := cell_of_row wc w0.heap.size 3 _ 52 (0, 0) hZc
    have fz := fun j => AggAt.fz hZc j
    have hne : w0.heap.size ≠ wc.heap.size := by omega
    clear hZc
    obtain rfl | rfl | rfl | rfl | rfl : k = 0 ∨ k = 1 ∨ k = 2 ∨ k = 3 ∨ k = 4 := by omega
    · have HWn := hide (unhide HWa (.cells #[.int .i64 1, .int .i64 1, .int .i64 265, .int .i64 7] 52))
      go_wp2
      go_roundw
      case rel =>
        first
          | exact ⟨1, by omega, by go_num, HWn⟩
          | ((repeat apply Exists.intro); exact ⟨⟨1, by omega, by go_num, HWn⟩, rfl⟩)
      case measure => simp [intOf]
    · have HWn := hide (unhide HWa (.cells #[.int .i64 2, .int .i64 2, .int .i64 133, .int .i64 6] 52))
      go_wp2
      go_roundw
      case rel =>
        first
          | exact ⟨2, by omega, by go_num, HWn⟩
          | ((repeat apply Exists.intro); exact ⟨⟨2, by omega, by go_num, HWn⟩, rfl⟩)
      case measure => simp [intOf]
    · have HWn := hide (unhide HWa (.cells #[.int .i64 4, .int .i64 3, .int .i64 67, .int .i64 4] 52))
      go_wp2
      go_roundw
      case rel =>
        first
          | exact ⟨3, by omega, by go_num, HWn⟩
          | ((repeat apply Exists.intro); exact ⟨⟨3, by omega, by go_num, HWn⟩, rfl⟩)
      case measure => simp [intOf]
    · have HWn := hide (unhide HWa (.cells #[.int .i64 8, .int .i64 4, .int .i64 34, .int .i64 0] 52))
      go_wp2
      go_roundw
      case rel =>
        first
          | exact ⟨4, by omega, by go_num, HWn⟩
          | ((repeat apply Exists.intro); exact ⟨⟨4, by omega, by go_num, HWn⟩, rfl⟩)
      case measure => simp [intOf]
    · have HF : Hid (Below w0.heap.size w0 (((((wc).setCell ⟨w0.heap.size, 0, none⟩ (.int .i64 0)).setCell ⟨w0.heap.size, 1, none⟩ (.int .i64 0)).setCell ⟨w0.heap.size, 2, none⟩ (.int .i64 0)).setCell ⟨w0.heap.size, 3, none⟩ (.int .i64 0))) := hide (((((((unhide HB).trans ((unhide HW).mono (unhide HB).size)).setCell (Nat.le_refl _) _).setCell (Nat.le_refl _) _).setCell (Nat.le_refl _) _).setCell (Nat.le_refl _) _))
      go_wp2
      exact bodyPost_ret (v := .tuple #[.agg #[.int .i64 0, .int .i64 0, .int .i64 0, .int .i64 0], .bool false]) (by simp [results, Tryd.results79, go_sem, z0, z1, z2, z3]) rfl ⟨rfl, unhide HF⟩
end Go.Proofs.YtlhjifdahagkaaaDoor
