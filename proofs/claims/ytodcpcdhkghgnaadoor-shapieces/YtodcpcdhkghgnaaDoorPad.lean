/-
  The walk of padding: the bytes that follow a message of so many bytes, in new memory.
-/
import Derived.Test.YtodcpcdhkghgnaaDoorBytes
namespace Go.Proofs.YtodcpcdhkghgnaaDoor
open Go.RowKit
def byteAt (n k : Nat) : UInt8 := UInt8.ofNat (n / 2 ^ (56 - 8 * k))
def bytesTo (n : Nat) : Nat → List UInt8
  | 0 => []
  | k + 1 => bytesTo n k ++ [byteAt n k]
theorem length_bytesTo (n k : Nat) : (bytesTo n k).length = k := by
  induction k with
  | zero => rfl
  | succ k ih => simp [bytesTo, ih]
def padHead (told : Nat) : List UInt8 := 128 :: List.replicate ((119 - told % 64) % 64) 0
/-- What follows a message of so many bytes. -/
def padOf (told : Nat) : List UInt8 := padHead told ++ bytesTo (8 * told) 8
theorem byte_form (told k : Nat) : 8 * (told : Int) / 2 ^ (56 - 8 * k) % 256 = ib (byteAt (8 * told) k) := by
  unfold ib byteAt
  rw [UInt8.toNat_ofNat']
  rw [show ((2 : Int) ^ (56 - 8 * k)) = ((2 ^ (56 - 8 * k) : Nat) : Int) from by simp, show (8 * (told : Int)) = ((8 * told : Nat) : Int) from by omega]
  rfl
theorem make_pad (w : World) (z : Nat) (hz : z ≤ 63) : ∃ W, (Instr.makeSlice 22 (.int .i64 (1 + (z : Int))) (.int .i64 (1 + (z : Int) + 8))).run Tryd.prog w = .ok (.slice (some ⟨w.heap.size, 0, none⟩) (1 + z) (9 + z)) W ∧
    W.heap[w.heap.size]? = some (.cells (List.replicate (9 + z) (.int .u8 0)).toArray 5 (0, 0)) ∧ Below w.heap.size w W ∧ W.heap.size = w.heap.size + 1 := by
  obtain ⟨i, hi, h0, hsz, hby⟩ := info5
  refine ⟨w.alloc (.cells (List.replicate (9 + z) (.int .u8 0)).toArray 5), ?_, heap_alloc_new _ _, (Below.refl _ _).alloc (Nat.le_refl _) _, by simp⟩
  have h := run_make (P := Tryd.prog) w 22 5 i (.int .u8 0) Tryd.underlying22 hi h0 .i64 .i64 (1 + (z : Int)) (1 + (z : Int) + 8) (by omega) (by omega) (by rw [hby]; omega) (by omega)
  rw [h, hsz, show (1 + (z : Int)).toNat = 1 + z from by omega, show (1 + (z : Int) + 8).toNat = 9 + z from by omega]
  have e : madeCells (Value.int .u8 0).cells ((9 + z) * 1) = (List.replicate (9 + z) (.int .u8 0)).toArray := by
    rw [Nat.mul_one]
    apply Array.ext
    · simp [madeCells]
    · intro j h1 h2
      simp [madeCells, Value.cells, Nat.mod_one]
  rw [e]
set_option maxRecDepth 100000 in
set_option maxHeartbeats 1000000 in
theorem padding_any (told : Nat) (ht : told ≤ 1099511627776) (w : World) :
    Calls Tryd.prog 23 #[.int .i64 (told : Int)] w fun e w' => ∃ v, e = .returned v ∧ OwnB w' w.heap.size v (padOf told) ∧ Below w.heap.size w w' := by
  generalize ho : told % 64 = o
  generalize hz : (119 - o) % 64 = z
  have hz63 : z ≤ 63 := by omega
  have ht0 : (0 : Int) ≤ (told : Int) := by omega
  have ht1 : (told : Int) ≤ 1099511627776 := by omega
  have hto : ((told : Int)).tmod 64 = (o : Int) := by rw [Int.tmod_eq_emod_of_nonneg (by omega)]; omega
  have htz : (119 - (o : Int)).tmod 64 = (z : Int) := by rw [Int.tmod_eq_emod_of_nonneg (by omega)]; omega
  have ho63 : (o : Int) ≤ 63 := by omega
  have hzz : (z : Int) ≤ 63 := by omega
  obtain ⟨W1, hmk, h1, hb1, hs1⟩ := make_pad w z hz63
  have c1 : W1.cell? ⟨w.heap.size, 0, none⟩ = some (.int .u8 0) := by rw [cell_of_row _ _ 0 _ 5 (0, 0) h1, List.getElem?_toArray, List.getElem?_replicate, if_pos (by omega)]
  have f1 : W1.frozen? ⟨w.heap.size, 0, none⟩ = false := frozen_of_row _ _ _ _ 5 h1
  have h2 := heap_setCell_same W1 w.heap.size 0 _ 5 (.int .u8 128) h1
  have hb2 := hb1.setCell (p := ⟨w.heap.size, 0, none⟩) (Nat.le_refl _) (.int .u8 128)
  have hs2 : (W1.setCell ⟨w.heap.size, 0, none⟩ (.int .u8 128)).heap.size = w.heap.size + 1 := by rw [World.size_setCell]; exact hs1
  generalize hE2 : W1.setCell ⟨w.heap.size, 0, none⟩ (.int .u8 128) = W2 at h2 hb2 hs2
  have hO : OwnB W2 w.heap.size (.slice (some ⟨w.heap.size, 0, none⟩) (1 + z) (9 + z)) (padHead told) := by
    have hl : (padHead told).length = 1 + z := by simp [padHead, ho, hz]; omega
    refine ⟨by simp, Or.inr ⟨w.heap.size, 9 + z, _, by rw [hl], Nat.le_refl _, h2, by omega, by simp only [maxLen]; omega, by simp, ?_⟩⟩
    rw [hl, Nat.mul_one, List.setIfInBounds_toArray, List.toList_toArray]
    obtain ⟨m, hm⟩ : ∃ m, 9 + z = m + 1 := ⟨8 + z, by omega⟩
    rw [hm, List.replicate_succ, List.set_cons_zero, Nat.add_comm 1 z, List.take_succ_cons, List.take_replicate, Nat.min_eq_left (by omega)]
    simp [padHead, ho, hz, bv]; exact ⟨rfl, Or.inr rfl⟩
  have HO := hide hO
  have HB := hide hb2
  have Hz := hide hz
  have Ho := hide ho
  clear hO hb2 h2 hb1 hz ho h1
  go_enter Tryd.func23, Tryd.ntmps23
  go_wp2
  go_loopw [4, 6] (fun v i wr => ∃ k : Nat, k ≤ 8 ∧ i = .int .i64 (56 - 8 * (k : Int)) ∧ OwnB wr w.heap.size v (padHead told ++ bytesTo (8 * told) k) ∧ Below w.heap.size w wr ∧ w.heap.size ≤ wr.heap.size) (fun _ i _ => (intOf i + 8).toNat)
  case atStart => exact ⟨0, by omega, rfl, by rw [bytesTo, List.append_nil]; exact unhide HO, unhide HB, by omega⟩
  case round =>
    obtain ⟨k, hk, rfl, hO, hB, hS⟩ := hrel
    clear HO HB
    by_cases hlt : k < 8
    · have hO1 := hide hO
      clear hO
      have hv : 8 * (told : Int) / 2 ^ (56 - 8 * k) % 256 = ib (byteAt (8 * told) k) := byte_form told k
      have HBk : Hid (bytesTo (8 * told) (k + 1) = bytesTo (8 * told) k ++ [byteAt (8 * told) k]) := rfl
      generalize byteAt (8 * told) k = B at hv HBk
      have hln : (padHead told ++ bytesTo (8 * told) k).length + 1 ≤ 1073741824 := by
        rw [List.length_append, length_bytesTo]; simp only [padHead, List.length_cons, List.length_replicate]; omega
      have Hln := hide hln
      clear hln
      have k8 : 8 * (k : Int) ≤ 56 := by omega
      go_wp2_with (at_builtin; refine wpList_append_bytes rfl _ _ rfl w.heap.size _ _ (padHead told ++ bytesTo (8 * told) k) [B] rfl ((unhide hO1).alloc _) rfl (bytes_new wr [B] 5 (by simp)) (by simp; omega) (unhide Hln) ?_; intro v' w' hO2 hg2)
      go_roundw
      case rel =>
        have hO3 : OwnB w' w.heap.size v' (padHead told ++ bytesTo (8 * told) (k + 1)) := by rw [unhide HBk, ← List.append_assoc]; exact hO2
        have hB3 : Below w.heap.size w w' := Fresh.grown ((unhide hO1).alloc _) hg2 (hB.alloc hS _) (by simp; omega)
        have hS3 : w.heap.size ≤ w'.heap.size := by have := hg2.size; simp at this; omega
        have hi : Value.int .i64 (56 - 8 * (k : Int) - 8) = .int .i64 (56 - 8 * ((k + 1 : Nat) : Int)) := congrArg _ (by omega)
        first
          | exact ⟨k + 1, by omega, hi, hO3, hB3, hS3⟩
          | ((repeat apply Exists.intro); exact ⟨⟨k + 1, by omega, hi, hO3, hB3, hS3⟩, rfl⟩)
      case measure => simp [intOf]; omega
    · obtain rfl : k = 8 := by omega
      clear hlt hk
      have hO1 := hide hO
      clear hO
      go_wp2
      go_ret
      exact ⟨_, rfl, unhide hO1, hB⟩
end Go.Proofs.YtodcpcdhkghgnaaDoor
