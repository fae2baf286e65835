/-
  Noughts that are made; a value without kids.
-/
import Derived.Test.YtngkidlgcdofhabDoorTold9
namespace Go.Proofs.YtngkidlgcdofhabDoor
open Go.RowKit
theorem make_run (w : World) (n : Nat) (hn : n ≤ 1073741824) : (Instr.makeSlice 23 (.int .i64 (n : Int)) (.int .i64 (n : Int))).run Tryd.prog w = .ok (.slice (some ⟨w.heap.size, 0, none⟩) n n) (w.alloc (.cells (List.replicate n (.int .u8 0)).toArray 5)) := by
  obtain ⟨hu, ⟨i, hi, h0, hsz, hby⟩, _, _⟩ := Eb
  have hbn : (i.bytes : Int) * (n : Int) ≤ 281474976710656 := by
    rw [hby]
    omega
  have h := run_make (P := Tryd.prog) w 23 5 i (.int .u8 0) hu hi h0 .i64 .i64 n n (by omega) (by omega) hbn (by omega)
  rw [h, hsz]
  have e1 : madeCells (Value.int .u8 0).cells (((n : Int)).toNat * 1) = (List.replicate n (.int .u8 0)).toArray := by
    rw [Int.toNat_natCast, Nat.mul_one]
    apply Array.ext
    · simp [madeCells]
    · intro j h1 h2
      simp [madeCells, Nat.mod_one, Value.cells]
  rw [e1, Int.toNat_natCast]
theorem bytes_row {W : World} {b n : Nat} (h : W.heap[b]? = some (.cells (List.replicate n (.int .u8 0)).toArray 5)) : BytesAt W (.slice (some ⟨b, 0, none⟩) n n) (List.replicate n 0) := by
  have e : (List.replicate n (0 : UInt8)).map bv = List.replicate n (.int .u8 0) := by rw [List.map_replicate]; rfl
  unfold BytesAt
  rw [e]
  refine ⟨_, _, by rw [List.length_replicate], by rw [List.length_replicate]; exact Nat.le_refl _, fun h => (by cases h), fun _ => ⟨b, 0, rfl, fun j v hv => ?_⟩⟩
  rw [cell_of_row _ _ _ _ 5 (0, 0) h, Nat.zero_add, List.getElem?_toArray]
  exact hv
/-- A value that has bytes alone. -/
theorem leaf_at {w : World} {x : Value} {b : Bs} (h : BytesAt w x b) (hl : b.length ≤ 9223372036854775807) (c t : Int) (m : Bool) : ValAt (fun _ => True) w (dcells c t m x (.slice none 0 0)) (.mk c t m b []) :=
  ⟨1, x, none, 0, rfl, h, fun _ _ _ => trivial, ⟨hl, by simp [DV.kids]⟩, by simp [DV.kids], fun _ => rfl, fun h => absurd rfl h⟩
/-- How many bytes a length has. -/
theorem low_len {n k : Nat} (h1 : 256 ^ k ≤ n) (h2 : n < 256 ^ (k + 1)) : (lowB n n).length = k + 1 := by
  have hv := lowV_low n n (Nat.le_refl _)
  have hpos : 0 < 256 ^ k := Nat.pow_pos (by omega)
  have hne : lowB n n ≠ [] := fun e => by rw [e] at hv; simp [lowV] at hv; omega
  have hb := lowB_big n n (Nat.le_refl _) hne
  have hlt := lowV_lt (lowB n n)
  rw [hv] at hlt
  have hl : 0 < (lowB n n).length := List.length_pos_iff.2 hne
  rcases Nat.lt_trichotomy (lowB n n).length (k + 1) with h | h | h
  · have : 256 ^ (lowB n n).length ≤ 256 ^ k := Nat.pow_le_pow_right (by omega) (by omega)
    omega
  · exact h
  · have : 256 ^ (k + 1) ≤ 256 ^ ((lowB n n).length - 1) := Nat.pow_le_pow_right (by omega) (by omega)
    omega
theorem lenB_len (n : Nat) (h : n ≤ 70000) : (lenB n).length = if n < 128 then 1 else if n < 256 then 2 else if n < 65536 then 3 else 4 := by
  unfold lenB
  split
  · rfl
  · simp only [List.length_cons, List.length_reverse]
    split
    · rw [low_len (k := 0) (by omega) (by omega)]
    · split
      · rw [low_len (k := 1) (by omega) (by omega)]
      · rw [low_len (k := 2) (by omega) (by omega)]
/-- Bytes of a class that is not universal, written. -/
theorem write_leaf {c t : Nat} (hc : 1 ≤ c ∧ c ≤ 3) (ht : t < 31) (b : Bs) : writeP formD 17 (.mk c t false b []) = .yes (tagB c t false ++ lenB b.length ++ b) := by
  unfold writeP
  rw [if_neg (by omega)]
  have hf : formD (c : Int).toNat (t : Int).toNat false b = 0 := by
    rw [Int.toNat_natCast, Int.toNat_natCast]
    unfold formD
    rw [if_pos (by omega)]
  rw [hf, if_neg (by omega), if_neg (by simp)]
  simp [allP, fallsP]
theorem top_leaf {c t : Nat} (hc : 1 ≤ c ∧ c ≤ 3) (ht : t < 31) (b : Bs) : writeTop formD (.mk c t false b []) = if 65536 < 1 + (lenB b.length).length + b.length then .no 54 else .yes (tagB c t false ++ lenB b.length ++ b) := by
  unfold writeTop
  rw [write_leaf hc ht]
  have hl : (tagB c t false ++ lenB b.length ++ b).length = 1 + (lenB b.length).length + b.length := by
    have : (tagB c t false).length = 1 := by unfold tagB; rw [if_pos ht]; rfl
    simp only [List.length_append, this]
  simp only [hl]
end Go.Proofs.YtngkidlgcdofhabDoor
