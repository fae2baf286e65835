/-
  The walk of Join; and plain words on codes: a key that is too long stands for its sum, noughts behind a shorter one make no other code.
-/
import Derived.Test.YtodcpcdhkghgnaaDoorMac
namespace Go.Proofs.YtodcpcdhkghgnaaDoor
open Go.RowKit
theorem fill_zeros (k : List UInt8) (n : Nat) (h : k.length + n ≤ 64) : fill (k ++ List.replicate n 0) = fill k := by
  unfold fill
  rw [List.length_append, List.length_replicate, List.append_assoc, List.replicate_append_replicate]
  congr 2; omega
theorem mac_sum (key l : List UInt8) (h : 64 < key.length) : macOf (shaOf key) l = macOf key l := by
  unfold macOf
  rw [if_pos h, if_neg (by rw [length_shaOf]; omega)]
theorem mac_zeros (key l : List UInt8) (n : Nat) (h : key.length + n ≤ 64) : macOf (key ++ List.replicate n 0) l = macOf key l := by
  unfold macOf
  rw [if_neg (by simp; omega), if_neg (by omega), fill_zeros key n h]
theorem length_macOf (key l : List UInt8) : (macOf key l).length = 32 := length_shaOf _
theorem make_zeros (w : World) (n : Nat) (hn : n ≤ 64) : ∃ W, (Instr.makeSlice 22 (.int .i64 (n : Int)) (.int .i64 (n : Int))).run Tryd.prog w = .ok (.slice (some ⟨w.heap.size, 0, none⟩) n n) W ∧
    BytesAt W (.slice (some ⟨w.heap.size, 0, none⟩) n n) (List.replicate n 0) ∧ Below w.heap.size w W := by
  obtain ⟨i, hi, h0, hsz, hby⟩ := info5
  have h := run_make (P := Tryd.prog) w 22 5 i (.int .u8 0) Tryd.underlying22 hi h0 .i64 .i64 (n : Int) (n : Int) (by omega) (by omega) (by rw [hby]; omega) (by omega)
  rw [Int.toNat_natCast, hsz, Nat.mul_one] at h
  have e : madeCells (Value.int .u8 0).cells n = ((List.replicate n (0 : UInt8)).map bv).toArray := by
    apply Array.ext
    · simp [madeCells]
    · intro j h1 h2
      simp [madeCells, Value.cells, Nat.mod_one]; rfl
  rw [e] at h
  exact ⟨_, h, bytes_row (heap_alloc_new w _) n (by simp), (Below.refl _ _).alloc (Nat.le_refl _) _⟩
theorem BytesAt.grownNew {a b : World} {g : Nat} {x : Value} {l : List UInt8} {row : Option Nat} {B : Nat} (h : BytesAt a x l) (hg : a.grownBy b row) (hr : row = some g ∨ row = none) (hB : B ≤ g) (ho : l ≠ [] → ∀ k, x.ownBlock = some k → k < B) : BytesAt b x l := by
  obtain ⟨sp, c, rfl, h1, h2, h3⟩ := h
  refine ⟨sp, c, rfl, h1, h2, fun hl => ?_⟩
  obtain ⟨bb, o, rfl, hrr⟩ := h3 hl
  have hlt := ho hl bb rfl
  refine ⟨bb, o, rfl, fun j v hv => hg.cell (hrr j v hv) ?_⟩
  rcases hr with rfl | rfl
  · simp; omega
  · simp
set_option maxRecDepth 100000 in
set_option maxHeartbeats 2000000 in
theorem join_any (w : World) (x y : Value) (l m : List UInt8) (hx : BytesAt w x l) (hy : BytesAt w y m) (hl : l.length + m.length ≤ 1073741824) :
    Calls Tryd.prog 18 #[x, y] w fun e w' => ∃ v, e = .returned v ∧ OwnB w' w.heap.size v (l ++ m) ∧ Below w.heap.size w w' := by
  have Hx := hide hx
  have Hy := hide hy
  clear hx hy
  go_enter Tryd.func18, Tryd.ntmps18
  have hb1 : Below w.heap.size w (w.alloc (.cells #[] 5)) := (Below.refl _ _).alloc (Nat.le_refl _) _
  have hO0 : OwnB (w.alloc (.cells #[] 5)) w.heap.size (.slice (some ⟨w.heap.size, 0, none⟩) 0 0) [] :=
    ⟨rfl, Or.inr ⟨w.heap.size, 0, #[], rfl, Nat.le_refl _, heap_alloc_new w _, Nat.le_refl _, Nat.zero_le _, rfl, rfl⟩⟩
  have Hx1 := hide ((unhide Hx).below hb1)
  have Hy1 := hide ((unhide Hy).below hb1)
  have HO0 := hide hO0
  have Hb1 := hide hb1
  clear hb1 hO0
  go_wp2_with (first
    | (at_builtin; refine wpList_append_bytes rfl _ _ rfl w.heap.size (.slice (some ⟨w.heap.size, 0, none⟩) 0 0) x [] l rfl (unhide HO0) rfl (unhide Hx1) (by simp) (by simp; omega) ?_; intro v1 w1 hO1 hg1; have hy1 := (unhide Hy1).grownNew hg1 (Or.inl rfl) (Nat.le_refl _) (unhide Hy).old; have hs1 : w.heap.size ≤ w1.heap.size := by (have := hg1.size; simp at this; omega))
    | (at_builtin; refine wpList_append_bytes rfl _ _ rfl w.heap.size v1 y l m rfl hO1 rfl hy1 hs1 hl ?_; intro v2 w2 hO2 hg2))
  go_ret
  have hb2 : Below w.heap.size w w1 := Fresh.grown (unhide HO0) hg1 (unhide Hb1) (by simp)
  exact ⟨v2, rfl, hO2, Fresh.grown hO1 hg2 hb2 hs1⟩
end Go.Proofs.YtodcpcdhkghgnaaDoor
