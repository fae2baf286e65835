/-
  Plain words on the schedule of a block: the list of words as it grows, what lies in the array meanwhile; and the rounds. No program is named here.
-/
import Derived.Test.YtodcpcdhkghgnaaDoorNum
import Derived.Deep.MidRow
namespace Go.Proofs.YtodcpcdhkghgnaaDoor
theorem hide {p : Prop} (h : p) : RowKit.Hid p := h
theorem unhide {p : Prop} (h : RowKit.Hid p) : p := h
theorem ne_block {a b : Addr} (h : a.block ≠ b.block) : a ≠ b := fun e => h (by rw [e])
theorem keep_set {w : World} {a b : Addr} {u v : Value} (h : a.block ≠ b.block) (hc : w.cell? b = some u) : (w.setCell a v).drew.cell? b = some u := by
  rw [World.cell?_drew, World.cell?_setCell_other _ _ _ _ (ne_block h)]; exact hc
/-- A word, a byte, as values of the model. -/
def wv (x : UInt32) : Value := .int .u32 (iv x)
def bv (x : UInt8) : Value := .int .u8 (ib x)
def be4 (l : List UInt8) (k : Nat) : UInt32 := (l.getD (4 * k) 0).toUInt32 <<< 24 ||| (l.getD (4 * k + 1) 0).toUInt32 <<< 16 ||| (l.getD (4 * k + 2) 0).toUInt32 <<< 8 ||| (l.getD (4 * k + 3) 0).toUInt32
def sg0 (x : UInt32) : UInt32 := rotr x 7 ^^^ rotr x 18 ^^^ x >>> 3
def sg1 (x : UInt32) : UInt32 := rotr x 17 ^^^ rotr x 19 ^^^ x >>> 10
def nextW (l : List UInt8) (ws : List UInt32) : UInt32 :=
  if ws.length < 16 then be4 l ws.length
  else sg1 (ws.getD (ws.length - 2) 0) + ws.getD (ws.length - 7) 0 + sg0 (ws.getD (ws.length - 15) 0) + ws.getD (ws.length - 16) 0
def wordsTo (l : List UInt8) : Nat → List UInt32
  | 0 => []
  | k + 1 => wordsTo l k ++ [nextW l (wordsTo l k)]
def content (l : List UInt8) (k : Nat) : Array Value := ((wordsTo l k).map wv ++ List.replicate (64 - k) (Value.int .u32 0)).toArray
theorem length_wordsTo (l : List UInt8) (k : Nat) : (wordsTo l k).length = k := by
  induction k with
  | zero => rfl
  | succ k ih => simp [wordsTo, ih]
theorem content_zero (l : List UInt8) : content l 0 = (List.replicate 64 (Value.int .u32 0)).toArray := rfl
theorem content_get (l : List UInt8) (k i : Nat) (h : i < k) : (content l k)[i]? = some (.int .u32 (iv ((wordsTo l k).getD i 0))) := by
  unfold content
  rw [List.getElem?_toArray, List.getElem?_append_left (by simpa [length_wordsTo] using h), List.getElem?_map, List.getElem?_eq_getElem (by simpa [length_wordsTo] using h)]
  simp [wv, List.getD_eq_getElem?_getD, List.getElem?_eq_getElem (show i < (wordsTo l k).length by simpa [length_wordsTo] using h)]
theorem content_at (l : List UInt8) (k : Nat) (h : k < 64) : (content l k)[k]? = some (.int .u32 0) := by
  unfold content
  rw [List.getElem?_toArray, List.getElem?_append_right (by simp [length_wordsTo]), List.getElem?_replicate]
  rw [if_pos (by simp [length_wordsTo]; omega)]
theorem content_set (l : List UInt8) (k : Nat) (h : k < 64) : (content l k).setIfInBounds k (.int .u32 (iv (nextW l (wordsTo l k)))) = content l (k + 1) := by
  unfold content
  obtain ⟨n, hn⟩ : ∃ n, 64 - k = n + 1 := ⟨63 - k, by omega⟩
  have hn' : 64 - (k + 1) = n := by omega
  rw [hn, hn', List.setIfInBounds_toArray, List.set_append_right _ _ (by simp [length_wordsTo])]
  simp [length_wordsTo, wordsTo, List.replicate_succ, wv]
theorem content_full (l : List UInt8) : content l 64 = ((wordsTo l 64).map wv).toArray := by simp [content]
theorem byte_word (b : UInt8) : IntKind.u32.wrap (ib b) = iv b.toUInt32 := by
  unfold ib iv; rw [IntKind.wrap_u32']; have := b.toNat_lt; simp; omega
theorem shl24 (x : UInt32) : IntKind.u32.wrap (iv x * 16777216) = iv (x <<< 24) := shl_word x 24 (by omega)
theorem shl16 (x : UInt32) : IntKind.u32.wrap (iv x * 65536) = iv (x <<< 16) := shl_word x 16 (by omega)
theorem shl8 (x : UInt32) : IntKind.u32.wrap (iv x * 256) = iv (x <<< 8) := shl_word x 8 (by omega)
theorem shr10 (x : UInt32) : iv x / (1024 : Int) = iv (x >>> (10 : UInt32)) := by
  have h := shr_word x 10 (by omega)
  rw [Int.fdiv_eq_ediv_of_nonneg _ (by decide)] at h
  exact h
theorem shr3 (x : UInt32) : iv x / (8 : Int) = iv (x >>> (3 : UInt32)) := by
  have h := shr_word x 3 (by omega)
  rw [Int.fdiv_eq_ediv_of_nonneg _ (by decide)] at h
  exact h
theorem ne_off {a b : Addr} (h : a.off ≠ b.off) : a ≠ b := fun e => h (by rw [e])
theorem keep_ne {w : World} {a b : Addr} {u v : Value} (h : a ≠ b) (hc : w.cell? b = some u) : (w.setCell a v).cell? b = some u := by
  rw [World.cell?_setCell_other _ _ _ _ h]; exact hc
theorem size_content (l : List UInt8) (k : Nat) (h : k ≤ 64) : (content l k).size = 64 := by simp [content, length_wordsTo]; omega
theorem content_one (l : List UInt8) (k : Nat) : (content l k).all (·.oneCell') = true := by
  unfold content
  refine all_oneCell_toArray fun v hv => ?_
  rcases List.mem_append.1 hv with h | h
  · obtain ⟨x, _, rfl⟩ := List.mem_map.1 h; rfl
  · rw [(List.mem_replicate.1 h).2]; rfl
theorem nextW_low (l : List UInt8) (k : Nat) (h : k < 16) : nextW l (wordsTo l k) = be4 l k := by
  simp [nextW, length_wordsTo, h]
theorem nextW_high (l : List UInt8) (k : Nat) (h : ¬ k < 16) : nextW l (wordsTo l k) = sg1 ((wordsTo l k).getD (k - 2) 0) + (wordsTo l k).getD (k - 7) 0 + sg0 ((wordsTo l k).getD (k - 15) 0) + (wordsTo l k).getD (k - 16) 0 := by
  simp only [nextW, length_wordsTo, h, if_false]
end Go.Proofs.YtodcpcdhkghgnaaDoor
