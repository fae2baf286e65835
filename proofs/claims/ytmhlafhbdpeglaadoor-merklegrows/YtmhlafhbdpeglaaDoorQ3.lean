/-
  Plain arithmetic for the seat: words of 32 bits as UInt32, and what the model's operations on their numbers come to. No program is named here.
  The walks of the leaves: a word turned right.
  Plain words on the schedule of a block: the list of words as it grows, what lies in the array meanwhile; and the rounds. No program is named here.
-/
import Derived.WalkKit
import Derived.Test.YtmhlafhbdpeglaaDoorProg
import Derived.WalkSpells
import Derived.WalkLawsBesides
import Derived.Deep.MidRow
namespace Go.Proofs.YtmhlafhbdpeglaaDoor.Sha
/-- A word's number. -/
def iv (x : UInt32) : Int := (x.toNat : Int)
/-- A byte's number. -/
def ib (c : UInt8) : Int := (c.toNat : Int)
theorem iv_nonneg (x : UInt32) : 0 ≤ iv x := by unfold iv; omega
theorem iv_lt (x : UInt32) : iv x < 4294967296 := by unfold iv; have := x.toNat_lt; omega
theorem ib_nonneg (x : UInt8) : 0 ≤ ib x := by unfold ib; omega
theorem ib_lt (x : UInt8) : ib x < 256 := by unfold ib; have := x.toNat_lt; omega
theorem iv_inj {x y : UInt32} (h : iv x = iv y) : x = y := by
  unfold iv at h; exact UInt32.toNat_inj.1 (by omega)
theorem ib_inj {x y : UInt8} (h : ib x = ib y) : x = y := by
  unfold ib at h; exact UInt8.toNat_inj.1 (by omega)
theorem iv_add (x y : UInt32) : IntKind.u32.wrap (iv x + iv y) = iv (x + y) := by
  unfold iv; rw [IntKind.wrap_u32', UInt32.toNat_add]; omega
theorem iv_xor (x y : UInt32) : bits .xor .u32 (iv x) (iv y) = iv (x ^^^ y) := by
  unfold iv; rw [u32_xor_nat _ _ x.toNat_lt y.toNat_lt, UInt32.toNat_xor]
theorem iv_and (x y : UInt32) : bits .and .u32 (iv x) (iv y) = iv (x &&& y) := by
  unfold iv; rw [u32_and_nat _ _ x.toNat_lt y.toNat_lt, UInt32.toNat_and]
theorem iv_or (x y : UInt32) : bits .or .u32 (iv x) (iv y) = iv (x ||| y) := by
  unfold iv; rw [u32_or_nat _ _ x.toNat_lt y.toNat_lt, UInt32.toNat_or]
theorem iv_not (x : UInt32) : bits .xor .u32 4294967295 (iv x) = iv (~~~x) := by
  have h : (4294967295 : Int) = iv 4294967295 := by decide
  rw [h, iv_xor]; congr 1
/-- Turned right by n bits. -/
def rotr (x : UInt32) (n : Nat) : UInt32 := x >>> UInt32.ofNat n ||| x <<< UInt32.ofNat (32 - n)
theorem shl_word (x : UInt32) (m : Nat) (h : m < 32) : IntKind.u32.wrap (iv x * 2 ^ m) = iv (x <<< UInt32.ofNat m) := by
  unfold iv
  rw [IntKind.wrap_u32', UInt32.toNat_shiftLeft, UInt32.toNat_ofNat_of_lt' (by show m < 4294967296; omega), Nat.mod_eq_of_lt h, Nat.shiftLeft_eq]
  rw [show ((2 : Int) ^ m) = ((2 ^ m : Nat) : Int) from by simp]
  omega
theorem shr_word (x : UInt32) (m : Nat) (h : m < 32) : (iv x).fdiv (2 ^ m) = iv (x >>> UInt32.ofNat m) := by
  unfold iv
  rw [UInt32.toNat_shiftRight, UInt32.toNat_ofNat_of_lt' (by show m < 4294967296; omega), Nat.mod_eq_of_lt h, Nat.shiftRight_eq_div_pow]
  rw [show ((2 : Int) ^ m) = ((2 ^ m : Nat) : Int) from by simp, Int.fdiv_eq_ediv_of_nonneg _ (Int.natCast_nonneg _)]
  rfl
theorem run_shl_word (P : Program) (w : World) (x : UInt32) (m : Nat) (h : m < 32) (k : IntKind) :
    (Op.shift .shl .u32 (iv x) k (m : Int)).run P w = .ok (.int .u32 (iv (x <<< UInt32.ofNat m))) w := by
  unfold Op.shift
  rw [if_neg (by omega), ← shl_word x m h]
  have : min m IntKind.u32.bits = m := by simp [IntKind.bits]; omega
  simp [this]
theorem run_shr_word (P : Program) (w : World) (x : UInt32) (m : Nat) (h : m < 32) (k : IntKind) :
    (Op.shift .shr .u32 (iv x) k (m : Int)).run P w = .ok (.int .u32 (iv (x >>> UInt32.ofNat m))) w := by
  unfold Op.shift
  rw [if_neg (by omega), ← shr_word x m h]
  have : min m IntKind.u32.bits = m := by simp [IntKind.bits]; omega
  simp [this]
theorem rot_form (x : UInt32) (n : Nat) (h1 : 1 ≤ n) (h2 : n ≤ 31) : bits .or .u32 (iv x * 2 ^ (32 - n) % 4294967296) (iv x / 2 ^ n) = iv (rotr x n) := by
  have hl := shl_word x (32 - n) (by omega)
  have hr := shr_word x n (by omega)
  rw [IntKind.wrap_u32'] at hl
  rw [show ((2 : Int) ^ n) = ((2 ^ n : Nat) : Int) from by simp, Int.fdiv_eq_ediv_of_nonneg _ (Int.natCast_nonneg _)] at hr
  rw [hl, show ((2 : Int) ^ n) = ((2 ^ n : Nat) : Int) from by simp, hr, iv_or]
  unfold rotr; rw [UInt32.or_comm]
theorem count_and31 (n : Nat) (h1 : 1 ≤ n) (h2 : n ≤ 31) : bits .and .u64 (IntKind.u64.wrap (-(n : Int))) 31 = ((32 - n : Nat) : Int) := by
  have e : IntKind.u64.wrap (-(n : Int)) = ((18446744073709551616 - n : Nat) : Int) := by
    rw [IntKind.wrap_u64]; omega
  have h31 : (31 : Int) = ((31 : Nat) : Int) := rfl
  rw [e, h31, bits_and_u64_nat _ _ (by omega) (by omega), nat_mask5]
  omega
end Go.Proofs.YtmhlafhbdpeglaaDoor.Sha
namespace Go.Proofs.YtmhlafhbdpeglaaDoor.Sha
open Go.RowKit
set_option maxHeartbeats 400000 in
theorem rotl_any (x : UInt32) (n : Nat) (h1 : 1 ≤ n) (h2 : n ≤ 31) (w : World) :
    Calls Tryd.prog 62 #[.int .u32 (iv x), .int .i64 (-(n : Int))] w fun e w' => e = .returned (.int .u32 (iv (rotr x n))) ∧ w' = w := by
  have hs := count_and31 n h1 h2
  have hd : IntKind.u64.wrap (32 - ((32 - n : Nat) : Int)) = (n : Int) := by rw [IntKind.wrap_u64]; omega
  go_enter Tryd.func62, Tryd.ntmps62
  go_wp2
  go_ret
  exact ⟨congrArg (fun z => Ending.returned (.int .u32 z)) (rot_form x n h1 h2), rfl⟩
set_option maxHeartbeats 400000 in
theorem right_any (x : UInt32) (n : Int) (h1 : 1 ≤ n) (h2 : n ≤ 31) (w : World) :
    Calls Tryd.prog 61 #[.int .u32 (iv x), .int .i64 n] w fun e w' => e = .returned (.int .u32 (iv (rotr x n.toNat))) ∧ w' = w := by
  obtain ⟨n, rfl⟩ := Int.eq_ofNat_of_zero_le (show 0 ≤ n by omega)
  rw [Int.toNat_natCast]
  go_enter Tryd.func61, Tryd.ntmps61
  go_wp2_with (go_at_call 62; refine (rotl_any x n (by omega) (by omega) _).mono ?_; rintro e w' ⟨rfl, rfl⟩)
  go_ret
  exact ⟨rfl, rfl⟩
end Go.Proofs.YtmhlafhbdpeglaaDoor.Sha
namespace Go.Proofs.YtmhlafhbdpeglaaDoor.Sha
theorem hide {p : Prop} (h : p) : RowKit.Hid p := h
theorem unhide {p : Prop} (h : RowKit.Hid p) : p := h
theorem ne_block {a b : Addr} (h : a.block ≠ b.block) : a ≠ b := fun e => h (by rw [e])
theorem keep_set {w : World} {a b : Addr} {u v : Value} (h : a.block ≠ b.block) (hc : w.cell? b = some u) : (w.setCell a v).drew.cell? b = some u := by
  rw [World.cell?_drew, World.cell?_setCell_other _ _ _ _ (ne_block h)]; exact hc
/-- A word, a byte, as values of the model. -/
def wv (x : UInt32) : Value := .int .u32 (iv x)
def bv (x : UInt8) : Value := .int .u8 (ib x)
def be4 (l : List UInt8) (k : Nat) : UInt32 := (l.getD (4 * k) 0).toUInt32 <<< 24 ||| (l.getD (4 * k + 1) 0).toUInt32 <<< 16 ||| (l.getD (4 * k + 2) 0).toUInt32 <<< 8 ||| (l.getD (4 * k + 3) 0).toUInt32
def sg0 (x : UInt32) : UInt32 := rotr x 7 ^^^ rotr x 18 ^^^ x >>> 3
def sg1 (x : UInt32) : UInt32 := rotr x 17 ^^^ rotr x 19 ^^^ x >>> 10
def nextW (l : List UInt8) (ws : List UInt32) : UInt32 :=
  if ws.length < 16 then be4 l ws.length
  else sg1 (ws.getD (ws.length - 2) 0) + ws.getD (ws.length - 7) 0 + sg0 (ws.getD (ws.length - 15) 0) + ws.getD (ws.length - 16) 0
def wordsTo (l : List UInt8) : Nat → List UInt32
  | 0 => []
  | k + 1 => wordsTo l k ++ [nextW l (wordsTo l k)]
def content (l : List UInt8) (k : Nat) : Array Value := ((wordsTo l k).map wv ++ List.replicate (64 - k) (Value.int .u32 0)).toArray
theorem length_wordsTo (l : List UInt8) (k : Nat) : (wordsTo l k).length = k := by
  induction k with
  | zero => rfl
  | succ k ih => simp [wordsTo, ih]
theorem content_zero (l : List UInt8) : content l 0 = (List.replicate 64 (Value.int .u32 0)).toArray := rfl
theorem content_get (l : List UInt8) (k i : Nat) (h : i < k) : (content l k)[i]? = some (.int .u32 (iv ((wordsTo l k).getD i 0))) := by
  unfold content
  rw [List.getElem?_toArray, List.getElem?_append_left (by simpa [length_wordsTo] using h), List.getElem?_map, List.getElem?_eq_getElem (by simpa [length_wordsTo] using h)]
  simp [wv, List.getD_eq_getElem?_getD, List.getElem?_eq_getElem (show i < (wordsTo l k).length by simpa [length_wordsTo] using h)]
theorem content_at (l : List UInt8) (k : Nat) (h : k < 64) : (content l k)[k]? = some (.int .u32 0) := by
  unfold content
  rw [List.getElem?_toArray, List.getElem?_append_right (by simp [length_wordsTo]), List.getElem?_replicate]
  rw [if_pos (by simp [length_wordsTo]; omega)]
theorem content_set (l : List UInt8) (k : Nat) (h : k < 64) : (content l k).setIfInBounds k (.int .u32 (iv (nextW l (wordsTo l k)))) = content l (k + 1) := by
  unfold content
  obtain ⟨n, hn⟩ : ∃ n, 64 - k = n + 1 := ⟨63 - k, by omega⟩
  have hn' : 64 - (k + 1) = n := by omega
  rw [hn, hn', List.setIfInBounds_toArray, List.set_append_right _ _ (by simp [length_wordsTo])]
  simp [length_wordsTo, wordsTo, List.replicate_succ, wv]
theorem content_full (l : List UInt8) : content l 64 = ((wordsTo l 64).map wv).toArray := by simp [content]
theorem byte_word (b : UInt8) : IntKind.u32.wrap (ib b) = iv b.toUInt32 := by
  unfold ib iv; rw [IntKind.wrap_u32']; have := b.toNat_lt; simp; omega
theorem shl24 (x : UInt32) : IntKind.u32.wrap (iv x * 16777216) = iv (x <<< 24) := shl_word x 24 (by omega)
theorem shl16 (x : UInt32) : IntKind.u32.wrap (iv x * 65536) = iv (x <<< 16) := shl_word x 16 (by omega)
theorem shl8 (x : UInt32) : IntKind.u32.wrap (iv x * 256) = iv (x <<< 8) := shl_word x 8 (by omega)
theorem shr10 (x : UInt32) : iv x / (1024 : Int) = iv (x >>> (10 : UInt32)) := by
  have h := shr_word x 10 (by omega)
  rw [Int.fdiv_eq_ediv_of_nonneg _ (by decide)] at h
  exact h
theorem shr3 (x : UInt32) : iv x / (8 : Int) = iv (x >>> (3 : UInt32)) := by
  have h := shr_word x 3 (by omega)
  rw [Int.fdiv_eq_ediv_of_nonneg _ (by decide)] at h
  exact h
theorem ne_off {a b : Addr} (h : a.off ≠ b.off) : a ≠ b := fun e => h (by rw [e])
theorem keep_ne {w : World} {a b : Addr} {u v : Value} (h : a ≠ b) (hc : w.cell? b = some u) : (w.setCell a v).cell? b = some u := by
  rw [World.cell?_setCell_other _ _ _ _ h]; exact hc
theorem size_content (l : List UInt8) (k : Nat) (h : k ≤ 64) : (content l k).size = 64 := by simp [content, length_wordsTo]; omega
theorem content_one (l : List UInt8) (k : Nat) : (content l k).all (·.oneCell') = true := by
  unfold content
  refine all_oneCell_toArray fun v hv => ?_
  rcases List.mem_append.1 hv with h | h
  · obtain ⟨x, _, rfl⟩ := List.mem_map.1 h; rfl
  · rw [(List.mem_replicate.1 h).2]; rfl
theorem nextW_low (l : List UInt8) (k : Nat) (h : k < 16) : nextW l (wordsTo l k) = be4 l k := by
  simp [nextW, length_wordsTo, h]
theorem nextW_high (l : List UInt8) (k : Nat) (h : ¬ k < 16) : nextW l (wordsTo l k) = sg1 ((wordsTo l k).getD (k - 2) 0) + (wordsTo l k).getD (k - 7) 0 + sg0 ((wordsTo l k).getD (k - 15) 0) + (wordsTo l k).getD (k - 16) 0 := by
  simp only [nextW, length_wordsTo, h, if_false]
end Go.Proofs.YtmhlafhbdpeglaaDoor.Sha
