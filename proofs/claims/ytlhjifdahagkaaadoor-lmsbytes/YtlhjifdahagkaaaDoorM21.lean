/-
  Plain arithmetic for the seat: words of 32 bits as UInt32, and what the model's operations on their numbers come to. No program is named here.
-/
import Derived.WalkKit
import Derived.Test.YtlhjifdahagkaaaDoorProg
import Derived.WalkSpells
import Derived.WalkLawsBesides
import Derived.Deep.MidRow
import Derived.Deep.RegionHeld3
import Derived.BigQuiet
import Derived.Laws.CopyOwn
namespace Go.Proofs.YtlhjifdahagkaaaDoor.Sha
/-- A word's number. -/
def iv (x : UInt32) : Int := (x.toNat : Int)
/-- A byte's number. -/
def ib (c : UInt8) : Int := (c.toNat : Int)
theorem iv_nonneg (x : UInt32) : 0 ≤ iv x := by unfold iv; omega
theorem iv_lt (x : UInt32) : iv x < 4294967296 := by unfold iv; have := x.toNat_lt; omega
theorem ib_nonneg (x : UInt8) : 0 ≤ ib x := by unfold ib; omega
theorem ib_lt (x : UInt8) : ib x < 256 := by unfold ib; have := x.toNat_lt; omega
theorem iv_inj {x y : UInt32} (h : iv x = iv y) : x = y := by
  unfold iv at h; exact UInt32.toNat_inj.1 (by omega)
theorem ib_inj {x y : UInt8} (h : ib x = ib y) : x = y := by
  unfold ib at h; exact UInt8.toNat_inj.1 (by omega)
theorem iv_add (x y : UInt32) : IntKind.u32.wrap (iv x + iv y) = iv (x + y) := by
  unfold iv; rw [IntKind.wrap_u32', UInt32.toNat_add]; omega
theorem iv_xor (x y : UInt32) : bits .xor .u32 (iv x) (iv y) = iv (x ^^^ y) := by
  unfold iv; rw [u32_xor_nat _ _ x.toNat_lt y.toNat_lt, UInt32.toNat_xor]
theorem iv_and (x y : UInt32) : bits .and .u32 (iv x) (iv y) = iv (x &&& y) := by
  unfold iv; rw [u32_and_nat _ _ x.toNat_lt y.toNat_lt, UInt32.toNat_and]
theorem iv_or (x y : UInt32) : bits .or .u32 (iv x) (iv y) = iv (x ||| y) := by
  unfold iv; rw [u32_or_nat _ _ x.toNat_lt y.toNat_lt, UInt32.toNat_or]
theorem iv_not (x : UInt32) : bits .xor .u32 4294967295 (iv x) = iv (~~~x) := by
  have h : (4294967295 : Int) = iv 4294967295 := by decide
  rw [h, iv_xor]; congr 1
/-- Turned right by n bits. -/
def rotr (x : UInt32) (n : Nat) : UInt32 := x >>> UInt32.ofNat n ||| x <<< UInt32.ofNat (32 - n)
theorem shl_word (x : UInt32) (m : Nat) (h : m < 32) : IntKind.u32.wrap (iv x * 2 ^ m) = iv (x <<< UInt32.ofNat m) := by
  unfold iv
  rw [IntKind.wrap_u32', UInt32.toNat_shiftLeft, UInt32.toNat_ofNat_of_lt' (by show m < 4294967296; omega), Nat.mod_eq_of_lt h, Nat.shiftLeft_eq]
  rw [show ((2 : Int) ^ m) = ((2 ^ m : Nat) : Int) from by simp]
  omega
theorem shr_word (x : UInt32) (m : Nat) (h : m < 32) : (iv x).fdiv (2 ^ m) = iv (x >>> UInt32.ofNat m) := by
  unfold iv
  rw [UInt32.toNat_shiftRight, UInt32.toNat_ofNat_of_lt' (by show m < 4294967296; omega), Nat.mod_eq_of_lt h, Nat.shiftRight_eq_div_pow]
  rw [show ((2 : Int) ^ m) = ((2 ^ m : Nat) : Int) from by simp, Int.fdiv_eq_ediv_of_nonneg _ (Int.natCast_nonneg _)]
  rfl
theorem run_shl_word (P : Program) (w : World) (x : UInt32) (m : Nat) (h : m < 32) (k : IntKind) :
    (Op.shift .shl .u32 (iv x) k (m : Int)).run P w = .ok (.int .u32 (iv (x <<< UInt32.ofNat m))) w := by
  unfold Op.shift
  rw [if_neg (by omega), ← shl_word x m h]
  have : min m IntKind.u32.bits = m := by simp [IntKind.bits]; omega
  simp [this]
theorem run_shr_word (P : Program) (w : World) (x : UInt32) (m : Nat) (h : m < 32) (k : IntKind) :
    (Op.shift .shr .u32 (iv x) k (m : Int)).run P w = .ok (.int .u32 (iv (x >>> UInt32.ofNat m))) w := by
  unfold Op.shift
  rw [if_neg (by omega), ← shr_word x m h]
  have : min m IntKind.u32.bits = m := by simp [IntKind.bits]; omega
  simp [this]
theorem rot_form (x : UInt32) (n : Nat) (h1 : 1 ≤ n) (h2 : n ≤ 31) : bits .or .u32 (iv x * 2 ^ (32 - n) % 4294967296) (iv x / 2 ^ n) = iv (rotr x n) := by
  have hl := shl_word x (32 - n) (by omega)
  have hr := shr_word x n (by omega)
  rw [IntKind.wrap_u32'] at hl
  rw [show ((2 : Int) ^ n) = ((2 ^ n : Nat) : Int) from by simp, Int.fdiv_eq_ediv_of_nonneg _ (Int.natCast_nonneg _)] at hr
  rw [hl, show ((2 : Int) ^ n) = ((2 ^ n : Nat) : Int) from by simp, hr, iv_or]
  unfold rotr; rw [UInt32.or_comm]
theorem count_and31 (n : Nat) (h1 : 1 ≤ n) (h2 : n ≤ 31) : bits .and .u64 (IntKind.u64.wrap (-(n : Int))) 31 = ((32 - n : Nat) : Int) := by
  have e : IntKind.u64.wrap (-(n : Int)) = ((18446744073709551616 - n : Nat) : Int) := by
    rw [IntKind.wrap_u64]; omega
  have h31 : (31 : Int) = ((31 : Nat) : Int) := rfl
  rw [e, h31, bits_and_u64_nat _ _ (by omega) (by omega), nat_mask5]
  omega
end Go.Proofs.YtlhjifdahagkaaaDoor.Sha
/-
  The walks of the leaves: a word turned right.
-/
namespace Go.Proofs.YtlhjifdahagkaaaDoor.Sha
open Go.RowKit
set_option maxHeartbeats 400000 in
theorem rotl_any (x : UInt32) (n : Nat) (h1 : 1 ≤ n) (h2 : n ≤ 31) (w : World) :
    Calls Tryd.prog 89 #[.int .u32 (iv x), .int .i64 (-(n : Int))] w fun e w' => e = .returned (.int .u32 (iv (rotr x n))) ∧ w' = w := by
  have hs := count_and31 n h1 h2
  have hd : IntKind.u64.wrap (32 - ((32 - n : Nat) : Int)) = (n : Int) := by rw [IntKind.wrap_u64]; omega
  go_enter Tryd.func89, Tryd.ntmps89
  go_wp2
  go_ret
  exact ⟨congrArg (fun z => Ending.returned (.int .u32 z)) (rot_form x n h1 h2), rfl⟩
set_option maxHeartbeats 400000 in
theorem right_any (x : UInt32) (n : Int) (h1 : 1 ≤ n) (h2 : n ≤ 31) (w : World) :
    Calls Tryd.prog 87 #[.int .u32 (iv x), .int .i64 n] w fun e w' => e = .returned (.int .u32 (iv (rotr x n.toNat))) ∧ w' = w := by
  obtain ⟨n, rfl⟩ := Int.eq_ofNat_of_zero_le (show 0 ≤ n by omega)
  rw [Int.toNat_natCast]
  go_enter Tryd.func87, Tryd.ntmps87
  go_wp2_with (go_at_call 89; refine (rotl_any x n (by omega) (by omega) _).mono ?_; rintro e w' ⟨rfl, rfl⟩)
  go_ret
  exact ⟨rfl, rfl⟩
end Go.Proofs.YtlhjifdahagkaaaDoor.Sha
/-
  Plain words on the schedule of a block: the list of words as it grows, what lies in the array meanwhile; and the rounds. No program is named here.
-/
namespace Go.Proofs.YtlhjifdahagkaaaDoor.Sha
theorem hide {p : Prop} (h : p) : RowKit.Hid p := h
theorem unhide {p : Prop} (h : RowKit.Hid p) : p := h
theorem ne_block {a b : Addr} (h : a.block ≠ b.block) : a ≠ b := fun e => h (by rw [e])
theorem keep_set {w : World} {a b : Addr} {u v : Value} (h : a.block ≠ b.block) (hc : w.cell? b = some u) : (w.setCell a v).drew.cell? b = some u := by
  rw [World.cell?_drew, World.cell?_setCell_other _ _ _ _ (ne_block h)]; exact hc
/-- A word, a byte, as values of the model. -/
def wv (x : UInt32) : Value := .int .u32 (iv x)
def bv (x : UInt8) : Value := .int .u8 (ib x)
def be4 (l : List UInt8) (k : Nat) : UInt32 := (l.getD (4 * k) 0).toUInt32 <<< 24 ||| (l.getD (4 * k + 1) 0).toUInt32 <<< 16 ||| (l.getD (4 * k + 2) 0).toUInt32 <<< 8 ||| (l.getD (4 * k + 3) 0).toUInt32
def sg0 (x : UInt32) : UInt32 := rotr x 7 ^^^ rotr x 18 ^^^ x >>> 3
def sg1 (x : UInt32) : UInt32 := rotr x 17 ^^^ rotr x 19 ^^^ x >>> 10
def nextW (l : List UInt8) (ws : List UInt32) : UInt32 :=
  if ws.length < 16 then be4 l ws.length
  else sg1 (ws.getD (ws.length - 2) 0) + ws.getD (ws.length - 7) 0 + sg0 (ws.getD (ws.length - 15) 0) + ws.getD (ws.length - 16) 0
def wordsTo (l : List UInt8) : Nat → List UInt32
  | 0 => []
  | k + 1 => wordsTo l k ++ [nextW l (wordsTo l k)]
def content (l : List UInt8) (k : Nat) : Array Value := ((wordsTo l k).map wv ++ List.replicate (64 - k) (Value.int .u32 0)).toArray
theorem length_wordsTo (l : List UInt8) (k : Nat) : (wordsTo l k).length = k := by
  induction k with
  | zero => rfl
  | succ k ih => simp [wordsTo, ih]
theorem content_zero (l : List UInt8) : content l 0 = (List.replicate 64 (Value.int .u32 0)).toArray := rfl
theorem content_get (l : List UInt8) (k i : Nat) (h : i < k) : (content l k)[i]? = some (.int .u32 (iv ((wordsTo l k).getD i 0))) := by
  unfold content
  rw [List.getElem?_toArray, List.getElem?_append_left (by simpa [length_wordsTo] using h), List.getElem?_map, List.getElem?_eq_getElem (by simpa [length_wordsTo] using h)]
  simp [wv, List.getD_eq_getElem?_getD, List.getElem?_eq_getElem (show i < (wordsTo l k).length by simpa [length_wordsTo] using h)]
theorem content_at (l : List UInt8) (k : Nat) (h : k < 64) : (content l k)[k]? = some (.int .u32 0) := by
  unfold content
  rw [List.getElem?_toArray, List.getElem?_append_right (by simp [length_wordsTo]), List.getElem?_replicate]
  rw [if_pos (by simp [length_wordsTo]; omega)]
theorem content_set (l : List UInt8) (k : Nat) (h : k < 64) : (content l k).setIfInBounds k (.int .u32 (iv (nextW l (wordsTo l k)))) = content l (k + 1) := by
  unfold content
  obtain ⟨n, hn⟩ : ∃ n, 64 - k = n + 1 := ⟨63 - k, by omega⟩
  have hn' : 64 - (k + 1) = n := by omega
  rw [hn, hn', List.setIfInBounds_toArray, List.set_append_right _ _ (by simp [length_wordsTo])]
  simp [length_wordsTo, wordsTo, List.replicate_succ, wv]
theorem content_full (l : List UInt8) : content l 64 = ((wordsTo l 64).map wv).toArray := by simp [content]
theorem byte_word (b : UInt8) : IntKind.u32.wrap (ib b) = iv b.toUInt32 := by
  unfold ib iv; rw [IntKind.wrap_u32']; have := b.toNat_lt; simp; omega
theorem shl24 (x : UInt32) : IntKind.u32.wrap (iv x * 16777216) = iv (x <<< 24) := shl_word x 24 (by omega)
theorem shl16 (x : UInt32) : IntKind.u32.wrap (iv x * 65536) = iv (x <<< 16) := shl_word x 16 (by omega)
theorem shl8 (x : UInt32) : IntKind.u32.wrap (iv x * 256) = iv (x <<< 8) := shl_word x 8 (by omega)
theorem shr10 (x : UInt32) : iv x / (1024 : Int) = iv (x >>> (10 : UInt32)) := by
  have h := shr_word x 10 (by omega)
  rw [Int.fdiv_eq_ediv_of_nonneg _ (by decide)] at h
  exact h
theorem shr3 (x : UInt32) : iv x / (8 : Int) = iv (x >>> (3 : UInt32)) := by
  have h := shr_word x 3 (by omega)
  rw [Int.fdiv_eq_ediv_of_nonneg _ (by decide)] at h
  exact h
theorem ne_off {a b : Addr} (h : a.off ≠ b.off) : a ≠ b := fun e => h (by rw [e])
theorem keep_ne {w : World} {a b : Addr} {u v : Value} (h : a ≠ b) (hc : w.cell? b = some u) : (w.setCell a v).cell? b = some u := by
  rw [World.cell?_setCell_other _ _ _ _ h]; exact hc
theorem size_content (l : List UInt8) (k : Nat) (h : k ≤ 64) : (content l k).size = 64 := by simp [content, length_wordsTo]; omega
theorem content_one (l : List UInt8) (k : Nat) : (content l k).all (·.oneCell') = true := by
  unfold content
  refine all_oneCell_toArray fun v hv => ?_
  rcases List.mem_append.1 hv with h | h
  · obtain ⟨x, _, rfl⟩ := List.mem_map.1 h; rfl
  · rw [(List.mem_replicate.1 h).2]; rfl
theorem nextW_low (l : List UInt8) (k : Nat) (h : k < 16) : nextW l (wordsTo l k) = be4 l k := by
  simp [nextW, length_wordsTo, h]
theorem nextW_high (l : List UInt8) (k : Nat) (h : ¬ k < 16) : nextW l (wordsTo l k) = sg1 ((wordsTo l k).getD (k - 2) 0) + (wordsTo l k).getD (k - 7) 0 + sg0 ((wordsTo l k).getD (k - 15) 0) + (wordsTo l k).getD (k - 16) 0 := by
  simp only [nextW, length_wordsTo, h, if_false]
end Go.Proofs.YtlhjifdahagkaaaDoor.Sha
/-
  The walk of spread: the 64 words of a block are those of the schedule; nothing that was there has turned.
-/
namespace Go.Proofs.YtlhjifdahagkaaaDoor.Sha
open Go.RowKit
theorem store_word (b0 b1 b2 b3 : UInt8) : bits .or .u32 (bits .or .u32 (bits .or .u32 (IntKind.u32.wrap (IntKind.u32.wrap (ib b0) * 16777216)) (IntKind.u32.wrap (IntKind.u32.wrap (ib b1) * 65536))) (IntKind.u32.wrap (IntKind.u32.wrap (ib b2) * 256))) (IntKind.u32.wrap (ib b3)) = iv (b0.toUInt32 <<< 24 ||| b1.toUInt32 <<< 16 ||| b2.toUInt32 <<< 8 ||| b3.toUInt32) := by
  simp only [byte_word, shl24, shl16, shl8, iv_or]
theorem next_word (x2 x7 x15 x16 : UInt32) : IntKind.u32.wrap (IntKind.u32.wrap (IntKind.u32.wrap (bits .xor .u32 (bits .xor .u32 (iv (rotr x2 17)) (iv (rotr x2 19))) (iv x2 / 1024) + iv x7) + bits .xor .u32 (bits .xor .u32 (iv (rotr x15 7)) (iv (rotr x15 18))) (iv x15 / 8)) + iv x16) = iv (sg1 x2 + x7 + sg0 x15 + x16) := by
  simp only [shr10, shr3, iv_xor, iv_add]
  rfl
/-- What holds of the world while the words are laid: block N holds the bytes, N+1 the result's place, N+2 the words so far. -/
def SpreadAt (l : List UInt8) (w : World) (k : Nat) (wr : World) : Prop :=
  wr.heap.size = w.heap.size + 1 + 1 + 1 ∧ wr.heap[w.heap.size]? = some (.cells (l.map bv).toArray 125 (0, 0)) ∧ wr.heap[w.heap.size + 1]? = some (.cells (List.replicate 64 (Value.int .u32 0)).toArray 118 (0, 0)) ∧
    wr.heap[w.heap.size + 1 + 1]? = some (.cells (content l k) 118 (0, 0)) ∧ Below w.heap.size w wr
theorem SpreadAt.step {l : List UInt8} {w wr : World} {k : Nat} (h : SpreadAt l w k wr) (hk : k < 64) (v : Int) (hv : v = iv (nextW l (wordsTo l k))) :
    SpreadAt l w (k + 1) (wr.setCell ⟨w.heap.size + 1 + 1, k, none⟩ (.int .u32 v)).drew := by
  obtain ⟨hz, h0, h1, h2, hb⟩ := h
  subst hv
  refine ⟨by simpa using hz, ?_, ?_, ?_, (hb.setCell (by show _ ≤ w.heap.size + 1 + 1; omega) _).drew⟩
  · rw [heap_drew, heap_setCell_other _ _ _ _ (by show _ ≠ w.heap.size + 1 + 1; omega)]; exact h0
  · rw [heap_drew, heap_setCell_other _ _ _ _ (by show _ ≠ w.heap.size + 1 + 1; omega)]; exact h1
  · rw [heap_drew, heap_setCell_same _ _ _ _ _ _ h2, content_set l k hk]
theorem SpreadAt.drew {l : List UInt8} {w wr : World} {k : Nat} (h : SpreadAt l w k wr) : SpreadAt l w k wr.drew := ⟨h.1, h.2.1, h.2.2.1, h.2.2.2.1, h.2.2.2.2.drew⟩
theorem alloc3 (w : World) (A B C : Obj) : (((w.alloc A).alloc B).alloc C).heap[w.heap.size]? = some A ∧ (((w.alloc A).alloc B).alloc C).heap[w.heap.size + 1]? = some B ∧ (((w.alloc A).alloc B).alloc C).heap[w.heap.size + 1 + 1]? = some C := by
  have e1 : (w.alloc A).heap.size = w.heap.size + 1 := by simp
  have e2 : ((w.alloc A).alloc B).heap.size = w.heap.size + 1 + 1 := by simp
  refine ⟨?_, ?_, ?_⟩
  · rw [heap_alloc_old _ _ (by omega), heap_alloc_old _ _ (by omega)]; exact heap_alloc_new _ _
  · rw [heap_alloc_old _ _ (by omega), ← e1]; exact heap_alloc_new _ _
  · rw [← e2]; exact heap_alloc_new _ _
theorem SpreadAt.start (l : List UInt8) (w : World) (Z : Array Value) (hZ : Z = (List.replicate 64 (Value.int .u32 0)).toArray) : SpreadAt l w 0 (((w.alloc (.cells (l.map bv).toArray 125)).alloc (.cells Z 118)).alloc (.cells Z 118)) := by
  have h := alloc3 w (.cells (l.map bv).toArray 125) (.cells Z 118) (.cells Z 118)
  refine ⟨by simp, h.1, ?_, ?_, ((((Below.refl _ _).alloc (Nat.le_refl _) _).alloc (by simp) _).alloc (by simp; omega) _)⟩
  · rw [← hZ]; exact h.2.1
  · rw [content_zero, ← hZ]; exact h.2.2
set_option maxHeartbeats 1000000 in
theorem spread_any (l : List UInt8) (hl : l.length = 64) (w : World) :
    Calls Tryd.prog 86 #[.agg (l.map bv).toArray] w fun e w' => e = .returned (.agg ((wordsTo l 64).map wv).toArray) ∧ Below w.heap.size w w' := by
  generalize hcs : (l.map bv).toArray = cs
  have Hcs : Hid ((l.map bv).toArray = cs) := hcs
  clear hcs
  go_enter Tryd.func86, Tryd.ntmps86
  go_wp2
  go_loopw [10] (fun i wr => ∃ k : Nat, k ≤ 16 ∧ i = .int .i64 k ∧ SpreadAt l w k wr) (fun i _ => 16 - (intOf i).toNat)
  case atStart =>
    refine ⟨0, by omega, rfl, ?_⟩
    rw [← Hcs.out]
    exact SpreadAt.start l w _ rfl
  case round =>
    obtain ⟨k, hk, rfl, hS⟩ := hrel
    by_cases hlt : k < 16
    · have hB : ∀ j, j < 64 → wr.cell? ⟨w.heap.size, j, none⟩ = some (.int .u8 (ib (l.getD j 0))) := by
        intro j hj
        rw [cell_of_row wr _ j _ 125 (0, 0) hS.2.1]
        simp [hl, hj, bv, List.getD_eq_getElem?_getD]
      have c0 := hB (4 * (k : Int)).toNat (by omega)
      have c1 := hB (4 * (k : Int) + 1).toNat (by omega)
      have c2 := hB (4 * (k : Int) + 2).toNat (by omega)
      have c3 := hB (4 * (k : Int) + 3).toNat (by omega)
      clear hB
      have cw : wr.cell? ⟨w.heap.size + 1 + 1, k, none⟩ = some (.int .u32 0) := by
        rw [cell_of_row wr _ k _ 118 (0, 0) hS.2.2.2.1]; exact content_at l k (by omega)
      have fw : wr.frozen? ⟨w.heap.size + 1 + 1, k, none⟩ = false := frozen_of_row wr _ k _ 118 hS.2.2.2.1
      rw [show (4 * (k : Int)).toNat = 4 * k from by omega] at c0
      rw [show (4 * (k : Int) + 1).toNat = 4 * k + 1 from by omega] at c1
      rw [show (4 * (k : Int) + 2).toNat = 4 * k + 2 from by omega] at c2
      rw [show (4 * (k : Int) + 3).toNat = 4 * k + 3 from by omega] at c3
      generalize hb0 : l.getD (4 * k) 0 = b0 at c0
      generalize hb1 : l.getD (4 * k + 1) 0 = b1 at c1
      generalize hb2 : l.getD (4 * k + 2) 0 = b2 at c2
      generalize hb3 : l.getD (4 * k + 3) 0 = b3 at c3
      have HB : Hid (nextW l (wordsTo l k) = b0.toUInt32 <<< 24 ||| b1.toUInt32 <<< 16 ||| b2.toUInt32 <<< 8 ||| b3.toUInt32) := by
        show nextW l (wordsTo l k) = _
        rw [nextW_low l k hlt]; unfold be4; rw [hb0, hb1, hb2, hb3]
      clear hb0 hb1 hb2 hb3
      rw [← show (4 * (k : Int)).toNat = 4 * k from by omega] at c0
      rw [← show (4 * (k : Int) + 1).toNat = 4 * k + 1 from by omega] at c1
      rw [← show (4 * (k : Int) + 2).toNat = 4 * k + 2 from by omega] at c2
      rw [← show (4 * (k : Int) + 3).toNat = 4 * k + 3 from by omega] at c3
      have k0 : (0 : Int) ≤ 4 * (k : Int) := by omega
      have k1 : 4 * (k : Int) + 3 < 64 := by omega
      have k2 : (k : Int) < 64 := by omega
      have k3 : 4 * (k : Int) < 64 := by omega
      have k4 : 4 * (k : Int) + 1 < 64 := by omega
      have k5 : 4 * (k : Int) + 2 < 64 := by omega
      have j0 : (0 : Int) ≤ 4 * (k : Int) + 1 := by omega
      have j1 : (0 : Int) ≤ 4 * (k : Int) + 2 := by omega
      have j2 : (0 : Int) ≤ 4 * (k : Int) + 3 := by omega
      have w0 : IntKind.i64.wrap (4 * (k : Int)) = 4 * (k : Int) := IntWalk.i64_in _ (by omega)
      have w1 : IntKind.i64.wrap (4 * (k : Int) + 1) = 4 * (k : Int) + 1 := IntWalk.i64_in _ (by omega)
      have w2 : IntKind.i64.wrap (4 * (k : Int) + 2) = 4 * (k : Int) + 2 := IntWalk.i64_in _ (by omega)
      have w3 : IntKind.i64.wrap (4 * (k : Int) + 3) = 4 * (k : Int) + 3 := IntWalk.i64_in _ (by omega)
      have HS : Hid (SpreadAt l w k wr) := hS
      clear hS
      go_wp2
      go_region_held3 (fun w' => w'.cell? ⟨w.heap.size, (4 * (k : Int)).toNat, none⟩ = some (.int .u8 (ib b0)) ∧ w'.cell? ⟨w.heap.size, (4 * (k : Int) + 1).toNat, none⟩ = some (.int .u8 (ib b1)) ∧ w'.cell? ⟨w.heap.size, (4 * (k : Int) + 2).toNat, none⟩ = some (.int .u8 (ib b2)) ∧ w'.cell? ⟨w.heap.size, (4 * (k : Int) + 3).toNat, none⟩ = some (.int .u8 (ib b3))) (first | (refine ⟨?_, ?_, ?_, ?_⟩ <;> first | assumption | (refine keep_set ?_ ?_ <;> first | assumption | (dsimp only; omega))) | go_keep) (fail)
      go_wp2
      go_roundw
      case rel => exact ⟨k + 1, by omega, by go_num, HS.out.step (by omega) _ (by rw [HB.out]; exact store_word b0 b1 b2 b3)⟩
      case measure => simp [intOf]; omega
    · obtain rfl : k = 16 := by omega
      have HS : Hid (SpreadAt l w 16 wr) := hS
      clear hS hlt hk
      go_wp2
      go_loopw [5] (fun i wr => ∃ k : Nat, 16 ≤ k ∧ k ≤ 64 ∧ i = .int .i64 k ∧ SpreadAt l w k wr) (fun i _ => 64 - (intOf i).toNat)
      case atStart => exact ⟨16, by omega, by omega, rfl, HS.out⟩
      case round =>
        obtain ⟨k, hk0, hk, rfl, hS⟩ := hrel
        clear HS
        by_cases hlt : k < 64
        · have hW : ∀ j, j < k → wr.cell? ⟨w.heap.size + 1 + 1, j, none⟩ = some (.int .u32 (iv ((wordsTo l k).getD j 0))) := by
            intro j hj
            rw [cell_of_row _ _ j _ 118 (0, 0) hS.2.2.2.1]
            exact content_get l k j hj
          have HN : Hid _ := nextW_high l k (by omega)
          have a15 := hW (k - 15) (by omega)
          have a2 := hW (k - 2) (by omega)
          have a7 := hW (k - 7) (by omega)
          have a16 := hW (k - 16) (by omega)
          clear hW
          have cw : wr.cell? ⟨w.heap.size + 1 + 1, k, none⟩ = some (.int .u32 0) := by
            rw [cell_of_row wr _ k _ 118 (0, 0) hS.2.2.2.1]; exact content_at l k (by omega)
          have fw : wr.frozen? ⟨w.heap.size + 1 + 1, k, none⟩ = false := frozen_of_row wr _ k _ 118 hS.2.2.2.1
          have HS : Hid (SpreadAt l w k wr) := hS
          clear hS
          generalize (wordsTo l k).getD (k - 15) 0 = x15 at a15 HN
          generalize (wordsTo l k).getD (k - 2) 0 = x2 at a2 HN
          generalize (wordsTo l k).getD (k - 7) 0 = x7 at a7 HN
          generalize (wordsTo l k).getD (k - 16) 0 = x16 at a16 HN
          have p1 : (0 : Int) ≤ (k : Int) - 15 := by omega
          have p2 : (0 : Int) ≤ (k : Int) - 2 := by omega
          have p3 : (0 : Int) ≤ (k : Int) - 7 := by omega
          have p4 : (0 : Int) ≤ (k : Int) - 16 := by omega
          have q1 : (k : Int) - 15 < 64 := by omega
          have q2 : (k : Int) - 2 < 64 := by omega
          have q3 : (k : Int) - 7 < 64 := by omega
          have q4 : (k : Int) - 16 < 64 := by omega
          have q5 : (k : Int) < 64 := by omega
          have r1 : (15 : Int) ≤ (k : Int) := by omega
          have t1 : ((k : Int) - 15).toNat = k - 15 := by omega
          have t2 : ((k : Int) - 2).toNat = k - 2 := by omega
          have t3 : ((k : Int) - 7).toNat = k - 7 := by omega
          have t4 : ((k : Int) - 16).toNat = k - 16 := by omega
          have r2 : (2 : Int) ≤ (k : Int) := by omega
          have r3 : (7 : Int) ≤ (k : Int) := by omega
          have r4 : (16 : Int) ≤ (k : Int) := by omega
          have w1 : IntKind.i64.wrap ((k : Int) - 15) = (k : Int) - 15 := IntWalk.i64_in _ (by omega)
          have w2 : IntKind.i64.wrap ((k : Int) - 2) = (k : Int) - 2 := IntWalk.i64_in _ (by omega)
          have w3 : IntKind.i64.wrap ((k : Int) - 7) = (k : Int) - 7 := IntWalk.i64_in _ (by omega)
          have w4 : IntKind.i64.wrap ((k : Int) - 16) = (k : Int) - 16 := IntWalk.i64_in _ (by omega)
          go_wp2
          go_region_held3 (fun w' => w'.cell? ⟨w.heap.size + 1 + 1, k - 15, none⟩ = some (.int .u32 (iv x15)) ∧ w'.cell? ⟨w.heap.size + 1 + 1, k - 2, none⟩ = some (.int .u32 (iv x2))) (go_keep) (fail)
          go_wp2_with (go_at_call 87; refine (right_any _ _ (by omega) (by omega) _).mono ?_; rintro e w' ⟨rfl, rfl⟩)
          go_region_held3 (fun w' => w'.cell? ⟨w.heap.size + 1 + 1, k - 7, none⟩ = some (.int .u32 (iv x7)) ∧ w'.cell? ⟨w.heap.size + 1 + 1, k - 16, none⟩ = some (.int .u32 (iv x16))) (first | (simp only [World.cell?_drew]; refine ⟨?_, ?_⟩ <;> first | assumption | (refine keep_ne ?_ ?_ <;> first | assumption | (refine ne_off ?_; dsimp only; omega))) | go_keep) (fail)
          go_wp2
          go_roundw
          case rel => (repeat apply Exists.intro); exact ⟨⟨k + 1, by omega, by omega, by go_num, (HS.out.step (by omega) _ (by rw [HN.out]; exact next_word x2 x7 x15 x16)).drew⟩, rfl⟩
          case measure => simp [intOf]; omega
        · obtain rfl : k = 64 := by omega
          clear hlt hk hk0
          obtain ⟨hz, h0, h1, h2, hb⟩ := hS
          have H1 := hide h1
          have H2 := hide h2
          have Hb := hide hb
          clear h0 h1 h2 hb
          go_wp2_with (first | (refine wpList_load_row rfl 118 _ rfl (w.heap.size + 1 + 1) rfl 118 _ (0, 0) _ (unhide H2) Tryd.underlying118 rfl (by rw [size_content _ _ (by omega)]; kernel_rfl) ?_) | (refine wpList_store_row rfl 118 _ _ rfl (w.heap.size + 1) _ rfl rfl 118 _ (unhide H1) (by rw [size_content _ _ (by omega)]; kernel_rfl) (by rw [size_content _ _ (by omega)]; rfl) (content_one _ _) ?_))
          refine bodyPost_ret (results_cell_row Tryd.results86 _ _ (w.heap.size + 1) 118 (content l 64) (0, 0) _ rfl ?_ Tryd.underlying118 rfl (by rw [size_content _ _ (by omega)]; kernel_rfl)) rfl ⟨by rw [content_full], ?_⟩
          · exact setRow_heap _ _ _ _ _ _ (unhide H1)
          · exact below_setRow (unhide Hb) (by omega) _
end Go.Proofs.YtlhjifdahagkaaaDoor.Sha
/-
  Plain words on the rounds of a block: the eight words, a round, all 64, and what is added to the state. No program is named here.
-/
namespace Go.Proofs.YtlhjifdahagkaaaDoor.Sha
/-- Eight words. -/
structure St8 where
  a : UInt32
  b : UInt32
  c : UInt32
  d : UInt32
  e : UInt32
  f : UInt32
  g : UInt32
  h : UInt32
def St8.list (s : St8) : List UInt32 := [s.a, s.b, s.c, s.d, s.e, s.f, s.g, s.h]
def bs0 (x : UInt32) : UInt32 := rotr x 2 ^^^ rotr x 13 ^^^ rotr x 22
def bs1 (x : UInt32) : UInt32 := rotr x 6 ^^^ rotr x 11 ^^^ rotr x 25
def t1Of (s : St8) (k w : UInt32) : UInt32 := s.h + bs1 s.e + (s.e &&& s.f ^^^ ~~~s.e &&& s.g) + k + w
def t2Of (s : St8) : UInt32 := bs0 s.a + (s.a &&& s.b ^^^ s.a &&& s.c ^^^ s.b &&& s.c)
def rnd (s : St8) (k w : UInt32) : St8 := ⟨t1Of s k w + t2Of s, s.a, s.b, s.c, s.d + t1Of s k w, s.e, s.f, s.g⟩
/-- The words K. -/
def kTab : List UInt32 := [1116352408, 1899447441, 3049323471, 3921009573, 961987163, 1508970993, 2453635748, 2870763221, 3624381080, 310598401, 607225278, 1426881987, 1925078388, 2162078206, 2614888103, 3248222580, 3835390401, 4022224774, 264347078, 604807628, 770255983, 1249150122, 1555081692, 1996064986, 2554220882, 2821834349, 2952996808, 3210313671, 3336571891, 3584528711, 113926993, 338241895, 666307205, 773529912, 1294757372, 1396182291, 1695183700, 1986661051, 2177026350, 2456956037, 2730485921, 2820302411, 3259730800, 3345764771, 3516065817, 3600352804, 4094571909, 275423344, 430227734, 506948616, 659060556, 883997877, 958139571, 1322822218, 1537002063, 1747873779, 1955562222, 2024104815, 2227730452, 2361852424, 2428436474, 2756734187, 3204031479, 3329325298]
/-- The state at first. -/
def hTab : List UInt32 := [1779033703, 3144134277, 1013904242, 2773480762, 1359893119, 2600822924, 528734635, 1541459225]
def roundsTo (s : St8) (ws : List UInt32) : Nat → St8
  | 0 => s
  | k + 1 => rnd (roundsTo s ws k) (kTab.getD k 0) (ws.getD k 0)
def ofList8 (l : List UInt32) : St8 := ⟨l.getD 0 0, l.getD 1 0, l.getD 2 0, l.getD 3 0, l.getD 4 0, l.getD 5 0, l.getD 6 0, l.getD 7 0⟩
/-- The state behind one more block. -/
def mixed (st : List UInt32) (l : List UInt8) : List UInt32 := List.zipWith (· + ·) st (roundsTo (ofList8 st) (wordsTo l 64) 64).list
theorem t1_form (s : St8) (k w : UInt32) : IntKind.u32.wrap (IntKind.u32.wrap (IntKind.u32.wrap (IntKind.u32.wrap (iv s.h + bits .xor .u32 (bits .xor .u32 (iv (rotr s.e 6)) (iv (rotr s.e 11))) (iv (rotr s.e 25))) + bits .xor .u32 (bits .and .u32 (iv s.e) (iv s.f)) (bits .and .u32 (bits .xor .u32 4294967295 (iv s.e)) (iv s.g))) + iv k) + iv w) = iv (t1Of s k w) := by
  simp only [iv_not, iv_xor, iv_and, iv_add]; rfl
theorem t2_form (s : St8) : IntKind.u32.wrap (bits .xor .u32 (bits .xor .u32 (iv (rotr s.a 2)) (iv (rotr s.a 13))) (iv (rotr s.a 22)) + bits .xor .u32 (bits .xor .u32 (bits .and .u32 (iv s.a) (iv s.b)) (bits .and .u32 (iv s.a) (iv s.c))) (bits .and .u32 (iv s.b) (iv s.c))) = iv (t2Of s) := by
  simp only [iv_xor, iv_and, iv_add]; rfl
theorem length_kTab : kTab.length = 64 := rfl
theorem getD_map_wv (l : List UInt32) (i : Nat) (h : i < l.length) : ((l.map wv).toArray)[i]? = some (.int .u32 (iv (l.getD i 0))) := by
  simp [wv, List.getD_eq_getElem?_getD, h]
/-- The state while the rounds' words are added to it. -/
def addTo (st out : List UInt32) (k : Nat) : List UInt32 := (List.zipWith (· + ·) st out).take k ++ st.drop k
theorem addTo_get (st out : List UInt32) (hs : st.length = 8) (ho : out.length = 8) (k : Nat) (h : k < 8) : (((addTo st out k).map wv).toArray)[k]? = some (.int .u32 (iv (st.getD k 0))) := by
  have h1 : ((List.zipWith (· + ·) st out).take k).length = k := by simp [hs, ho]; omega
  rw [getD_map_wv _ _ (by simp [addTo, hs, ho]; omega)]
  congr 3
  rw [List.getD_eq_getElem?_getD, addTo, List.getElem?_append_right (by omega), h1]
  simp [List.getD_eq_getElem?_getD]
theorem addTo_set (st out : List UInt32) (hs : st.length = 8) (ho : out.length = 8) (k : Nat) (h : k < 8) : ((addTo st out k).map wv).toArray.setIfInBounds k (.int .u32 (iv (st.getD k 0 + out.getD k 0))) = ((addTo st out (k + 1)).map wv).toArray := by
  rw [List.setIfInBounds_toArray]
  congr 1
  have e : Value.int .u32 (iv (st.getD k 0 + out.getD k 0)) = wv (st.getD k 0 + out.getD k 0) := rfl
  rw [e, ← List.map_set]
  congr 1
  apply List.ext_getElem
  · simp [addTo, hs, ho]; omega
  · intro i h1 h2
    simp only [addTo, List.getElem_set, List.getElem_append, List.getElem_take, List.getElem_zipWith, List.getElem_drop, List.length_take, List.length_zipWith, hs, ho]
    have hi : i < 8 := by simp [addTo, hs, ho] at h2; omega
    by_cases hik : k = i
    · subst hik
      simp [List.getD_eq_getElem?_getD, hs, ho, h]
      intro hh; omega
    · rw [if_neg hik]
      by_cases hlt : i < k
      · rw [dif_pos (by omega), dif_pos (by omega)]
      · rw [dif_neg (by omega), dif_neg (by omega)]
        congr 1; omega
theorem addTo_zero (st out : List UInt32) : addTo st out 0 = st := by simp [addTo]
theorem addTo_full (st out : List UInt32) (hs : st.length = 8) (ho : out.length = 8) : addTo st out 8 = List.zipWith (· + ·) st out := by
  unfold addTo; rw [List.take_of_length_le (by simp [hs, ho]), List.drop_of_length_le (by omega), List.append_nil]
theorem length_addTo (st out : List UInt32) (hs : st.length = 8) (ho : out.length = 8) (k : Nat) (h : k ≤ 8) : (addTo st out k).length = 8 := by simp [addTo, hs, ho]; omega
end Go.Proofs.YtlhjifdahagkaaaDoor.Sha
