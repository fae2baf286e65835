/-
  The walks of Read: what a sponge tells next, in new memory.
-/
import Derived.Test.YthddgmnppolajaaDoorWrite
namespace Go.Proofs.YthddgmnppolajaaDoor
open Go.RowKit
/-- The sponge stands behind the byte j of what the sealed state tells. -/
def Tap (w : World) (g rate : Nat) (st0 : List UInt64) (j : Nat) : Prop := ∃ q a, a ≤ rate ∧ q * rate + a = j ∧ SpAt w g (permN q st0) rate a true
theorem Tap.below {a b : World} {g rate j : Nat} {st0 : List UInt64} (h : Tap a g rate st0 j) (hb : Below a.heap.size a b) : Tap b g rate st0 j := by
  obtain ⟨q, p, h1, h2, h3⟩ := h
  exact ⟨q, p, h1, h2, h3.below hb⟩
theorem make_n (w : World) (n : Nat) (hn : n ≤ 65536) : (Instr.makeSlice 22 (.int .i64 (n : Int)) (.int .i64 (n : Int))).run Tryd.prog w = .ok (.slice (some ⟨w.heap.size, 0, none⟩) n n) (w.alloc (.cells (List.replicate n (Value.int .u8 0)).toArray 5)) := by
  obtain ⟨i, hi, h0, hsz, hby⟩ := info5
  have h := run_make (P := Tryd.prog) w 22 5 i (.int .u8 0) Tryd.underlying22 hi h0 .i64 .i64 (n : Int) (n : Int) (by omega) (by omega) (by rw [hby]; omega) (by omega)
  rw [h, hsz, Int.toNat_natCast]
  have e : madeCells (Value.int .u8 0).cells (n * 1) = (List.replicate n (.int .u8 0)).toArray := by
    rw [Nat.mul_one]
    apply Array.ext
    · simp [madeCells]
    · intro j h1 h2
      simp [madeCells, Value.cells, Nat.mod_one]
  rw [e]
theorem made_n (w : World) (n : Nat) (hn : n ≤ 65536) : ∃ W, (Instr.makeSlice 22 (.int .i64 (n : Int)) (.int .i64 (n : Int))).run Tryd.prog w = .ok (.slice (some ⟨w.heap.size, 0, none⟩) n n) W ∧ W.heap[w.heap.size]? = some (.cells (List.replicate n (Value.int .u8 0)).toArray 5 (0, 0)) ∧ Below w.heap.size w W :=
  ⟨_, make_n w n hn, heap_alloc_new _ _, (Below.refl _ _).alloc (Nat.le_refl _) _⟩
/-- What out holds meanwhile. -/
def outTo (rate : Nat) (st0 : List UInt64) (j n k : Nat) : List UInt8 := tells rate st0 j k ++ List.replicate (n - k) 0
theorem length_outTo (rate : Nat) (st0 : List UInt64) (j n k : Nat) (h : k ≤ n) : (outTo rate st0 j n k).length = n := by rw [outTo, List.length_append, length_tells, List.length_replicate]; omega
theorem outTo_set (rate : Nat) (st0 : List UInt64) (j n k : Nat) (h : k < n) : (outTo rate st0 j n k).set k (tellB rate st0 (j + k)) = outTo rate st0 j n (k + 1) := by
  unfold outTo
  rw [List.set_append_right _ _ (by rw [length_tells]; omega), length_tells, Nat.sub_self, show n - k = (n - (k + 1)) + 1 by omega, List.replicate_succ, List.set_cons_zero, tells_succ, List.append_assoc]
  rfl
theorem tell_at (rate : Nat) (st0 : List UInt64) (j q a : Nat) (ha : a < rate) (h : q * rate + a = j) : tellB rate st0 j = byteOf (permN q st0) a := by
  unfold tellB
  have h1 : j / rate = q := by rw [← h, Nat.mul_comm, Nat.mul_add_div (by omega), Nat.div_eq_of_lt ha, Nat.add_zero]
  have h2 : j % rate = a := by rw [← h, Nat.mul_comm, Nat.mul_add_mod, Nat.mod_eq_of_lt ha]
  rw [h1, h2]
theorem byte_form (x : UInt64) (a : Nat) : lv x / 2 ^ (a % 8 * 8) % 256 = ib ((x >>> UInt64.ofNat (8 * (a % 8))).toUInt8) := by
  rw [← lane_byte, Nat.mul_comm (a % 8) 8, ← shr_lane x (8 * (a % 8)) (by omega), Int.fdiv_eq_ediv_of_nonneg _ (Int.pow_nonneg (by omega))]
theorem setRow_cell {w : World} {B k : Nat} {l : List UInt8} (h : w.heap[B]? = some (.cells (l.map bv).toArray 5 (0, 0))) (b : UInt8) : (w.setCell ⟨B, k, none⟩ (.int .u8 (ib b))).heap[B]? = some (.cells ((l.set k b).map bv).toArray 5 (0, 0)) := by
  rw [heap_setCell_same w B k _ 5 _ h, List.setIfInBounds_toArray, List.map_set]
  rfl
theorem own_row {w : World} {B base : Nat} {l : List UInt8} (h : w.heap[B]? = some (.cells (l.map bv).toArray 5 (0, 0))) (hB : base ≤ B) (n : Nat) (hl : l.length = n) (hn : n ≤ 65536) : OwnB w base (.slice (some ⟨B, 0, none⟩) n n) l := by
  subst hl
  refine ⟨by simp, Or.inr ⟨B, l.length, _, rfl, hB, h, Nat.le_refl _, by simp only [maxLen]; omega, by simp, List.take_of_length_le (by simp)⟩⟩
/-- One byte is laid. -/
theorem lay_byte {w wr : World} {g B rate n k j q a : Nat} {st0 : List UInt64} (hk : k < n) (ha : a < rate) (hqa : q * rate + a = j + k) (hS : SpAt wr g (permN q st0) rate a true) (hO : wr.heap[B]? = some (.cells ((outTo rate st0 j n k).map bv).toArray 5 (0, 0)))
    (hG : w.grownBy wr (some g)) (hB : w.heap.size ≤ B) (hgB : g ≠ B) (v : Int) (hv : v = ib (byteOf (permN q st0) a)) :
    SpAt (wr.setCell ⟨B, k, none⟩ (.int .u8 v)) g (permN q st0) rate a true ∧ (wr.setCell ⟨B, k, none⟩ (.int .u8 v)).heap[B]? = some (.cells ((outTo rate st0 j n (k + 1)).map bv).toArray 5 (0, 0)) ∧ w.grownBy (wr.setCell ⟨B, k, none⟩ (.int .u8 v)) (some g) := by
  subst hv
  rw [← tell_at rate st0 (j + k) q a ha hqa]
  refine ⟨⟨hS.1, by rw [heap_setCell_other _ _ _ _ hgB]; exact hS.2⟩, ?_, ⟨hG.os, hG.tape, hG.output, by rw [World.size_setCell]; exact hG.size, fun i hi hne => by rw [heap_setCell_other _ _ _ _ (by dsimp only; omega)]; exact hG.block i hi hne⟩⟩
  rw [← outTo_set rate st0 j n k hk]
  exact setRow_cell hO _
set_option maxRecDepth 100000 in
set_option maxHeartbeats 2000000 in
theorem read_first (g : Nat) (hg0 : 0 < g) (rate : Nat) (hr : rate ≤ 200) (p : SP) (hp : p.pos < rate) (w : World) (h : SpAt w g p.st rate p.pos false) (hT : NumAt w) (n : Nat) (hn : n ≤ 65536) :
    Calls Tryd.prog 20 #[.pointer (some ⟨g, 0, none⟩), .int .i64 (n : Int)] w fun e w' => ∃ v, e = .returned v ∧ OwnB w' w.heap.size v (tells rate (sealOf rate p) 0 n) ∧ Tap w' g rate (sealOf rate p) (0 + n) ∧ w.grownBy w' (some g) := by
  have HN := hide hT
  have n0 : (0 : Int) ≤ (n : Int) := by omega
  have n1 : (n : Int) ≤ 65536 := by omega
  have d0 : decide ((n : Int) < 0) = false := by simp
  have d1 : decide ((65536 : Int) < (n : Int)) = false := by simp; omega
  have c := h.cRd
  have H := hide h
  have HT := hide hT
  clear h hT
  go_enter Tryd.func20, Tryd.ntmps20
  go_wp2_with fail
  refine (finish_any g hg0 p.st rate p.pos hp hr w (unhide H) (unhide HT)).mono ?_
  rintro e w1 ⟨rfl, h1, hG1⟩
  have hgl := h1.lt
  have hT1 := (unhide HT).grown hG1 hg0
  have hTap : Tap w1 g rate (sealOf rate p) 0 := ⟨0, 0, by omega, by omega, h1⟩
  have hr0 : 0 < rate := by omega
  clear h1 c H HT
  obtain ⟨st0, hst0⟩ : ∃ s, sealOf rate p = s := ⟨_, rfl⟩
  rw [hst0] at hTap
  have Hst0 := hide hst0
  clear hst0
  obtain ⟨w2, hmk, hZ, hM0⟩ := made_n w1 n hn
  have HTap := hide (hTap.below hM0)
  have HG := hide (grown_below hG1 hM0)
  have HT1 := hide (hT1.below hM0)
  have HO : Hid (w2.heap[w1.heap.size]? = some (.cells ((outTo rate st0 0 n 0).map bv).toArray 5 (0, 0))) := by
    show _ = _
    rw [hZ]
    simp [outTo, tells, bv, ib]
  have hB2 : w1.heap.size ≤ w1.heap.size := Nat.le_refl _
  have hB0 : w.heap.size ≤ w1.heap.size := hG1.size
  clear hTap hG1 hM0 hT1 hZ
  go_wp2
  generalize hBB : w1.heap.size = B at hgl HO hmk ⊢
  have hB : w.heap.size ≤ B := Nat.le_trans hB0 (Nat.le_of_eq hBB)
  clear hB0 hB2
  clear hmk
  go_loopw [24] (fun i wr => ∃ k : Nat, k ≤ n ∧ i = .int .i64 (k : Int) ∧ wr.heap[B]? = some (.cells ((outTo rate st0 0 n k).map bv).toArray 5 (0, 0)) ∧ Tap wr g rate st0 (0 + k) ∧ w.grownBy wr (some g) ∧ NumAt wr) (fun i _ => n - (intOf i).toNat)
  case atStart => exact ⟨0, by omega, rfl, unhide HO, unhide HTap, unhide HG, unhide HT1⟩
  case round =>
    obtain ⟨k, hk, rfl, hO, hTap, hG, hT⟩ := hrel
    clear HO HTap HG HT1
    by_cases hlt : k < n
    · obtain ⟨q, a, ha, hqa, hS⟩ := hTap
      have k0 : (0 : Int) ≤ (k : Int) := by omega
      have k1 : (k : Int) < (n : Int) := by omega
      have c25 := hS.cRate
      have c26 := hS.cPos
      have HS := hide hS
      have HO := hide hO
      have HG := hide hG
      have HT := hide hT
      clear hS hO hG hT
      by_cases he : a = rate
      · have hq : ((a : Int) == (rate : Int)) = true := by simp; omega
        go_wp2
        go_region_held3 (fun w' => w'.cell? ⟨g, 26, none⟩ = some (.int .i64 (a : Int)) ∧ w'.cell? ⟨g, 25, none⟩ = some (.int .i64 (rate : Int))) (go_keep) (fail)
        go_wp2_with fail
        refine (permute_any g (permN q st0) rate a true wr.drew ⟨(unhide HS).1, (unhide HS).2⟩ (show NumAt wr.drew from unhide HT)).mono ?_
        rintro e w4 ⟨rfl, h4, hg4⟩
        rw [← permN_succ] at h4
        have hO4 : w4.heap[B]? = some (.cells ((outTo rate st0 0 n k).map bv).toArray 5 (0, 0)) := by
          rw [hg4.block B (Array.getElem?_eq_some_iff.1 (unhide HO)).1 (by simp; omega)]; exact unhide HO
        have hqa2 : (q + 1) * rate + 0 = 0 + k := by rw [Nat.add_mul, Nat.one_mul]; omega
        have hT4 := (unhide HT).grown (a := wr) (b := wr.drew) (g := g) (grown_drew (World.grownBy.refl wr (some g))) hg0 |>.grown hg4 hg0
        have HGx := hide ((unhide HG).drew.trans hg4)
        clear HS HO HG HT c25 c26 hq hqa ha hg4
        have hal : 0 < rate := hr0
        obtain ⟨z, hz⟩ : ∃ z : Nat, 0 = z := ⟨0, rfl⟩
        have hqa : (q + 1) * rate + z = 0 + k := by rw [← hz]; exact hqa2
        rw [hz] at h4 hal
        have hi : z / 8 < 25 := by omega
        have cl := h4.lane (z / 8) hi
        have c26 := h4.cPos
        have fB := frozen_of_row w4 B k _ 5 hO4
        have cB : ∃ v, w4.cell? ⟨B, k, none⟩ = some v := by
          rw [cell_of_row w4 B k _ 5 (0, 0) hO4, List.getElem?_toArray]
          exact ⟨_, List.getElem?_eq_getElem (by rw [List.length_map, length_outTo _ _ _ _ _ hk]; exact hlt)⟩
        obtain ⟨vB, cB⟩ := cB
        have hgB : g ≠ B := by omega
        have hBg := Ne.symm hgB
        have HS := hide h4
        have HO := hide hO4
        have HG := HGx
        have He := hide he
        have Hz := hide hz
        clear hqa2 h4 hO4 HGx he hT4 hz
        have z0 : ((z : Int)).tdiv 8 = (z : Int) / 8 := Int.tdiv_eq_ediv_of_nonneg (by omega)
        have z1 : ((z : Int)).tmod 8 = (z : Int) % 8 := Int.tmod_eq_emod_of_nonneg (by omega)
        have z3 : (0 : Int) ≤ (z : Int) / 8 := by omega
        have z4 : (z : Int) / 8 < 25 := by omega
        have z5 : (0 : Int) ≤ (z : Int) := by omega
        have z6 : (z : Int) < 200 := by omega
        have z7 : ((z : Int) / 8).toNat = z / 8 := by omega
        have z8 : (0 : Int) ≤ (z : Int) % 8 := by omega
        have z9 : (z : Int) % 8 < 8 := by omega
        generalize hx : (permN (q + 1) st0).getD (z / 8) 0 = x at cl
        have Hx := hide hx
        clear hx
        go_wp2
        go_region
        have hv : lv x / 2 ^ (z % 8 * 8) % 256 = ib (byteOf (permN (q + 1) st0) z) := by rw [byteOf, unhide Hx]; exact byte_form x z
        obtain ⟨hS3, hO3, hG3⟩ := lay_byte hlt hal hqa (unhide HS) (unhide HO) (unhide HG) hB hgB _ hv
        generalize w4.setCell ⟨B, k, none⟩ (.int .u8 (lv x / 2 ^ (z % 8 * 8) % 256)) = W3 at hS3 hO3 hG3 ⊢
        have d26 := hS3.cPos
        have f26 := hS3.frozen 26
        have hn : ((z : Int) + 1) = ((z + 1 : Nat) : Int) := by omega
        have h4 := hS3.set_pos (z + 1)
        rw [← hn] at h4
        have hO4 : (W3.setCell ⟨g, 26, none⟩ (.int .i64 ((z : Int) + 1))).heap[B]? = _ := (heap_setCell_other W3 ⟨g, 26, none⟩ B _ hBg).trans hO3
        have HS4 := hide h4
        have HO4 := hide hO4
        have HG4 := hide (grown_setCell hG3 ⟨g, 26, none⟩ (.int .i64 ((z : Int) + 1)) rfl)
        have HT4 := hide ((unhide HN).grown (unhide HG4) hg0)
        clear hv hS3 hO3 hG3 h4 hO4 HS HO HG hn
        go_wp2
        go_roundw
        case rel =>
          have hr' : ((W3.setCell ⟨g, 26, none⟩ (.int .i64 ((z : Int) + 1))).drew).heap[B]? = some (.cells ((outTo rate st0 0 n (k + 1)).map bv).toArray 5 (0, 0)) ∧ Tap ((W3.setCell ⟨g, 26, none⟩ (.int .i64 ((z : Int) + 1))).drew) g rate st0 (0 + (k + 1)) ∧ w.grownBy ((W3.setCell ⟨g, 26, none⟩ (.int .i64 ((z : Int) + 1))).drew) (some g) ∧ NumAt ((W3.setCell ⟨g, 26, none⟩ (.int .i64 ((z : Int) + 1))).drew) :=
            ⟨unhide HO4, ⟨(q + 1), z + 1, by omega, by omega, ⟨(unhide HS4).1, (unhide HS4).2⟩⟩, (unhide HG4).drew, unhide HT4⟩
          first
            | exact ⟨k + 1, by omega, by go_num, hr'⟩
            | ((repeat apply Exists.intro); exact ⟨⟨k + 1, by omega, by go_num, hr'⟩, rfl⟩)
        case measure => simp [intOf]; omega
      · have hal : a < rate := by omega
        have hq : ((a : Int) == (rate : Int)) = false := by simp; omega
        have hi : a / 8 < 25 := by omega
        have cl := (unhide HS).lane (a / 8) hi
        have fB := frozen_of_row wr B k _ 5 (unhide HO)
        have cB : ∃ v, wr.cell? ⟨B, k, none⟩ = some v := by
          rw [cell_of_row wr B k _ 5 (0, 0) (unhide HO), List.getElem?_toArray]
          exact ⟨_, List.getElem?_eq_getElem (by rw [List.length_map, length_outTo _ _ _ _ _ hk]; exact hlt)⟩
        obtain ⟨vB, cB⟩ := cB
        have hgB : g ≠ B := by omega
        have hBg := Ne.symm hgB
        have z0 : ((a : Int)).tdiv 8 = (a : Int) / 8 := Int.tdiv_eq_ediv_of_nonneg (by omega)
        have z1 : ((a : Int)).tmod 8 = (a : Int) % 8 := Int.tmod_eq_emod_of_nonneg (by omega)
        have z3 : (0 : Int) ≤ (a : Int) / 8 := by omega
        have z4 : (a : Int) / 8 < 25 := by omega
        have z5 : (0 : Int) ≤ (a : Int) := by omega
        have z6 : (a : Int) < 200 := by omega
        have z7 : ((a : Int) / 8).toNat = a / 8 := by omega
        have z8 : (0 : Int) ≤ (a : Int) % 8 := by omega
        have z9 : (a : Int) % 8 < 8 := by omega
        generalize hx : (permN q st0).getD (a / 8) 0 = x at cl
        have Hx := hide hx
        clear hx
        go_wp2
        go_region_held3 (fun w' => w'.cell? ⟨g, 26, none⟩ = some (.int .i64 (a : Int)) ∧ w'.cell? ⟨g, 25, none⟩ = some (.int .i64 (rate : Int))) (go_keep) (fail)
        go_wp2
        go_region
        have hv : lv x / 2 ^ (a % 8 * 8) % 256 = ib (byteOf (permN q st0) a) := by rw [byteOf, unhide Hx]; exact byte_form x a
        obtain ⟨hS3, hO3, hG3⟩ := lay_byte hlt hal hqa (unhide HS) (unhide HO) (unhide HG) hB hgB _ hv
        generalize wr.setCell ⟨B, k, none⟩ (.int .u8 (lv x / 2 ^ (a % 8 * 8) % 256)) = W3 at hS3 hO3 hG3 ⊢
        have d26 := hS3.cPos
        have f26 := hS3.frozen 26
        have hn : ((a : Int) + 1) = ((a + 1 : Nat) : Int) := by omega
        have h4 := hS3.set_pos (a + 1)
        rw [← hn] at h4
        have hO4 : (W3.setCell ⟨g, 26, none⟩ (.int .i64 ((a : Int) + 1))).heap[B]? = _ := (heap_setCell_other W3 ⟨g, 26, none⟩ B _ hBg).trans hO3
        have HS4 := hide h4
        have HO4 := hide hO4
        have HG4 := hide (grown_setCell hG3 ⟨g, 26, none⟩ (.int .i64 ((a : Int) + 1)) rfl)
        have HT4 := hide ((unhide HN).grown (unhide HG4) hg0)
        clear hv hS3 hO3 hG3 h4 hO4 HS HO HG hn
        go_wp2
        go_roundw
        case rel =>
          have hr' : ((W3.setCell ⟨g, 26, none⟩ (.int .i64 ((a : Int) + 1))).drew.drew).heap[B]? = some (.cells ((outTo rate st0 0 n (k + 1)).map bv).toArray 5 (0, 0)) ∧ Tap ((W3.setCell ⟨g, 26, none⟩ (.int .i64 ((a : Int) + 1))).drew.drew) g rate st0 (0 + (k + 1)) ∧ w.grownBy ((W3.setCell ⟨g, 26, none⟩ (.int .i64 ((a : Int) + 1))).drew.drew) (some g) ∧ NumAt ((W3.setCell ⟨g, 26, none⟩ (.int .i64 ((a : Int) + 1))).drew.drew) :=
            ⟨unhide HO4, ⟨q, a + 1, by omega, by omega, ⟨(unhide HS4).1, (unhide HS4).2⟩⟩, (unhide HG4).drew.drew, unhide HT4⟩
          first
            | exact ⟨k + 1, by omega, by go_num, hr'⟩
            | ((repeat apply Exists.intro); exact ⟨⟨k + 1, by omega, by go_num, hr'⟩, rfl⟩)
        case measure => simp [intOf]; omega
    · obtain rfl : k = n := by omega
      have hout : outTo rate st0 0 k k = tells rate st0 0 k := by unfold outTo; rw [Nat.sub_self, List.replicate_zero, List.append_nil]
      rw [hout] at hO
      have HR := hide (own_row hO hB k (length_tells _ _ _ _) (by omega))
      have HP := hide hTap
      have HG := hide hG
      clear hO hTap hG hout
      go_wp2
      go_ret
      exact ⟨.slice (some ⟨B, 0, none⟩) k k, rfl, by rw [unhide Hst0]; exact unhide HR, by rw [unhide Hst0]; exact unhide HP, unhide HG⟩
set_option maxRecDepth 100000 in
set_option maxHeartbeats 2000000 in
theorem read_on (g : Nat) (hg0 : 0 < g) (rate : Nat) (h8 : 0 < rate) (hr : rate ≤ 200) (st0 : List UInt64) (j : Nat) (w : World) (h : Tap w g rate st0 j) (hT : NumAt w) (n : Nat) (hn : n ≤ 65536) :
    Calls Tryd.prog 20 #[.pointer (some ⟨g, 0, none⟩), .int .i64 (n : Int)] w fun e w' => ∃ v, e = .returned v ∧ OwnB w' w.heap.size v (tells rate st0 j n) ∧ Tap w' g rate st0 (j + n) ∧ w.grownBy w' (some g) := by
  have HN := hide hT
  have n0 : (0 : Int) ≤ (n : Int) := by omega
  have n1 : (n : Int) ≤ 65536 := by omega
  have d0 : decide ((n : Int) < 0) = false := by simp
  have d1 : decide ((65536 : Int) < (n : Int)) = false := by simp; omega
  have c : w.cell? ⟨g, 27, none⟩ = some (.bool true) := by obtain ⟨q, a, _, _, h3⟩ := h; exact h3.cRd
  have hgl : g < w.heap.size := by obtain ⟨q, a, _, _, h3⟩ := h; exact h3.lt
  have hTap := h
  have hT1 := hT
  have hG1 := World.grownBy.refl w (some g)
  have hr0 := h8
  clear h hT h8
  go_enter Tryd.func20, Tryd.ntmps20
  obtain ⟨w2, hmk, hZ, hM0⟩ := made_n w n hn
  have HTap := hide (hTap.below hM0)
  have HG := hide (grown_below hG1 hM0)
  have HT1 := hide (hT1.below hM0)
  have HO : Hid (w2.heap[w.heap.size]? = some (.cells ((outTo rate st0 j n 0).map bv).toArray 5 (0, 0))) := by
    show _ = _
    rw [hZ]
    simp [outTo, tells, bv, ib]
  have hB2 : w.heap.size ≤ w.heap.size := Nat.le_refl _
  have hB0 : w.heap.size ≤ w.heap.size := hG1.size
  clear hTap hG1 hM0 hT1 hZ
  go_wp2
  generalize hBB : w.heap.size = B at hgl HO hmk ⊢
  have hB : w.heap.size ≤ B := Nat.le_trans hB0 (Nat.le_of_eq hBB)
  clear hB0 hB2
  clear hmk
  go_loopw [24] (fun i wr => ∃ k : Nat, k ≤ n ∧ i = .int .i64 (k : Int) ∧ wr.heap[B]? = some (.cells ((outTo rate st0 j n k).map bv).toArray 5 (0, 0)) ∧ Tap wr g rate st0 (j + k) ∧ w.grownBy wr (some g) ∧ NumAt wr) (fun i _ => n - (intOf i).toNat)
  case atStart => exact ⟨0, by omega, rfl, unhide HO, unhide HTap, unhide HG, unhide HT1⟩
  case round =>
    obtain ⟨k, hk, rfl, hO, hTap, hG, hT⟩ := hrel
    clear HO HTap HG HT1
    by_cases hlt : k < n
    · obtain ⟨q, a, ha, hqa, hS⟩ := hTap
      have k0 : (0 : Int) ≤ (k : Int) := by omega
      have k1 : (k : Int) < (n : Int) := by omega
      have c25 := hS.cRate
      have c26 := hS.cPos
      have HS := hide hS
      have HO := hide hO
      have HG := hide hG
      have HT := hide hT
      clear hS hO hG hT
      by_cases he : a = rate
      · have hq : ((a : Int) == (rate : Int)) = true := by simp; omega
        go_wp2
        go_region_held3 (fun w' => w'.cell? ⟨g, 26, none⟩ = some (.int .i64 (a : Int)) ∧ w'.cell? ⟨g, 25, none⟩ = some (.int .i64 (rate : Int))) (go_keep) (fail)
        go_wp2_with fail
        refine (permute_any g (permN q st0) rate a true wr.drew ⟨(unhide HS).1, (unhide HS).2⟩ (show NumAt wr.drew from unhide HT)).mono ?_
        rintro e w4 ⟨rfl, h4, hg4⟩
        rw [← permN_succ] at h4
        have hO4 : w4.heap[B]? = some (.cells ((outTo rate st0 j n k).map bv).toArray 5 (0, 0)) := by
          rw [hg4.block B (Array.getElem?_eq_some_iff.1 (unhide HO)).1 (by simp; omega)]; exact unhide HO
        have hqa2 : (q + 1) * rate + 0 = j + k := by rw [Nat.add_mul, Nat.one_mul]; omega
        have hT4 := (unhide HT).grown (a := wr) (b := wr.drew) (g := g) (grown_drew (World.grownBy.refl wr (some g))) hg0 |>.grown hg4 hg0
        have HGx := hide ((unhide HG).drew.trans hg4)
        clear HS HO HG HT c25 c26 hq hqa ha hg4
        have hal : 0 < rate := hr0
        obtain ⟨z, hz⟩ : ∃ z : Nat, 0 = z := ⟨0, rfl⟩
        have hqa : (q + 1) * rate + z = j + k := by rw [← hz]; exact hqa2
        rw [hz] at h4 hal
        have hi : z / 8 < 25 := by omega
        have cl := h4.lane (z / 8) hi
        have c26 := h4.cPos
        have fB := frozen_of_row w4 B k _ 5 hO4
        have cB : ∃ v, w4.cell? ⟨B, k, none⟩ = some v := by
          rw [cell_of_row w4 B k _ 5 (0, 0) hO4, List.getElem?_toArray]
          exact ⟨_, List.getElem?_eq_getElem (by rw [List.length_map, length_outTo _ _ _ _ _ hk]; exact hlt)⟩
        obtain ⟨vB, cB⟩ := cB
        have hgB : g ≠ B := by omega
        have hBg := Ne.symm hgB
        have HS := hide h4
        have HO := hide hO4
        have HG := HGx
        have He := hide he
        have Hz := hide hz
        clear hqa2 h4 hO4 HGx he hT4 hz
        have z0 : ((z : Int)).tdiv 8 = (z : Int) / 8 := Int.tdiv_eq_ediv_of_nonneg (by omega)
        have z1 : ((z : Int)).tmod 8 = (z : Int) % 8 := Int.tmod_eq_emod_of_nonneg (by omega)
        have z3 : (0 : Int) ≤ (z : Int) / 8 := by omega
        have z4 : (z : Int) / 8 < 25 := by omega
        have z5 : (0 : Int) ≤ (z : Int) := by omega
        have z6 : (z : Int) < 200 := by omega
        have z7 : ((z : Int) / 8).toNat = z / 8 := by omega
        have z8 : (0 : Int) ≤ (z : Int) % 8 := by omega
        have z9 : (z : Int) % 8 < 8 := by omega
        generalize hx : (permN (q + 1) st0).getD (z / 8) 0 = x at cl
        have Hx := hide hx
        clear hx
        go_wp2
        go_region
        have hv : lv x / 2 ^ (z % 8 * 8) % 256 = ib (byteOf (permN (q + 1) st0) z) := by rw [byteOf, unhide Hx]; exact byte_form x z
        obtain ⟨hS3, hO3, hG3⟩ := lay_byte hlt hal hqa (unhide HS) (unhide HO) (unhide HG) hB hgB _ hv
        generalize w4.setCell ⟨B, k, none⟩ (.int .u8 (lv x / 2 ^ (z % 8 * 8) % 256)) = W3 at hS3 hO3 hG3 ⊢
        have d26 := hS3.cPos
        have f26 := hS3.frozen 26
        have hn : ((z : Int) + 1) = ((z + 1 : Nat) : Int) := by omega
        have h4 := hS3.set_pos (z + 1)
        rw [← hn] at h4
        have hO4 : (W3.setCell ⟨g, 26, none⟩ (.int .i64 ((z : Int) + 1))).heap[B]? = _ := (heap_setCell_other W3 ⟨g, 26, none⟩ B _ hBg).trans hO3
        have HS4 := hide h4
        have HO4 := hide hO4
        have HG4 := hide (grown_setCell hG3 ⟨g, 26, none⟩ (.int .i64 ((z : Int) + 1)) rfl)
        have HT4 := hide ((unhide HN).grown (unhide HG4) hg0)
        clear hv hS3 hO3 hG3 h4 hO4 HS HO HG hn
        go_wp2
        go_roundw
        case rel =>
          have hr' : ((W3.setCell ⟨g, 26, none⟩ (.int .i64 ((z : Int) + 1))).drew).heap[B]? = some (.cells ((outTo rate st0 j n (k + 1)).map bv).toArray 5 (0, 0)) ∧ Tap ((W3.setCell ⟨g, 26, none⟩ (.int .i64 ((z : Int) + 1))).drew) g rate st0 (j + (k + 1)) ∧ w.grownBy ((W3.setCell ⟨g, 26, none⟩ (.int .i64 ((z : Int) + 1))).drew) (some g) ∧ NumAt ((W3.setCell ⟨g, 26, none⟩ (.int .i64 ((z : Int) + 1))).drew) :=
            ⟨unhide HO4, ⟨(q + 1), z + 1, by omega, by omega, ⟨(unhide HS4).1, (unhide HS4).2⟩⟩, (unhide HG4).drew, unhide HT4⟩
          first
            | exact ⟨k + 1, by omega, by go_num, hr'⟩
            | ((repeat apply Exists.intro); exact ⟨⟨k + 1, by omega, by go_num, hr'⟩, rfl⟩)
        case measure => simp [intOf]; omega
      · have hal : a < rate := by omega
        have hq : ((a : Int) == (rate : Int)) = false := by simp; omega
        have hi : a / 8 < 25 := by omega
        have cl := (unhide HS).lane (a / 8) hi
        have fB := frozen_of_row wr B k _ 5 (unhide HO)
        have cB : ∃ v, wr.cell? ⟨B, k, none⟩ = some v := by
          rw [cell_of_row wr B k _ 5 (0, 0) (unhide HO), List.getElem?_toArray]
          exact ⟨_, List.getElem?_eq_getElem (by rw [List.length_map, length_outTo _ _ _ _ _ hk]; exact hlt)⟩
        obtain ⟨vB, cB⟩ := cB
        have hgB : g ≠ B := by omega
        have hBg := Ne.symm hgB
        have z0 : ((a : Int)).tdiv 8 = (a : Int) / 8 := Int.tdiv_eq_ediv_of_nonneg (by omega)
        have z1 : ((a : Int)).tmod 8 = (a : Int) % 8 := Int.tmod_eq_emod_of_nonneg (by omega)
        have z3 : (0 : Int) ≤ (a : Int) / 8 := by omega
        have z4 : (a : Int) / 8 < 25 := by omega
        have z5 : (0 : Int) ≤ (a : Int) := by omega
        have z6 : (a : Int) < 200 := by omega
        have z7 : ((a : Int) / 8).toNat = a / 8 := by omega
        have z8 : (0 : Int) ≤ (a : Int) % 8 := by omega
        have z9 : (a : Int) % 8 < 8 := by omega
        generalize hx : (permN q st0).getD (a / 8) 0 = x at cl
        have Hx := hide hx
        clear hx
        go_wp2
        go_region_held3 (fun w' => w'.cell? ⟨g, 26, none⟩ = some (.int .i64 (a : Int)) ∧ w'.cell? ⟨g, 25, none⟩ = some (.int .i64 (rate : Int))) (go_keep) (fail)
        go_wp2
        go_region
        have hv : lv x / 2 ^ (a % 8 * 8) % 256 = ib (byteOf (permN q st0) a) := by rw [byteOf, unhide Hx]; exact byte_form x a
        obtain ⟨hS3, hO3, hG3⟩ := lay_byte hlt hal hqa (unhide HS) (unhide HO) (unhide HG) hB hgB _ hv
        generalize wr.setCell ⟨B, k, none⟩ (.int .u8 (lv x / 2 ^ (a % 8 * 8) % 256)) = W3 at hS3 hO3 hG3 ⊢
        have d26 := hS3.cPos
        have f26 := hS3.frozen 26
        have hn : ((a : Int) + 1) = ((a + 1 : Nat) : Int) := by omega
        have h4 := hS3.set_pos (a + 1)
        rw [← hn] at h4
        have hO4 : (W3.setCell ⟨g, 26, none⟩ (.int .i64 ((a : Int) + 1))).heap[B]? = _ := (heap_setCell_other W3 ⟨g, 26, none⟩ B _ hBg).trans hO3
        have HS4 := hide h4
        have HO4 := hide hO4
        have HG4 := hide (grown_setCell hG3 ⟨g, 26, none⟩ (.int .i64 ((a : Int) + 1)) rfl)
        have HT4 := hide ((unhide HN).grown (unhide HG4) hg0)
        clear hv hS3 hO3 hG3 h4 hO4 HS HO HG hn
        go_wp2
        go_roundw
        case rel =>
          have hr' : ((W3.setCell ⟨g, 26, none⟩ (.int .i64 ((a : Int) + 1))).drew.drew).heap[B]? = some (.cells ((outTo rate st0 j n (k + 1)).map bv).toArray 5 (0, 0)) ∧ Tap ((W3.setCell ⟨g, 26, none⟩ (.int .i64 ((a : Int) + 1))).drew.drew) g rate st0 (j + (k + 1)) ∧ w.grownBy ((W3.setCell ⟨g, 26, none⟩ (.int .i64 ((a : Int) + 1))).drew.drew) (some g) ∧ NumAt ((W3.setCell ⟨g, 26, none⟩ (.int .i64 ((a : Int) + 1))).drew.drew) :=
            ⟨unhide HO4, ⟨q, a + 1, by omega, by omega, ⟨(unhide HS4).1, (unhide HS4).2⟩⟩, (unhide HG4).drew.drew, unhide HT4⟩
          first
            | exact ⟨k + 1, by omega, by go_num, hr'⟩
            | ((repeat apply Exists.intro); exact ⟨⟨k + 1, by omega, by go_num, hr'⟩, rfl⟩)
        case measure => simp [intOf]; omega
    · obtain rfl : k = n := by omega
      have hout : outTo rate st0 j k k = tells rate st0 j k := by unfold outTo; rw [Nat.sub_self, List.replicate_zero, List.append_nil]
      rw [hout] at hO
      have HR := hide (own_row hO hB k (length_tells _ _ _ _) (by omega))
      have HP := hide hTap
      have HG := hide hG
      clear hO hTap hG hout
      go_wp2
      go_ret
      exact ⟨.slice (some ⟨B, 0, none⟩) k k, rfl, unhide HR, unhide HP, unhide HG⟩
end Go.Proofs.YthddgmnppolajaaDoor
