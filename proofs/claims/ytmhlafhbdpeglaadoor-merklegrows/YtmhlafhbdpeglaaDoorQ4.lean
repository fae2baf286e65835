/-
  The walk of spread: the 64 words of a block are those of the schedule; nothing that was there has turned.
-/
import Derived.Test.YtmhlafhbdpeglaaDoorQ3
import Derived.Deep.RegionHeld3
import Derived.BigQuiet
import Derived.Laws.CopyOwn
namespace Go.Proofs.YtmhlafhbdpeglaaDoor.Sha
open Go.RowKit
theorem store_word (b0 b1 b2 b3 : UInt8) : bits .or .u32 (bits .or .u32 (bits .or .u32 (IntKind.u32.wrap (IntKind.u32.wrap (ib b0) * 16777216)) (IntKind.u32.wrap (IntKind.u32.wrap (ib b1) * 65536))) (IntKind.u32.wrap (IntKind.u32.wrap (ib b2) * 256))) (IntKind.u32.wrap (ib b3)) = iv (b0.toUInt32 <<< 24 ||| b1.toUInt32 <<< 16 ||| b2.toUInt32 <<< 8 ||| b3.toUInt32) := by
  simp only [byte_word, shl24, shl16, shl8, iv_or]
theorem next_word (x2 x7 x15 x16 : UInt32) : IntKind.u32.wrap (IntKind.u32.wrap (IntKind.u32.wrap (bits .xor .u32 (bits .xor .u32 (iv (rotr x2 17)) (iv (rotr x2 19))) (iv x2 / 1024) + iv x7) + bits .xor .u32 (bits .xor .u32 (iv (rotr x15 7)) (iv (rotr x15 18))) (iv x15 / 8)) + iv x16) = iv (sg1 x2 + x7 + sg0 x15 + x16) := by
  simp only [shr10, shr3, iv_xor, iv_add]
  rfl
/-- What holds of the world while the words are laid: block N holds the bytes, N+1 the result's place, N+2 the words so far. -/
def SpreadAt (l : List UInt8) (w : World) (k : Nat) (wr : World) : Prop :=
  wr.heap.size = w.heap.size + 1 + 1 + 1 ∧ wr.heap[w.heap.size]? = some (.cells (l.map bv).toArray 75 (0, 0)) ∧ wr.heap[w.heap.size + 1]? = some (.cells (List.replicate 64 (Value.int .u32 0)).toArray 70 (0, 0)) ∧
    wr.heap[w.heap.size + 1 + 1]? = some (.cells (content l k) 70 (0, 0)) ∧ Below w.heap.size w wr
theorem SpreadAt.step {l : List UInt8} {w wr : World} {k : Nat} (h : SpreadAt l w k wr) (hk : k < 64) (v : Int) (hv : v = iv (nextW l (wordsTo l k))) :
    SpreadAt l w (k + 1) (wr.setCell ⟨w.heap.size + 1 + 1, k, none⟩ (.int .u32 v)).drew := by
  obtain ⟨hz, h0, h1, h2, hb⟩ := h
  subst hv
  refine ⟨by simpa using hz, ?_, ?_, ?_, (hb.setCell (by show _ ≤ w.heap.size + 1 + 1; omega) _).drew⟩
  · rw [heap_drew, heap_setCell_other _ _ _ _ (by show _ ≠ w.heap.size + 1 + 1; omega)]; exact h0
  · rw [heap_drew, heap_setCell_other _ _ _ _ (by show _ ≠ w.heap.size + 1 + 1; omega)]; exact h1
  · rw [heap_drew, heap_setCell_same _ _ _ _ _ _ h2, content_set l k hk]
theorem SpreadAt.drew {l : List UInt8} {w wr : World} {k : Nat} (h : SpreadAt l w k wr) : SpreadAt l w k wr.drew := ⟨h.1, h.2.1, h.2.2.1, h.2.2.2.1, h.2.2.2.2.drew⟩
theorem alloc3 (w : World) (A B C : Obj) : (((w.alloc A).alloc B).alloc C).heap[w.heap.size]? = some A ∧ (((w.alloc A).alloc B).alloc C).heap[w.heap.size + 1]? = some B ∧ (((w.alloc A).alloc B).alloc C).heap[w.heap.size + 1 + 1]? = some C := by
  have e1 : (w.alloc A).heap.size = w.heap.size + 1 := by simp
  have e2 : ((w.alloc A).alloc B).heap.size = w.heap.size + 1 + 1 := by simp
  refine ⟨?_, ?_, ?_⟩
  · rw [heap_alloc_old _ _ (by omega), heap_alloc_old _ _ (by omega)]; exact heap_alloc_new _ _
  · rw [heap_alloc_old _ _ (by omega), ← e1]; exact heap_alloc_new _ _
  · rw [← e2]; exact heap_alloc_new _ _
theorem SpreadAt.start (l : List UInt8) (w : World) (Z : Array Value) (hZ : Z = (List.replicate 64 (Value.int .u32 0)).toArray) : SpreadAt l w 0 (((w.alloc (.cells (l.map bv).toArray 75)).alloc (.cells Z 70)).alloc (.cells Z 70)) := by
  have h := alloc3 w (.cells (l.map bv).toArray 75) (.cells Z 70) (.cells Z 70)
  refine ⟨by simp, h.1, ?_, ?_, ((((Below.refl _ _).alloc (Nat.le_refl _) _).alloc (by simp) _).alloc (by simp; omega) _)⟩
  · rw [← hZ]; exact h.2.1
  · rw [content_zero, ← hZ]; exact h.2.2
set_option maxHeartbeats 1000000 in
theorem spread_any (l : List UInt8) (hl : l.length = 64) (w : World) :
    Calls Tryd.prog 60 #[.agg (l.map bv).toArray] w fun e w' => e = .returned (.agg ((wordsTo l 64).map wv).toArray) ∧ Below w.heap.size w w' := by
  generalize hcs : (l.map bv).toArray = cs
  have Hcs : Hid ((l.map bv).toArray = cs) := hcs
  clear hcs
  go_enter Tryd.func60, Tryd.ntmps60
  go_wp2
  go_loopw [10] (fun i wr => ∃ k : Nat, k ≤ 16 ∧ i = .int .i64 k ∧ SpreadAt l w k wr) (fun i _ => 16 - (intOf i).toNat)
  case atStart =>
    refine ⟨0, by omega, rfl, ?_⟩
    rw [← Hcs.out]
    exact SpreadAt.start l w _ rfl
  case round =>
    obtain ⟨k, hk, rfl, hS⟩ := hrel
    by_cases hlt : k < 16
    · have hB : ∀ j, j < 64 → wr.cell? ⟨w.heap.size, j, none⟩ = some (.int .u8 (ib (l.getD j 0))) := by
        intro j hj
        rw [cell_of_row wr _ j _ 75 (0, 0) hS.2.1]
        simp [hl, hj, bv, List.getD_eq_getElem?_getD]
      have c0 := hB (4 * (k : Int)).toNat (by omega)
      have c1 := hB (4 * (k : Int) + 1).toNat (by omega)
      have c2 := hB (4 * (k : Int) + 2).toNat (by omega)
      have c3 := hB (4 * (k : Int) + 3).toNat (by omega)
      clear hB
      have cw : wr.cell? ⟨w.heap.size + 1 + 1, k, none⟩ = some (.int .u32 0) := by
        rw [cell_of_row wr _ k _ 70 (0, 0) hS.2.2.2.1]; exact content_at l k (by omega)
      have fw : wr.frozen? ⟨w.heap.size + 1 + 1, k, none⟩ = false := frozen_of_row wr _ k _ 70 hS.2.2.2.1
      rw [show (4 * (k : Int)).toNat = 4 * k from by omega] at c0
      rw [show (4 * (k : Int) + 1).toNat = 4 * k + 1 from by omega] at c1
      rw [show (4 * (k : Int) + 2).toNat = 4 * k + 2 from by omega] at c2
      rw [show (4 * (k : Int) + 3).toNat = 4 * k + 3 from by omega] at c3
      generalize hb0 : l.getD (4 * k) 0 = b0 at c0
      generalize hb1 : l.getD (4 * k + 1) 0 = b1 at c1
      generalize hb2 : l.getD (4 * k + 2) 0 = b2 at c2
      generalize hb3 : l.getD (4 * k + 3) 0 = b3 at c3
      have HB : Hid (nextW l (wordsTo l k) = b0.toUInt32 <<< 24 ||| b1.toUInt32 <<< 16 ||| b2.toUInt32 <<< 8 ||| b3.toUInt32) := by
        show nextW l (wordsTo l k) = _
        rw [nextW_low l k hlt]; unfold be4; rw [hb0, hb1, hb2, hb3]
      clear hb0 hb1 hb2 hb3
      rw [← show (4 * (k : Int)).toNat = 4 * k from by omega] at c0
      rw [← show (4 * (k : Int) + 1).toNat = 4 * k + 1 from by omega] at c1
      rw [← show (4 * (k : Int) + 2).toNat = 4 * k + 2 from by omega] at c2
      rw [← show (4 * (k : Int) + 3).toNat = 4 * k + 3 from by omega] at c3
      have k0 : (0 : Int) ≤ 4 * (k : Int) := by omega
      have k1 : 4 * (k : Int) + 3 < 64 := by omega
      have k2 : (k : Int) < 64 := by omega
      have k3 : 4 * (k : Int) < 64 := by omega
      have k4 : 4 * (k : Int) + 1 < 64 := by omega
      have k5 : 4 * (k : Int) + 2 < 64 := by omega
      have j0 : (0 : Int) ≤ 4 * (k : Int) + 1 := by omega
      have j1 : (0 : Int) ≤ 4 * (k : Int) + 2 := by omega
      have j2 : (0 : Int) ≤ 4 * (k : Int) + 3 := by omega
      have w0 : IntKind.i64.wrap (4 * (k : Int)) = 4 * (k : Int) := IntWalk.i64_in _ (by omega)
      have w1 : IntKind.i64.wrap (4 * (k : Int) + 1) = 4 * (k : Int) + 1 := IntWalk.i64_in _ (by omega)
      have w2 : IntKind.i64.wrap (4 * (k : Int) + 2) = 4 * (k : Int) + 2 := IntWalk.i64_in _ (by omega)
      have w3 : IntKind.i64.wrap (4 * (k : Int) + 3) = 4 * (k : Int) + 3 := IntWalk.i64_in _ (by omega)
      have HS : Hid (SpreadAt l w k wr) := hS
      clear hS
      go_wp2
      go_region_held3 (fun w' => w'.cell? ⟨w.heap.size, (4 * (k : Int)).toNat, none⟩ = some (.int .u8 (ib b0)) ∧ w'.cell? ⟨w.heap.size, (4 * (k : Int) + 1).toNat, none⟩ = some (.int .u8 (ib b1)) ∧ w'.cell? ⟨w.heap.size, (4 * (k : Int) + 2).toNat, none⟩ = some (.int .u8 (ib b2)) ∧ w'.cell? ⟨w.heap.size, (4 * (k : Int) + 3).toNat, none⟩ = some (.int .u8 (ib b3))) (first | (refine ⟨?_, ?_, ?_, ?_⟩ <;> first | assumption | (refine keep_set ?_ ?_ <;> first | assumption | (dsimp only; omega))) | go_keep) (fail)
      go_wp2
      go_roundw
      case rel => exact ⟨k + 1, by omega, by go_num, HS.out.step (by omega) _ (by rw [HB.out]; exact store_word b0 b1 b2 b3)⟩
      case measure => simp [intOf]; omega
    · obtain rfl : k = 16 := by omega
      have HS : Hid (SpreadAt l w 16 wr) := hS
      clear hS hlt hk
      go_wp2
      go_loopw [5] (fun i wr => ∃ k : Nat, 16 ≤ k ∧ k ≤ 64 ∧ i = .int .i64 k ∧ SpreadAt l w k wr) (fun i _ => 64 - (intOf i).toNat)
      case atStart => exact ⟨16, by omega, by omega, rfl, HS.out⟩
      case round =>
        obtain ⟨k, hk0, hk, rfl, hS⟩ := hrel
        clear HS
        by_cases hlt : k < 64
        · have hW : ∀ j, j < k → wr.cell? ⟨w.heap.size + 1 + 1, j, none⟩ = some (.int .u32 (iv ((wordsTo l k).getD j 0))) := by
            intro j hj
            rw [cell_of_row _ _ j _ 70 (0, 0) hS.2.2.2.1]
            exact content_get l k j hj
          have HN : Hid _ := nextW_high l k (by omega)
          have a15 := hW (k - 15) (by omega)
          have a2 := hW (k - 2) (by omega)
          have a7 := hW (k - 7) (by omega)
          have a16 := hW (k - 16) (by omega)
          clear hW
          have cw : wr.cell? ⟨w.heap.size + 1 + 1, k, none⟩ = some (.int .u32 0) := by
            rw [cell_of_row wr _ k _ 70 (0, 0) hS.2.2.2.1]; exact content_at l k (by omega)
          have fw : wr.frozen? ⟨w.heap.size + 1 + 1, k, none⟩ = false := frozen_of_row wr _ k _ 70 hS.2.2.2.1
          have HS : Hid (SpreadAt l w k wr) := hS
          clear hS
          generalize (wordsTo l k).getD (k - 15) 0 = x15 at a15 HN
          generalize (wordsTo l k).getD (k - 2) 0 = x2 at a2 HN
          generalize (wordsTo l k).getD (k - 7) 0 = x7 at a7 HN
          generalize (wordsTo l k).getD (k - 16) 0 = x16 at a16 HN
          have p1 : (0 : Int) ≤ (k : Int) - 15 := by omega
          have p2 : (0 : Int) ≤ (k : Int) - 2 := by omega
          have p3 : (0 : Int) ≤ (k : Int) - 7 := by omega
          have p4 : (0 : Int) ≤ (k : Int) - 16 := by omega
          have q1 : (k : Int) - 15 < 64 := by omega
          have q2 : (k : Int) - 2 < 64 := by omega
          have q3 : (k : Int) - 7 < 64 := by omega
          have q4 : (k : Int) - 16 < 64 := by omega
          have q5 : (k : Int) < 64 := by omega
          have r1 : (15 : Int) ≤ (k : Int) := by omega
          have t1 : ((k : Int) - 15).toNat = k - 15 := by omega
          have t2 : ((k : Int) - 2).toNat = k - 2 := by omega
          have t3 : ((k : Int) - 7).toNat = k - 7 := by omega
          have t4 : ((k : Int) - 16).toNat = k - 16 := by omega
          have r2 : (2 : Int) ≤ (k : Int) := by omega
          have r3 : (7 : Int) ≤ (k : Int) := by omega
          have r4 : (16 : Int) ≤ (k : Int) := by omega
          have w1 : IntKind.i64.wrap ((k : Int) - 15) = (k : Int) - 15 := IntWalk.i64_in _ (by omega)
          have w2 : IntKind.i64.wrap ((k : Int) - 2) = (k : Int) - 2 := IntWalk.i64_in _ (by omega)
          have w3 : IntKind.i64.wrap ((k : Int) - 7) = (k : Int) - 7 := IntWalk.i64_in _ (by omega)
          have w4 : IntKind.i64.wrap ((k : Int) - 16) = (k : Int) - 16 := IntWalk.i64_in _ (by omega)
          go_wp2
          go_region_held3 (fun w' => w'.cell? ⟨w.heap.size + 1 + 1, k - 15, none⟩ = some (.int .u32 (iv x15)) ∧ w'.cell? ⟨w.heap.size + 1 + 1, k - 2, none⟩ = some (.int .u32 (iv x2))) (go_keep) (fail)
          go_wp2_with (go_at_call 61; refine (right_any _ _ (by omega) (by omega) _).mono ?_; rintro e w' ⟨rfl, rfl⟩)
          go_region_held3 (fun w' => w'.cell? ⟨w.heap.size + 1 + 1, k - 7, none⟩ = some (.int .u32 (iv x7)) ∧ w'.cell? ⟨w.heap.size + 1 + 1, k - 16, none⟩ = some (.int .u32 (iv x16))) (first | (simp only [World.cell?_drew]; refine ⟨?_, ?_⟩ <;> first | assumption | (refine keep_ne ?_ ?_ <;> first | assumption | (refine ne_off ?_; dsimp only; omega))) | go_keep) (fail)
          go_wp2
          go_roundw
          case rel => (repeat apply Exists.intro); exact ⟨⟨k + 1, by omega, by omega, by go_num, (HS.out.step (by omega) _ (by rw [HN.out]; exact next_word x2 x7 x15 x16)).drew⟩, rfl⟩
          case measure => simp [intOf]; omega
        · obtain rfl : k = 64 := by omega
          clear hlt hk hk0
          obtain ⟨hz, h0, h1, h2, hb⟩ := hS
          have H1 := hide h1
          have H2 := hide h2
          have Hb := hide hb
          clear h0 h1 h2 hb
          go_wp2_with (first | (refine wpList_load_row rfl 70 _ rfl (w.heap.size + 1 + 1) rfl 70 _ (0, 0) _ (unhide H2) Tryd.underlying70 rfl (by rw [size_content _ _ (by omega)]; kernel_rfl) ?_) | (refine wpList_store_row rfl 70 _ _ rfl (w.heap.size + 1) _ rfl rfl 70 _ (unhide H1) (by rw [size_content _ _ (by omega)]; kernel_rfl) (by rw [size_content _ _ (by omega)]; rfl) (content_one _ _) ?_))
          refine bodyPost_ret (results_cell_row Tryd.results60 _ _ (w.heap.size + 1) 70 (content l 64) (0, 0) _ rfl ?_ Tryd.underlying70 rfl (by rw [size_content _ _ (by omega)]; kernel_rfl)) rfl ⟨by rw [content_full], ?_⟩
          · exact setRow_heap _ _ _ _ _ _ (unhide H1)
          · exact below_setRow (unhide Hb) (by omega) _
end Go.Proofs.YtmhlafhbdpeglaaDoor.Sha
