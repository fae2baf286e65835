/-
  The walk of the anchor: two of the document's examples.
-/
import Derived.Test.YtngkidlgcdofhabDoorTold9
namespace Go.Proofs.YtngkidlgcdofhabDoor
open Go.RowKit
theorem ex1 : readP formD [48, 3, 2, 1, 5] = .yes (.mk 0 16 true [] [.mk 0 2 false [5] []]) := by rfl
theorem ex2 : readP formD [2, 2, 0, 5] = .no 24 := by rfl
/-- What the anchor looks at in the first example. -/
theorem ex1_at {S : Nat → Prop} {w : World} {cs : List Value} (h : ValAt S w cs (.mk 0 16 true [] [.mk 0 2 false [5] []])) :
    ∃ s1 c1 b o c2 s3 c3 b4 o4 c4, cs = dcells 0 16 true (.slice s1 0 c1) (.slice (some ⟨b, o, none⟩) 1 c2) ∧ w.cell? ⟨b, o + 3, none⟩ = some (.slice (some ⟨b4, o4, none⟩) 1 c4) ∧ w.cell? ⟨b4, o4, none⟩ = some (.int .u8 5) ∧ w.cell? ⟨b, o + 4, none⟩ = some (.slice s3 0 c3) := by
  obtain ⟨n, h⟩ := h
  cases n with
  | zero => exact h.elim
  | succ n =>
    obtain ⟨xb, sk, ck, rfl, hx, _, _, _, _, hk⟩ := h
    obtain ⟨s1, c1, rfl, _, _, _⟩ := bytes_open hx
    obtain ⟨b, o, rfl, _, hi⟩ := hk (by simp [DV.kids])
    obtain ⟨ds, hc, hv⟩ := hi 0 _ rfl
    cases n with
    | zero => exact hv.elim
    | succ n =>
      obtain ⟨xb2, sk2, ck2, rfl, hx2, _, _, _, _, _⟩ := hv
      obtain ⟨s2, c2, rfl, _, _, hcell⟩ := bytes_open hx2
      obtain ⟨b4, o4, rfl, _, hcell⟩ := hcell (by simp [DV.bytes])
      have h5 := hcell 0 (by simp [DV.bytes])
      obtain ⟨_, _, _, h3, h4⟩ := hc.five
      simp only [Nat.zero_mul, Nat.add_zero] at h3 h4 h5
      exact ⟨s1, c1, b, o, ck, sk2, ck2, b4, o4, c2, rfl, h3, h5, h4⟩
set_option maxRecDepth 100000 in
set_option maxHeartbeats 4000000 in
theorem anchor_any {R : World → Prop} (C : Der R) (w0 : World) (hR : R w0) :
    Calls Tryd.prog 8 #[] w0 fun e w' => e = .returned (.bool true) ∧ Below w0.heap.size w0 w' := by
  obtain ⟨w1, hw1⟩ : ∃ w1, w0.alloc (.cells #[.int .u8 48, .int .u8 3, .int .u8 2, .int .u8 1, .int .u8 5] 5) = w1 := ⟨_, rfl⟩
  have hb1 : Below w0.heap.size w0 w1 := by rw [← hw1]; exact (Below.refl _ _).alloc (Nat.le_refl _) _
  have hx1 : BytesAt w1 (.slice (some ⟨w0.heap.size, 0, none⟩) 5 5) [48, 3, 2, 1, 5] := by rw [← hw1]; exact bytes_new w0 [48, 3, 2, 1, 5]
  have Hc1 := hide (C.read w1 _ _ (C.below _ _ hR hb1) hx1 (by decide))
  rw [ex1] at Hc1
  simp only [errOf, valOf] at Hc1
  have HC := hide C
  have HR0 := hide hR
  have Hb1 := hide hb1
  clear C hR hx1 hb1
  go_enter Tryd.func8, Tryd.ntmps8
  go_wp2_with fail
  refine (unhide Hc1).mono ?_
  rintro e w2 ⟨cs, rfl, hv2, hb2⟩
  obtain ⟨s1, c1, b, o, c2, s3, c3, b4, o4, c4, rfl, k3, k5, k4⟩ := ex1_at hv2
  have Hb2 := hide ((unhide Hb1).trans (hb2.mono (unhide Hb1).size))
  unfold dcells
  obtain ⟨w3, hw3⟩ : ∃ w3, w2.alloc (.cells #[.int .i64 0, .int .i64 16, .bool true, .slice s1 0 c1, .slice (some ⟨b, o, none⟩) 1 c2] 26) = w3 := ⟨_, rfl⟩
  have hb3 : Below w2.heap.size w2 w3 := by rw [← hw3]; exact (Below.refl _ _).alloc (Nat.le_refl _) _
  obtain ⟨w4, hw4⟩ : ∃ w4, w3.alloc (.cells #[.int .u8 2, .int .u8 2, .int .u8 0, .int .u8 5] 5) = w4 := ⟨_, rfl⟩
  have hb4 : Below w3.heap.size w3 w4 := by rw [← hw4]; exact (Below.refl _ _).alloc (Nat.le_refl _) _
  have hx4 : BytesAt w4 (.slice (some ⟨w3.heap.size, 0, none⟩) 4 4) [2, 2, 0, 5] := by rw [← hw4]; exact bytes_new w3 [2, 2, 0, 5]
  have HA : Hid (CellsAt w3 w2.heap.size 0 (dcells 0 16 true (.slice s1 0 c1) (.slice (some ⟨b, o, none⟩) 1 c2))) := by rw [← hw3]; exact cells_new w2 _ 26
  have Hb4 := hide ((unhide Hb2).trans ((hb3.trans (hb4.mono hb3.size)).mono (unhide Hb2).size))
  have Hc4 := hide ((unhide HC).read w4 _ _ ((unhide HC).below _ _ (unhide HR0) (unhide Hb4)) hx4 (by decide))
  rw [ex2] at Hc4
  simp only [errOf, valOf] at Hc4
  have HK : Hid (∀ w, Below w4.heap.size w4 w → w.cell? ⟨w2.heap.size, 0, none⟩ = some (.int .i64 0) ∧ w.cell? ⟨w2.heap.size, 1, none⟩ = some (.int .i64 16) ∧ w.cell? ⟨w2.heap.size, 2, none⟩ = some (.bool true) ∧ w.cell? ⟨w2.heap.size, 3, none⟩ = some (.slice s1 0 c1) ∧ w.cell? ⟨w2.heap.size, 4, none⟩ = some (.slice (some ⟨b, o, none⟩) 1 c2) ∧ w.cell? ⟨b, o + 3, none⟩ = some (.slice (some ⟨b4, o4, none⟩) 1 c4) ∧ w.cell? ⟨b4, o4, none⟩ = some (.int .u8 5)) := fun w hb => by
    obtain ⟨a0, a1, a2, a3, a4⟩ := (((unhide HA).below hb4).below hb).five0
    have hl : Below w2.heap.size w2 w := (hb3.trans (hb4.mono hb3.size)).trans (hb.mono (Nat.le_trans hb3.size hb4.size))
    refine ⟨a0, a1, a2, a3, a4, ?_, ?_⟩
    · rw [hl.cell (p := ⟨b, o + 3, none⟩) (World.block_lt_of_cell? w2 _ k3)]; exact k3
    · rw [hl.cell (p := ⟨b4, o4, none⟩) (World.block_lt_of_cell? w2 _ k5)]; exact k5
  clear hv2 hb2 hb3 hb4 hx4 k3 k4 k5 HA Hc1 hw1
  go_wp2_with fail
  refine (unhide Hc4).mono ?_
  rintro e w5 ⟨cs, rfl, hv5, hb5⟩
  obtain ⟨n5, hv5⟩ := hv5
  obtain ⟨p1, q1, p2, q2, rfl⟩ := hv5.form
  simp only [DV.cls, DV.tag, DV.made, DV.bytes, DV.kids, List.length_nil]
  unfold dcells
  obtain ⟨w6, hw6⟩ : ∃ w6, w5.alloc (.cells #[.int .i64 0, .int .i64 0, .bool false, .slice p1 0 q1, .slice p2 0 q2] 26) = w6 := ⟨_, rfl⟩
  have hb6 : Below w5.heap.size w5 w6 := by rw [← hw6]; exact (Below.refl _ _).alloc (Nat.le_refl _) _
  obtain ⟨a0, a1, a2, a3, a4, a5, a6⟩ := unhide HK w6 (hb5.trans (hb6.mono hb5.size))
  have Hb6 := hide ((unhide Hb4).trans ((hb5.trans (hb6.mono hb5.size)).mono (unhide Hb4).size))
  clear hb5 hb6 hv5 HK Hc4 hw3 hw4
  go_wp2
  go_ret
  exact ⟨rfl, unhide Hb6⟩
end Go.Proofs.YtngkidlgcdofhabDoor
