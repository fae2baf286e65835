/-
  The walk of the statement DerSizes.
-/
import Derived.Test.YtngkidlgcdofhaaDoorMake9
import Derived.Test.YtngkidlgcdofhaaDoorAnc9
namespace Go.Proofs.YtngkidlgcdofhaaDoor
open Go.RowKit
set_option maxRecDepth 100000 in
set_option maxHeartbeats 4000000 in
theorem sizes_true {R : World → Prop} (C : Der R) (w0 : World) (hR : R w0) (n cl : Int) :
    Calls Tryd.prog 8 #[.int .i64 n, .int .i64 cl] w0 fun e w' => e = .returned (.bool true) ∧ Below w0.heap.size w0 w' := by
  have HC := hide C
  have HR : Hid (∀ w, Below w0.heap.size w0 w → R w) := fun w hb => C.below _ _ hR hb
  have Hanc := hide (anchor_any C w0 hR)
  clear C hR
  go_enter Tryd.func8, Tryd.ntmps8
  go_wp2_with fail
  refine (unhide Hanc).mono ?_
  rintro e w1 ⟨rfl, hb1⟩
  have Hb1 := hide hb1
  clear hb1 Hanc
  by_cases g0 : n < 0
  · have f0 : decide (n < 0) = true := by simp; omega
    go_wp2
    go_ret
    exact ⟨rfl, unhide Hb1⟩
  have f0 : decide (n < 0) = false := by simp; omega
  by_cases g1 : 70000 < n
  · have f1 : decide (70000 < n) = true := by simp; omega
    go_wp2
    go_ret
    exact ⟨rfl, unhide Hb1⟩
  have f1 : decide (70000 < n) = false := by simp; omega
  by_cases g2 : cl < 1
  · have f2 : decide (cl < 1) = true := by simp; omega
    go_wp2
    go_ret
    exact ⟨rfl, unhide Hb1⟩
  have f2 : decide (cl < 1) = false := by simp; omega
  by_cases g3 : 3 < cl
  · have f3 : decide (3 < cl) = true := by simp; omega
    go_wp2
    go_ret
    exact ⟨rfl, unhide Hb1⟩
  have f3 : decide (3 < cl) = false := by simp; omega
  obtain ⟨n, rfl⟩ : ∃ k : Nat, n = (k : Int) := ⟨n.toNat, by omega⟩
  obtain ⟨cl, rfl⟩ : ∃ k : Nat, cl = (k : Int) := ⟨cl.toNat, by omega⟩
  have hn : n ≤ 70000 := by omega
  have hcl : 1 ≤ cl ∧ cl ≤ 3 := by omega
  have Htop : Hid (writeTop formD (.mk cl 4 false (List.replicate n 0) []) = if 65536 < 1 + (lenB n).length + n then .no 54 else .yes (tagB cl 4 false ++ lenB n ++ List.replicate n 0)) := by
    show _ = _
    have := top_leaf hcl (show 4 < 31 by omega) (List.replicate n 0)
    rw [List.length_replicate] at this
    exact this
  have Hlen := hide (lenB_len n hn)
  have Htl : Hid ((tagB cl 4 false).length = 1) := rfl
  obtain ⟨Z, hZ⟩ : ∃ Z, Obj.cells (List.replicate n (Value.int .u8 0)).toArray 5 = Z := ⟨_, rfl⟩
  have mk : ∀ w, (Instr.makeSlice 22 (.int .i64 (n : Int)) (.int .i64 (n : Int))).run Tryd.prog w = .ok (.slice (some ⟨w.heap.size, 0, none⟩) n n) (w.alloc Z) := fun w => by rw [← hZ]; exact make_run w n (by omega)
  have HZ := hide hZ
  clear hZ
  have hx2 : BytesAt (w1.alloc Z) (.slice (some ⟨w1.heap.size, 0, none⟩) n n) (List.replicate n 0) := bytes_row (by rw [heap_alloc_new, ← unhide HZ])
  obtain ⟨w2, hw2⟩ : ∃ w2, w1.alloc Z = w2 := ⟨_, rfl⟩
  have hb2 : Below w1.heap.size w1 w2 := by rw [← hw2]; exact (Below.refl _ _).alloc (Nat.le_refl _) _
  rw [hw2] at hx2
  have hb3 : Below w2.heap.size w2 (w2.alloc (.cells #[.int .i64 cl, .int .i64 4, .bool false, .slice (some ⟨w1.heap.size, 0, none⟩) n n, .slice none 0 0] 26)) := (Below.refl _ _).alloc (Nat.le_refl _) _
  have hc3 : CellsAt (w2.alloc (.cells #[.int .i64 cl, .int .i64 4, .bool false, .slice (some ⟨w1.heap.size, 0, none⟩) n n, .slice none 0 0] 26)) w2.heap.size 0 (dcells cl 4 false (.slice (some ⟨w1.heap.size, 0, none⟩) n n) (.slice none 0 0)) := cells_new w2 _ 26
  obtain ⟨a0, a1, a2, a3, a4⟩ := hc3.five0
  have Hb3 := hide ((unhide Hb1).trans ((hb2.trans (hb3.mono hb2.size)).mono (unhide Hb1).size))
  have Hw := hide ((unhide HC).write _ _ _ _ (unhide HR _ (unhide Hb3)) (leaf_at (hx2.below hb3) (by simp; omega) (cl : Int) 4 false) (by simp [weight, weights]; omega))
  unfold dcells at Hw
  clear g0 g1 g2 g3 hx2 hb2 hb3 hc3
  go_wp2_with fail
  refine (unhide Hw).mono ?_
  rintro e w4 ⟨x4, rfl, hO4, hb4⟩
  have HX4 := hide hO4.bytes
  obtain ⟨p4, q4, rfl⟩ := hO4.form
  have Hb4 := hide ((unhide Hb3).trans (hb4.mono (unhide Hb3).size))
  clear hO4 hb4 Hw a0 a1 a2 a3 a4 hw2 hcl mk HZ Hb3
  rcases (by omega : (n < 128) ∨ (128 ≤ n ∧ n < 256) ∨ (256 ≤ n ∧ n ≤ 65532) ∨ (65532 < n ∧ n < 65536) ∨ (65536 ≤ n)) with hr | hr | hr | hr | hr
  · have Hl : Hid ((lenB n).length = 1) := by show _ = _; rw [unhide Hlen]; rw [if_pos (by omega)]
    have d1 : decide ((128 : Int) ≤ (n : Int)) = false := by simp; omega
    have d1n : decide (128 ≤ n) = false := by simp; omega
    have d2 : decide ((256 : Int) ≤ (n : Int)) = false := by simp; omega
    have d2n : decide (256 ≤ n) = false := by simp; omega
    have d3 : decide ((65536 : Int) ≤ (n : Int)) = false := by simp; omega
    have d3n : decide (65536 ≤ n) = false := by simp; omega
    have Ht2 : Hid (writeTop formD (.mk cl 4 false (List.replicate n 0) []) = .yes (tagB cl 4 false ++ lenB n ++ List.replicate n 0)) := by show _ = _; rw [unhide Htop, if_neg (by rw [unhide Hl]; omega)]
    have Hrd0 := hide (read_written (unhide Ht2))
    have HLw : Hid ((tagB cl 4 false ++ lenB n ++ List.replicate n 0).length = n + 2) := by show _ = _; simp only [List.length_append, List.length_replicate]; rw [unhide Hl, unhide Htl]; omega
    rw [unhide Ht2] at HX4
    rw [unhide Ht2]
    simp only [errOf, bytesOf] at HX4 ⊢
    have Hrd := hide ((unhide HC).read w4 _ _ (unhide HR _ (unhide Hb4)) (unhide HX4) (by rw [unhide HLw]; omega))
    rw [unhide Hrd0] at Hrd
    simp only [errOf, valOf] at Hrd
    obtain ⟨m, hm⟩ : ∃ m, n + 2 = m := ⟨_, rfl⟩
    have hmi : (n : Int) + 2 = (m : Int) := by omega
    simp only [unhide HLw, hm] at Hrd HX4 ⊢
    have emm : ((m : Int) == (m : Int)) = true := by simp
    have d5 : decide ((65536 : Int) < (m : Int)) = false := by simp; omega
    have d5n : decide (65536 < m) = false := by simp; omega
    have nb : (n : Int) ≤ 70000 := by omega
    clear hr Htop Hlen Htl Hl Ht2 Hrd0 HLw hm
    go_wp2_with fail
    refine (unhide Hrd).mono ?_
    rintro e w6 ⟨cs6, rfl, ⟨n6, hv6⟩, hb6⟩
    obtain ⟨r1, t1, r2, t2, rfl⟩ := hv6.form
    simp only [DV.cls, DV.tag, DV.made, DV.bytes, DV.kids, List.length_nil, List.length_replicate]
    unfold dcells
    have hb7 : Below w6.heap.size w6 (w6.alloc (.cells #[.int .i64 cl, .int .i64 4, .bool false, .slice r1 n t1, .slice r2 0 t2] 26)) := (Below.refl _ _).alloc (Nat.le_refl _) _
    have hc7 : CellsAt (w6.alloc (.cells #[.int .i64 cl, .int .i64 4, .bool false, .slice r1 n t1, .slice r2 0 t2] 26)) w6.heap.size 0 (dcells cl 4 false (.slice r1 n t1) (.slice r2 0 t2)) := cells_new w6 _ 26
    obtain ⟨a0, a1, a2, a3, a4⟩ := hc7.five0
    have Hb6 := hide ((unhide Hb4).trans (hb6.mono (unhide Hb4).size))
    clear hb6 hv6 Hrd hb7 hc7
    go_wp2
    go_ret
    exact ⟨rfl, (unhide Hb6).alloc (unhide Hb6).size _⟩
  · have Hl : Hid ((lenB n).length = 2) := by show _ = _; rw [unhide Hlen]; rw [if_neg (by omega), if_pos (by omega)]
    have d1 : decide ((128 : Int) ≤ (n : Int)) = true := by simp; omega
    have d1n : decide (128 ≤ n) = true := by simp; omega
    have d2 : decide ((256 : Int) ≤ (n : Int)) = false := by simp; omega
    have d2n : decide (256 ≤ n) = false := by simp; omega
    have d3 : decide ((65536 : Int) ≤ (n : Int)) = false := by simp; omega
    have d3n : decide (65536 ≤ n) = false := by simp; omega
    have Ht2 : Hid (writeTop formD (.mk cl 4 false (List.replicate n 0) []) = .yes (tagB cl 4 false ++ lenB n ++ List.replicate n 0)) := by show _ = _; rw [unhide Htop, if_neg (by rw [unhide Hl]; omega)]
    have Hrd0 := hide (read_written (unhide Ht2))
    have HLw : Hid ((tagB cl 4 false ++ lenB n ++ List.replicate n 0).length = n + 3) := by show _ = _; simp only [List.length_append, List.length_replicate]; rw [unhide Hl, unhide Htl]; omega
    rw [unhide Ht2] at HX4
    rw [unhide Ht2]
    simp only [errOf, bytesOf] at HX4 ⊢
    have Hrd := hide ((unhide HC).read w4 _ _ (unhide HR _ (unhide Hb4)) (unhide HX4) (by rw [unhide HLw]; omega))
    rw [unhide Hrd0] at Hrd
    simp only [errOf, valOf] at Hrd
    obtain ⟨m, hm⟩ : ∃ m, n + 3 = m := ⟨_, rfl⟩
    have hmi : (n : Int) + 3 = (m : Int) := by omega
    simp only [unhide HLw, hm] at Hrd HX4 ⊢
    have emm : ((m : Int) == (m : Int)) = true := by simp
    have d5 : decide ((65536 : Int) < (m : Int)) = false := by simp; omega
    have d5n : decide (65536 < m) = false := by simp; omega
    have nb : (n : Int) ≤ 70000 := by omega
    clear hr Htop Hlen Htl Hl Ht2 Hrd0 HLw hm
    go_wp2_with fail
    refine (unhide Hrd).mono ?_
    rintro e w6 ⟨cs6, rfl, ⟨n6, hv6⟩, hb6⟩
    obtain ⟨r1, t1, r2, t2, rfl⟩ := hv6.form
    simp only [DV.cls, DV.tag, DV.made, DV.bytes, DV.kids, List.length_nil, List.length_replicate]
    unfold dcells
    have hb7 : Below w6.heap.size w6 (w6.alloc (.cells #[.int .i64 cl, .int .i64 4, .bool false, .slice r1 n t1, .slice r2 0 t2] 26)) := (Below.refl _ _).alloc (Nat.le_refl _) _
    have hc7 : CellsAt (w6.alloc (.cells #[.int .i64 cl, .int .i64 4, .bool false, .slice r1 n t1, .slice r2 0 t2] 26)) w6.heap.size 0 (dcells cl 4 false (.slice r1 n t1) (.slice r2 0 t2)) := cells_new w6 _ 26
    obtain ⟨a0, a1, a2, a3, a4⟩ := hc7.five0
    have Hb6 := hide ((unhide Hb4).trans (hb6.mono (unhide Hb4).size))
    clear hb6 hv6 Hrd hb7 hc7
    go_wp2
    go_ret
    exact ⟨rfl, (unhide Hb6).alloc (unhide Hb6).size _⟩
  · have Hl : Hid ((lenB n).length = 3) := by show _ = _; rw [unhide Hlen]; rw [if_neg (by omega), if_neg (by omega), if_pos (by omega)]
    have d1 : decide ((128 : Int) ≤ (n : Int)) = true := by simp; omega
    have d1n : decide (128 ≤ n) = true := by simp; omega
    have d2 : decide ((256 : Int) ≤ (n : Int)) = true := by simp; omega
    have d2n : decide (256 ≤ n) = true := by simp; omega
    have d3 : decide ((65536 : Int) ≤ (n : Int)) = false := by simp; omega
    have d3n : decide (65536 ≤ n) = false := by simp; omega
    have Ht2 : Hid (writeTop formD (.mk cl 4 false (List.replicate n 0) []) = .yes (tagB cl 4 false ++ lenB n ++ List.replicate n 0)) := by show _ = _; rw [unhide Htop, if_neg (by rw [unhide Hl]; omega)]
    have Hrd0 := hide (read_written (unhide Ht2))
    have HLw : Hid ((tagB cl 4 false ++ lenB n ++ List.replicate n 0).length = n + 4) := by show _ = _; simp only [List.length_append, List.length_replicate]; rw [unhide Hl, unhide Htl]; omega
    rw [unhide Ht2] at HX4
    rw [unhide Ht2]
    simp only [errOf, bytesOf] at HX4 ⊢
    have Hrd := hide ((unhide HC).read w4 _ _ (unhide HR _ (unhide Hb4)) (unhide HX4) (by rw [unhide HLw]; omega))
    rw [unhide Hrd0] at Hrd
    simp only [errOf, valOf] at Hrd
    obtain ⟨m, hm⟩ : ∃ m, n + 4 = m := ⟨_, rfl⟩
    have hmi : (n : Int) + 4 = (m : Int) := by omega
    simp only [unhide HLw, hm] at Hrd HX4 ⊢
    have emm : ((m : Int) == (m : Int)) = true := by simp
    have d5 : decide ((65536 : Int) < (m : Int)) = false := by simp; omega
    have d5n : decide (65536 < m) = false := by simp; omega
    have nb : (n : Int) ≤ 70000 := by omega
    clear hr Htop Hlen Htl Hl Ht2 Hrd0 HLw hm
    go_wp2_with fail
    refine (unhide Hrd).mono ?_
    rintro e w6 ⟨cs6, rfl, ⟨n6, hv6⟩, hb6⟩
    obtain ⟨r1, t1, r2, t2, rfl⟩ := hv6.form
    simp only [DV.cls, DV.tag, DV.made, DV.bytes, DV.kids, List.length_nil, List.length_replicate]
    unfold dcells
    have hb7 : Below w6.heap.size w6 (w6.alloc (.cells #[.int .i64 cl, .int .i64 4, .bool false, .slice r1 n t1, .slice r2 0 t2] 26)) := (Below.refl _ _).alloc (Nat.le_refl _) _
    have hc7 : CellsAt (w6.alloc (.cells #[.int .i64 cl, .int .i64 4, .bool false, .slice r1 n t1, .slice r2 0 t2] 26)) w6.heap.size 0 (dcells cl 4 false (.slice r1 n t1) (.slice r2 0 t2)) := cells_new w6 _ 26
    obtain ⟨a0, a1, a2, a3, a4⟩ := hc7.five0
    have Hb6 := hide ((unhide Hb4).trans (hb6.mono (unhide Hb4).size))
    clear hb6 hv6 Hrd hb7 hc7
    go_wp2
    go_ret
    exact ⟨rfl, (unhide Hb6).alloc (unhide Hb6).size _⟩
  · have Hl : Hid ((lenB n).length = 3) := by show _ = _; rw [unhide Hlen]; rw [if_neg (by omega), if_neg (by omega), if_pos (by omega)]
    have d1 : decide ((128 : Int) ≤ (n : Int)) = true := by simp; omega
    have d1n : decide (128 ≤ n) = true := by simp; omega
    have d2 : decide ((256 : Int) ≤ (n : Int)) = true := by simp; omega
    have d2n : decide (256 ≤ n) = true := by simp; omega
    have d3 : decide ((65536 : Int) ≤ (n : Int)) = false := by simp; omega
    have d3n : decide (65536 ≤ n) = false := by simp; omega
    have Ht2 : Hid (writeTop formD (.mk cl 4 false (List.replicate n 0) []) = .no 54) := by show _ = _; rw [unhide Htop, if_pos (by rw [unhide Hl]; omega)]
    rw [unhide Ht2] at HX4
    rw [unhide Ht2]
    simp only [errOf, bytesOf, List.length_nil] at HX4 ⊢
    obtain ⟨m, hm⟩ : ∃ m, n + 4 = m := ⟨_, rfl⟩
    have hmi : (n : Int) + 4 = (m : Int) := by omega
    have hm2 : 65536 < m ∧ m ≤ 70010 := by omega
    have d5 : decide ((65536 : Int) < (m : Int)) = true := by simp; omega
    have d5n : decide (65536 < m) = true := by simp; omega
    obtain ⟨Z, hZ⟩ : ∃ Z, Obj.cells (List.replicate m (Value.int .u8 0)).toArray 5 = Z := ⟨_, rfl⟩
    have mk : ∀ w, (Instr.makeSlice 22 (.int .i64 (m : Int)) (.int .i64 (m : Int))).run Tryd.prog w = .ok (.slice (some ⟨w.heap.size, 0, none⟩) m m) (w.alloc Z) := fun w => by rw [← hZ]; exact make_run w m (by omega)
    have hx5 : BytesAt (w4.alloc Z) (.slice (some ⟨w4.heap.size, 0, none⟩) m m) (List.replicate m 0) := bytes_row (by rw [heap_alloc_new, ← hZ])
    have hb5 : Below w4.heap.size w4 (w4.alloc Z) := (Below.refl _ _).alloc (Nat.le_refl _) _
    have Hb5 := hide ((unhide Hb4).trans (hb5.mono (unhide Hb4).size))
    have hrd : readP formD (List.replicate m 0) = .no 54 := by unfold readP; rw [if_pos (by simp; omega)]
    have Hrd := hide ((unhide HC).read _ _ _ (unhide HR _ (unhide Hb5)) hx5 (by simp; omega))
    rw [hrd] at Hrd
    simp only [errOf, valOf] at Hrd
    have nb : (n : Int) ≤ 70000 := by omega
    clear hr hx5 hb5 hrd hZ hm hm2 Htop Hlen Htl Hl Ht2
    go_wp2_with fail
    refine (unhide Hrd).mono ?_
    rintro e w6 ⟨cs6, rfl, ⟨n6, hv6⟩, hb6⟩
    obtain ⟨r1, t1, r2, t2, rfl⟩ := hv6.form
    simp only [DV.cls, DV.tag, DV.made, DV.bytes, DV.kids, List.length_nil]
    unfold dcells
    have Hb6 := hide ((unhide Hb5).trans (hb6.mono (unhide Hb5).size))
    clear hb6 hv6 Hrd
    go_wp2
    go_ret
    exact ⟨rfl, (unhide Hb6).alloc (unhide Hb6).size _⟩
  · have Hl : Hid ((lenB n).length = 4) := by show _ = _; rw [unhide Hlen]; rw [if_neg (by omega), if_neg (by omega), if_neg (by omega)]
    have d1 : decide ((128 : Int) ≤ (n : Int)) = true := by simp; omega
    have d1n : decide (128 ≤ n) = true := by simp; omega
    have d2 : decide ((256 : Int) ≤ (n : Int)) = true := by simp; omega
    have d2n : decide (256 ≤ n) = true := by simp; omega
    have d3 : decide ((65536 : Int) ≤ (n : Int)) = true := by simp; omega
    have d3n : decide (65536 ≤ n) = true := by simp; omega
    have Ht2 : Hid (writeTop formD (.mk cl 4 false (List.replicate n 0) []) = .no 54) := by show _ = _; rw [unhide Htop, if_pos (by rw [unhide Hl]; omega)]
    rw [unhide Ht2] at HX4
    rw [unhide Ht2]
    simp only [errOf, bytesOf, List.length_nil] at HX4 ⊢
    obtain ⟨m, hm⟩ : ∃ m, n + 5 = m := ⟨_, rfl⟩
    have hmi : (n : Int) + 5 = (m : Int) := by omega
    have hm2 : 65536 < m ∧ m ≤ 70010 := by omega
    have d5 : decide ((65536 : Int) < (m : Int)) = true := by simp; omega
    have d5n : decide (65536 < m) = true := by simp; omega
    obtain ⟨Z, hZ⟩ : ∃ Z, Obj.cells (List.replicate m (Value.int .u8 0)).toArray 5 = Z := ⟨_, rfl⟩
    have mk : ∀ w, (Instr.makeSlice 22 (.int .i64 (m : Int)) (.int .i64 (m : Int))).run Tryd.prog w = .ok (.slice (some ⟨w.heap.size, 0, none⟩) m m) (w.alloc Z) := fun w => by rw [← hZ]; exact make_run w m (by omega)
    have hx5 : BytesAt (w4.alloc Z) (.slice (some ⟨w4.heap.size, 0, none⟩) m m) (List.replicate m 0) := bytes_row (by rw [heap_alloc_new, ← hZ])
    have hb5 : Below w4.heap.size w4 (w4.alloc Z) := (Below.refl _ _).alloc (Nat.le_refl _) _
    have Hb5 := hide ((unhide Hb4).trans (hb5.mono (unhide Hb4).size))
    have hrd : readP formD (List.replicate m 0) = .no 54 := by unfold readP; rw [if_pos (by simp; omega)]
    have Hrd := hide ((unhide HC).read _ _ _ (unhide HR _ (unhide Hb5)) hx5 (by simp; omega))
    rw [hrd] at Hrd
    simp only [errOf, valOf] at Hrd
    have nb : (n : Int) ≤ 70000 := by omega
    clear hr hx5 hb5 hrd hZ hm hm2 Htop Hlen Htl Hl Ht2
    go_wp2_with fail
    refine (unhide Hrd).mono ?_
    rintro e w6 ⟨cs6, rfl, ⟨n6, hv6⟩, hb6⟩
    obtain ⟨r1, t1, r2, t2, rfl⟩ := hv6.form
    simp only [DV.cls, DV.tag, DV.made, DV.bytes, DV.kids, List.length_nil]
    unfold dcells
    have Hb6 := hide ((unhide Hb5).trans (hb6.mono (unhide Hb5).size))
    clear hb6 hv6 Hrd
    go_wp2
    go_ret
    exact ⟨rfl, (unhide Hb6).alloc (unhide Hb6).size _⟩
end Go.Proofs.YtngkidlgcdofhaaDoor
