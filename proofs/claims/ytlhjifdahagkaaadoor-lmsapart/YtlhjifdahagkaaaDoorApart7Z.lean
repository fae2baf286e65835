/-
  The walk of the statement LmsApart.
-/
import Derived.Test.YtlhjifdahagkaaaDoorFam7Z
import Derived.Lib.SlBytesConst
namespace Go.Proofs.YtlhjifdahagkaaaDoor
open Go.RowKit
theorem conv_const (w : World) (c : Int) : (convert 24 24 (.slice (some ⟨w.heap.size, 0, none⟩) 1 1)).run Tryd.prog (w.alloc (.cells #[.int .u8 c] 5)) = .ok (.slice (some ⟨w.heap.size, 0, none⟩) 1 1) (w.alloc (.cells #[.int .u8 c] 5 (1, 2))) :=
  Lib.run_convert_bytes_const w 24 5 #[.int .u8 c] 1 1 Tryd.underlying24 Tryd.underlying5
theorem bytes_marked (w : World) (c : UInt8) : BytesAt (w.alloc (.cells #[bv c] 5 (1, 2))) (.slice (some ⟨w.heap.size, 0, none⟩) 1 1) [c] := by
  unfold BytesAt
  refine ⟨_, _, rfl, Nat.le_refl _, fun h => (by cases h), fun _ => ⟨w.heap.size, 0, rfl, fun j v hv => ?_⟩⟩
  rw [cell_of_row _ _ _ _ 5 (1, 2) (heap_alloc_new w _), Nat.zero_add]
  simpa using hv
theorem pre_step (h n m k : Nat) : decide (n / 2 ^ (h * k) = m / 2 ^ (h * k)) = (decide (n / 2 ^ (h * (k + 1)) = m / 2 ^ (h * (k + 1))) && decide (leafAt h n k = leafAt h m k)) := by
  have a := leaf_step h n k
  have b := leaf_step h m k
  have c := leafAt_lt h n k
  have d := leafAt_lt h m k
  rw [← a, ← b, ← Bool.decide_and]
  generalize n / 2 ^ (h * (k + 1)) = X
  generalize m / 2 ^ (h * (k + 1)) = Y
  generalize leafAt h n k = x at c
  generalize leafAt h m k = y at d
  generalize 2 ^ h = Q at c d
  congr 1
  apply propext
  constructor
  · intro e
    have e1 : X = Y := by
      have h1 : (X * Q + x) / Q = X := by rw [Nat.add_comm, Nat.add_mul_div_right _ _ (by omega), Nat.div_eq_of_lt c, Nat.zero_add]
      have h2 : (Y * Q + y) / Q = Y := by rw [Nat.add_comm, Nat.add_mul_div_right _ _ (by omega), Nat.div_eq_of_lt d, Nat.zero_add]
      rw [← h1, e, h2]
    subst e1
    exact ⟨rfl, by omega⟩
  · rintro ⟨rfl, rfl⟩
    rfl
theorem one_alloc (w0 : World) (A : Obj) : (w0.alloc A).drew.heap[w0.heap.size]? = some A ∧ Below w0.heap.size w0 (w0.alloc A).drew :=
  ⟨heap_alloc_new w0 A, ((Below.refl _ _).alloc (Nat.le_refl _) _).drew⟩
theorem two_alloc (w0 : World) (A B : Obj) : ((w0.alloc A).alloc B).drew.heap[w0.heap.size]? = some A ∧ ((w0.alloc A).alloc B).drew.heap[w0.heap.size + 1]? = some B ∧ Below w0.heap.size w0 ((w0.alloc A).alloc B).drew := by
  refine ⟨?_, ?_, ((Below.refl _ _).alloc (Nat.le_refl _) _).alloc (by simp) _ |>.drew⟩
  · show ((w0.alloc A).alloc B).heap[w0.heap.size]? = some A
    rw [((Below.refl _ _).alloc (Nat.le_refl _) B).block w0.heap.size (by simp)]
    exact heap_alloc_new w0 A
  · show ((w0.alloc A).alloc B).heap[w0.heap.size + 1]? = some B
    have e : w0.heap.size + 1 = (w0.alloc A).heap.size := by simp
    rw [e]
    exact heap_alloc_new (w0.alloc A) B
theorem zat_row {W : World} {b : Nat} {t : TypeId} (h : W.heap[b]? = some (.cells #[.int .i64 0, .int .i64 0, .int .i64 0, .slice none 0 0, .slice none 0 0] t)) : ZAt W b := by
  refine ⟨(Array.getElem?_eq_some_iff.1 h).1, fun j v hv => ?_, fun j => frozen_of_row _ _ _ _ t h⟩
  rw [cell_of_row _ _ _ _ t (0, 0) h, Nat.zero_add]
  simpa using hv
set_option maxRecDepth 100000 in
set_option maxHeartbeats 4000000 in
theorem apart_true {R : World → Prop} {H : Bs → Bs} (C : Lms R H) (w0 : World) (hR : R w0) (L h wd : Int) (n m : Int) (xs : Value) (seed : Bs) (hs : BytesAt w0 xs seed) (ls : (seed.length : Int) ≤ 9223372036854775807) :
    Calls Tryd.prog 8 #[shapeV L h wd, xs, .int .i64 n, .int .i64 m] w0 fun e w' => e = .returned (.bool true) ∧ Below w0.heap.size w0 w' := by
  have HC := hide C
  obtain ⟨sps, cs, rfl, _, _, _⟩ := bytes_open hs
  unfold shapeV
  obtain ⟨wA, hwA⟩ : ∃ wA, w0.alloc (.cells #[.int .i64 L, .int .i64 h, .int .i64 wd] 23) = wA := ⟨_, rfl⟩
  have hbA : Below w0.heap.size w0 wA := by rw [← hwA]; exact (Below.refl _ _).alloc (Nat.le_refl _) _
  have HRA := hide (C.below w0 wA hR hbA)
  have HS := hide (hs.below hbA)
  have HBA := hide hbA
  have HSh : Hid (∀ w, Below wA.heap.size wA w → w.cell? ⟨w0.heap.size, 0, none⟩ = some (.int .i64 L) ∧ w.cell? ⟨w0.heap.size, 1, none⟩ = some (.int .i64 h) ∧ w.cell? ⟨w0.heap.size, 2, none⟩ = some (.int .i64 wd)) := fun w hb => by
    have hlt : w0.heap.size < wA.heap.size := by rw [← hwA]; simp
    refine ⟨?_, ?_, ?_⟩
    · rw [hb.cell (p := ⟨w0.heap.size, 0, none⟩) hlt, ← hwA, cell_of_row _ _ _ _ 23 (0, 0) (heap_alloc_new w0 _)]; rfl
    · rw [hb.cell (p := ⟨w0.heap.size, 1, none⟩) hlt, ← hwA, cell_of_row _ _ _ _ 23 (0, 0) (heap_alloc_new w0 _)]; rfl
    · rw [hb.cell (p := ⟨w0.heap.size, 2, none⟩) hlt, ← hwA, cell_of_row _ _ _ _ 23 (0, 0) (heap_alloc_new w0 _)]; rfl
  have Hanc := hide (anchor_any C wA (unhide HRA))
  clear C hR hs hbA
  go_enter Tryd.func8, Tryd.ntmps8
  go_wp2_with fail
  refine (unhide Hanc).mono ?_
  rintro e w1 ⟨rfl, hb⟩
  have HB1 := hide hb
  obtain ⟨c0, c1, c2⟩ := unhide HSh w1 hb
  clear hb Hanc
  obtain ⟨Z16, hZ16⟩ : ∃ Z16, Obj.cells (List.replicate 16 (Value.int .u8 0)).toArray 5 = Z16 := ⟨_, rfl⟩
  have mk16 : ∀ w, (Instr.makeSlice 24 (.int .i64 16) (.int .i64 16)).run Tryd.prog w = .ok (.slice (some ⟨w.heap.size, 0, none⟩) 16 16) (w.alloc Z16) := fun w => by rw [← hZ16]; exact make_run w 16 (by omega)
  have HZ16 := hide hZ16
  clear hZ16
  have HS1 := hide ((unhide HS).below (unhide HB1))
  have hlt01 : w0.heap.size < w1.heap.size := Nat.lt_of_lt_of_le (show w0.heap.size < wA.heap.size by rw [← hwA]; simp) (unhide HB1).size
  have n10 : ¬ w0.heap.size = w1.heap.size := by omega
  have n11 : ¬ w0.heap.size = w1.heap.size + 1 := by omega
  have n12 : ¬ w0.heap.size = w1.heap.size + 1 + 1 := by omega
  go_wp2
  go_region_held3 (fun w' => w'.cell? ⟨w0.heap.size, 0, none⟩ = some (.int .i64 L) ∧ w'.cell? ⟨w0.heap.size, 1, none⟩ = some (.int .i64 h) ∧ w'.cell? ⟨w0.heap.size, 2, none⟩ = some (.int .i64 wd)) ((first | (simp (disch := (first | assumption | (simp only [World.size_setCell]; assumption))) only [cell_far, cell_old, s0, s1, s2, and_self]; done) | exact unhide HSh _ ((unhide HB1).trans ((three_alloc w1 _ _ _).2.2.2.mono (unhide HB1).size)) | exact unhide HSh _ ((unhide HB1).trans ((two_alloc w1 _ _).2.2.mono (unhide HB1).size)) | exact unhide HSh _ ((unhide HB1).trans ((one_alloc w1 _).2.mono (unhide HB1).size)) | go_keep))
    ((first
        | (go_at_call 11; have h3 := one_alloc w1 Z16; obtain ⟨WW, hWW⟩ : ∃ WW, (w1.alloc Z16).drew = WW := ⟨_, rfl⟩; rw [hWW]; rw [hWW] at h3; clear hWW; have hid := bytes_row (n := 16) (b := w1.heap.size) (by rw [h3.1, ← unhide HZ16]); have hbW := h3.2; have hk := key_any WW L h wd _ _ (List.replicate 16 0) seed hid ((unhide HS1).below hbW); unfold shapeV keyV at hk; refine hk.mono ?_; clear hk; rintro e w2 ⟨rfl, hb⟩; have HI2 := hide (hid.below hb); have HW2 := hide (hbW.trans (hb.mono hbW.size)); have lt0 : w0.heap.size < w2.heap.size := (Nat.lt_of_lt_of_le hlt01 (unhide HW2).size); have n20 : ¬ w0.heap.size = w2.heap.size := (by omega); have n21 : ¬ w0.heap.size = w2.heap.size + 1 := (by omega); obtain ⟨s0, s1, s2⟩ := unhide HSh w2 ((unhide HB1).trans ((unhide HW2).mono (unhide HB1).size)); clear hb hid hbW h3)
        | (go_at_call 11; have h3 := two_alloc w1 (.cells #[.int .i64 0, .int .i64 0, .int .i64 0, .slice none 0 0, .slice none 0 0] 28) Z16; obtain ⟨WW, hWW⟩ : ∃ WW, ((w1.alloc (.cells #[.int .i64 0, .int .i64 0, .int .i64 0, .slice none 0 0, .slice none 0 0] 28)).alloc Z16).drew = WW := ⟨_, rfl⟩; rw [hWW]; rw [hWW] at h3; clear hWW; have hid := bytes_row (n := 16) (b := w1.heap.size + 1) (by rw [h3.2.1, ← unhide HZ16]); have hbW := h3.2.2; have h5A : FiveAt WW (w1.heap.size) := ⟨[.int .i64 0, .int .i64 0, .int .i64 0, .slice none 0 0, .slice none 0 0], rfl, [], _, h3.1⟩; have hzA := zat_row (h3.1); have hk := key_any WW L h wd _ _ (List.replicate 16 0) seed hid ((unhide HS1).below hbW); unfold shapeV keyV at hk; refine hk.mono ?_; clear hk; rintro e w2 ⟨rfl, hb⟩; have HI2 := hide (hid.below hb); have HW2 := hide (hbW.trans (hb.mono hbW.size)); have H5A := hide (h5A.below hb); have zA := hzA.below hb; have xA0 := zA.c 0 _ rfl; have fA0 := zA.2.2 0; have xA1 := zA.c 1 _ rfl; have fA1 := zA.2.2 1; have xA2 := zA.c 2 _ rfl; have fA2 := zA.2.2 2; have xA3 := zA.c 3 _ rfl; have fA3 := zA.2.2 3; have xA4 := zA.c 4 _ rfl; have fA4 := zA.2.2 4; have HzA := hide zA; have ltA : w1.heap.size < w2.heap.size := zA.1; have neA : ¬ w1.heap.size = w2.heap.size := (by omega); clear zA h5A hzA; have lt0 : w0.heap.size < w2.heap.size := (Nat.lt_of_lt_of_le hlt01 (unhide HW2).size); have n20 : ¬ w0.heap.size = w2.heap.size := (by omega); have n21 : ¬ w0.heap.size = w2.heap.size + 1 := (by omega); obtain ⟨s0, s1, s2⟩ := unhide HSh w2 ((unhide HB1).trans ((unhide HW2).mono (unhide HB1).size)); clear hb hid hbW h3)
        | (go_at_call 11; have h3 := two_alloc w1 Z16 (.cells #[.int .i64 0, .int .i64 0, .int .i64 0, .slice none 0 0, .slice none 0 0] 28); obtain ⟨WW, hWW⟩ : ∃ WW, ((w1.alloc Z16).alloc (.cells #[.int .i64 0, .int .i64 0, .int .i64 0, .slice none 0 0, .slice none 0 0] 28)).drew = WW := ⟨_, rfl⟩; rw [hWW]; rw [hWW] at h3; clear hWW; have hid := bytes_row (n := 16) (b := w1.heap.size) (by rw [h3.1, ← unhide HZ16]); have hbW := h3.2.2; have h5A : FiveAt WW (w1.heap.size + 1) := ⟨[.int .i64 0, .int .i64 0, .int .i64 0, .slice none 0 0, .slice none 0 0], rfl, [], _, h3.2.1⟩; have hzA := zat_row (h3.2.1); have hk := key_any WW L h wd _ _ (List.replicate 16 0) seed hid ((unhide HS1).below hbW); unfold shapeV keyV at hk; refine hk.mono ?_; clear hk; rintro e w2 ⟨rfl, hb⟩; have HI2 := hide (hid.below hb); have HW2 := hide (hbW.trans (hb.mono hbW.size)); have H5A := hide (h5A.below hb); have zA := hzA.below hb; have xA0 := zA.c 0 _ rfl; have fA0 := zA.2.2 0; have xA1 := zA.c 1 _ rfl; have fA1 := zA.2.2 1; have xA2 := zA.c 2 _ rfl; have fA2 := zA.2.2 2; have xA3 := zA.c 3 _ rfl; have fA3 := zA.2.2 3; have xA4 := zA.c 4 _ rfl; have fA4 := zA.2.2 4; have HzA := hide zA; have ltA : w1.heap.size + 1 < w2.heap.size := zA.1; have neA : ¬ w1.heap.size + 1 = w2.heap.size := (by omega); clear zA h5A hzA; have lt0 : w0.heap.size < w2.heap.size := (Nat.lt_of_lt_of_le hlt01 (unhide HW2).size); have n20 : ¬ w0.heap.size = w2.heap.size := (by omega); have n21 : ¬ w0.heap.size = w2.heap.size + 1 := (by omega); obtain ⟨s0, s1, s2⟩ := unhide HSh w2 ((unhide HB1).trans ((unhide HW2).mono (unhide HB1).size)); clear hb hid hbW h3)
        | (go_at_call 11; have h3 := two_alloc w1 (.cells #[.int .i64 0, .int .i64 0, .int .i64 0, .slice none 0 0, .slice none 0 0] 29) Z16; obtain ⟨WW, hWW⟩ : ∃ WW, ((w1.alloc (.cells #[.int .i64 0, .int .i64 0, .int .i64 0, .slice none 0 0, .slice none 0 0] 29)).alloc Z16).drew = WW := ⟨_, rfl⟩; rw [hWW]; rw [hWW] at h3; clear hWW; have hid := bytes_row (n := 16) (b := w1.heap.size + 1) (by rw [h3.2.1, ← unhide HZ16]); have hbW := h3.2.2; have h5B : FiveAt WW (w1.heap.size) := ⟨[.int .i64 0, .int .i64 0, .int .i64 0, .slice none 0 0, .slice none 0 0], rfl, [], _, h3.1⟩; have hzB := zat_row (h3.1); have hk := key_any WW L h wd _ _ (List.replicate 16 0) seed hid ((unhide HS1).below hbW); unfold shapeV keyV at hk; refine hk.mono ?_; clear hk; rintro e w2 ⟨rfl, hb⟩; have HI2 := hide (hid.below hb); have HW2 := hide (hbW.trans (hb.mono hbW.size)); have H5B := hide (h5B.below hb); have zB := hzB.below hb; have xB0 := zB.c 0 _ rfl; have fB0 := zB.2.2 0; have xB1 := zB.c 1 _ rfl; have fB1 := zB.2.2 1; have xB2 := zB.c 2 _ rfl; have fB2 := zB.2.2 2; have xB3 := zB.c 3 _ rfl; have fB3 := zB.2.2 3; have xB4 := zB.c 4 _ rfl; have fB4 := zB.2.2 4; have HzB := hide zB; have ltB : w1.heap.size < w2.heap.size := zB.1; have neB : ¬ w1.heap.size = w2.heap.size := (by omega); clear zB h5B hzB; have lt0 : w0.heap.size < w2.heap.size := (Nat.lt_of_lt_of_le hlt01 (unhide HW2).size); have n20 : ¬ w0.heap.size = w2.heap.size := (by omega); have n21 : ¬ w0.heap.size = w2.heap.size + 1 := (by omega); obtain ⟨s0, s1, s2⟩ := unhide HSh w2 ((unhide HB1).trans ((unhide HW2).mono (unhide HB1).size)); clear hb hid hbW h3)
        | (go_at_call 11; have h3 := two_alloc w1 Z16 (.cells #[.int .i64 0, .int .i64 0, .int .i64 0, .slice none 0 0, .slice none 0 0] 29); obtain ⟨WW, hWW⟩ : ∃ WW, ((w1.alloc Z16).alloc (.cells #[.int .i64 0, .int .i64 0, .int .i64 0, .slice none 0 0, .slice none 0 0] 29)).drew = WW := ⟨_, rfl⟩; rw [hWW]; rw [hWW] at h3; clear hWW; have hid := bytes_row (n := 16) (b := w1.heap.size) (by rw [h3.1, ← unhide HZ16]); have hbW := h3.2.2; have h5B : FiveAt WW (w1.heap.size + 1) := ⟨[.int .i64 0, .int .i64 0, .int .i64 0, .slice none 0 0, .slice none 0 0], rfl, [], _, h3.2.1⟩; have hzB := zat_row (h3.2.1); have hk := key_any WW L h wd _ _ (List.replicate 16 0) seed hid ((unhide HS1).below hbW); unfold shapeV keyV at hk; refine hk.mono ?_; clear hk; rintro e w2 ⟨rfl, hb⟩; have HI2 := hide (hid.below hb); have HW2 := hide (hbW.trans (hb.mono hbW.size)); have H5B := hide (h5B.below hb); have zB := hzB.below hb; have xB0 := zB.c 0 _ rfl; have fB0 := zB.2.2 0; have xB1 := zB.c 1 _ rfl; have fB1 := zB.2.2 1; have xB2 := zB.c 2 _ rfl; have fB2 := zB.2.2 2; have xB3 := zB.c 3 _ rfl; have fB3 := zB.2.2 3; have xB4 := zB.c 4 _ rfl; have fB4 := zB.2.2 4; have HzB := hide zB; have ltB : w1.heap.size + 1 < w2.heap.size := zB.1; have neB : ¬ w1.heap.size + 1 = w2.heap.size := (by omega); clear zB h5B hzB; have lt0 : w0.heap.size < w2.heap.size := (Nat.lt_of_lt_of_le hlt01 (unhide HW2).size); have n20 : ¬ w0.heap.size = w2.heap.size := (by omega); have n21 : ¬ w0.heap.size = w2.heap.size + 1 := (by omega); obtain ⟨s0, s1, s2⟩ := unhide HSh w2 ((unhide HB1).trans ((unhide HW2).mono (unhide HB1).size)); clear hb hid hbW h3)
        | (go_at_call 11; have h3 := three_alloc w1 (.cells #[.int .i64 0, .int .i64 0, .int .i64 0, .slice none 0 0, .slice none 0 0] 28) (.cells #[.int .i64 0, .int .i64 0, .int .i64 0, .slice none 0 0, .slice none 0 0] 29) Z16; obtain ⟨WW, hWW⟩ : ∃ WW, (((w1.alloc (.cells #[.int .i64 0, .int .i64 0, .int .i64 0, .slice none 0 0, .slice none 0 0] 28)).alloc (.cells #[.int .i64 0, .int .i64 0, .int .i64 0, .slice none 0 0, .slice none 0 0] 29)).alloc Z16).drew = WW := ⟨_, rfl⟩; rw [hWW]; rw [hWW] at h3; clear hWW; have hid := bytes_row (n := 16) (b := w1.heap.size + 1 + 1) (by rw [h3.2.2.1, ← unhide HZ16]); have hbW := h3.2.2.2; have h5A : FiveAt WW (w1.heap.size) := ⟨[.int .i64 0, .int .i64 0, .int .i64 0, .slice none 0 0, .slice none 0 0], rfl, [], _, h3.1⟩; have hzA := zat_row (h3.1); have h5B : FiveAt WW (w1.heap.size + 1) := ⟨[.int .i64 0, .int .i64 0, .int .i64 0, .slice none 0 0, .slice none 0 0], rfl, [], _, h3.2.1⟩; have hzB := zat_row (h3.2.1); have hk := key_any WW L h wd _ _ (List.replicate 16 0) seed hid ((unhide HS1).below hbW); unfold shapeV keyV at hk; refine hk.mono ?_; clear hk; rintro e w2 ⟨rfl, hb⟩; have HI2 := hide (hid.below hb); have HW2 := hide (hbW.trans (hb.mono hbW.size)); have H5A := hide (h5A.below hb); have zA := hzA.below hb; have xA0 := zA.c 0 _ rfl; have fA0 := zA.2.2 0; have xA1 := zA.c 1 _ rfl; have fA1 := zA.2.2 1; have xA2 := zA.c 2 _ rfl; have fA2 := zA.2.2 2; have xA3 := zA.c 3 _ rfl; have fA3 := zA.2.2 3; have xA4 := zA.c 4 _ rfl; have fA4 := zA.2.2 4; have HzA := hide zA; have ltA : w1.heap.size < w2.heap.size := zA.1; have neA : ¬ w1.heap.size = w2.heap.size := (by omega); clear zA h5A hzA; have H5B := hide (h5B.below hb); have zB := hzB.below hb; have xB0 := zB.c 0 _ rfl; have fB0 := zB.2.2 0; have xB1 := zB.c 1 _ rfl; have fB1 := zB.2.2 1; have xB2 := zB.c 2 _ rfl; have fB2 := zB.2.2 2; have xB3 := zB.c 3 _ rfl; have fB3 := zB.2.2 3; have xB4 := zB.c 4 _ rfl; have fB4 := zB.2.2 4; have HzB := hide zB; have ltB : w1.heap.size + 1 < w2.heap.size := zB.1; have neB : ¬ w1.heap.size + 1 = w2.heap.size := (by omega); clear zB h5B hzB; have lt0 : w0.heap.size < w2.heap.size := (Nat.lt_of_lt_of_le hlt01 (unhide HW2).size); have n20 : ¬ w0.heap.size = w2.heap.size := (by omega); have n21 : ¬ w0.heap.size = w2.heap.size + 1 := (by omega); obtain ⟨s0, s1, s2⟩ := unhide HSh w2 ((unhide HB1).trans ((unhide HW2).mono (unhide HB1).size)); clear hb hid hbW h3)
        | (go_at_call 11; have h3 := three_alloc w1 (.cells #[.int .i64 0, .int .i64 0, .int .i64 0, .slice none 0 0, .slice none 0 0] 28) Z16 (.cells #[.int .i64 0, .int .i64 0, .int .i64 0, .slice none 0 0, .slice none 0 0] 29); obtain ⟨WW, hWW⟩ : ∃ WW, (((w1.alloc (.cells #[.int .i64 0, .int .i64 0, .int .i64 0, .slice none 0 0, .slice none 0 0] 28)).alloc Z16).alloc (.cells #[.int .i64 0, .int .i64 0, .int .i64 0, .slice none 0 0, .slice none 0 0] 29)).drew = WW := ⟨_, rfl⟩; rw [hWW]; rw [hWW] at h3; clear hWW; have hid := bytes_row (n := 16) (b := w1.heap.size + 1) (by rw [h3.2.1, ← unhide HZ16]); have hbW := h3.2.2.2; have h5A : FiveAt WW (w1.heap.size) := ⟨[.int .i64 0, .int .i64 0, .int .i64 0, .slice none 0 0, .slice none 0 0], rfl, [], _, h3.1⟩; have hzA := zat_row (h3.1); have h5B : FiveAt WW (w1.heap.size + 1 + 1) := ⟨[.int .i64 0, .int .i64 0, .int .i64 0, .slice none 0 0, .slice none 0 0], rfl, [], _, h3.2.2.1⟩; have hzB := zat_row (h3.2.2.1); have hk := key_any WW L h wd _ _ (List.replicate 16 0) seed hid ((unhide HS1).below hbW); unfold shapeV keyV at hk; refine hk.mono ?_; clear hk; rintro e w2 ⟨rfl, hb⟩; have HI2 := hide (hid.below hb); have HW2 := hide (hbW.trans (hb.mono hbW.size)); have H5A := hide (h5A.below hb); have zA := hzA.below hb; have xA0 := zA.c 0 _ rfl; have fA0 := zA.2.2 0; have xA1 := zA.c 1 _ rfl; have fA1 := zA.2.2 1; have xA2 := zA.c 2 _ rfl; have fA2 := zA.2.2 2; have xA3 := zA.c 3 _ rfl; have fA3 := zA.2.2 3; have xA4 := zA.c 4 _ rfl; have fA4 := zA.2.2 4; have HzA := hide zA; have ltA : w1.heap.size < w2.heap.size := zA.1; have neA : ¬ w1.heap.size = w2.heap.size := (by omega); clear zA h5A hzA; have H5B := hide (h5B.below hb); have zB := hzB.below hb; have xB0 := zB.c 0 _ rfl; have fB0 := zB.2.2 0; have xB1 := zB.c 1 _ rfl; have fB1 := zB.2.2 1; have xB2 := zB.c 2 _ rfl; have fB2 := zB.2.2 2; have xB3 := zB.c 3 _ rfl; have fB3 := zB.2.2 3; have xB4 := zB.c 4 _ rfl; have fB4 := zB.2.2 4; have HzB := hide zB; have ltB : w1.heap.size + 1 + 1 < w2.heap.size := zB.1; have neB : ¬ w1.heap.size + 1 + 1 = w2.heap.size := (by omega); clear zB h5B hzB; have lt0 : w0.heap.size < w2.heap.size := (Nat.lt_of_lt_of_le hlt01 (unhide HW2).size); have n20 : ¬ w0.heap.size = w2.heap.size := (by omega); have n21 : ¬ w0.heap.size = w2.heap.size + 1 := (by omega); obtain ⟨s0, s1, s2⟩ := unhide HSh w2 ((unhide HB1).trans ((unhide HW2).mono (unhide HB1).size)); clear hb hid hbW h3)
        | (go_at_call 11; have h3 := three_alloc w1 (.cells #[.int .i64 0, .int .i64 0, .int .i64 0, .slice none 0 0, .slice none 0 0] 29) (.cells #[.int .i64 0, .int .i64 0, .int .i64 0, .slice none 0 0, .slice none 0 0] 28) Z16; obtain ⟨WW, hWW⟩ : ∃ WW, (((w1.alloc (.cells #[.int .i64 0, .int .i64 0, .int .i64 0, .slice none 0 0, .slice none 0 0] 29)).alloc (.cells #[.int .i64 0, .int .i64 0, .int .i64 0, .slice none 0 0, .slice none 0 0] 28)).alloc Z16).drew = WW := ⟨_, rfl⟩; rw [hWW]; rw [hWW] at h3; clear hWW; have hid := bytes_row (n := 16) (b := w1.heap.size + 1 + 1) (by rw [h3.2.2.1, ← unhide HZ16]); have hbW := h3.2.2.2; have h5A : FiveAt WW (w1.heap.size + 1) := ⟨[.int .i64 0, .int .i64 0, .int .i64 0, .slice none 0 0, .slice none 0 0], rfl, [], _, h3.2.1⟩; have hzA := zat_row (h3.2.1); have h5B : FiveAt WW (w1.heap.size) := ⟨[.int .i64 0, .int .i64 0, .int .i64 0, .slice none 0 0, .slice none 0 0], rfl, [], _, h3.1⟩; have hzB := zat_row (h3.1); have hk := key_any WW L h wd _ _ (List.replicate 16 0) seed hid ((unhide HS1).below hbW); unfold shapeV keyV at hk; refine hk.mono ?_; clear hk; rintro e w2 ⟨rfl, hb⟩; have HI2 := hide (hid.below hb); have HW2 := hide (hbW.trans (hb.mono hbW.size)); have H5A := hide (h5A.below hb); have zA := hzA.below hb; have xA0 := zA.c 0 _ rfl; have fA0 := zA.2.2 0; have xA1 := zA.c 1 _ rfl; have fA1 := zA.2.2 1; have xA2 := zA.c 2 _ rfl; have fA2 := zA.2.2 2; have xA3 := zA.c 3 _ rfl; have fA3 := zA.2.2 3; have xA4 := zA.c 4 _ rfl; have fA4 := zA.2.2 4; have HzA := hide zA; have ltA : w1.heap.size + 1 < w2.heap.size := zA.1; have neA : ¬ w1.heap.size + 1 = w2.heap.size := (by omega); clear zA h5A hzA; have H5B := hide (h5B.below hb); have zB := hzB.below hb; have xB0 := zB.c 0 _ rfl; have fB0 := zB.2.2 0; have xB1 := zB.c 1 _ rfl; have fB1 := zB.2.2 1; have xB2 := zB.c 2 _ rfl; have fB2 := zB.2.2 2; have xB3 := zB.c 3 _ rfl; have fB3 := zB.2.2 3; have xB4 := zB.c 4 _ rfl; have fB4 := zB.2.2 4; have HzB := hide zB; have ltB : w1.heap.size < w2.heap.size := zB.1; have neB : ¬ w1.heap.size = w2.heap.size := (by omega); clear zB h5B hzB; have lt0 : w0.heap.size < w2.heap.size := (Nat.lt_of_lt_of_le hlt01 (unhide HW2).size); have n20 : ¬ w0.heap.size = w2.heap.size := (by omega); have n21 : ¬ w0.heap.size = w2.heap.size + 1 := (by omega); obtain ⟨s0, s1, s2⟩ := unhide HSh w2 ((unhide HB1).trans ((unhide HW2).mono (unhide HB1).size)); clear hb hid hbW h3)
        | (go_at_call 11; have h3 := three_alloc w1 (.cells #[.int .i64 0, .int .i64 0, .int .i64 0, .slice none 0 0, .slice none 0 0] 29) Z16 (.cells #[.int .i64 0, .int .i64 0, .int .i64 0, .slice none 0 0, .slice none 0 0] 28); obtain ⟨WW, hWW⟩ : ∃ WW, (((w1.alloc (.cells #[.int .i64 0, .int .i64 0, .int .i64 0, .slice none 0 0, .slice none 0 0] 29)).alloc Z16).alloc (.cells #[.int .i64 0, .int .i64 0, .int .i64 0, .slice none 0 0, .slice none 0 0] 28)).drew = WW := ⟨_, rfl⟩; rw [hWW]; rw [hWW] at h3; clear hWW; have hid := bytes_row (n := 16) (b := w1.heap.size + 1) (by rw [h3.2.1, ← unhide HZ16]); have hbW := h3.2.2.2; have h5A : FiveAt WW (w1.heap.size + 1 + 1) := ⟨[.int .i64 0, .int .i64 0, .int .i64 0, .slice none 0 0, .slice none 0 0], rfl, [], _, h3.2.2.1⟩; have hzA := zat_row (h3.2.2.1); have h5B : FiveAt WW (w1.heap.size) := ⟨[.int .i64 0, .int .i64 0, .int .i64 0, .slice none 0 0, .slice none 0 0], rfl, [], _, h3.1⟩; have hzB := zat_row (h3.1); have hk := key_any WW L h wd _ _ (List.replicate 16 0) seed hid ((unhide HS1).below hbW); unfold shapeV keyV at hk; refine hk.mono ?_; clear hk; rintro e w2 ⟨rfl, hb⟩; have HI2 := hide (hid.below hb); have HW2 := hide (hbW.trans (hb.mono hbW.size)); have H5A := hide (h5A.below hb); have zA := hzA.below hb; have xA0 := zA.c 0 _ rfl; have fA0 := zA.2.2 0; have xA1 := zA.c 1 _ rfl; have fA1 := zA.2.2 1; have xA2 := zA.c 2 _ rfl; have fA2 := zA.2.2 2; have xA3 := zA.c 3 _ rfl; have fA3 := zA.2.2 3; have xA4 := zA.c 4 _ rfl; have fA4 := zA.2.2 4; have HzA := hide zA; have ltA : w1.heap.size + 1 + 1 < w2.heap.size := zA.1; have neA : ¬ w1.heap.size + 1 + 1 = w2.heap.size := (by omega); clear zA h5A hzA; have H5B := hide (h5B.below hb); have zB := hzB.below hb; have xB0 := zB.c 0 _ rfl; have fB0 := zB.2.2 0; have xB1 := zB.c 1 _ rfl; have fB1 := zB.2.2 1; have xB2 := zB.c 2 _ rfl; have fB2 := zB.2.2 2; have xB3 := zB.c 3 _ rfl; have fB3 := zB.2.2 3; have xB4 := zB.c 4 _ rfl; have fB4 := zB.2.2 4; have HzB := hide zB; have ltB : w1.heap.size < w2.heap.size := zB.1; have neB : ¬ w1.heap.size = w2.heap.size := (by omega); clear zB h5B hzB; have lt0 : w0.heap.size < w2.heap.size := (Nat.lt_of_lt_of_le hlt01 (unhide HW2).size); have n20 : ¬ w0.heap.size = w2.heap.size := (by omega); have n21 : ¬ w0.heap.size = w2.heap.size + 1 := (by omega); obtain ⟨s0, s1, s2⟩ := unhide HSh w2 ((unhide HB1).trans ((unhide HW2).mono (unhide HB1).size)); clear hb hid hbW h3)
        | (go_at_call 11; have h3 := three_alloc w1 Z16 (.cells #[.int .i64 0, .int .i64 0, .int .i64 0, .slice none 0 0, .slice none 0 0] 28) (.cells #[.int .i64 0, .int .i64 0, .int .i64 0, .slice none 0 0, .slice none 0 0] 29); obtain ⟨WW, hWW⟩ : ∃ WW, (((w1.alloc Z16).alloc (.cells #[.int .i64 0, .int .i64 0, .int .i64 0, .slice none 0 0, .slice none 0 0] 28)).alloc (.cells #[.int .i64 0, .int .i64 0, .int .i64 0, .slice none 0 0, .slice none 0 0] 29)).drew = WW := ⟨_, rfl⟩; rw [hWW]; rw [hWW] at h3; clear hWW; have hid := bytes_row (n := 16) (b := w1.heap.size) (by rw [h3.1, ← unhide HZ16]); have hbW := h3.2.2.2; have h5A : FiveAt WW (w1.heap.size + 1) := ⟨[.int .i64 0, .int .i64 0, .int .i64 0, .slice none 0 0, .slice none 0 0], rfl, [], _, h3.2.1⟩; have hzA := zat_row (h3.2.1); have h5B : FiveAt WW (w1.heap.size + 1 + 1) := ⟨[.int .i64 0, .int .i64 0, .int .i64 0, .slice none 0 0, .slice none 0 0], rfl, [], _, h3.2.2.1⟩; have hzB := zat_row (h3.2.2.1); have hk := key_any WW L h wd _ _ (List.replicate 16 0) seed hid ((unhide HS1).below hbW); unfold shapeV keyV at hk; refine hk.mono ?_; clear hk; rintro e w2 ⟨rfl, hb⟩; have HI2 := hide (hid.below hb); have HW2 := hide (hbW.trans (hb.mono hbW.size)); have H5A := hide (h5A.below hb); have zA := hzA.below hb; have xA0 := zA.c 0 _ rfl; have fA0 := zA.2.2 0; have xA1 := zA.c 1 _ rfl; have fA1 := zA.2.2 1; have xA2 := zA.c 2 _ rfl; have fA2 := zA.2.2 2; have xA3 := zA.c 3 _ rfl; have fA3 := zA.2.2 3; have xA4 := zA.c 4 _ rfl; have fA4 := zA.2.2 4; have HzA := hide zA; have ltA : w1.heap.size + 1 < w2.heap.size := zA.1; have neA : ¬ w1.heap.size + 1 = w2.heap.size := (by omega); clear zA h5A hzA; have H5B := hide (h5B.below hb); have zB := hzB.below hb; have xB0 := zB.c 0 _ rfl; have fB0 := zB.2.2 0; have xB1 := zB.c 1 _ rfl; have fB1 := zB.2.2 1; have xB2 := zB.c 2 _ rfl; have fB2 := zB.2.2 2; have xB3 := zB.c 3 _ rfl; have fB3 := zB.2.2 3; have xB4 := zB.c 4 _ rfl; have fB4 := zB.2.2 4; have HzB := hide zB; have ltB : w1.heap.size + 1 + 1 < w2.heap.size := zB.1; have neB : ¬ w1.heap.size + 1 + 1 = w2.heap.size := (by omega); clear zB h5B hzB; have lt0 : w0.heap.size < w2.heap.size := (Nat.lt_of_lt_of_le hlt01 (unhide HW2).size); have n20 : ¬ w0.heap.size = w2.heap.size := (by omega); have n21 : ¬ w0.heap.size = w2.heap.size + 1 := (by omega); obtain ⟨s0, s1, s2⟩ := unhide HSh w2 ((unhide HB1).trans ((unhide HW2).mono (unhide HB1).size)); clear hb hid hbW h3)
        | (go_at_call 11; have h3 := three_alloc w1 Z16 (.cells #[.int .i64 0, .int .i64 0, .int .i64 0, .slice none 0 0, .slice none 0 0] 29) (.cells #[.int .i64 0, .int .i64 0, .int .i64 0, .slice none 0 0, .slice none 0 0] 28); obtain ⟨WW, hWW⟩ : ∃ WW, (((w1.alloc Z16).alloc (.cells #[.int .i64 0, .int .i64 0, .int .i64 0, .slice none 0 0, .slice none 0 0] 29)).alloc (.cells #[.int .i64 0, .int .i64 0, .int .i64 0, .slice none 0 0, .slice none 0 0] 28)).drew = WW := ⟨_, rfl⟩; rw [hWW]; rw [hWW] at h3; clear hWW; have hid := bytes_row (n := 16) (b := w1.heap.size) (by rw [h3.1, ← unhide HZ16]); have hbW := h3.2.2.2; have h5A : FiveAt WW (w1.heap.size + 1 + 1) := ⟨[.int .i64 0, .int .i64 0, .int .i64 0, .slice none 0 0, .slice none 0 0], rfl, [], _, h3.2.2.1⟩; have hzA := zat_row (h3.2.2.1); have h5B : FiveAt WW (w1.heap.size + 1) := ⟨[.int .i64 0, .int .i64 0, .int .i64 0, .slice none 0 0, .slice none 0 0], rfl, [], _, h3.2.1⟩; have hzB := zat_row (h3.2.1); have hk := key_any WW L h wd _ _ (List.replicate 16 0) seed hid ((unhide HS1).below hbW); unfold shapeV keyV at hk; refine hk.mono ?_; clear hk; rintro e w2 ⟨rfl, hb⟩; have HI2 := hide (hid.below hb); have HW2 := hide (hbW.trans (hb.mono hbW.size)); have H5A := hide (h5A.below hb); have zA := hzA.below hb; have xA0 := zA.c 0 _ rfl; have fA0 := zA.2.2 0; have xA1 := zA.c 1 _ rfl; have fA1 := zA.2.2 1; have xA2 := zA.c 2 _ rfl; have fA2 := zA.2.2 2; have xA3 := zA.c 3 _ rfl; have fA3 := zA.2.2 3; have xA4 := zA.c 4 _ rfl; have fA4 := zA.2.2 4; have HzA := hide zA; have ltA : w1.heap.size + 1 + 1 < w2.heap.size := zA.1; have neA : ¬ w1.heap.size + 1 + 1 = w2.heap.size := (by omega); clear zA h5A hzA; have H5B := hide (h5B.below hb); have zB := hzB.below hb; have xB0 := zB.c 0 _ rfl; have fB0 := zB.2.2 0; have xB1 := zB.c 1 _ rfl; have fB1 := zB.2.2 1; have xB2 := zB.c 2 _ rfl; have fB2 := zB.2.2 2; have xB3 := zB.c 3 _ rfl; have fB3 := zB.2.2 3; have xB4 := zB.c 4 _ rfl; have fB4 := zB.2.2 4; have HzB := hide zB; have ltB : w1.heap.size + 1 < w2.heap.size := zB.1; have neB : ¬ w1.heap.size + 1 = w2.heap.size := (by omega); clear zB h5B hzB; have lt0 : w0.heap.size < w2.heap.size := (Nat.lt_of_lt_of_le hlt01 (unhide HW2).size); have n20 : ¬ w0.heap.size = w2.heap.size := (by omega); have n21 : ¬ w0.heap.size = w2.heap.size + 1 := (by omega); obtain ⟨s0, s1, s2⟩ := unhide HSh w2 ((unhide HB1).trans ((unhide HW2).mono (unhide HB1).size)); clear hb hid hbW h3)))
  all_goals (first
  | (have HT := hide (two_new (L := L) (h := h) (wd := wd) (unhide HI2) ((unhide HS1).below (unhide HW2)) ((unhide HB1).trans ((unhide HW2).mono (unhide HB1).size)))
     obtain ⟨W4, hW4⟩ : ∃ W4, (w2.alloc (.cells #[.int .i64 L, .int .i64 h, .int .i64 wd, (.slice (some ⟨w1.heap.size, 0, none⟩) 16 16), (.slice sps seed.length cs)] 28)).alloc (.cells #[.int .i64 L, .int .i64 h, .int .i64 wd, (.slice (some ⟨w1.heap.size, 0, none⟩) 16 16), (.slice sps seed.length cs)] 29) = W4 := ⟨_, rfl⟩
     rw [hW4]
     rw [hW4] at HT
     clear hW4
     obtain ⟨B, hx⟩ : ∃ B, w2.heap.size + 1 = B := ⟨_, rfl⟩
     rw [hx] at HT ⊢
     clear hx
     obtain ⟨A, hx⟩ : ∃ A, w2.heap.size = A := ⟨_, rfl⟩
     rw [hx] at HT ⊢
     clear hx
     obtain ⟨bi, hx⟩ : ∃ bi, w1.heap.size = bi := ⟨_, rfl⟩
     rw [hx] at HT ⊢
     clear hx)
  | (have HT := hide (two_new' (L := L) (h := h) (wd := wd) (unhide HI2) ((unhide HS1).below (unhide HW2)) ((unhide HB1).trans ((unhide HW2).mono (unhide HB1).size)))
     obtain ⟨W4, hW4⟩ : ∃ W4, (w2.alloc (.cells #[.int .i64 L, .int .i64 h, .int .i64 wd, (.slice (some ⟨w1.heap.size, 0, none⟩) 16 16), (.slice sps seed.length cs)] 29)).alloc (.cells #[.int .i64 L, .int .i64 h, .int .i64 wd, (.slice (some ⟨w1.heap.size, 0, none⟩) 16 16), (.slice sps seed.length cs)] 28) = W4 := ⟨_, rfl⟩
     rw [hW4]
     rw [hW4] at HT
     clear hW4
     obtain ⟨A, hx⟩ : ∃ A, w2.heap.size + 1 = A := ⟨_, rfl⟩
     rw [hx] at HT ⊢
     clear hx
     obtain ⟨B, hx⟩ : ∃ B, w2.heap.size = B := ⟨_, rfl⟩
     rw [hx] at HT ⊢
     clear hx
     obtain ⟨bi, hx⟩ : ∃ bi, w1.heap.size = bi := ⟨_, rfl⟩
     rw [hx] at HT ⊢
     clear hx)
  | (have HT := hide (fam2a (L := L) (h := h) (wd := wd) (⟨unhide HI2, unhide HS1, (unhide HS1).below (unhide HW2), (unhide HB1).size, (unhide HB1).trans ((unhide HW2).mono (unhide HB1).size)⟩ : AfterKey wA w1 w2 (w1.heap.size) (.slice sps seed.length cs) (List.replicate 16 0) seed) (unhide H5A) (by omega) (by omega))
     obtain ⟨W4, hW4⟩ : ∃ W4, (setKey w2 (w1.heap.size + 1) L h wd (.slice (some ⟨w1.heap.size, 0, none⟩) 16 16) (.slice sps seed.length cs)).alloc (.cells #[.int .i64 L, .int .i64 h, .int .i64 wd, (.slice (some ⟨w1.heap.size, 0, none⟩) 16 16), (.slice sps seed.length cs)] 29) = W4 := ⟨_, rfl⟩
     unfold setKey at hW4 HT
     rw [hW4]
     rw [hW4] at HT
     clear hW4
     obtain ⟨B, hx⟩ : ∃ B, w2.heap.size = B := ⟨_, rfl⟩
     rw [hx] at HT ⊢
     clear hx
     obtain ⟨A, hx⟩ : ∃ A, w1.heap.size + 1 = A := ⟨_, rfl⟩
     rw [hx] at HT ⊢
     clear hx
     obtain ⟨bi, hx⟩ : ∃ bi, w1.heap.size = bi := ⟨_, rfl⟩
     rw [hx] at HT ⊢
     clear hx)
  | (have HT := hide (fam2b (L := L) (h := h) (wd := wd) (⟨unhide HI2, unhide HS1, (unhide HS1).below (unhide HW2), (unhide HB1).size, (unhide HB1).trans ((unhide HW2).mono (unhide HB1).size)⟩ : AfterKey wA w1 w2 (w1.heap.size) (.slice sps seed.length cs) (List.replicate 16 0) seed) (unhide H5B) (by omega) (by omega))
     obtain ⟨W4, hW4⟩ : ∃ W4, (setKey w2 (w1.heap.size + 1) L h wd (.slice (some ⟨w1.heap.size, 0, none⟩) 16 16) (.slice sps seed.length cs)).alloc (.cells #[.int .i64 L, .int .i64 h, .int .i64 wd, (.slice (some ⟨w1.heap.size, 0, none⟩) 16 16), (.slice sps seed.length cs)] 28) = W4 := ⟨_, rfl⟩
     unfold setKey at hW4 HT
     rw [hW4]
     rw [hW4] at HT
     clear hW4
     obtain ⟨A, hx⟩ : ∃ A, w2.heap.size = A := ⟨_, rfl⟩
     rw [hx] at HT ⊢
     clear hx
     obtain ⟨B, hx⟩ : ∃ B, w1.heap.size + 1 = B := ⟨_, rfl⟩
     rw [hx] at HT ⊢
     clear hx
     obtain ⟨bi, hx⟩ : ∃ bi, w1.heap.size = bi := ⟨_, rfl⟩
     rw [hx] at HT ⊢
     clear hx)
  | (have HT := hide (fam2a (L := L) (h := h) (wd := wd) (⟨unhide HI2, unhide HS1, (unhide HS1).below (unhide HW2), (unhide HB1).size, (unhide HB1).trans ((unhide HW2).mono (unhide HB1).size)⟩ : AfterKey wA w1 w2 (w1.heap.size + 1) (.slice sps seed.length cs) (List.replicate 16 0) seed) (unhide H5A) (by omega) (by omega))
     obtain ⟨W4, hW4⟩ : ∃ W4, (setKey w2 (w1.heap.size) L h wd (.slice (some ⟨w1.heap.size + 1, 0, none⟩) 16 16) (.slice sps seed.length cs)).alloc (.cells #[.int .i64 L, .int .i64 h, .int .i64 wd, (.slice (some ⟨w1.heap.size + 1, 0, none⟩) 16 16), (.slice sps seed.length cs)] 29) = W4 := ⟨_, rfl⟩
     unfold setKey at hW4 HT
     rw [hW4]
     rw [hW4] at HT
     clear hW4
     obtain ⟨B, hx⟩ : ∃ B, w2.heap.size = B := ⟨_, rfl⟩
     rw [hx] at HT ⊢
     clear hx
     obtain ⟨bi, hx⟩ : ∃ bi, w1.heap.size + 1 = bi := ⟨_, rfl⟩
     rw [hx] at HT ⊢
     clear hx
     obtain ⟨A, hx⟩ : ∃ A, w1.heap.size = A := ⟨_, rfl⟩
     rw [hx] at HT ⊢
     clear hx)
  | (have HT := hide (fam2b (L := L) (h := h) (wd := wd) (⟨unhide HI2, unhide HS1, (unhide HS1).below (unhide HW2), (unhide HB1).size, (unhide HB1).trans ((unhide HW2).mono (unhide HB1).size)⟩ : AfterKey wA w1 w2 (w1.heap.size + 1) (.slice sps seed.length cs) (List.replicate 16 0) seed) (unhide H5B) (by omega) (by omega))
     obtain ⟨W4, hW4⟩ : ∃ W4, (setKey w2 (w1.heap.size) L h wd (.slice (some ⟨w1.heap.size + 1, 0, none⟩) 16 16) (.slice sps seed.length cs)).alloc (.cells #[.int .i64 L, .int .i64 h, .int .i64 wd, (.slice (some ⟨w1.heap.size + 1, 0, none⟩) 16 16), (.slice sps seed.length cs)] 28) = W4 := ⟨_, rfl⟩
     unfold setKey at hW4 HT
     rw [hW4]
     rw [hW4] at HT
     clear hW4
     obtain ⟨A, hx⟩ : ∃ A, w2.heap.size = A := ⟨_, rfl⟩
     rw [hx] at HT ⊢
     clear hx
     obtain ⟨bi, hx⟩ : ∃ bi, w1.heap.size + 1 = bi := ⟨_, rfl⟩
     rw [hx] at HT ⊢
     clear hx
     obtain ⟨B, hx⟩ : ∃ B, w1.heap.size = B := ⟨_, rfl⟩
     rw [hx] at HT ⊢
     clear hx)
  | (have HT := hide (fam3 (L := L) (h := h) (wd := wd) (⟨unhide HI2, unhide HS1, (unhide HS1).below (unhide HW2), (unhide HB1).size, (unhide HB1).trans ((unhide HW2).mono (unhide HB1).size)⟩ : AfterKey wA w1 w2 (w1.heap.size + 1 + 1) (.slice sps seed.length cs) (List.replicate 16 0) seed) (unhide H5A) (unhide H5B) (by omega) (by omega) (by omega) (by omega) (by omega))
     obtain ⟨W4, hW4⟩ : ∃ W4, (setKey (setKey w2 (w1.heap.size) L h wd (.slice (some ⟨w1.heap.size + 1 + 1, 0, none⟩) 16 16) (.slice sps seed.length cs)) (w1.heap.size + 1) L h wd (.slice (some ⟨w1.heap.size + 1 + 1, 0, none⟩) 16 16) (.slice sps seed.length cs)) = W4 := ⟨_, rfl⟩
     unfold setKey at hW4 HT
     rw [hW4]
     rw [hW4] at HT
     clear hW4
     obtain ⟨bi, hx⟩ : ∃ bi, w1.heap.size + 1 + 1 = bi := ⟨_, rfl⟩
     rw [hx] at HT ⊢
     clear hx
     obtain ⟨B, hx⟩ : ∃ B, w1.heap.size + 1 = B := ⟨_, rfl⟩
     rw [hx] at HT ⊢
     clear hx
     obtain ⟨A, hx⟩ : ∃ A, w1.heap.size = A := ⟨_, rfl⟩
     rw [hx] at HT ⊢
     clear hx)
  | (have HT := hide (fam3 (L := L) (h := h) (wd := wd) (⟨unhide HI2, unhide HS1, (unhide HS1).below (unhide HW2), (unhide HB1).size, (unhide HB1).trans ((unhide HW2).mono (unhide HB1).size)⟩ : AfterKey wA w1 w2 (w1.heap.size + 1) (.slice sps seed.length cs) (List.replicate 16 0) seed) (unhide H5A) (unhide H5B) (by omega) (by omega) (by omega) (by omega) (by omega))
     obtain ⟨W4, hW4⟩ : ∃ W4, (setKey (setKey w2 (w1.heap.size) L h wd (.slice (some ⟨w1.heap.size + 1, 0, none⟩) 16 16) (.slice sps seed.length cs)) (w1.heap.size + 1 + 1) L h wd (.slice (some ⟨w1.heap.size + 1, 0, none⟩) 16 16) (.slice sps seed.length cs)) = W4 := ⟨_, rfl⟩
     unfold setKey at hW4 HT
     rw [hW4]
     rw [hW4] at HT
     clear hW4
     obtain ⟨B, hx⟩ : ∃ B, w1.heap.size + 1 + 1 = B := ⟨_, rfl⟩
     rw [hx] at HT ⊢
     clear hx
     obtain ⟨bi, hx⟩ : ∃ bi, w1.heap.size + 1 = bi := ⟨_, rfl⟩
     rw [hx] at HT ⊢
     clear hx
     obtain ⟨A, hx⟩ : ∃ A, w1.heap.size = A := ⟨_, rfl⟩
     rw [hx] at HT ⊢
     clear hx)
  | (have HT := hide (fam3 (L := L) (h := h) (wd := wd) (⟨unhide HI2, unhide HS1, (unhide HS1).below (unhide HW2), (unhide HB1).size, (unhide HB1).trans ((unhide HW2).mono (unhide HB1).size)⟩ : AfterKey wA w1 w2 (w1.heap.size + 1 + 1) (.slice sps seed.length cs) (List.replicate 16 0) seed) (unhide H5A) (unhide H5B) (by omega) (by omega) (by omega) (by omega) (by omega))
     obtain ⟨W4, hW4⟩ : ∃ W4, (setKey (setKey w2 (w1.heap.size + 1) L h wd (.slice (some ⟨w1.heap.size + 1 + 1, 0, none⟩) 16 16) (.slice sps seed.length cs)) (w1.heap.size) L h wd (.slice (some ⟨w1.heap.size + 1 + 1, 0, none⟩) 16 16) (.slice sps seed.length cs)) = W4 := ⟨_, rfl⟩
     unfold setKey at hW4 HT
     rw [hW4]
     rw [hW4] at HT
     clear hW4
     obtain ⟨bi, hx⟩ : ∃ bi, w1.heap.size + 1 + 1 = bi := ⟨_, rfl⟩
     rw [hx] at HT ⊢
     clear hx
     obtain ⟨A, hx⟩ : ∃ A, w1.heap.size + 1 = A := ⟨_, rfl⟩
     rw [hx] at HT ⊢
     clear hx
     obtain ⟨B, hx⟩ : ∃ B, w1.heap.size = B := ⟨_, rfl⟩
     rw [hx] at HT ⊢
     clear hx)
  | (have HT := hide (fam3 (L := L) (h := h) (wd := wd) (⟨unhide HI2, unhide HS1, (unhide HS1).below (unhide HW2), (unhide HB1).size, (unhide HB1).trans ((unhide HW2).mono (unhide HB1).size)⟩ : AfterKey wA w1 w2 (w1.heap.size) (.slice sps seed.length cs) (List.replicate 16 0) seed) (unhide H5A) (unhide H5B) (by omega) (by omega) (by omega) (by omega) (by omega))
     obtain ⟨W4, hW4⟩ : ∃ W4, (setKey (setKey w2 (w1.heap.size + 1) L h wd (.slice (some ⟨w1.heap.size, 0, none⟩) 16 16) (.slice sps seed.length cs)) (w1.heap.size + 1 + 1) L h wd (.slice (some ⟨w1.heap.size, 0, none⟩) 16 16) (.slice sps seed.length cs)) = W4 := ⟨_, rfl⟩
     unfold setKey at hW4 HT
     rw [hW4]
     rw [hW4] at HT
     clear hW4
     obtain ⟨B, hx⟩ : ∃ B, w1.heap.size + 1 + 1 = B := ⟨_, rfl⟩
     rw [hx] at HT ⊢
     clear hx
     obtain ⟨A, hx⟩ : ∃ A, w1.heap.size + 1 = A := ⟨_, rfl⟩
     rw [hx] at HT ⊢
     clear hx
     obtain ⟨bi, hx⟩ : ∃ bi, w1.heap.size = bi := ⟨_, rfl⟩
     rw [hx] at HT ⊢
     clear hx)
  | (have HT := hide (fam3 (L := L) (h := h) (wd := wd) (⟨unhide HI2, unhide HS1, (unhide HS1).below (unhide HW2), (unhide HB1).size, (unhide HB1).trans ((unhide HW2).mono (unhide HB1).size)⟩ : AfterKey wA w1 w2 (w1.heap.size + 1) (.slice sps seed.length cs) (List.replicate 16 0) seed) (unhide H5A) (unhide H5B) (by omega) (by omega) (by omega) (by omega) (by omega))
     obtain ⟨W4, hW4⟩ : ∃ W4, (setKey (setKey w2 (w1.heap.size + 1 + 1) L h wd (.slice (some ⟨w1.heap.size + 1, 0, none⟩) 16 16) (.slice sps seed.length cs)) (w1.heap.size) L h wd (.slice (some ⟨w1.heap.size + 1, 0, none⟩) 16 16) (.slice sps seed.length cs)) = W4 := ⟨_, rfl⟩
     unfold setKey at hW4 HT
     rw [hW4]
     rw [hW4] at HT
     clear hW4
     obtain ⟨A, hx⟩ : ∃ A, w1.heap.size + 1 + 1 = A := ⟨_, rfl⟩
     rw [hx] at HT ⊢
     clear hx
     obtain ⟨bi, hx⟩ : ∃ bi, w1.heap.size + 1 = bi := ⟨_, rfl⟩
     rw [hx] at HT ⊢
     clear hx
     obtain ⟨B, hx⟩ : ∃ B, w1.heap.size = B := ⟨_, rfl⟩
     rw [hx] at HT ⊢
     clear hx)
  | (have HT := hide (fam3 (L := L) (h := h) (wd := wd) (⟨unhide HI2, unhide HS1, (unhide HS1).below (unhide HW2), (unhide HB1).size, (unhide HB1).trans ((unhide HW2).mono (unhide HB1).size)⟩ : AfterKey wA w1 w2 (w1.heap.size) (.slice sps seed.length cs) (List.replicate 16 0) seed) (unhide H5A) (unhide H5B) (by omega) (by omega) (by omega) (by omega) (by omega))
     obtain ⟨W4, hW4⟩ : ∃ W4, (setKey (setKey w2 (w1.heap.size + 1 + 1) L h wd (.slice (some ⟨w1.heap.size, 0, none⟩) 16 16) (.slice sps seed.length cs)) (w1.heap.size + 1) L h wd (.slice (some ⟨w1.heap.size, 0, none⟩) 16 16) (.slice sps seed.length cs)) = W4 := ⟨_, rfl⟩
     unfold setKey at hW4 HT
     rw [hW4]
     rw [hW4] at HT
     clear hW4
     obtain ⟨A, hx⟩ : ∃ A, w1.heap.size + 1 + 1 = A := ⟨_, rfl⟩
     rw [hx] at HT ⊢
     clear hx
     obtain ⟨B, hx⟩ : ∃ B, w1.heap.size + 1 = B := ⟨_, rfl⟩
     rw [hx] at HT ⊢
     clear hx
     obtain ⟨bi, hx⟩ : ∃ bi, w1.heap.size = bi := ⟨_, rfl⟩
     rw [hx] at HT ⊢
     clear hx))
  all_goals
    have HT4 : Hid (TwoKeys wA W4 A B L h wd (.slice (some ⟨bi, 0, none⟩) 16 16) (.slice sps seed.length cs) (List.replicate 16 0) seed) := unhide HT
    (try clear xA0 xA1 xA2 xA3 xA4 fA0 fA1 fA2 fA3 fA4 ltA neA H5A HzA)
    (try clear xB0 xB1 xB2 xB3 xB4 fB0 fB1 fB2 fB3 fB4 ltB neB H5B HzB)
    clear HT HI2 HW2 lt0 n20 n21 s0 s1 s2 n10 n11 n12 hlt01 HS1 HB1 mk16 HZ16 c0 c1 c2
    obtain ⟨s0, s1, s2⟩ := unhide HSh W4 (unhide HT4).b
    have HRw : Hid (∀ w, Below wA.heap.size wA w → R w) := fun w hb => (unhide HC).below wA w (unhide HRA) hb
    have HFin : Hid (∀ w, Below wA.heap.size wA w → Below w0.heap.size w0 w) := fun w hb => (unhide HBA).trans (hb.mono (unhide HBA).size)
    have Hsm := hide (small_any W4 L h wd)
    unfold shapeV at Hsm
    go_wp2_with fail
    refine (unhide Hsm).mono ?_
    rintro e w5 ⟨b, rfl, hb⟩
    have HT5 := hide ((unhide HT4).call hb)
    clear hb Hsm HT4 s0 s1 s2
    cases b with
    | false =>
      go_wp2
      go_ret
      exact ⟨rfl, unhide HFin _ (unhide HT5).b⟩
    | true =>
      have j0 := (unhide HT5).kb.c 0 _ rfl
      have j1 := (unhide HT5).kb.c 1 _ rfl
      have j2 := (unhide HT5).kb.c 2 _ rfl
      have j3 := (unhide HT5).kb.c 3 _ rfl
      have j4 := (unhide HT5).kb.c 4 _ rfl
      have Hri := hide (right_any w5 L h wd _ _ (List.replicate 16 0) seed (unhide HT5).hi (unhide HT5).hs (by simp) ls)
      unfold keyV at Hri
      go_wp2_with fail
      refine (unhide Hri).mono ?_
      rintro e w6 ⟨hor, hb⟩
      have HT6 := hide ((unhide HT5).call hb)
      clear hb Hri HT5 j0 j1 j2 j3 j4
      rcases hor with ⟨hr, rfl⟩ | ⟨_, rfl⟩
      case inr =>
        go_wp2
        go_ret
        exact ⟨rfl, unhide HFin _ (unhide HT6).b⟩
      by_cases hn0 : n < 0
      · have d1 : decide (n < 0) = true := by simp; omega
        go_wp2
        go_ret
        exact ⟨rfl, unhide HFin _ (unhide HT6).b⟩
      have d1 : decide (n < 0) = false := by simp; omega
      by_cases hm0 : m < 0
      · have d2 : decide (m < 0) = true := by simp; omega
        go_wp2
        go_ret
        exact ⟨rfl, unhide HFin _ (unhide HT6).b⟩
      have d2 : decide (m < 0) = false := by simp; omega
      obtain ⟨n, rfl⟩ : ∃ k : Nat, n = (k : Int) := ⟨n.toNat, by omega⟩
      obtain ⟨m, rfl⟩ : ∃ k : Nat, m = (k : Int) := ⟨m.toNat, by omega⟩
      obtain ⟨hw, h1, h2, h3, h4, h5, h6⟩ := hr
      obtain ⟨L, rfl⟩ : ∃ k : Nat, L = (k : Int) := ⟨L.toNat, by omega⟩
      obtain ⟨h, rfl⟩ : ∃ k : Nat, h = (k : Int) := ⟨h.toNat, by omega⟩
      obtain ⟨wd, rfl⟩ : ∃ k : Nat, wd = (k : Int) := ⟨wd.toNat, by omega⟩
      have hr : RightP (L : Int) (h : Int) (wd : Int) (List.replicate 16 0) seed := ⟨hw, h1, h2, h3, h4, h5, h6⟩
      have Hr := hide hr
      have Hco := hide (fun w (t : TwoKeys wA w A B (L : Int) (h : Int) (wd : Int) (.slice (some ⟨bi, 0, none⟩) 16 16) (.slice sps seed.length cs) (List.replicate 16 0) seed) => count_any w L h wd _ _ (List.replicate 16 0) seed t.hi t.hs hr)
      unfold keyV at Hco
      obtain ⟨N, hN⟩ : ∃ N, 2 ^ (h * L) = N := ⟨_, rfl⟩
      simp only [hN] at Hco
      have HN := hide hN
      have j0 := (unhide HT6).kb.c 0 _ rfl
      have j1 := (unhide HT6).kb.c 1 _ rfl
      have j2 := (unhide HT6).kb.c 2 _ rfl
      have j3 := (unhide HT6).kb.c 3 _ rfl
      have j4 := (unhide HT6).kb.c 4 _ rfl
      clear hw hr hN hn0 hm0 h5 h6
      go_wp2_with fail
      refine (unhide Hco w6 (unhide HT6)).mono ?_
      rintro e w7 ⟨rfl, hb⟩
      have HT7 := hide ((unhide HT6).call hb)
      clear hb HT6 j0 j1 j2 j3 j4
      by_cases hnN : N ≤ n
      · have d3 : decide ((N : Int) ≤ (n : Int)) = true := by simp; omega
        have d3' : decide (N ≤ n) = true := by simp; omega
        go_wp2
        go_ret
        exact ⟨rfl, unhide HFin _ (unhide HT7).b⟩
      have d3 : decide ((N : Int) ≤ (n : Int)) = false := by simp; omega
      have d3' : decide (N ≤ n) = false := by simp; omega
      have j0 := (unhide HT7).kb.c 0 _ rfl
      have j1 := (unhide HT7).kb.c 1 _ rfl
      have j2 := (unhide HT7).kb.c 2 _ rfl
      have j3 := (unhide HT7).kb.c 3 _ rfl
      have j4 := (unhide HT7).kb.c 4 _ rfl
      go_wp2_with fail
      refine (unhide Hco w7 (unhide HT7)).mono ?_
      rintro e w8 ⟨rfl, hb⟩
      have HT8 := hide ((unhide HT7).call hb)
      clear hb HT7 j0 j1 j2 j3 j4 Hco
      by_cases hmN : N ≤ m
      · have d4 : decide ((N : Int) ≤ (m : Int)) = true := by simp; omega
        have d4' : decide (N ≤ m) = true := by simp; omega
        go_wp2
        go_ret
        exact ⟨rfl, unhide HFin _ (unhide HT8).b⟩
      have d4 : decide ((N : Int) ≤ (m : Int)) = false := by simp; omega
      have d4' : decide (N ≤ m) = false := by simp; omega
      have cvt := conv_const
      have Hn : Hid (n < 2 ^ (h * L)) := by show _ < _; have := unhide HN; omega
      have Hm : Hid (m < 2 ^ (h * L)) := by show _ < _; have := unhide HN; omega
      have HVa : Hid (∀ w : World, BytesAt (w.alloc (.cells #[.int .u8 97] 5 (1, 2))) (.slice (some ⟨w.heap.size, 0, none⟩) 1 1) [97]) := fun w => bytes_marked w 97
      have HVb : Hid (∀ w : World, BytesAt (w.alloc (.cells #[.int .u8 98] 5 (1, 2))) (.slice (some ⟨w.heap.size, 0, none⟩) 1 1) [98]) := fun w => bytes_marked w 98
      have Hsig := hide (fun w (t : TwoKeys wA w A B (L : Int) (h : Int) (wd : Int) (.slice (some ⟨bi, 0, none⟩) 16 16) (.slice sps seed.length cs) (List.replicate 16 0) seed) (k : Nat) (hk : k < 2 ^ (h * L)) (x : Value) (c : UInt8) (hx : BytesAt w x [c]) => (unhide HC).sign w L h wd k _ _ x (List.replicate 16 0) seed [c] (unhide HRw w t.b) t.hi t.hs hx (by simp) (unhide Hr) hk)
      have Hlvs := hide (fun w (x : Value) (k : Nat) (c : UInt8) (hR : R w) hx => (unhide HC).leaves w L h wd k x (List.replicate 16 0) seed [c] hR (unhide Hr) hx)
      unfold keyV at Hsig
      have k0 := ((unhide HT8).call ((Below.refl _ _).alloc (Nat.le_refl _) (.cells #[.int .u8 97] 5 (1, 2)))).ka.c 0 _ rfl
      have k1 := ((unhide HT8).call ((Below.refl _ _).alloc (Nat.le_refl _) (.cells #[.int .u8 97] 5 (1, 2)))).ka.c 1 _ rfl
      have k2 := ((unhide HT8).call ((Below.refl _ _).alloc (Nat.le_refl _) (.cells #[.int .u8 97] 5 (1, 2)))).ka.c 2 _ rfl
      have k3 := ((unhide HT8).call ((Below.refl _ _).alloc (Nat.le_refl _) (.cells #[.int .u8 97] 5 (1, 2)))).ka.c 3 _ rfl
      have k4 := ((unhide HT8).call ((Below.refl _ _).alloc (Nat.le_refl _) (.cells #[.int .u8 97] 5 (1, 2)))).ka.c 4 _ rfl
      have j0 := (unhide HT8).ka.c 0 _ rfl
      have j1 := (unhide HT8).ka.c 1 _ rfl
      have j2 := (unhide HT8).ka.c 2 _ rfl
      have j3 := (unhide HT8).ka.c 3 _ rfl
      have j4 := (unhide HT8).ka.c 4 _ rfl
      go_wp2_with fail
      refine (unhide Hsig _ ((unhide HT8).call ((Below.refl _ _).alloc (Nat.le_refl _) (.cells #[.int .u8 97] 5 (1, 2)))) n (unhide Hn) _ 97 (unhide HVa w8)).mono ?_
      rintro e w9 ⟨v9, rfl, hR⟩
      have HV9 := hide hR.bytes
      have HT9 := hide (((unhide HT8).call ((Below.refl _ _).alloc (Nat.le_refl _) (.cells #[.int .u8 97] 5 (1, 2)))).call hR.b)
      clear hR HT8 k0 k1 k2 k3 k4 j0 j1 j2 j3 j4
      have k0 := ((unhide HT9).call ((Below.refl _ _).alloc (Nat.le_refl _) (.cells #[.int .u8 98] 5 (1, 2)))).ka.c 0 _ rfl
      have k1 := ((unhide HT9).call ((Below.refl _ _).alloc (Nat.le_refl _) (.cells #[.int .u8 98] 5 (1, 2)))).ka.c 1 _ rfl
      have k2 := ((unhide HT9).call ((Below.refl _ _).alloc (Nat.le_refl _) (.cells #[.int .u8 98] 5 (1, 2)))).ka.c 2 _ rfl
      have k3 := ((unhide HT9).call ((Below.refl _ _).alloc (Nat.le_refl _) (.cells #[.int .u8 98] 5 (1, 2)))).ka.c 3 _ rfl
      have k4 := ((unhide HT9).call ((Below.refl _ _).alloc (Nat.le_refl _) (.cells #[.int .u8 98] 5 (1, 2)))).ka.c 4 _ rfl
      have j0 := (unhide HT9).ka.c 0 _ rfl
      have j1 := (unhide HT9).ka.c 1 _ rfl
      have j2 := (unhide HT9).ka.c 2 _ rfl
      have j3 := (unhide HT9).ka.c 3 _ rfl
      have j4 := (unhide HT9).ka.c 4 _ rfl
      go_wp2_with fail
      refine (unhide Hsig _ ((unhide HT9).call ((Below.refl _ _).alloc (Nat.le_refl _) (.cells #[.int .u8 98] 5 (1, 2)))) m (unhide Hm) _ 98 (unhide HVb w9)).mono ?_
      rintro e w10 ⟨v10, rfl, hR⟩
      have HV10 := hide hR.bytes
      have hb9 : Below w9.heap.size w9 w10 := ((Below.refl _ _).alloc (Nat.le_refl _) (.cells #[.int .u8 98] 5 (1, 2))).trans (hR.b.mono (Nat.le_of_lt (by simp)))
      have HV90 := hide ((unhide HV9).below hb9)
      have HT10 := hide ((unhide HT9).call hb9)
      clear hR HT9 k0 k1 k2 k3 k4 j0 j1 j2 j3 j4 hb9 HV9 Hsig
      go_wp2_with fail
      refine (unhide Hlvs w10 v9 n 97 (unhide HRw w10 (unhide HT10).b) (unhide HV90)).mono ?_
      rintro e w11 ⟨v11, rfl, hO, hb⟩
      have HT11 := hide ((unhide HT10).call hb)
      have HV101 := hide ((unhide HV10).below hb)
      have HO11 : Hid (OwnV 3 w11 w10.heap.size v11 (lvals h n (L - 1))) := hO
      clear hO hb HT10 HV10 HV90
      obtain ⟨lb, lc, hv, _, _, _⟩ := OwnV.cellAt (unhide HO11) (by intro e0; have := congrArg List.length e0; rw [len_lvals] at this; simp at this)
      rw [len_lvals] at hv
      subst hv
      go_wp2_with fail
      refine (unhide Hlvs w11 v10 m 98 (unhide HRw w11 (unhide HT11).b) (unhide HV101)).mono ?_
      rintro e w12 ⟨v12, rfl, hO, hb⟩
      have HT12 := hide ((unhide HT11).call hb)
      have HO12 : Hid (OwnV 3 w12 w11.heap.size v12 (lvals h m (L - 1))) := hO
      have HO112 := hide ((unhide HO11).below hb)
      clear hO hb HT11 HV101 HO11
      obtain ⟨lb2, lc2, hv, _, _, hcell2⟩ := OwnV.cellAt (unhide HO12) (by intro e0; have := congrArg List.length e0; rw [len_lvals] at this; simp at this)
      rw [len_lvals] at hv
      subst hv
      obtain ⟨lbx, lcx, hv, _, _, hcell1⟩ := OwnV.cellAt (unhide HO112) (by intro e0; have := congrArg List.length e0; rw [len_lvals] at this; simp at this)
      simp only [Value.slice.injEq, Option.some.injEq, Addr.mk.injEq] at hv
      obtain ⟨⟨rfl, _, _⟩, _, _⟩ := hv
      have Hcell1 : Hid (∀ j, j < L → w12.cell? ⟨lb, j, none⟩ = some (.int .i64 (leafAt h n (L - 1 - j) : Int))) := fun j hj => by
        rw [hcell1 j (by rw [len_lvals]; omega), lvals_get h n (L - 1) j (by omega)]
      have Hcell2 : Hid (∀ j, j < L → w12.cell? ⟨lb2, j, none⟩ = some (.int .i64 (leafAt h m (L - 1 - j) : Int))) := fun j hj => by
        rw [hcell2 j (by rw [len_lvals]; omega), lvals_get h m (L - 1) j (by omega)]
      clear hcell1 hcell2 HO12 HO112 Hlvs
      have lb3 : (L : Int) ≤ 3 := by omega
      have eL : ((L : Int) == (L : Int)) = true := by simp
      have eL2 : ((L : Int) != (L : Int)) = false := by simp
      rw [show L - 1 + 1 = L by omega]
      have Hb0 : Hid (true = decide (n / 2 ^ (h * (L - 0)) = m / 2 ^ (h * (L - 0)))) := by show _ = _; rw [Nat.sub_zero, Nat.div_eq_of_lt (unhide Hn), Nat.div_eq_of_lt (unhide Hm)]; rfl
      have HF12 := hide (unhide HFin _ (unhide HT12).b)
      clear cvt HVa HVb
      go_wp2
      go_loopw [19, 108] (fun ss jj wr => ∃ (b : Bool) (j : Nat), j ≤ L ∧ ss = .bool b ∧ jj = .int .i64 (j : Int) ∧ wr = w12 ∧ Hid (b = decide (n / 2 ^ (h * (L - j)) = m / 2 ^ (h * (L - j))))) (fun _ jj _ => L - (intOf jj).toNat)
      case atStart => exact ⟨true, 0, by omega, rfl, rfl, rfl, Hb0⟩
      case round =>
        obtain ⟨b, j, hj, rfl, rfl, rfl, Hb⟩ := hrel
        have jb : (j : Int) ≤ 3 := by omega
        by_cases hlt : j < L
        · have cj := unhide Hcell1 j hlt
          have ck := unhide Hcell2 j hlt
          have hst := pre_step h n m (L - 1 - j)
          rw [show L - 1 - j + 1 = L - j by omega, ← unhide Hb, show L - 1 - j = L - (j + 1) by omega] at hst
          rw [show L - 1 - j = L - (j + 1) by omega] at cj ck
          obtain ⟨p, hp⟩ : ∃ p, leafAt h n (L - (j + 1)) = p := ⟨_, rfl⟩
          obtain ⟨q, hq⟩ : ∃ q, leafAt h m (L - (j + 1)) = q := ⟨_, rfl⟩
          rw [hp] at cj hst
          rw [hq] at ck hst
          have d1 : decide ((j : Int) < (L : Int)) = true := by simp; omega
          have d1' : decide (j < L) = true := by simp; omega
          have j0 : (0 : Int) ≤ (j : Int) := by omega
          have j1 : (j : Int) < (L : Int) := by omega
          clear hp hq Hb
          cases b with
          | false =>
            have Hb2 : Hid (false = decide (n / 2 ^ (h * (L - (j + 1))) = m / 2 ^ (h * (L - (j + 1))))) := by show _ = _; rw [hst]; rfl
            clear hst
            go_wp2
            go_roundw
            case rel =>
              first
                | exact ⟨false, j + 1, by omega, rfl, by go_num, trivial, Hb2⟩
                | exact ⟨false, j + 1, by omega, rfl, by go_num, rfl, Hb2⟩
                | ((repeat apply Exists.intro); exact ⟨⟨false, j + 1, by omega, rfl, by go_num, trivial, Hb2⟩, rfl⟩)
                | ((repeat apply Exists.intro); exact ⟨⟨false, j + 1, by omega, rfl, by go_num, rfl, Hb2⟩, rfl⟩)
            case measure => simp [intOf]; omega
          | true =>
            rw [Bool.true_and] at hst
            by_cases hpq : p = q
            · have Hb2 : Hid (true = decide (n / 2 ^ (h * (L - (j + 1))) = m / 2 ^ (h * (L - (j + 1))))) := by show _ = _; rw [hst]; exact (decide_eq_true hpq).symm
              have e1 : ((p : Int) == (q : Int)) = true := by simp [hpq]
              clear hst hpq
              go_wp2
              go_roundw
              case rel =>
                first
                  | exact ⟨true, j + 1, by omega, rfl, by go_num, trivial, Hb2⟩
                  | exact ⟨true, j + 1, by omega, rfl, by go_num, rfl, Hb2⟩
                  | ((repeat apply Exists.intro); exact ⟨⟨true, j + 1, by omega, rfl, by go_num, trivial, Hb2⟩, rfl⟩)
                  | ((repeat apply Exists.intro); exact ⟨⟨true, j + 1, by omega, rfl, by go_num, rfl, Hb2⟩, rfl⟩)
              case measure => simp [intOf]; omega
            · have Hb2 : Hid (false = decide (n / 2 ^ (h * (L - (j + 1))) = m / 2 ^ (h * (L - (j + 1))))) := by show _ = _; rw [hst]; exact (decide_eq_false hpq).symm
              have e1 : ((p : Int) == (q : Int)) = false := by simp; omega
              clear hst hpq
              go_wp2
              go_roundw
              case rel =>
                first
                  | exact ⟨false, j + 1, by omega, rfl, by go_num, trivial, Hb2⟩
                  | exact ⟨false, j + 1, by omega, rfl, by go_num, rfl, Hb2⟩
                  | ((repeat apply Exists.intro); exact ⟨⟨false, j + 1, by omega, rfl, by go_num, trivial, Hb2⟩, rfl⟩)
                  | ((repeat apply Exists.intro); exact ⟨⟨false, j + 1, by omega, rfl, by go_num, rfl, Hb2⟩, rfl⟩)
              case measure => simp [intOf]; omega
        · obtain rfl : j = L := by omega
          have dz : decide ((j : Int) < (j : Int)) = false := by simp
          have hbe : b = decide (n = m) := by rw [unhide Hb, Nat.sub_self, Nat.mul_zero]; simp
          clear Hb
          by_cases hnm : n = m
          · subst hnm
            rw [decide_eq_true rfl] at hbe
            subst hbe
            have en : ((n : Int) == (n : Int)) = true := by simp
            go_wp2
            go_ret
            exact ⟨rfl, unhide HF12⟩
          · rw [decide_eq_false hnm] at hbe
            subst hbe
            have en : ((n : Int) == (m : Int)) = false := by simp; omega
            go_wp2
            go_ret
            exact ⟨rfl, unhide HF12⟩
end Go.Proofs.YtlhjifdahagkaaaDoor
