/-
  The walk of the anchor.
-/
import Derived.Test.YtlhjifdahagkaaaDoorM04
namespace Go.Proofs.YtlhjifdahagkaaaDoor
open Go.RowKit
theorem make_run (w : World) (n : Nat) (hn : n ≤ 1073741824) : (Instr.makeSlice 24 (.int .i64 (n : Int)) (.int .i64 (n : Int))).run Tryd.prog w = .ok (.slice (some ⟨w.heap.size, 0, none⟩) n n) (w.alloc (.cells (List.replicate n (.int .u8 0)).toArray 5)) := by
  obtain ⟨hu, ⟨i, hi, h0, hsz, hby⟩, _, _⟩ := Eb
  have hbn : (i.bytes : Int) * (n : Int) ≤ 281474976710656 := by
    rw [hby]
    omega
  have h := run_make (P := Tryd.prog) w 24 5 i (.int .u8 0) hu hi h0 .i64 .i64 n n (by omega) (by omega) hbn (by omega)
  rw [h, hsz]
  have e1 : madeCells (Value.int .u8 0).cells (((n : Int)).toNat * 1) = (List.replicate n (.int .u8 0)).toArray := by
    rw [Int.toNat_natCast, Nat.mul_one]
    apply Array.ext
    · simp [madeCells]
    · intro j h1 h2
      simp [madeCells, Nat.mod_one, Value.cells]
  rw [e1, Int.toNat_natCast]
theorem three_alloc (w0 : World) (A B C : Obj) : (((w0.alloc A).alloc B).alloc C).drew.heap[w0.heap.size]? = some A ∧ (((w0.alloc A).alloc B).alloc C).drew.heap[w0.heap.size + 1]? = some B ∧ (((w0.alloc A).alloc B).alloc C).drew.heap[w0.heap.size + 1 + 1]? = some C ∧ Below w0.heap.size w0 (((w0.alloc A).alloc B).alloc C).drew := by
  refine ⟨?_, ?_, ?_, (((Below.refl _ _).alloc (Nat.le_refl _) _).alloc (by simp) _).alloc (by simp; omega) _ |>.drew⟩
  · show (((w0.alloc A).alloc B).alloc C).heap[w0.heap.size]? = some A
    rw [((Below.refl _ _).alloc (Nat.le_refl _) C).block w0.heap.size (by simp; omega), ((Below.refl _ _).alloc (Nat.le_refl _) B).block w0.heap.size (by simp)]
    exact heap_alloc_new w0 A
  · show (((w0.alloc A).alloc B).alloc C).heap[w0.heap.size + 1]? = some B
    have e : w0.heap.size + 1 = (w0.alloc A).heap.size := by simp
    rw [((Below.refl _ _).alloc (Nat.le_refl _) C).block (w0.heap.size + 1) (by simp), e]
    exact heap_alloc_new (w0.alloc A) B
  · show (((w0.alloc A).alloc B).alloc C).heap[w0.heap.size + 1 + 1]? = some C
    have e : w0.heap.size + 1 + 1 = ((w0.alloc A).alloc B).heap.size := by simp
    rw [e]
    exact heap_alloc_new ((w0.alloc A).alloc B) C
theorem bytes_row {W : World} {b n : Nat} (h : W.heap[b]? = some (.cells (List.replicate n (.int .u8 0)).toArray 5)) : BytesAt W (.slice (some ⟨b, 0, none⟩) n n) (List.replicate n 0) := by
  have e : (List.replicate n (0 : UInt8)).map bv = List.replicate n (.int .u8 0) := by rw [List.map_replicate]; rfl
  unfold BytesAt
  rw [e]
  refine ⟨_, _, by rw [List.length_replicate], by rw [List.length_replicate]; exact Nat.le_refl _, fun h => (by cases h), fun _ => ⟨b, 0, rfl, fun j v hv => ?_⟩⟩
  rw [cell_of_row _ _ _ _ 5 (0, 0) h, Nat.zero_add, List.getElem?_toArray]
  exact hv
/-- The anchor's key in its block, and its parts. -/
structure AncAt (w0 W : World) (K bi bs : Nat) : Prop where
  key : KeyAt W K 1 1 2 (.slice (some ⟨bi, 0, none⟩) 16 16) (.slice (some ⟨bs, 0, none⟩) 32 32)
  hi : BytesAt W (.slice (some ⟨bi, 0, none⟩) 16 16) (List.replicate 16 0)
  hs : BytesAt W (.slice (some ⟨bs, 0, none⟩) 32 32) (List.replicate 32 0)
  b : Below w0.heap.size w0 W
theorem AncAt.call {w0 W W' : World} {K bi bs : Nat} (h : AncAt w0 W K bi bs) (hb : Below W.heap.size W W') : AncAt w0 W' K bi bs := ⟨h.key.below hb, h.hi.below hb, h.hs.below hb, h.b.trans (hb.mono h.b.size)⟩
theorem anc_of {w0 W : World} {K bi bs : Nat} (hK : W.heap[K]? = some (.cells #[.int .i64 1, .int .i64 1, .int .i64 2, .slice (some ⟨bi, 0, none⟩) 16 16, .slice (some ⟨bs, 0, none⟩) 32 32] 28)) (hi : W.heap[bi]? = some (.cells (List.replicate 16 (.int .u8 0)).toArray 5)) (hs : W.heap[bs]? = some (.cells (List.replicate 32 (.int .u8 0)).toArray 5)) (hb : Below w0.heap.size w0 W) : AncAt w0 W K bi bs := by
  refine ⟨⟨(Array.getElem?_eq_some_iff.1 hK).1, fun j v hv => ?_⟩, bytes_row hi, bytes_row hs, hb⟩
  rw [cell_of_row _ _ _ _ 28 (0, 0) hK, Nat.zero_add]
  simpa [keyC] using hv
set_option maxRecDepth 100000 in
set_option maxHeartbeats 4000000 in
theorem anchor_any {R : World → Prop} {H : Bs → Bs} (C : Lms R H) (w0 : World) (hR : R w0) :
    Calls Tryd.prog 9 #[] w0 fun e w' => e = .returned (.bool true) ∧ Below w0.heap.size w0 w' := by
  have HC := hide C
  have HR0 := hide hR
  clear C hR
  obtain ⟨Z16, hZ16⟩ : ∃ Z16, Obj.cells (List.replicate 16 (Value.int .u8 0)).toArray 5 = Z16 := ⟨_, rfl⟩
  obtain ⟨Z32, hZ32⟩ : ∃ Z32, Obj.cells (List.replicate 32 (Value.int .u8 0)).toArray 5 = Z32 := ⟨_, rfl⟩
  have mk16 : ∀ w, (Instr.makeSlice 24 (.int .i64 16) (.int .i64 16)).run Tryd.prog w = .ok (.slice (some ⟨w.heap.size, 0, none⟩) 16 16) (w.alloc Z16) := fun w => by rw [← hZ16]; exact make_run w 16 (by omega)
  have mk32 : ∀ w, (Instr.makeSlice 24 (.int .i64 32) (.int .i64 32)).run Tryd.prog w = .ok (.slice (some ⟨w.heap.size, 0, none⟩) 32 32) (w.alloc Z32) := fun w => by rw [← hZ32]; exact make_run w 32 (by omega)
  have HZ16 := hide hZ16
  have HZ32 := hide hZ32
  clear hZ16 hZ32
  go_enter Tryd.func9, Tryd.ntmps9
  go_wp2
  go_region
  all_goals (first
  | (have h3 := three_alloc w0 Z16 Z32 (.cells #[.int .i64 1, .int .i64 1, .int .i64 2, .slice (some ⟨w0.heap.size, 0, none⟩) 16 16, .slice (some ⟨w0.heap.size + 1, 0, none⟩) 32 32] 28)
     obtain ⟨WF, hWF⟩ : ∃ WF, (((w0.alloc Z16).alloc Z32).alloc (.cells #[.int .i64 1, .int .i64 1, .int .i64 2, .slice (some ⟨w0.heap.size, 0, none⟩) 16 16, .slice (some ⟨w0.heap.size + 1, 0, none⟩) 32 32] 28)).drew = WF := ⟨_, rfl⟩
     rw [hWF]
     rw [hWF] at h3
     have HA0 := hide (anc_of (K := w0.heap.size + 1 + 1) (bi := w0.heap.size) (bs := w0.heap.size + 1) h3.2.2.1 (by rw [h3.1, ← unhide HZ16]) (by rw [h3.2.1, ← unhide HZ32]) h3.2.2.2)
     clear h3 hWF
     obtain ⟨K, hx⟩ : ∃ K, w0.heap.size + 1 + 1 = K := ⟨_, rfl⟩
     rw [hx] at HA0 ⊢
     clear hx
     obtain ⟨bs, hx⟩ : ∃ bs, w0.heap.size + 1 = bs := ⟨_, rfl⟩
     rw [hx] at HA0 ⊢
     clear hx
     obtain ⟨bi, hx⟩ : ∃ bi, w0.heap.size = bi := ⟨_, rfl⟩
     rw [hx] at HA0 ⊢
     clear hx)
  | (have h3 := three_alloc w0 Z16 (.cells #[.int .i64 1, .int .i64 1, .int .i64 2, .slice (some ⟨w0.heap.size, 0, none⟩) 16 16, .slice (some ⟨w0.heap.size + 1 + 1, 0, none⟩) 32 32] 28) Z32
     obtain ⟨WF, hWF⟩ : ∃ WF, (((w0.alloc Z16).alloc (.cells #[.int .i64 1, .int .i64 1, .int .i64 2, .slice (some ⟨w0.heap.size, 0, none⟩) 16 16, .slice (some ⟨w0.heap.size + 1 + 1, 0, none⟩) 32 32] 28)).alloc Z32).drew = WF := ⟨_, rfl⟩
     rw [hWF]
     rw [hWF] at h3
     have HA0 := hide (anc_of (K := w0.heap.size + 1) (bi := w0.heap.size) (bs := w0.heap.size + 1 + 1) h3.2.1 (by rw [h3.1, ← unhide HZ16]) (by rw [h3.2.2.1, ← unhide HZ32]) h3.2.2.2)
     clear h3 hWF
     obtain ⟨bs, hx⟩ : ∃ bs, w0.heap.size + 1 + 1 = bs := ⟨_, rfl⟩
     rw [hx] at HA0 ⊢
     clear hx
     obtain ⟨K, hx⟩ : ∃ K, w0.heap.size + 1 = K := ⟨_, rfl⟩
     rw [hx] at HA0 ⊢
     clear hx
     obtain ⟨bi, hx⟩ : ∃ bi, w0.heap.size = bi := ⟨_, rfl⟩
     rw [hx] at HA0 ⊢
     clear hx)
  | (have h3 := three_alloc w0 Z32 Z16 (.cells #[.int .i64 1, .int .i64 1, .int .i64 2, .slice (some ⟨w0.heap.size + 1, 0, none⟩) 16 16, .slice (some ⟨w0.heap.size, 0, none⟩) 32 32] 28)
     obtain ⟨WF, hWF⟩ : ∃ WF, (((w0.alloc Z32).alloc Z16).alloc (.cells #[.int .i64 1, .int .i64 1, .int .i64 2, .slice (some ⟨w0.heap.size + 1, 0, none⟩) 16 16, .slice (some ⟨w0.heap.size, 0, none⟩) 32 32] 28)).drew = WF := ⟨_, rfl⟩
     rw [hWF]
     rw [hWF] at h3
     have HA0 := hide (anc_of (K := w0.heap.size + 1 + 1) (bi := w0.heap.size + 1) (bs := w0.heap.size) h3.2.2.1 (by rw [h3.2.1, ← unhide HZ16]) (by rw [h3.1, ← unhide HZ32]) h3.2.2.2)
     clear h3 hWF
     obtain ⟨K, hx⟩ : ∃ K, w0.heap.size + 1 + 1 = K := ⟨_, rfl⟩
     rw [hx] at HA0 ⊢
     clear hx
     obtain ⟨bi, hx⟩ : ∃ bi, w0.heap.size + 1 = bi := ⟨_, rfl⟩
     rw [hx] at HA0 ⊢
     clear hx
     obtain ⟨bs, hx⟩ : ∃ bs, w0.heap.size = bs := ⟨_, rfl⟩
     rw [hx] at HA0 ⊢
     clear hx)
  | (have h3 := three_alloc w0 Z32 (.cells #[.int .i64 1, .int .i64 1, .int .i64 2, .slice (some ⟨w0.heap.size + 1 + 1, 0, none⟩) 16 16, .slice (some ⟨w0.heap.size, 0, none⟩) 32 32] 28) Z16
     obtain ⟨WF, hWF⟩ : ∃ WF, (((w0.alloc Z32).alloc (.cells #[.int .i64 1, .int .i64 1, .int .i64 2, .slice (some ⟨w0.heap.size + 1 + 1, 0, none⟩) 16 16, .slice (some ⟨w0.heap.size, 0, none⟩) 32 32] 28)).alloc Z16).drew = WF := ⟨_, rfl⟩
     rw [hWF]
     rw [hWF] at h3
     have HA0 := hide (anc_of (K := w0.heap.size + 1) (bi := w0.heap.size + 1 + 1) (bs := w0.heap.size) h3.2.1 (by rw [h3.2.2.1, ← unhide HZ16]) (by rw [h3.1, ← unhide HZ32]) h3.2.2.2)
     clear h3 hWF
     obtain ⟨bi, hx⟩ : ∃ bi, w0.heap.size + 1 + 1 = bi := ⟨_, rfl⟩
     rw [hx] at HA0 ⊢
     clear hx
     obtain ⟨K, hx⟩ : ∃ K, w0.heap.size + 1 = K := ⟨_, rfl⟩
     rw [hx] at HA0 ⊢
     clear hx
     obtain ⟨bs, hx⟩ : ∃ bs, w0.heap.size = bs := ⟨_, rfl⟩
     rw [hx] at HA0 ⊢
     clear hx)
  | (have h3 := three_alloc w0 (.cells #[.int .i64 1, .int .i64 1, .int .i64 2, .slice (some ⟨w0.heap.size + 1, 0, none⟩) 16 16, .slice (some ⟨w0.heap.size + 1 + 1, 0, none⟩) 32 32] 28) Z16 Z32
     obtain ⟨WF, hWF⟩ : ∃ WF, (((w0.alloc (.cells #[.int .i64 1, .int .i64 1, .int .i64 2, .slice (some ⟨w0.heap.size + 1, 0, none⟩) 16 16, .slice (some ⟨w0.heap.size + 1 + 1, 0, none⟩) 32 32] 28)).alloc Z16).alloc Z32).drew = WF := ⟨_, rfl⟩
     rw [hWF]
     rw [hWF] at h3
     have HA0 := hide (anc_of (K := w0.heap.size) (bi := w0.heap.size + 1) (bs := w0.heap.size + 1 + 1) h3.1 (by rw [h3.2.1, ← unhide HZ16]) (by rw [h3.2.2.1, ← unhide HZ32]) h3.2.2.2)
     clear h3 hWF
     obtain ⟨bs, hx⟩ : ∃ bs, w0.heap.size + 1 + 1 = bs := ⟨_, rfl⟩
     rw [hx] at HA0 ⊢
     clear hx
     obtain ⟨bi, hx⟩ : ∃ bi, w0.heap.size + 1 = bi := ⟨_, rfl⟩
     rw [hx] at HA0 ⊢
     clear hx
     obtain ⟨K, hx⟩ : ∃ K, w0.heap.size = K := ⟨_, rfl⟩
     rw [hx] at HA0 ⊢
     clear hx)
  | (have h3 := three_alloc w0 (.cells #[.int .i64 1, .int .i64 1, .int .i64 2, .slice (some ⟨w0.heap.size + 1 + 1, 0, none⟩) 16 16, .slice (some ⟨w0.heap.size + 1, 0, none⟩) 32 32] 28) Z32 Z16
     obtain ⟨WF, hWF⟩ : ∃ WF, (((w0.alloc (.cells #[.int .i64 1, .int .i64 1, .int .i64 2, .slice (some ⟨w0.heap.size + 1 + 1, 0, none⟩) 16 16, .slice (some ⟨w0.heap.size + 1, 0, none⟩) 32 32] 28)).alloc Z32).alloc Z16).drew = WF := ⟨_, rfl⟩
     rw [hWF]
     rw [hWF] at h3
     have HA0 := hide (anc_of (K := w0.heap.size) (bi := w0.heap.size + 1 + 1) (bs := w0.heap.size + 1) h3.1 (by rw [h3.2.2.1, ← unhide HZ16]) (by rw [h3.2.1, ← unhide HZ32]) h3.2.2.2)
     clear h3 hWF
     obtain ⟨bi, hx⟩ : ∃ bi, w0.heap.size + 1 + 1 = bi := ⟨_, rfl⟩
     rw [hx] at HA0 ⊢
     clear hx
     obtain ⟨bs, hx⟩ : ∃ bs, w0.heap.size + 1 = bs := ⟨_, rfl⟩
     rw [hx] at HA0 ⊢
     clear hx
     obtain ⟨K, hx⟩ : ∃ K, w0.heap.size = K := ⟨_, rfl⟩
     rw [hx] at HA0 ⊢
     clear hx))
  all_goals
    have HA1 : Hid (AncAt w0 WF K bi bs) := unhide HA0
    clear HA0
    have HR := hide ((unhide HC).below w0 WF (unhide HR0) (unhide HA1).b)
    have hP := (unhide HC).public_ WF 1 1 2 _ _ _ _ (unhide HR) (unhide HA1).hi (unhide HA1).hs right112
    have hS := fun (w : World) (hb : Below WF.heap.size WF w) => (unhide HC).sign w 1 1 2 1 _ _ (.slice none 0 0) _ _ [] ((unhide HC).below WF w (unhide HR) hb) ((unhide HA1).hi.below hb) ((unhide HA1).hs.below hb) (bytes_nil w) (by simp) right112 (by decide)
    have hN := fun (w : World) (hb : Below WF.heap.size WF w) => (unhide HC).count w 1 1 2 _ _ _ _ ((unhide HC).below WF w (unhide HR) hb) ((unhide HA1).hi.below hb) ((unhide HA1).hs.below hb) right112
    have hO := opens H (unhide HC).hash.len 1 1 2 1 (by omega) (by omega) (by omega) (by omega) (Or.inr (Or.inl rfl)) (id := List.replicate 16 0) (seed := List.replicate 32 0) (by simp) []
    have hlp := len_public H (unhide HC).hash.len 1 1 2 (id := List.replicate 16 0) (seed := List.replicate 32 0) (by simp)
    have hls : (signOf H 1 1 2 (List.replicate 16 0) (List.replicate 32 0) 1 []).length = 4336 := by unfold signOf; rw [List.length_append, len_big]; show 4 + (oneSig H _ _ 1 2 _ _).length = _; rw [len_one H (unhide HC).hash.len]; rfl
    obtain ⟨P, hPe⟩ : ∃ P, publicOf H 1 1 2 (List.replicate 16 0) (List.replicate 32 0) = P := ⟨_, rfl⟩
    obtain ⟨S, hSe⟩ : ∃ S, signOf H 1 1 2 (List.replicate 16 0) (List.replicate 32 0) 1 [] = S := ⟨_, rfl⟩
    rw [hPe] at hP hO hlp
    rw [hSe] at hO hls
    simp only [Int.cast_ofNat_Int, hSe] at hP hS hN
    have HP := hide hP
    have HS := hide hS
    have HN := hide hN
    have HO := hide hO
    have HlP := hide hlp
    have HlS := hide hls
    have k0 := (unhide HA1).key.c 0 _ rfl
    have k1 := (unhide HA1).key.c 1 _ rfl
    have k2 := (unhide HA1).key.c 2 _ rfl
    have k3 := (unhide HA1).key.c 3 _ rfl
    have k4 := (unhide HA1).key.c 4 _ rfl
    clear hP hS hN hO hPe hSe hlp hls mk16 mk32 HZ16 HZ32
    go_wp2_with fail
    refine (unhide HP).mono ?_
    rintro e w1 ⟨v1, rfl, hR⟩
    obtain ⟨sp1, c1, rfl⟩ := hR.own.form
    have HV1 := hide hR.bytes
    have HB1 := hide hR.b
    have HK1 := hide ((unhide HA1).key.below hR.b)
    rw [unhide HlP] at HV1
    rw [unhide HlP]
    have m0 := (unhide HK1).c 0 _ rfl
    have m1 := (unhide HK1).c 1 _ rfl
    have m2 := (unhide HK1).c 2 _ rfl
    have m3 := (unhide HK1).c 3 _ rfl
    have m4 := (unhide HK1).c 4 _ rfl
    clear hR k0 k1 k2 k3 k4
    go_wp2_with fail
    refine (unhide HS w1 (unhide HB1)).mono ?_
    rintro e w2 ⟨v2, rfl, hR⟩
    obtain ⟨sp2, c2, rfl⟩ := hR.own.form
    have HV2 := hide hR.bytes
    have HV12 := hide ((unhide HV1).below hR.b)
    have HB2 := hide ((unhide HB1).trans (hR.b.mono (unhide HB1).size))
    have HK2 := hide ((unhide HK1).below hR.b)
    rw [unhide HlS] at HV2
    rw [unhide HlS]
    have n0 := (unhide HK2).c 0 _ rfl
    have n1 := (unhide HK2).c 1 _ rfl
    have n2 := (unhide HK2).c 2 _ rfl
    have n3 := (unhide HK2).c 3 _ rfl
    have n4 := (unhide HK2).c 4 _ rfl
    clear hR m0 m1 m2 m3 m4
    go_wp2_with fail
    refine (unhide HN w2 (unhide HB2)).mono ?_
    rintro e w3 ⟨rfl, hb⟩
    have HB3 := hide ((unhide HB2).trans (hb.mono (unhide HB2).size))
    have HV13 := hide ((unhide HV12).below hb)
    have HV23 := hide ((unhide HV2).below hb)
    clear hb n0 n1 n2 n3 n4
    have HVf := hide ((unhide HC).verify w3 _ (.slice none 0 0) _ P [] S ((unhide HC).below WF w3 (unhide HR) (unhide HB3)) (unhide HV13) (bytes_nil w3) (unhide HV23) (by rw [unhide HlP]; omega) (by simp) (by rw [unhide HlS]; omega))
    rw [unhide HO] at HVf
    go_wp2_with fail
    refine (unhide HVf).mono ?_
    rintro e w4 ⟨rfl, hb⟩
    have HB4 : Hid (Below w0.heap.size w0 w4) := by
      show Below _ _ _
      have h1 := (unhide HA1).b.trans ((unhide HB3).mono (unhide HA1).b.size)
      exact h1.trans (hb.mono h1.size)
    clear hb
    go_wp2
    go_ret
    exact ⟨rfl, unhide HB4⟩
end Go.Proofs.YtlhjifdahagkaaaDoor
