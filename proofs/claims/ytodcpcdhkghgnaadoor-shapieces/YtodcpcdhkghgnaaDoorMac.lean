/-
  The walk of Mac: the code of a message under a key, in new memory; nothing that was there has turned.
-/
import Derived.Test.YtodcpcdhkghgnaaDoorMasked
import Derived.Deep.DrawnRows
namespace Go.Proofs.YtodcpcdhkghgnaaDoor
open Go.RowKit
/-- A key, filled up to 64 bytes. -/
def fill (k : List UInt8) : List UInt8 := k ++ List.replicate (64 - k.length) 0
/-- A code under a key of 64 bytes. -/
def macFilled (f : List UInt8) (l : List UInt8) : List UInt8 := maskSum f 92 (maskSum f 54 l)
/-- A message's code under a key. -/
def macOf (key l : List UInt8) : List UInt8 := macFilled (fill (if 64 < key.length then shaOf key else key)) l
theorem length_fill (k : List UInt8) (h : k.length ≤ 64) : (fill k).length = 64 := by simp [fill]; omega
theorem masked_of (w : World) (hr : Ready w) (key : List UInt8) (hk : key.length = 64) (m : UInt8) (mi : Int) (hm : ib m = mi) (x : Value) (l : List UInt8) (hx : BytesAt w x l) (hl : l.length ≤ 1073741824) (cs : Array Value) (hcs : (key.map bv).toArray = cs) :
    Calls Tryd.prog 21 #[.agg cs, .int .u8 mi, x] w fun e w' => ∃ v, e = .returned v ∧ OwnB w' w.heap.size v (maskSum key m l) ∧ Below w.heap.size w w' := by
  subst hm; exact masked_any w hr key hk m x l hx hl cs hcs
theorem copy_fill (w : World) (N : Nat) (t : TypeId) (h : w.heap[N]? = some (.cells (List.replicate 64 (Value.int .u8 0)).toArray t (0, 0))) (x : Value) (k : List UInt8) (hx : BytesAt w x k) (hk : k.length ≤ 64) :
    ∃ W, (Builtin.copy_ #[22, 22] 3 #[.slice (some ⟨N, 0, none⟩) 64 64, x]).run Tryd.prog w = .ok (goInt k.length) W ∧ W.heap[N]? = some (.cells ((fill k).map bv).toArray t (0, 0)) ∧ w.grownBy W (some N) := by
  obtain ⟨sp, c, rfl, h1, h2, h3⟩ := hx
  by_cases hne : k = []
  · subst hne
    refine ⟨w, run_copy_none (P := Tryd.prog) w 22 22 3 5 _ _ 64 64 0 c Tryd.underlying22 (by kernel_rfl) (by simp), ?_, World.grownBy.refl _ _⟩
    rw [h]; rfl
  · obtain ⟨b, o, rfl, hr⟩ := h3 hne
    refine ⟨_, run_copy_row (P := Tryd.prog) w 22 22 3 5 N 0 64 64 ⟨b, o, none⟩ k.length c _ t (k.map bv) Tryd.underlying22 (by kernel_rfl) h (by rw [List.length_map]; exact (Nat.min_eq_left hk).symm)
      (fun j v hv => by rw [Addr.add_mid]; exact hr j v hv) (by simp; exact hk) (one_bytes k) |>.trans (by rw [List.length_map]), ?_, grown_setRow (World.grownBy.refl _ _) N _ rfl⟩
    rw [setRow_heap w N _ _ t (0, 0) h]
    have e : ((List.replicate 64 (Value.int .u8 0)).toArray.toList.take 0 ++ k.map bv ++ (List.replicate 64 (Value.int .u8 0)).toArray.toList.drop (0 + k.length)) = (fill k).map bv := by
      rw [List.toList_toArray, List.take_zero, List.nil_append, Nat.zero_add, List.drop_replicate]
      unfold fill
      rw [List.map_append, List.map_replicate]
      rfl
    rw [e]
theorem range_below {w w' : World} {b o : Nat} {cs : List Value} (h : w.rangeAt b o cs) (hb : Below w.heap.size w w') : w'.rangeAt b o cs := fun j v hv => by
  have h0 := h j v hv
  rw [hb.cell (World.block_lt_of_cell? w _ h0)]; exact h0
theorem read_below {w w' : World} {b o n : Nat} {ca : Array Value} (h : readRow w b o n = ca) (_ht : w.there b o n) (hb : Below w.drew.heap.size w.drew w') (hlt : b < w.heap.size) : readRow w' b o n = ca := by
  rw [← h]
  unfold readRow
  congr 1
  refine List.map_congr_left fun j _ => ?_
  rw [hb.cell (p := ⟨b, o + j, none⟩) hlt]; rfl
attribute [local go_sem ↓] Go.wp_at_zero Go.wp_at_succ
attribute [local go_sem ↓] wp_load44
attribute [local go_sem] readRow_drew ptrOk_pointer ptrBlock_pointer ptrOff_pointer World.there_drew
set_option maxRecDepth 100000 in
set_option maxHeartbeats 2000000 in
/-- Mac from the copy on: W2 holds the filled key in block N. -/
theorem mac_short (w : World) (hr : Ready w) (x : Value) (key : List UInt8) (hx : BytesAt w x key) (hk : key.length ≤ 64) (y : Value) (l : List UInt8) (hy : BytesAt w y l) (hl : l.length ≤ 1048576) :
    Calls Tryd.prog 12 #[x, y] w fun e w' => ∃ v, e = .returned v ∧ OwnB w' w.heap.size v (macFilled (fill key) l) ∧ Below w.heap.size w w' := by
  have hW1 : (w.alloc (.cells (List.replicate 64 (Value.int .u8 0)).toArray 44)).heap[w.heap.size]? = some (.cells (List.replicate 64 (Value.int .u8 0)).toArray 44 (0, 0)) := heap_alloc_new _ _
  have hb1 : Below w.heap.size w (w.alloc (.cells (List.replicate 64 (Value.int .u8 0)).toArray 44)) := (Below.refl _ _).alloc (Nat.le_refl _) _
  obtain ⟨W2, hcp, h2, hg2⟩ := copy_fill _ w.heap.size 44 hW1 x key (hx.below hb1) hk
  have hb2 : Below w.heap.size w W2 := hb1.grown hg2 (by simp) (fun k hk => by cases hk; exact Nat.le_refl _)
  have hF := length_fill key hk
  have hR2 : W2.rangeAt w.heap.size 0 ((fill key).map bv) := fun j v hv => by rw [cell_of_row _ _ _ _ 44 (0, 0) h2, Nat.zero_add]; simpa using hv
  obtain ⟨sp, c, rfl, hc1, hc2, hc3⟩ := hx
  have Hr2 := hide (hr.below hb2)
  have Hy2 := hide (hy.below hb2)
  have HB2 := hide hb2
  have HF := hide hF
  have ht2 : W2.there w.heap.size 0 64 := fun j hj => ⟨by rw [cell_of_row _ _ _ _ 44 (0, 0) h2, List.getElem?_toArray, List.getElem?_eq_getElem (by rw [List.length_map, hF]; omega)]; rfl, frozen_of_row _ _ _ _ 44 h2⟩
  have hr2 : readRow W2 w.heap.size 0 64 = _ := readRow_of hR2 (by rw [List.length_map]; exact hF)
  have hNl : w.heap.size < W2.heap.size := (Array.getElem?_eq_some_iff.1 h2).1
  generalize hcs : ((fill key).map bv).toArray = ca at hr2
  have Hcs := hide hcs
  have hkl : ¬ (64 : Int) < (key.length : Int) := by omega
  have hcp2 : (Builtin.copy_ #[22, 22] 3 #[.slice (some ⟨w.heap.size, 0, none⟩) 64 64, .slice sp key.length c]).run Tryd.prog (w.alloc (.cells #[.int .u8 0, .int .u8 0, .int .u8 0, .int .u8 0, .int .u8 0, .int .u8 0, .int .u8 0, .int .u8 0, .int .u8 0, .int .u8 0, .int .u8 0, .int .u8 0, .int .u8 0, .int .u8 0, .int .u8 0, .int .u8 0, .int .u8 0, .int .u8 0, .int .u8 0, .int .u8 0, .int .u8 0, .int .u8 0, .int .u8 0, .int .u8 0, .int .u8 0, .int .u8 0, .int .u8 0, .int .u8 0, .int .u8 0, .int .u8 0, .int .u8 0, .int .u8 0, .int .u8 0, .int .u8 0, .int .u8 0, .int .u8 0, .int .u8 0, .int .u8 0, .int .u8 0, .int .u8 0, .int .u8 0, .int .u8 0, .int .u8 0, .int .u8 0, .int .u8 0, .int .u8 0, .int .u8 0, .int .u8 0, .int .u8 0, .int .u8 0, .int .u8 0, .int .u8 0, .int .u8 0, .int .u8 0, .int .u8 0, .int .u8 0, .int .u8 0, .int .u8 0, .int .u8 0, .int .u8 0, .int .u8 0, .int .u8 0, .int .u8 0, .int .u8 0] 44)) = .ok (goInt key.length) W2 := hcp
  clear hcp hW1 hb1 h2 hg2 hb2 hF hr hy hc3 hcs hR2
  go_enter Tryd.func12, Tryd.ntmps12
  go_wp2_with fail
  go_region_with (first
    | (go_at_call_of 21 (Value.int IntKind.u8 54); refine (masked_of W2.drew ((unhide Hr2).below (Below.refl _ _).drew) (fill key) (unhide HF) 54 54 rfl y l ((unhide Hy2).drew) (by omega) ca (unhide Hcs)).mono ?_; rintro e w3 ⟨v3, rfl, hO3, hb3⟩; have ht3 := there_below ((World.there_drew _ _ _ _).2 ht2) hb3 hNl; have hr3 := read_below hr2 ht2 hb3 hNl)
    | (go_at_call_of 21 (Value.int IntKind.u8 92); refine (masked_of w3 (((unhide Hr2).below (Below.refl _ _).drew).below hb3) (fill key) (unhide HF) 92 92 rfl v3 (maskSum (fill key) 54 l) hO3.bytes (by unfold maskSum; rw [length_shaOf]; omega) ca (unhide Hcs)).mono ?_; rintro e w4 ⟨v4, rfl, hO4, hb4⟩))
  all_goals
    have hs3 : w.heap.size ≤ w3.heap.size := Nat.le_trans (unhide HB2).size hb3.size
    have HO4 := hide (hO4.mono hs3)
    have HB4 := hide (((unhide HB2).trans ((Below.refl W2.heap.size W2).drew.mono (unhide HB2).size)).trans ((hb3.mono (unhide HB2).size).trans (hb4.mono hs3)))
    clear hO4 hb4 hb3 hO3 hr3 ht3 hr2 ht2
    go_wp2_with fail
    go_ret
    exact ⟨v4, rfl, unhide HO4, unhide HB4⟩
set_option maxRecDepth 100000 in
set_option maxHeartbeats 2000000 in
theorem mac_long (w : World) (hr : Ready w) (x : Value) (key : List UInt8) (hx : BytesAt w x key) (hk : 64 < key.length) (hk2 : key.length ≤ 1048576) (y : Value) (l : List UInt8) (hy : BytesAt w y l) (hl : l.length ≤ 1048576) :
    Calls Tryd.prog 12 #[x, y] w fun e w' => ∃ v, e = .returned v ∧ OwnB w' w.heap.size v (macFilled (fill (shaOf key)) l) ∧ Below w.heap.size w w' := by
  have hb1 : ∀ o : Obj, Below w.heap.size w (w.alloc o) := fun o => (Below.refl _ _).alloc (Nat.le_refl _) o
  have Hr1 := hide fun o => hr.below (hb1 o)
  have Hx1 := hide fun o => hx.below (hb1 o)
  have Hr := hide hr
  have Hy := hide hy
  have Hb1 := hide hb1
  obtain ⟨sp, c, rfl, hc1, hc2, hc3⟩ := hx
  have hkl : (64 : Int) < (key.length : Int) := by omega
  clear hr hy hb1 hc3
  go_enter Tryd.func12, Tryd.ntmps12
  go_wp2_with fail
  refine (sum_any _ (unhide Hr1 _) _ key (unhide Hx1 _) (by omega)).mono ?_
  rintro e wS ⟨vS, rfl, hOS, hbS⟩
  have hNS : wS.heap[w.heap.size]? = some (.cells (List.replicate 64 (Value.int .u8 0)).toArray 44 (0, 0)) := by rw [hbS.block _ (by simp)]; exact heap_alloc_new _ _
  have hbw : Below w.heap.size w wS := (unhide Hb1 _).trans (hbS.mono (by simp))
  obtain ⟨W2, hcp, h2, hg2⟩ := copy_fill wS w.heap.size 44 hNS vS (shaOf key) hOS.bytes (by rw [length_shaOf]; omega)
  have hb2 : Below w.heap.size w W2 := hbw.grown hg2 hbw.size (fun k hk => by cases hk; exact Nat.le_refl _)
  have hF := length_fill (shaOf key) (by rw [length_shaOf]; omega)
  have hR2 : W2.rangeAt w.heap.size 0 ((fill (shaOf key)).map bv) := fun j v hv => by rw [cell_of_row _ _ _ _ 44 (0, 0) h2, Nat.zero_add]; simpa using hv
  have Hr2 := hide ((unhide Hr).below hb2)
  have Hy2 := hide ((unhide Hy).below hb2)
  have HB2 := hide hb2
  have HF := hide hF
  have ht2 : W2.there w.heap.size 0 64 := fun j hj => ⟨by rw [cell_of_row _ _ _ _ 44 (0, 0) h2, List.getElem?_toArray, List.getElem?_eq_getElem (by rw [List.length_map, hF]; omega)]; rfl, frozen_of_row _ _ _ _ 44 h2⟩
  have hr2 : readRow W2 w.heap.size 0 64 = _ := readRow_of hR2 (by rw [List.length_map]; exact hF)
  have hNl : w.heap.size < W2.heap.size := (Array.getElem?_eq_some_iff.1 h2).1
  generalize hcs : ((fill (shaOf key)).map bv).toArray = ca at hr2
  have Hcs := hide hcs
  clear hNS hbw h2 hg2 hb2 hF hcs hR2 hOS hbS Hr1 Hx1 Hb1
  go_wp2_with fail
  go_region_with (first
    | (go_at_call_of 21 (Value.int IntKind.u8 54); refine (masked_of W2.drew ((unhide Hr2).below (Below.refl _ _).drew) (fill (shaOf key)) (unhide HF) 54 54 rfl y l ((unhide Hy2).drew) (by omega) ca (unhide Hcs)).mono ?_; rintro e w3 ⟨v3, rfl, hO3, hb3⟩; have ht3 := there_below ((World.there_drew _ _ _ _).2 ht2) hb3 hNl; have hr3 := read_below hr2 ht2 hb3 hNl)
    | (go_at_call_of 21 (Value.int IntKind.u8 92); refine (masked_of w3 (((unhide Hr2).below (Below.refl _ _).drew).below hb3) (fill (shaOf key)) (unhide HF) 92 92 rfl v3 (maskSum (fill (shaOf key)) 54 l) hO3.bytes (by unfold maskSum; rw [length_shaOf]; omega) ca (unhide Hcs)).mono ?_; rintro e w4 ⟨v4, rfl, hO4, hb4⟩))
  all_goals
    have hs3 : w.heap.size ≤ w3.heap.size := Nat.le_trans (unhide HB2).size hb3.size
    have HO4 := hide (hO4.mono hs3)
    have HB4 := hide (((unhide HB2).trans ((Below.refl W2.heap.size W2).drew.mono (unhide HB2).size)).trans ((hb3.mono (unhide HB2).size).trans (hb4.mono hs3)))
    clear hO4 hb4 hb3 hO3 hr3 ht3 hr2 ht2
    go_wp2_with fail
    go_ret
    exact ⟨v4, rfl, unhide HO4, unhide HB4⟩
theorem mac_any (w : World) (hr : Ready w) (x : Value) (key : List UInt8) (hx : BytesAt w x key) (hk : key.length ≤ 1048576) (y : Value) (l : List UInt8) (hy : BytesAt w y l) (hl : l.length ≤ 1048576) :
    Calls Tryd.prog 12 #[x, y] w fun e w' => ∃ v, e = .returned v ∧ OwnB w' w.heap.size v (macOf key l) ∧ Below w.heap.size w w' := by
  unfold macOf
  by_cases h : 64 < key.length
  · rw [if_pos h]; exact mac_long w hr x key hx h hk y l hy hl
  · rw [if_neg h]; exact mac_short w hr x key hx (by omega) y l hy hl
end Go.Proofs.YtodcpcdhkghgnaaDoor
