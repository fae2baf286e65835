/-
  The sponge in memory; the walks of mix, permute and finish.
-/
import Derived.Test.YthddgmnppolajaaDoorPerm
import Derived.BigRegion
import Derived.Deep.RegionWith
namespace Go.Proofs.YthddgmnppolajaaDoor
open Go.RowKit
/-- The object's cells. -/
def scells (st : List UInt64) (rate pos : Nat) (rd : Bool) : List Value := st.map wv ++ [.int .i64 (rate : Int), .int .i64 (pos : Int), .bool rd]
def SpAt (w : World) (g : Nat) (st : List UInt64) (rate pos : Nat) (rd : Bool) : Prop := st.length = 25 ∧ w.heap[g]? = some (.cells (scells st rate pos rd).toArray 52 (0, 0))
theorem length_scells (st : List UInt64) (rate pos : Nat) (rd : Bool) (h : st.length = 25) : (scells st rate pos rd).length = 28 := by simp [scells, h]
section
variable {w : World} {g : Nat} {st : List UInt64} {rate pos : Nat} {rd : Bool}
theorem SpAt.lane (h : SpAt w g st rate pos rd) (i : Nat) (hi : i < 25) : w.cell? ⟨g, i, none⟩ = some (.int .u64 (lv (st.getD i 0))) := by
  rw [cell_of_row w g i _ 52 (0, 0) h.2, List.getElem?_toArray, scells, List.getElem?_append_left (by rw [List.length_map, h.1]; exact hi), List.getElem?_map, List.getElem?_eq_getElem (by rw [h.1]; exact hi), List.getD_eq_getElem?_getD, List.getElem?_eq_getElem (by rw [h.1]; exact hi)]
  rfl
theorem SpAt.cRate (h : SpAt w g st rate pos rd) : w.cell? ⟨g, 25, none⟩ = some (.int .i64 (rate : Int)) := by
  rw [cell_of_row w g 25 _ 52 (0, 0) h.2, List.getElem?_toArray, scells, List.getElem?_append_right (by rw [List.length_map, h.1]; omega), List.length_map, h.1]
  rfl
theorem SpAt.cPos (h : SpAt w g st rate pos rd) : w.cell? ⟨g, 26, none⟩ = some (.int .i64 (pos : Int)) := by
  rw [cell_of_row w g 26 _ 52 (0, 0) h.2, List.getElem?_toArray, scells, List.getElem?_append_right (by rw [List.length_map, h.1]; omega), List.length_map, h.1]
  rfl
theorem SpAt.cRd (h : SpAt w g st rate pos rd) : w.cell? ⟨g, 27, none⟩ = some (.bool rd) := by
  rw [cell_of_row w g 27 _ 52 (0, 0) h.2, List.getElem?_toArray, scells, List.getElem?_append_right (by rw [List.length_map, h.1]; omega), List.length_map, h.1]
  rfl
theorem SpAt.frozen (h : SpAt w g st rate pos rd) (i : Nat) : w.frozen? ⟨g, i, none⟩ = false := frozen_of_row w g i _ 52 h.2
theorem SpAt.lt (h : SpAt w g st rate pos rd) : g < w.heap.size := (Array.getElem?_eq_some_iff.1 h.2).1
theorem SpAt.set_lane (h : SpAt w g st rate pos rd) (i : Nat) (hi : i < 25) (x : UInt64) : SpAt (w.setCell ⟨g, i, none⟩ (.int .u64 (lv x))) g (st.set i x) rate pos rd := by
  refine ⟨by rw [List.length_set]; exact h.1, ?_⟩
  rw [heap_setCell_same w g i _ 52 _ h.2, List.setIfInBounds_toArray, scells, List.set_append_left _ _ (by rw [List.length_map, h.1]; exact hi), scells, List.map_set]
  rfl
theorem SpAt.set_pos (h : SpAt w g st rate pos rd) (p : Nat) : SpAt (w.setCell ⟨g, 26, none⟩ (.int .i64 (p : Int))) g st rate p rd := by
  refine ⟨h.1, ?_⟩
  rw [heap_setCell_same w g 26 _ 52 _ h.2, List.setIfInBounds_toArray, scells, List.set_append_right _ _ (by rw [List.length_map, h.1]; omega), List.length_map, h.1]
  rfl
theorem SpAt.set_rd (h : SpAt w g st rate pos rd) (b : Bool) : SpAt (w.setCell ⟨g, 27, none⟩ (.bool b)) g st rate pos b := by
  refine ⟨h.1, ?_⟩
  rw [heap_setCell_same w g 27 _ 52 _ h.2, List.setIfInBounds_toArray, scells, List.set_append_right _ _ (by rw [List.length_map, h.1]; omega), List.length_map, h.1]
  rfl
theorem SpAt.below {b : World} (h : SpAt w g st rate pos rd) (hb : Below w.heap.size w b) : SpAt b g st rate pos rd := ⟨h.1, by rw [hb.block g h.lt]; exact h.2⟩
theorem SpAt.grown {b : World} {k : Nat} (h : SpAt w g st rate pos rd) (hb : w.grownBy b (some k)) (hne : g ≠ k) : SpAt b g st rate pos rd := ⟨h.1, by rw [hb.block g h.lt (by simpa using hne)]; exact h.2⟩
theorem SpAt.range (h : SpAt w g st rate pos rd) : w.rangeAt g 0 (st.map wv) := fun j v hv => by
  have hj : j < 25 := by have := (List.getElem?_eq_some_iff.1 hv).1; rw [List.length_map, h.1] at this; exact this
  rw [Nat.zero_add, h.lane j hj]
  rw [List.getElem?_map, List.getElem?_eq_getElem (by rw [h.1]; exact hj)] at hv
  rw [List.getD_eq_getElem?_getD, List.getElem?_eq_getElem (by rw [h.1]; exact hj)]
  exact hv
theorem SpAt.there (h : SpAt w g st rate pos rd) : w.there g 0 25 := fun j hj => by
  rw [Nat.zero_add, h.lane j hj]
  exact ⟨rfl, h.frozen j⟩
end
/-- uint64(c) << (k % 8 * 8), as the walk spells it. -/
theorem mix_form (x : UInt64) (k : Nat) (c : UInt8) : bits .xor .u64 (lv x) (IntKind.u64.wrap (IntKind.u64.wrap (ib c) * 2 ^ (k % 8 * 8))) = lv (x ^^^ c.toUInt64 <<< UInt64.ofNat (8 * (k % 8))) := by
  have e : IntKind.u64.wrap (ib c) = lv c.toUInt64 := by
    rw [byte_lane, IntKind.wrap_u64]
    have := ib_nonneg c
    have := ib_lt c
    omega
  rw [e, Nat.mul_comm (k % 8) 8, shl_lane _ _ (by omega), lv_xor]
set_option maxRecDepth 100000 in
set_option maxHeartbeats 1000000 in
theorem mix_any (g : Nat) (st : List UInt64) (rate pos : Nat) (rd : Bool) (k : Nat) (hk : k < 200) (c : UInt8) (w : World) (h : SpAt w g st rate pos rd) :
    Calls Tryd.prog 25 #[.pointer (some ⟨g, 0, none⟩), .int .i64 (k : Int), .int .u8 (ib c)] w fun e w' => e = .returned (.tuple #[]) ∧ SpAt w' g (mixB st k c) rate pos rd ∧ w.grownBy w' (some g) := by
  have hi : k / 8 < 25 := by omega
  have c1 := h.lane (k / 8) hi
  have f1 := h.frozen (k / 8)
  have hset := h.set_lane (k / 8) hi (st.getD (k / 8) 0 ^^^ c.toUInt64 <<< UInt64.ofNat (8 * (k % 8)))
  rw [← mix_form (st.getD (k / 8) 0) k c] at hset
  have hg : w.grownBy (w.setCell ⟨g, k / 8, none⟩ (.int .u64 (bits .xor .u64 (lv (st.getD (k / 8) 0)) (IntKind.u64.wrap (IntKind.u64.wrap (ib c) * 2 ^ (k % 8 * 8)))))) (some g) := grown_setCell (World.grownBy.refl w (some g)) _ _ rfl
  have HS := hide (show SpAt _ g (mixB st k c) rate pos rd from hset)
  have HG := hide hg
  generalize st.getD (k / 8) 0 = x at c1 HS HG
  have q0 : ((k : Int)).tdiv 8 = ((k / 8 : Nat) : Int) := by rw [Int.tdiv_eq_ediv_of_nonneg (by omega)]; omega
  have q1 : ((k : Int)).tmod 8 = ((k % 8 : Nat) : Int) := by rw [Int.tmod_eq_emod_of_nonneg (by omega)]; omega
  have q3 : (0 : Int) ≤ ((k / 8 : Nat) : Int) := by omega
  have q4 : ((k / 8 : Nat) : Int) < 25 := by omega
  clear h hset hg
  go_enter Tryd.func25, Tryd.ntmps25
  go_wp2
  go_region
  go_end0
  exact ⟨rfl, ⟨(unhide HS).1, (unhide HS).2⟩, (unhide HG).drew⟩
theorem setCells_setRow (w : World) (g o : Nat) (vs : List Value) (cur : Array Value) (t : TypeId) (hg : w.heap[g]? = some (.cells cur t (0, 0))) (hl : o + vs.length ≤ cur.size) (h1 : ∀ v ∈ vs, v.oneCell' = true) :
    w.setCells g o vs = w.setRow g (cur.toList.take o ++ vs ++ cur.toList.drop (o + vs.length)).toArray := by
  have e1 := run_storeCells_at Tryd.prog g o t vs 0 cur w hg (by simpa using hl) h1
  have e2 := run_storeCells_cells (P := Tryd.prog) g o vs 0 w (fun j hj => by
    rw [Nat.add_zero, cell_of_row w g _ cur t (0, 0) hg, Array.getElem?_eq_getElem (by omega)]; rfl) (fun j hj => frozen_of_row w g _ cur t hg) h1
  rw [e1] at e2
  have := (Result.ok.inj e2).2
  simpa using this.symm
theorem grown_setCells {a b : World} {g : Nat} (h : a.grownBy b (some g)) (vs : List Value) (o : Nat) : a.grownBy (b.setCells g o vs) (some g) := by
  induction vs generalizing b o with
  | nil => exact h
  | cons v r ih => rw [World.setCells]; exact ih (grown_setCell h _ _ rfl) _
theorem SpAt.set_state {w : World} {g : Nat} {st : List UInt64} {rate pos : Nat} {rd : Bool} (h : SpAt w g st rate pos rd) (m : List UInt64) (hm : m.length = 25) : SpAt (w.setCells g 0 (m.map wv)) g m rate pos rd := by
  refine ⟨hm, ?_⟩
  have ho : ∀ v ∈ m.map wv, v.oneCell' = true := fun v hv => by obtain ⟨x, _, rfl⟩ := List.mem_map.1 hv; rfl
  rw [setCells_setRow w g 0 _ _ 52 h.2 (by rw [List.length_map, hm, List.size_toArray, length_scells _ _ _ _ h.1]; omega) ho, setRow_heap w g _ _ _ _ h.2]
  congr 3
  have e : (scells st rate pos rd).drop 25 = [.int .i64 (rate : Int), .int .i64 (pos : Int), .bool rd] := by
    unfold scells; rw [List.drop_append, List.drop_of_length_le (by rw [List.length_map, h.1]; omega), List.length_map, h.1]; rfl
  simp only [List.length_map, hm, List.take_zero, List.nil_append, Nat.zero_add, e]
  simp [scells]
set_option maxRecDepth 100000 in
set_option maxHeartbeats 1000000 in
theorem permute_any (g : Nat) (st : List UInt64) (rate pos : Nat) (rd : Bool) (w : World) (h : SpAt w g st rate pos rd) (hT : NumAt w) :
    Calls Tryd.prog 26 #[.pointer (some ⟨g, 0, none⟩)] w fun e w' => e = .returned (.tuple #[]) ∧ SpAt w' g (permOf st) rate 0 rd ∧ w.grownBy w' (some g) := by
  have hl : (st.map wv).length = 25 := by rw [List.length_map]; exact h.1
  have H := hide h
  have HT := hide hT
  have HR := hide h.range
  clear h hT
  go_enter Tryd.func26, Tryd.ntmps26
  go_wp2_with (refine wpList_load_mid rfl 28 _ rfl g 0 rfl (st.map wv) _ (unhide HR) Tryd.underlying28 rfl (by rw [hl]; kernel_rfl) ?_)
  refine (perm_any st (unhide H).1 _ rfl w (unhide HT)).mono ?_
  rintro e w1 ⟨rfl, hb1⟩
  have h1 := (unhide H).below hb1
  have hpl := length_permOf st (unhide H).1
  have h2 := h1.set_state (permOf st) hpl
  have hG2 : w.grownBy (w1.setCells g 0 ((permOf st).map wv)) (some g) := grown_setCells (grown_below (World.grownBy.refl w (some g)) hb1) _ _
  have hth : w1.there g 0 ((permOf st).map wv).toArray.size := by rw [List.size_toArray, List.length_map, hpl]; exact h1.there
  have hsz : ((permOf st).map wv).toArray.size = 25 := by rw [List.size_toArray, List.length_map, hpl]
  have ho := one_lanes (permOf st)
  have e2 : ((permOf st).map wv).toArray.toList = (permOf st).map wv := rfl
  rw [← e2] at h2 hG2
  generalize ((permOf st).map wv).toArray = mm at hth hsz ho h2 hG2 ⊢
  have c2 := h2.cPos
  have f2 := h2.frozen 26
  have HS3 := hide (h2.set_pos 0)
  have HG3 := hide (grown_setCell hG2 ⟨g, 26, none⟩ (.int .i64 ((0 : Nat) : Int)) rfl)
  have Hth := hide hth
  have Ho := hide ho
  clear h1 hb1 h2 hG2 H HT hth ho e2
  go_wp2_with (refine wpList_store_mid rfl 28 _ _ rfl g 0 mm rfl rfl (unhide Hth) (by rw [hsz]; kernel_rfl) (unhide Ho) ?_)
  go_end0
  exact ⟨rfl, unhide HS3, unhide HG3⟩
set_option maxRecDepth 100000 in
set_option maxHeartbeats 1000000 in
theorem finish_any (g : Nat) (hg0 : 0 < g) (st : List UInt64) (rate pos : Nat) (hp : pos < rate) (hr : rate ≤ 200) (w : World) (h : SpAt w g st rate pos false) (hT : NumAt w) :
    Calls Tryd.prog 27 #[.pointer (some ⟨g, 0, none⟩)] w fun e w' => e = .returned (.tuple #[]) ∧ SpAt w' g (sealOf rate ⟨st, pos⟩) rate 0 true ∧ w.grownBy w' (some g) := by
  have c0 := h.cPos
  have H := hide h
  have HT := hide hT
  clear h hT
  go_enter Tryd.func27, Tryd.ntmps27
  go_wp2_with fail
  refine (mix_any g st rate pos false pos (by omega) 0x1f w (unhide H)).mono ?_
  rintro e w1 ⟨rfl, h1, hG1⟩
  have c1 := h1.cRate
  have r0 : (1 : Int) ≤ (rate : Int) := by omega
  have r1 : (rate : Int) ≤ 200 := by omega
  have H1 := hide h1
  have HG1 := hide hG1
  clear h1 hG1 c0
  go_wp2_with fail
  have er : (rate : Int) - 1 = ((rate - 1 : Nat) : Int) := by omega
  rw [er]
  refine (mix_any g _ rate pos false (rate - 1) (by omega) 0x80 w1 (unhide H1)).mono ?_
  rintro e w2 ⟨rfl, h2, hG2⟩
  have H2 := hide h2
  have HG2 := hide ((unhide HG1).trans hG2)
  have HT2 := hide ((unhide HT).grown (unhide HG2) hg0)
  clear h2 hG2 H1 HG1 c1
  go_wp2_with fail
  refine (permute_any g _ rate pos false w2 (unhide H2) (unhide HT2)).mono ?_
  rintro e w3 ⟨rfl, h3, hG3⟩
  have c3 := h3.cRd
  have f3 := h3.frozen 27
  have HS := hide (h3.set_rd true)
  have HG := hide (grown_setCell ((unhide HG2).trans hG3) ⟨g, 27, none⟩ (.bool true) rfl)
  clear h3 hG3 H2 HG2 HT2
  go_wp2
  go_end0
  exact ⟨rfl, unhide HS, unhide HG⟩
end Go.Proofs.YthddgmnppolajaaDoor
