/-
  What holds of the memory while the reference sums: the state's block, the table's, the padded message; and plain words on whole blocks.
-/
import Derived.Test.YtodcpcdhkghgnaaDoorRefA
namespace Go.Proofs.YtodcpcdhkghgnaaDoor
open Go.RowKit
/-- The state behind so many whole blocks. -/
def stTo (M : List UInt8) : Nat → List UInt32
  | 0 => hTab
  | j + 1 => mixed (stTo M j) ((M.drop (64 * j)).take 64)
theorem length_stTo (M : List UInt8) (j : Nat) : (stTo M j).length = 8 := by
  induction j with
  | zero => rfl
  | succ j ih => exact length_mixed _ _ ih
theorem feed_blocks (M : List UInt8) (j : Nat) (h : 64 * j ≤ M.length) : (feed hs0 (M.take (64 * j))).st = stTo M j ∧ (feed hs0 (M.take (64 * j))).told = 64 * j ∧ (feed hs0 (M.take (64 * j))).last.length = 64 := by
  induction j with
  | zero => exact ⟨rfl, rfl, rfl⟩
  | succ j ih =>
    obtain ⟨h1, h2, h3⟩ := ih (by omega)
    have e : M.take (64 * (j + 1)) = M.take (64 * j) ++ (M.drop (64 * j)).take 64 := by
      rw [show 64 * (j + 1) = 64 * j + 64 from by omega, List.take_add]
    have hl : ((M.drop (64 * j)).take 64).length = 64 := by rw [List.length_take, List.length_drop]; omega
    rw [e, feed_append, feed_fill _ _ h3 (by rw [h2, hl]; omega)]
    refine ⟨?_, ?_, ?_⟩
    · show mixed _ _ = _
      rw [h1, h2, show 64 * j % 64 = 0 from by omega, List.take_zero, List.nil_append]
      rfl
    · show _ + _ = _
      rw [h2, hl]; omega
    · show List.length (_ ++ _) = 64
      rw [h2, show 64 * j % 64 = 0 from by omega, List.take_zero, List.nil_append, hl]
theorem length_padOf (n : Nat) : (n + (padOf n).length) % 64 = 0 := by
  unfold padOf padHead
  rw [List.length_append, length_bytesTo, List.length_cons, List.length_replicate]
  omega
theorem sha_blocks (l : List UInt8) : shaOf l = (stTo (l ++ padOf l.length) ((l ++ padOf l.length).length / 64)).flatMap wordBytes := by
  have ht : (feed hs0 l).told = l.length := by rw [feed_told]; exact Nat.zero_add _
  have hm : (l ++ padOf l.length).length % 64 = 0 := by rw [List.length_append]; exact length_padOf l.length
  unfold shaOf digest
  rw [ht, ← feed_append]
  have h := (feed_blocks (l ++ padOf l.length) ((l ++ padOf l.length).length / 64) (by omega)).1
  rw [show 64 * ((l ++ padOf l.length).length / 64) = (l ++ padOf l.length).length from by omega, List.take_of_length_le (Nat.le_refl _)] at h
  rw [h]
/-- The state in block Hb, the table in Kb, the padded message: what the reference leans on. -/
structure RefAt (w : World) (Hb Kb : Nat) (vM : Value) (M : List UInt8) (st : List UInt32) (wr : World) : Prop where
  h : wr.heap[Hb]? = some (.cells (st.map wv).toArray 39 (0, 0))
  k : wr.heap[Kb]? = some (.cells (kTab.map wv).toArray 40 (0, 0))
  m : BytesAt wr vM M
  bel : Below w.heap.size w wr
  hb : w.heap.size ≤ Hb
  kb : Hb < Kb
  ne : vM.ownBlock ≠ some Hb
theorem RefAt.lt {w : World} {Hb Kb : Nat} {vM : Value} {M : List UInt8} {st : List UInt32} {wr : World} (i : RefAt w Hb Kb vM M st wr) : Kb < wr.heap.size := (Array.getElem?_eq_some_iff.1 i.k).1
theorem RefAt.below {w : World} {Hb Kb : Nat} {vM : Value} {M : List UInt8} {st : List UInt32} {a b : World} (i : RefAt w Hb Kb vM M st a) (hb : Below a.heap.size a b) : RefAt w Hb Kb vM M st b := by
  have hl := i.lt
  have hk := i.kb
  exact ⟨by rw [hb.block _ (by omega)]; exact i.h, by rw [hb.block _ (by omega)]; exact i.k, i.m.below hb, i.bel.trans (hb.mono i.bel.size), i.hb, i.kb, i.ne⟩
theorem RefAt.setNew {w : World} {Hb Kb : Nat} {vM : Value} {M : List UInt8} {st : List UInt32} {a : World} {N : Nat} (i : RefAt w Hb Kb vM M st a) (hN : Kb < N) (hm : M ≠ [] → vM.ownBlock ≠ some N) (x : Addr) (hx : x.block = N) (v : Value) : RefAt w Hb Kb vM M st (a.setCell x v) := by
  have hk := i.kb
  have hh := i.hb
  refine ⟨by rw [heap_setCell_other _ _ _ _ (by omega)]; exact i.h, by rw [heap_setCell_other _ _ _ _ (by omega)]; exact i.k, ?_, i.bel.setCell (by omega) v, i.hb, i.kb, i.ne⟩
  exact i.m.grown' (grown_setCell (World.grownBy.refl a (some N)) x v (by rw [hx])) hm
theorem RefAt.setH {w : World} {Hb Kb : Nat} {vM : Value} {M : List UInt8} {st st' : List UInt32} {a : World} (i : RefAt w Hb Kb vM M st a) (j : Nat) (v : Value) (he : ((st.map wv).toArray).setIfInBounds j v = (st'.map wv).toArray) : RefAt w Hb Kb vM M st' (a.setCell ⟨Hb, j, none⟩ v) := by
  have hk := i.kb
  have hh := i.hb
  refine ⟨by rw [heap_setCell_same _ _ _ _ _ _ i.h, he], by rw [heap_setCell_other _ _ _ _ (by show Kb ≠ Hb; omega)]; exact i.k, ?_, i.bel.setCell hh v, i.hb, i.kb, i.ne⟩
  exact i.m.grown (grown_setCell (World.grownBy.refl a (some Hb)) _ v rfl) i.ne
theorem take_flat (st : List UInt32) (h8 : st.length = 8) (q r : Nat) (hq : q < 8) (hr : r < 4) : (st.flatMap wordBytes).take (4 * q + r + 1) = (st.flatMap wordBytes).take (4 * q + r) ++ [(wordBytes (st.getD q 0)).getD r 0] := by
  have hlen : (st.flatMap wordBytes).length = 32 := by
    have := length_outTo st 8 (by omega)
    unfold outTo at this
    rwa [List.take_of_length_le (by omega)] at this
  have e : st.flatMap wordBytes = outTo st q ++ (wordBytes (st.getD q 0) ++ (st.drop (q + 1)).flatMap wordBytes) := by
    have e1 : st = st.take q ++ (st.getD q 0 :: st.drop (q + 1)) := by
      have h : q < st.length := by omega
      rw [List.getD_eq_getElem?_getD, List.getElem?_eq_getElem h, Option.getD_some, ← List.drop_eq_getElem_cons h, List.take_append_drop]
    unfold outTo
    rw [← List.flatMap_cons, ← List.flatMap_append, ← e1]
  rw [List.take_succ_eq_append_getElem (by omega)]
  congr 2
  have ho := length_outTo st q (by omega)
  have hw : (wordBytes (st.getD q 0)).length = 4 := rfl
  generalize wordBytes (st.getD q 0) = wb at e hw ⊢
  rw [← Option.some.injEq, ← List.getElem?_eq_getElem, e, List.getElem?_append_right (by omega), ho, show 4 * q + r - 4 * q = r from by omega, List.getElem?_append_left (by omega), List.getD_eq_getElem?_getD, List.getElem?_eq_getElem (by omega)]
  rfl
end Go.Proofs.YtodcpcdhkghgnaaDoor
