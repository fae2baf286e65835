/-
  Lanes in memory.
-/
import Derived.Test.YthddgmnppolajaaDoorLeaf
import Derived.Below
import Derived.Deep.MidRow
namespace Go.Proofs.YthddgmnppolajaaDoor
open Go.RowKit
/-- The lanes lie in a block of their own. -/
def LaneAt (w : World) (b : Nat) (l : List UInt64) : Prop := w.heap[b]? = some (.cells (l.map wv).toArray 28 (0, 0))
theorem LaneAt.cell {w : World} {b : Nat} {l : List UInt64} (h : LaneAt w b l) (i : Nat) (hi : i < l.length) : w.cell? ⟨b, i, none⟩ = some (.int .u64 (lv (l.getD i 0))) := by
  rw [cell_of_row w b i _ 28 (0, 0) h]
  simp [wv, List.getD_eq_getElem?_getD, hi]
theorem LaneAt.frozen {w : World} {b : Nat} {l : List UInt64} (h : LaneAt w b l) (i : Nat) : w.frozen? ⟨b, i, none⟩ = false := frozen_of_row w b i _ 28 h
theorem LaneAt.set {w : World} {b : Nat} {l : List UInt64} (h : LaneAt w b l) (i : Nat) (x : UInt64) : LaneAt (w.setCell ⟨b, i, none⟩ (.int .u64 (lv x))) b (l.set i x) := by
  unfold LaneAt
  rw [heap_setCell_same w b i _ 28 _ h, List.setIfInBounds_toArray, List.map_set]
  rfl
theorem LaneAt.other {w : World} {b : Nat} {l : List UInt64} (h : LaneAt w b l) {a : Addr} (v : Value) (hne : b ≠ a.block) : LaneAt (w.setCell a v) b l := by
  unfold LaneAt
  rw [heap_setCell_other w a b v hne]; exact h
theorem keep_blk {w : World} {a b : Addr} {u v : Value} (h : a.block ≠ b.block) (hc : w.cell? b = some u) : (w.setCell a v).cell? b = some u := by
  rw [World.cell?_setCell_other _ _ _ _ (fun e => h (by rw [e]))]; exact hc
theorem cell_row {bo bs : Nat} (hne : bo ≠ bs) (w : World) (i j : Nat) (v : Value) : (w.setCell ⟨bo, i, none⟩ v).cell? ⟨bs, j, none⟩ = w.cell? ⟨bs, j, none⟩ :=
  World.cell?_setCell_other _ _ _ _ (fun e => hne (congrArg Addr.block e))
theorem forget {P : World → Prop} {W : World} (F : World → Prop) (h : F W) (k : ∀ W', F W' → P W') : P W := k W h

theorem LaneAt.drew {w : World} {b : Nat} {l : List UInt64} (h : LaneAt w b l) : LaneAt w.drew b l := h
theorem grown_drew {a b : World} {row : Option Nat} (h : a.grownBy b row) : a.grownBy b.drew row := ⟨h.os, h.tape, h.output, h.size, h.block⟩
theorem lane5 {w : World} {b : Nat} {l : List UInt64} (h : LaneAt w b l) (i0 i1 i2 i3 i4 : Nat) (a0 a1 a2 a3 a4 : UInt64) :
    LaneAt ((((((w.setCell ⟨b, i0, none⟩ (.int .u64 (lv a0))).setCell ⟨b, i1, none⟩ (.int .u64 (lv a1))).setCell ⟨b, i2, none⟩ (.int .u64 (lv a2))).setCell ⟨b, i3, none⟩ (.int .u64 (lv a3))).setCell ⟨b, i4, none⟩ (.int .u64 (lv a4))).drew) b (((((l.set i0 a0).set i1 a1).set i2 a2).set i3 a3).set i4 a4) :=
  (((((h.set i0 a0).set i1 a1).set i2 a2).set i3 a3).set i4 a4).drew
theorem grown1 {a b : World} {g : Nat} (h : a.grownBy b (some g)) (i : Nat) (v : Value) : a.grownBy (b.setCell ⟨g, i, none⟩ v) (some g) :=
  ⟨h.os, h.tape, h.output, by rw [World.size_setCell]; exact h.size, fun k hk hne => by rw [heap_setCell_other _ _ _ _ (fun e => hne (by rw [e]))]; exact h.block k hk hne⟩
theorem grown5 (w : World) (b : Nat) (i0 i1 i2 i3 i4 : Nat) (a0 a1 a2 a3 a4 : Value) :
    w.grownBy ((((((w.setCell ⟨b, i0, none⟩ a0).setCell ⟨b, i1, none⟩ a1).setCell ⟨b, i2, none⟩ a2).setCell ⟨b, i3, none⟩ a3).setCell ⟨b, i4, none⟩ a4).drew) (some b) :=
  grown_drew (grown1 (grown1 (grown1 (grown1 (grown1 (World.grownBy.refl w (some b)) i0 a0) i1 a1) i2 a2) i3 a3) i4 a4)
/-- The regions of a code, one behind the other. -/
def regsOf : Code → List Code
  | .region i ops b => [.region i ops b]
  | .seq a b => regsOf a ++ regsOf b
  | _ => []
end Go.Proofs.YthddgmnppolajaaDoor
