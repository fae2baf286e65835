/-
  The object of package sha in memory: its block's cells, what a copy into it, a store of a part of it and a load of a part of it come to.
-/
import Derived.Test.YtodcpcdhkghgnaaDoorMix
import Derived.Test.YtodcpcdhkghgnaaDoorFeed
import Derived.Maps.RangeWalk
import Derived.Deep.RegionWith
import Derived.BigRegion
namespace Go.Proofs.YtodcpcdhkghgnaaDoor
open Go.RowKit
def lenVal : Value → Nat
  | .slice _ n _ => n
  | _ => 0
/-- The bytes lie where the slice says, in another block than g; the table of the words K lies in block 1. -/
def SrcAt (w : World) (g : Nat) (sp : Option Addr) (bs : List UInt8) : Prop :=
  bs ≠ [] → ∃ ba bo, sp = some ⟨ba, bo, none⟩ ∧ ba ≠ g ∧ w.rangeAt ba bo (bs.map bv)
def TabAt (w : World) : Prop := ∃ tk fr, w.heap[1]? = some (.cells (kTab.map wv).toArray tk fr)
def HashAt (w : World) (g : Nat) (s : HS) : Prop := w.heap[g]? = some (.cells (hcells s).toArray 47 (0, 0))
theorem copy_round (w : World) (g o : Nat) (s : HS) (hs : s.ok) (hg : HashAt w g s) (ho : o < 64) (bs : List UInt8) (n : Nat) (hn : n = Nat.min bs.length (64 - o)) (cap ba bo : Nat) (hr : w.rangeAt ba bo (bs.map bv)) (ty : TypeId) :
    (Builtin.copy_ #[22, 22] ty #[.slice (some ⟨g, 8 + o, none⟩) (64 - o) (64 - o), .slice (some ⟨ba, bo, none⟩) bs.length cap]).run Tryd.prog w =
      .ok (goInt n) (w.setRow g (hcells ⟨s.st, s.last.take o ++ bs.take n ++ s.last.drop (o + n), s.told⟩).toArray) := by
  have hn1 : n ≤ bs.length := by rw [hn]; exact Nat.min_le_left _ _
  have hn2 : n ≤ 64 - o := by rw [hn]; exact Nat.min_le_right _ _
  have hl' : (bs.take n).length = n := by rw [List.length_take]; omega
  have hl : ((bs.take n).map bv).length = n := by rw [List.length_map]; exact hl'
  have h := run_copy_row (P := Tryd.prog) w 22 22 ty 5 g (8 + o) (64 - o) (64 - o) ⟨ba, bo, none⟩ bs.length cap (hcells s).toArray 47 ((bs.take n).map bv) Tryd.underlying22 (by kernel_rfl) hg (by rw [hl, hn])
    (fun j v hv => by
      rw [Addr.add_mid]
      refine hr j v ?_
      rw [List.map_take, List.getElem?_take] at hv
      split at hv
      · exact hv
      · cases hv) (by rw [hl, List.size_toArray, length_hcells s hs]; omega)
    (fun v hv => by obtain ⟨x, _, rfl⟩ := List.mem_map.1 hv; rfl)
  rw [hl] at h
  rw [h]
  have e := hcells_splice s hs o (bs.take n) (by rw [hl']; omega)
  rw [hl'] at e
  rw [e]
theorem slice_last (w : World) (g o : Nat) (ho : o < 64) : (Instr.sliceAt 44 (.pointer (some ⟨g, 8, none⟩)) (some (.int .i64 (o : Int))) none none).run Tryd.prog w = .ok (.slice (some ⟨g, 8 + o, none⟩) (64 - o) (64 - o)) w := by
  have h1 : (underlying 44).run Tryd.prog w = .ok (.array 64 5) w := run_underlying Tryd.underlying44 w
  have h2 : (sizeOf 5).run Tryd.prog w = .ok 1 w := by kernel_rfl
  have h3 : (Instr.sliceBound (.int .i64 (o : Int)) 64 .sliceB).run Tryd.prog w = .ok o w := by
    rw [run_sliceBound (k := .i64) (i := (o : Int)) (y := 64) (code := .sliceB) (h0 := by omega) (h1 := by show (o : Int) ≤ 64; omega)]; simp
  simp only [Instr.sliceAt, Sem.run_bind, h1, Result.andThen_ok, Instr.sureAddr, Sem.run_pure, Instr.sliceBounds, h3, h2, Option.isSome_none, Bool.false_eq_true, if_false, Nat.mul_one, Addr.add_mid]
  rw [if_neg (by omega)]
theorem slice_rest (w : World) (a : Option Addr) (len cap n : Nat) (h : n ≤ len) : (Instr.slice 22 (.slice a len cap) (some (.int .i64 (n : Int))) none none).run Tryd.prog w = .ok (.slice (if cap = n then a else a.map (·.add n)) (len - n) (cap - n)) w := by
  have h1 : (underlying 22).run Tryd.prog w = .ok (.slice 5) w := run_underlying Tryd.underlying22 w
  have h2 : (sizeOf 5).run Tryd.prog w = .ok 1 w := by kernel_rfl
  have h3 : (Instr.sliceBound (.int .i64 (n : Int)) len .sliceB).run Tryd.prog w = .ok n w := by
    rw [run_sliceBound (k := .i64) (i := (n : Int)) (y := len) (code := .sliceB) (h0 := by omega) (h1 := by omega)]; simp
  simp only [Instr.slice, Sem.run_bind, h1, Result.andThen_ok, Sem.run_pure, Instr.sliceBounds, h3, h2, Option.isSome_none, Bool.false_eq_true, if_false, Nat.mul_one]
/-- The cells that lie there, read one behind the other. -/
def readRow (w : World) (b o n : Nat) : Array Value := ((List.range n).map fun j => (w.cell? ⟨b, o + j, none⟩).getD undef).toArray
theorem readRow_drew (w : World) (b o n : Nat) : readRow w.drew b o n = readRow w b o n := rfl
theorem length_readRow (w : World) (b o n : Nat) : (readRow w b o n).toList.length = n := by simp [readRow]
theorem readRow_range {w : World} {b o n : Nat} (h : w.there b o n) : w.rangeAt b o (readRow w b o n).toList := fun j v hv => by
  simp only [readRow, List.getElem?_map, Option.map_eq_some_iff] at hv
  obtain ⟨i, hi, rfl⟩ := hv
  obtain ⟨hj, rfl⟩ := List.getElem?_eq_some_iff.1 hi
  simp only [List.getElem_range]
  obtain ⟨u, hu⟩ := Option.isSome_iff_exists.1 (h j (by simpa using hj)).1
  rw [hu]; rfl
theorem readRow_of {w : World} {b o n : Nat} {cs : List Value} (h : w.rangeAt b o cs) (hn : cs.length = n) : readRow w b o n = cs.toArray := by
  unfold readRow
  congr 1
  apply List.ext_getElem
  · simp [hn]
  · intro i h1 h2
    simp only [List.getElem_map, List.getElem_range]
    rw [h i cs[i] (List.getElem?_eq_getElem h2)]; rfl
theorem run_load39 (w : World) (b o : Nat) (h : w.there b o 8) : (Instr.loadAt 39 (.pointer (some ⟨b, o, none⟩))).run Tryd.prog w = .ok (.agg (readRow w b o 8)) w := by
  have := run_loadAt_mid (P := Tryd.prog) w b o 39 _ _ (readRow_range h) Tryd.underlying39 rfl (by rw [length_readRow]; kernel_rfl)
  simpa using this
theorem run_load44 (w : World) (b o : Nat) (h : w.there b o 64) : (Instr.loadAt 44 (.pointer (some ⟨b, o, none⟩))).run Tryd.prog w = .ok (.agg (readRow w b o 64)) w := by
  have := run_loadAt_mid (P := Tryd.prog) w b o 44 _ _ (readRow_range h) Tryd.underlying44 rfl (by rw [length_readRow]; kernel_rfl)
  simpa using this
theorem run_store39 (w : World) (b o : Nat) (cells : Array Value) (h : w.there b o 8) (hn : cells.size = 8) (h1 : cells.all (·.oneCell') = true) : (Instr.storeAt 39 (.pointer (some ⟨b, o, none⟩)) (.agg cells)).run Tryd.prog w = .ok () (w.setCells b o cells.toList) :=
  run_storeAt_mid (P := Tryd.prog) w b o 39 cells (by rw [hn]; exact h) (by rw [hn]; kernel_rfl) h1
/-- A pointer to so many cells that are there. -/
def ptrOk (w : World) (v : Value) (n : Nat) : Prop := ∃ b o, v = .pointer (some ⟨b, o, none⟩) ∧ w.there b o n
def ptrBlock : Value → Nat
  | .pointer (some a) => a.block
  | _ => 0
def ptrOff : Value → Nat
  | .pointer (some a) => a.off
  | _ => 0
def aggCells : Value → Array Value
  | .agg cs => cs
  | _ => #[]
/-- A value of eight cells, each of them one. -/
def aggOk (v : Value) (n : Nat) : Prop := ∃ cs : Array Value, v = .agg cs ∧ cs.size = n ∧ cs.all (·.oneCell') = true
theorem ptrOk_pointer (w : World) (b o n : Nat) : ptrOk w (.pointer (some ⟨b, o, none⟩)) n ↔ w.there b o n :=
  ⟨fun ⟨_, _, e, h⟩ => by cases e; exact h, fun h => ⟨_, _, rfl, h⟩⟩
theorem ptrBlock_pointer (a : Addr) : ptrBlock (.pointer (some a)) = a.block := rfl
theorem ptrOff_pointer (a : Addr) : ptrOff (.pointer (some a)) = a.off := rfl
theorem aggCells_agg (cs : Array Value) : aggCells (.agg cs) = cs := rfl
theorem aggOk_agg (cs : Array Value) (n : Nat) : aggOk (.agg cs) n ↔ (cs.size = n ∧ cs.all (·.oneCell') = true) :=
  ⟨fun ⟨_, e, h⟩ => by cases e; exact h, fun h => ⟨_, rfl, h⟩⟩
theorem wp_load39 (dst : Option Tmp) (ty : TypeId) (pos : String) (after : Array Edge) (guard : Option (Nat × Bool)) (x : Operand) (a : Act) (w : World) (K : Act → World → Prop) (Q : Exit → Act → World → Prop) (h : ptrOk w (a.eval x) 8) :
    Oper.wp Tryd.prog { dst := dst, op := .load 39 x, type := ty, pos := pos, after := after, guard := guard } a w K Q = K (a.put dst (.agg (readRow w (ptrBlock (a.eval x)) (ptrOff (a.eval x)) 8))) w := by
  obtain ⟨b, o, e, ht⟩ := h
  simp only [Oper.wp, execOp, e, Sem.run_bind, run_load39 w b o ht, Result.andThen_ok, Sem.run_pure, Oper.upon, ptrBlock, ptrOff]
theorem wp_load44 (dst : Option Tmp) (ty : TypeId) (pos : String) (after : Array Edge) (guard : Option (Nat × Bool)) (x : Operand) (a : Act) (w : World) (K : Act → World → Prop) (Q : Exit → Act → World → Prop) (h : ptrOk w (a.eval x) 64) :
    Oper.wp Tryd.prog { dst := dst, op := .load 44 x, type := ty, pos := pos, after := after, guard := guard } a w K Q = K (a.put dst (.agg (readRow w (ptrBlock (a.eval x)) (ptrOff (a.eval x)) 64))) w := by
  obtain ⟨b, o, e, ht⟩ := h
  simp only [Oper.wp, execOp, e, Sem.run_bind, run_load44 w b o ht, Result.andThen_ok, Sem.run_pure, Oper.upon, ptrBlock, ptrOff]
theorem wp_store39 (dst : Option Tmp) (ty : TypeId) (pos : String) (after : Array Edge) (guard : Option (Nat × Bool)) (x y : Operand) (a : Act) (w : World) (K : Act → World → Prop) (Q : Exit → Act → World → Prop) (h : ptrOk w (a.eval x) 8) (h2 : aggOk (a.eval y) 8) :
    Oper.wp Tryd.prog { dst := dst, op := .store 39 x y, type := ty, pos := pos, after := after, guard := guard } a w K Q = K (a.put dst undef) (w.setCells (ptrBlock (a.eval x)) (ptrOff (a.eval x)) (aggCells (a.eval y)).toList) := by
  obtain ⟨b, o, e, ht⟩ := h
  obtain ⟨cs, e2, hz, h1⟩ := h2
  simp only [Oper.wp, execOp, e, e2, Sem.run_bind, run_store39 w b o cs ht hz h1, Result.andThen_ok, Sem.run_pure, Oper.upon, ptrBlock, ptrOff, aggCells]
theorem setCells_setRow (w : World) (g o : Nat) (vs : List Value) (cur : Array Value) (t : TypeId) (hg : w.heap[g]? = some (.cells cur t (0, 0))) (hl : o + vs.length ≤ cur.size) (h1 : ∀ v ∈ vs, v.oneCell' = true) :
    w.setCells g o vs = w.setRow g (cur.toList.take o ++ vs ++ cur.toList.drop (o + vs.length)).toArray := by
  have e1 := run_storeCells_at Tryd.prog g o t vs 0 cur w hg (by simpa using hl) h1
  have e2 := run_storeCells_cells (P := Tryd.prog) g o vs 0 w (fun j hj => by
    rw [Nat.add_zero, cell_of_row w g _ cur t (0, 0) hg, Array.getElem?_eq_getElem (by omega)]; rfl) (fun j hj => frozen_of_row w g _ cur t hg) h1
  rw [e1] at e2
  have := (Result.ok.inj e2).2
  simpa using this.symm
theorem HashAt.there {w : World} {g : Nat} {s : HS} (h : HashAt w g s) (hs : s.ok) (o n : Nat) (hn : o + n ≤ 73) : w.there g o n := fun j hj => by
  refine ⟨?_, frozen_of_row w g _ _ 47 h⟩
  rw [cell_of_row w g _ _ 47 (0, 0) h, Array.getElem?_eq_getElem (by rw [List.size_toArray, length_hcells s hs]; omega)]; rfl
theorem HashAt.read_st {w : World} {g : Nat} {s : HS} (h : HashAt w g s) (hs : s.ok) : readRow w g 0 8 = (s.st.map wv).toArray := by
  refine readRow_of (fun j v hv => ?_) (by rw [List.length_map]; exact hs.1)
  have hj : j < 8 := by have := (List.getElem?_eq_some_iff.1 hv).1; rw [List.length_map, hs.1] at this; exact this
  rw [cell_of_row w g _ _ 47 (0, 0) h, Nat.zero_add, hcells_get_st s hs j hj, ← getD_map_wv s.st j (by rw [hs.1]; exact hj), List.getElem?_toArray]; exact hv
theorem HashAt.read_last {w : World} {g : Nat} {s : HS} (h : HashAt w g s) (hs : s.ok) : readRow w g 8 64 = (s.last.map bv).toArray := by
  refine readRow_of (fun j v hv => ?_) (by rw [List.length_map]; exact hs.2)
  have hj : j < 64 := by have := (List.getElem?_eq_some_iff.1 hv).1; rw [List.length_map, hs.2] at this; exact this
  rw [cell_of_row w g _ _ 47 (0, 0) h, hcells_get_last s hs j hj]; exact hv
theorem HashAt.set_st {w : World} {g : Nat} {s : HS} (h : HashAt w g s) (hs : s.ok) (m : List UInt32) (hm : m.length = 8) : HashAt (w.setCells g 0 (m.map wv)) g ⟨m, s.last, s.told⟩ := by
  have ho : ∀ v ∈ m.map wv, v.oneCell' = true := fun v hv => by obtain ⟨x, _, rfl⟩ := List.mem_map.1 hv; rfl
  unfold HashAt
  rw [setCells_setRow w g 0 _ _ 47 h (by rw [List.length_map, hm, List.size_toArray, length_hcells s hs]; omega) ho, setRow_heap w g _ _ _ _ h]
  congr 3
  have e : (hcells s).drop 8 = s.last.map bv ++ [.int .i64 (s.told : Int)] := by
    unfold hcells; rw [List.append_assoc, List.drop_append, List.drop_of_length_le (by rw [List.length_map, hs.1]; omega), List.length_map, hs.1]; rfl
  simp only [List.length_map, hm, List.take_zero, List.nil_append, Nat.zero_add, e]
  simp [hcells]
theorem HashAt.set_told {w : World} {g : Nat} {s : HS} (h : HashAt w g s) (hs : s.ok) (t : Nat) : HashAt (w.setCell ⟨g, 72, none⟩ (.int .i64 (t : Int))) g ⟨s.st, s.last, t⟩ := by
  unfold HashAt
  rw [heap_setCell_same w g 72 _ 47 _ h, hcells_told s hs t]
theorem mix_of (st : List UInt32) (hst : st.length = 8) (l : List UInt8) (hl : l.length = 64) (ss cs : Array Value) (h1 : (st.map wv).toArray = ss) (h2 : (l.map bv).toArray = cs) (w : World) (hK : TabAt w) (hw : 1 < w.heap.size) :
    Calls Tryd.prog 22 #[.agg ss, .agg cs] w fun e w' => ∃ mm : Array Value, e = .returned (.agg mm) ∧ Hid (((mixed st l).map wv).toArray = mm) ∧ aggOk (.agg mm) 8 ∧ Below w.heap.size w w' := by
  subst h1 h2
  obtain ⟨tk, fr, hf⟩ := hK
  refine (mix_any st hst l hl w tk fr hw hf).mono fun e w' h => ⟨_, h.1, rfl, ⟨_, rfl, by simp [length_mixed st l hst], one_words _⟩, h.2⟩
theorem there_below {w w' : World} {g o n : Nat} (h : w.there g o n) (hb : Below w.heap.size w w') (hg : g < w.heap.size) : w'.there g o n := fun j hj => by
  rw [hb.cell (p := ⟨g, o + j, none⟩) hg, hb.frozen (p := ⟨g, o + j, none⟩) hg]; exact h j hj
theorem _root_.Go.World.grownBy.drew {a b : World} {row : Option Nat} (h : a.grownBy b row) : a.grownBy b.drew row := ⟨h.os, h.tape, h.output, h.size, h.block⟩
theorem grown_setRow {a b : World} {row : Option Nat} (h : a.grownBy b row) (g : Nat) (cs : Array Value) (hg : row = some g) : a.grownBy (b.setRow g cs) row :=
  ⟨h.os, h.tape, h.output, by rw [setRow_size]; exact h.size, fun i hi hne => by rw [setRow_other _ _ _ _ (fun e => hne (by rw [hg, e]))]; exact h.block i hi hne⟩
theorem grown_setCell {a b : World} {row : Option Nat} (h : a.grownBy b row) (x : Addr) (v : Value) (hg : row = some x.block) : a.grownBy (b.setCell x v) row :=
  ⟨h.os, h.tape, h.output, by rw [World.size_setCell]; exact h.size, fun i hi hne => by rw [heap_setCell_other _ _ _ _ (fun e => hne (by rw [hg, e]))]; exact h.block i hi hne⟩
theorem grown_below {a b c : World} {row : Option Nat} (h : a.grownBy b row) (hb : Below b.heap.size b c) : a.grownBy c row :=
  ⟨hb.os.trans h.os, hb.tape.trans h.tape, hb.output.trans h.output, Nat.le_trans h.size hb.size, fun i hi hne => (hb.block i (Nat.lt_of_lt_of_le hi h.size)).trans (h.block i hi hne)⟩
theorem tab_grown {a b : World} {g : Nat} (h : TabAt a) (hg : a.grownBy b (some g)) (h1 : 1 ≠ g) : TabAt b := by
  obtain ⟨tk, fr, hf⟩ := h
  exact ⟨tk, fr, by rw [hg.block 1 (Array.getElem?_eq_some_iff.1 hf).1 (by simpa using h1)]; exact hf⟩
theorem range_grown {a b : World} {g ba bo : Nat} {cs : List Value} (h : a.rangeAt ba bo cs) (hg : a.grownBy b (some g)) (hne : ba ≠ g) : b.rangeAt ba bo cs := fun j v hv =>
  hg.cell (h j v hv) (by simpa using hne)
theorem SrcAt.grown {a b : World} {g : Nat} {sp : Option Addr} {bs : List UInt8} (h : SrcAt a g sp bs) (hg : a.grownBy b (some g)) : SrcAt b g sp bs := fun hne => by
  obtain ⟨ba, bo, e, hb, hr⟩ := h hne
  exact ⟨ba, bo, e, hb, range_grown hr hg hb⟩
theorem range_drop {w : World} {ba bo : Nat} {bs : List UInt8} (h : w.rangeAt ba bo (bs.map bv)) (n : Nat) : w.rangeAt ba (bo + n) ((bs.drop n).map bv) := fun j v hv => by
  rw [Nat.add_assoc]
  refine h (n + j) v ?_
  rw [List.map_drop, List.getElem?_drop] at hv
  exact hv
theorem src_rest {w : World} {g ba bo cap n : Nat} {bs : List UInt8} {sp : Option Addr} (h : w.rangeAt ba bo (bs.map bv)) (hne : ba ≠ g) (hc : bs.length ≤ cap)
    (hsp : (if cap = n then (some ⟨ba, bo, none⟩ : Option Addr) else (some ⟨ba, bo, none⟩ : Option Addr).map (·.add n)) = sp) : SrcAt w g sp (bs.drop n) := fun hd => by
  have hlt : n < bs.length := by
    rcases Nat.lt_or_ge n bs.length with h | h
    · exact h
    · exact absurd (List.drop_of_length_le h) hd
  rw [if_neg (by omega), Option.map_some, Addr.add_mid] at hsp
  exact ⟨ba, bo + n, hsp.symm, hne, range_drop h n⟩
theorem grown_setCells {a b : World} {g : Nat} (h : a.grownBy b (some g)) (vs : List Value) (o : Nat) : a.grownBy (b.setCells g o vs) (some g) := by
  induction vs generalizing b o with
  | nil => exact h
  | cons v r ih => rw [World.setCells]; exact ih (grown_setCell h _ _ rfl) _
end Go.Proofs.YtodcpcdhkghgnaaDoor
