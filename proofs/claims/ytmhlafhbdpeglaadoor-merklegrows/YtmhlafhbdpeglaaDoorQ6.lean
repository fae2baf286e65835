/-
  The object of package sha in memory: its block's cells, what a copy into it, a store of a part of it and a load of a part of it come to.
  The walk of Write: an object that is told bytes holds what it held and these; nothing else that was there has turned.
  Slices of bytes in memory: that a value holds these bytes; that it lies in new memory; what an append and a make of such slices come to.
-/
import Derived.Test.YtmhlafhbdpeglaaDoorQ5
import Derived.Maps.RangeWalk
import Derived.Deep.RegionWith
import Derived.BigRegion
import Derived.Deep.DrawnRows
import Derived.Laws.AppendOwnNone
namespace Go.Proofs.YtmhlafhbdpeglaaDoor.Sha
open Go.RowKit
def lenVal : Value → Nat
  | .slice _ n _ => n
  | _ => 0
/-- The bytes lie where the slice says, in another block than g; the table of the words K lies in block 1. -/
def SrcAt (w : World) (g : Nat) (sp : Option Addr) (bs : List UInt8) : Prop :=
  bs ≠ [] → ∃ ba bo, sp = some ⟨ba, bo, none⟩ ∧ ba ≠ g ∧ w.rangeAt ba bo (bs.map bv)
def TabAt (w : World) : Prop := ∃ tk fr, w.heap[1]? = some (.cells (kTab.map wv).toArray tk fr)
def HashAt (w : World) (g : Nat) (s : HS) : Prop := w.heap[g]? = some (.cells (hcells s).toArray 77 (0, 0))
theorem copy_round (w : World) (g o : Nat) (s : HS) (hs : s.ok) (hg : HashAt w g s) (ho : o < 64) (bs : List UInt8) (n : Nat) (hn : n = Nat.min bs.length (64 - o)) (cap ba bo : Nat) (hr : w.rangeAt ba bo (bs.map bv)) (ty : TypeId) :
    (Builtin.copy_ #[28, 28] ty #[.slice (some ⟨g, 8 + o, none⟩) (64 - o) (64 - o), .slice (some ⟨ba, bo, none⟩) bs.length cap]).run Tryd.prog w =
      .ok (goInt n) (w.setRow g (hcells ⟨s.st, s.last.take o ++ bs.take n ++ s.last.drop (o + n), s.told⟩).toArray) := by
  have hn1 : n ≤ bs.length := by rw [hn]; exact Nat.min_le_left _ _
  have hn2 : n ≤ 64 - o := by rw [hn]; exact Nat.min_le_right _ _
  have hl' : (bs.take n).length = n := by rw [List.length_take]; omega
  have hl : ((bs.take n).map bv).length = n := by rw [List.length_map]; exact hl'
  have h := run_copy_row (P := Tryd.prog) w 28 28 ty 5 g (8 + o) (64 - o) (64 - o) ⟨ba, bo, none⟩ bs.length cap (hcells s).toArray 77 ((bs.take n).map bv) Tryd.underlying28 (by kernel_rfl) hg (by rw [hl, hn])
    (fun j v hv => by
      rw [Addr.add_mid]
      refine hr j v ?_
      rw [List.map_take, List.getElem?_take] at hv
      split at hv
      · exact hv
      · cases hv) (by rw [hl, List.size_toArray, length_hcells s hs]; omega)
    (fun v hv => by obtain ⟨x, _, rfl⟩ := List.mem_map.1 hv; rfl)
  rw [hl] at h
  rw [h]
  have e := hcells_splice s hs o (bs.take n) (by rw [hl']; omega)
  rw [hl'] at e
  rw [e]
theorem slice_last (w : World) (g o : Nat) (ho : o < 64) : (Instr.sliceAt 75 (.pointer (some ⟨g, 8, none⟩)) (some (.int .i64 (o : Int))) none none).run Tryd.prog w = .ok (.slice (some ⟨g, 8 + o, none⟩) (64 - o) (64 - o)) w := by
  have h1 : (underlying 75).run Tryd.prog w = .ok (.array 64 5) w := run_underlying Tryd.underlying75 w
  have h2 : (Go.sizeOf 5).run Tryd.prog w = .ok 1 w := by kernel_rfl
  have h3 : (Instr.sliceBound (.int .i64 (o : Int)) 64 .sliceB).run Tryd.prog w = .ok o w := by
    rw [run_sliceBound (k := .i64) (i := (o : Int)) (y := 64) (code := .sliceB) (h0 := by omega) (h1 := by show (o : Int) ≤ 64; omega)]; simp
  simp only [Instr.sliceAt, Sem.run_bind, h1, Result.andThen_ok, Instr.sureAddr, Sem.run_pure, Instr.sliceBounds, h3, h2, Option.isSome_none, Bool.false_eq_true, if_false, Nat.mul_one, Addr.add_mid]
  rw [if_neg (by omega)]
theorem slice_rest (w : World) (a : Option Addr) (len cap n : Nat) (h : n ≤ len) : (Instr.slice 28 (.slice a len cap) (some (.int .i64 (n : Int))) none none).run Tryd.prog w = .ok (.slice (if cap = n then a else a.map (·.add n)) (len - n) (cap - n)) w := by
  have h1 : (underlying 28).run Tryd.prog w = .ok (.slice 5) w := run_underlying Tryd.underlying28 w
  have h2 : (Go.sizeOf 5).run Tryd.prog w = .ok 1 w := by kernel_rfl
  have h3 : (Instr.sliceBound (.int .i64 (n : Int)) len .sliceB).run Tryd.prog w = .ok n w := by
    rw [run_sliceBound (k := .i64) (i := (n : Int)) (y := len) (code := .sliceB) (h0 := by omega) (h1 := by omega)]; simp
  simp only [Instr.slice, Sem.run_bind, h1, Result.andThen_ok, Sem.run_pure, Instr.sliceBounds, h3, h2, Option.isSome_none, Bool.false_eq_true, if_false, Nat.mul_one]
/-- The cells that lie there, read one behind the other. -/
def readRow (w : World) (b o n : Nat) : Array Value := ((List.range n).map fun j => (w.cell? ⟨b, o + j, none⟩).getD undef).toArray
theorem readRow_drew (w : World) (b o n : Nat) : readRow w.drew b o n = readRow w b o n := rfl
theorem length_readRow (w : World) (b o n : Nat) : (readRow w b o n).toList.length = n := by simp [readRow]
theorem readRow_range {w : World} {b o n : Nat} (h : w.there b o n) : w.rangeAt b o (readRow w b o n).toList := fun j v hv => by
  simp only [readRow, List.getElem?_map, Option.map_eq_some_iff] at hv
  obtain ⟨i, hi, rfl⟩ := hv
  obtain ⟨hj, rfl⟩ := List.getElem?_eq_some_iff.1 hi
  simp only [List.getElem_range]
  obtain ⟨u, hu⟩ := Option.isSome_iff_exists.1 (h j (by simpa using hj)).1
  rw [hu]; rfl
theorem readRow_of {w : World} {b o n : Nat} {cs : List Value} (h : w.rangeAt b o cs) (hn : cs.length = n) : readRow w b o n = cs.toArray := by
  unfold readRow
  congr 1
  apply List.ext_getElem
  · simp [hn]
  · intro i h1 h2
    simp only [List.getElem_map, List.getElem_range]
    rw [h i cs[i] (List.getElem?_eq_getElem h2)]; rfl
theorem run_load39 (w : World) (b o : Nat) (h : w.there b o 8) : (Instr.loadAt 69 (.pointer (some ⟨b, o, none⟩))).run Tryd.prog w = .ok (.agg (readRow w b o 8)) w := by
  have := run_loadAt_mid (P := Tryd.prog) w b o 69 _ _ (readRow_range h) Tryd.underlying69 rfl (by rw [length_readRow]; kernel_rfl)
  simpa using this
theorem run_load44 (w : World) (b o : Nat) (h : w.there b o 64) : (Instr.loadAt 75 (.pointer (some ⟨b, o, none⟩))).run Tryd.prog w = .ok (.agg (readRow w b o 64)) w := by
  have := run_loadAt_mid (P := Tryd.prog) w b o 75 _ _ (readRow_range h) Tryd.underlying75 rfl (by rw [length_readRow]; kernel_rfl)
  simpa using this
theorem run_store39 (w : World) (b o : Nat) (cells : Array Value) (h : w.there b o 8) (hn : cells.size = 8) (h1 : cells.all (·.oneCell') = true) : (Instr.storeAt 69 (.pointer (some ⟨b, o, none⟩)) (.agg cells)).run Tryd.prog w = .ok () (w.setCells b o cells.toList) :=
  run_storeAt_mid (P := Tryd.prog) w b o 69 cells (by rw [hn]; exact h) (by rw [hn]; kernel_rfl) h1
/-- A pointer to so many cells that are there. -/
def ptrOk (w : World) (v : Value) (n : Nat) : Prop := ∃ b o, v = .pointer (some ⟨b, o, none⟩) ∧ w.there b o n
def ptrBlock : Value → Nat
  | .pointer (some a) => a.block
  | _ => 0
def ptrOff : Value → Nat
  | .pointer (some a) => a.off
  | _ => 0
def aggCells : Value → Array Value
  | .agg cs => cs
  | _ => #[]
/-- A value of eight cells, each of them one. -/
def aggOk (v : Value) (n : Nat) : Prop := ∃ cs : Array Value, v = .agg cs ∧ cs.size = n ∧ cs.all (·.oneCell') = true
theorem ptrOk_pointer (w : World) (b o n : Nat) : ptrOk w (.pointer (some ⟨b, o, none⟩)) n ↔ w.there b o n :=
  ⟨fun ⟨_, _, e, h⟩ => by cases e; exact h, fun h => ⟨_, _, rfl, h⟩⟩
theorem ptrBlock_pointer (a : Addr) : ptrBlock (.pointer (some a)) = a.block := rfl
theorem ptrOff_pointer (a : Addr) : ptrOff (.pointer (some a)) = a.off := rfl
theorem aggCells_agg (cs : Array Value) : aggCells (.agg cs) = cs := rfl
theorem aggOk_agg (cs : Array Value) (n : Nat) : aggOk (.agg cs) n ↔ (cs.size = n ∧ cs.all (·.oneCell') = true) :=
  ⟨fun ⟨_, e, h⟩ => by cases e; exact h, fun h => ⟨_, rfl, h⟩⟩
theorem wp_load39 (dst : Option Tmp) (ty : TypeId) (pos : String) (after : Array Edge) (guard : Option (Nat × Bool)) (x : Operand) (a : Act) (w : World) (K : Act → World → Prop) (Q : Exit → Act → World → Prop) (h : ptrOk w (a.eval x) 8) :
    Oper.wp Tryd.prog { dst := dst, op := .load 69 x, type := ty, pos := pos, after := after, guard := guard } a w K Q = K (a.put dst (.agg (readRow w (ptrBlock (a.eval x)) (ptrOff (a.eval x)) 8))) w := by
  obtain ⟨b, o, e, ht⟩ := h
  simp only [Oper.wp, execOp, e, Sem.run_bind, run_load39 w b o ht, Result.andThen_ok, Sem.run_pure, Oper.upon, ptrBlock, ptrOff]
theorem wp_load44 (dst : Option Tmp) (ty : TypeId) (pos : String) (after : Array Edge) (guard : Option (Nat × Bool)) (x : Operand) (a : Act) (w : World) (K : Act → World → Prop) (Q : Exit → Act → World → Prop) (h : ptrOk w (a.eval x) 64) :
    Oper.wp Tryd.prog { dst := dst, op := .load 75 x, type := ty, pos := pos, after := after, guard := guard } a w K Q = K (a.put dst (.agg (readRow w (ptrBlock (a.eval x)) (ptrOff (a.eval x)) 64))) w := by
  obtain ⟨b, o, e, ht⟩ := h
  simp only [Oper.wp, execOp, e, Sem.run_bind, run_load44 w b o ht, Result.andThen_ok, Sem.run_pure, Oper.upon, ptrBlock, ptrOff]
theorem wp_store39 (dst : Option Tmp) (ty : TypeId) (pos : String) (after : Array Edge) (guard : Option (Nat × Bool)) (x y : Operand) (a : Act) (w : World) (K : Act → World → Prop) (Q : Exit → Act → World → Prop) (h : ptrOk w (a.eval x) 8) (h2 : aggOk (a.eval y) 8) :
    Oper.wp Tryd.prog { dst := dst, op := .store 69 x y, type := ty, pos := pos, after := after, guard := guard } a w K Q = K (a.put dst undef) (w.setCells (ptrBlock (a.eval x)) (ptrOff (a.eval x)) (aggCells (a.eval y)).toList) := by
  obtain ⟨b, o, e, ht⟩ := h
  obtain ⟨cs, e2, hz, h1⟩ := h2
  simp only [Oper.wp, execOp, e, e2, Sem.run_bind, run_store39 w b o cs ht hz h1, Result.andThen_ok, Sem.run_pure, Oper.upon, ptrBlock, ptrOff, aggCells]
theorem setCells_setRow (w : World) (g o : Nat) (vs : List Value) (cur : Array Value) (t : TypeId) (hg : w.heap[g]? = some (.cells cur t (0, 0))) (hl : o + vs.length ≤ cur.size) (h1 : ∀ v ∈ vs, v.oneCell' = true) :
    w.setCells g o vs = w.setRow g (cur.toList.take o ++ vs ++ cur.toList.drop (o + vs.length)).toArray := by
  have e1 := run_storeCells_at Tryd.prog g o t vs 0 cur w hg (by simpa using hl) h1
  have e2 := run_storeCells_cells (P := Tryd.prog) g o vs 0 w (fun j hj => by
    rw [Nat.add_zero, cell_of_row w g _ cur t (0, 0) hg, Array.getElem?_eq_getElem (by omega)]; rfl) (fun j hj => frozen_of_row w g _ cur t hg) h1
  rw [e1] at e2
  have := (Result.ok.inj e2).2
  simpa using this.symm
theorem HashAt.there {w : World} {g : Nat} {s : HS} (h : HashAt w g s) (hs : s.ok) (o n : Nat) (hn : o + n ≤ 73) : w.there g o n := fun j hj => by
  refine ⟨?_, frozen_of_row w g _ _ 77 h⟩
  rw [cell_of_row w g _ _ 77 (0, 0) h, Array.getElem?_eq_getElem (by rw [List.size_toArray, length_hcells s hs]; omega)]; rfl
theorem HashAt.read_st {w : World} {g : Nat} {s : HS} (h : HashAt w g s) (hs : s.ok) : readRow w g 0 8 = (s.st.map wv).toArray := by
  refine readRow_of (fun j v hv => ?_) (by rw [List.length_map]; exact hs.1)
  have hj : j < 8 := by have := (List.getElem?_eq_some_iff.1 hv).1; rw [List.length_map, hs.1] at this; exact this
  rw [cell_of_row w g _ _ 77 (0, 0) h, Nat.zero_add, hcells_get_st s hs j hj, ← getD_map_wv s.st j (by rw [hs.1]; exact hj), List.getElem?_toArray]; exact hv
theorem HashAt.read_last {w : World} {g : Nat} {s : HS} (h : HashAt w g s) (hs : s.ok) : readRow w g 8 64 = (s.last.map bv).toArray := by
  refine readRow_of (fun j v hv => ?_) (by rw [List.length_map]; exact hs.2)
  have hj : j < 64 := by have := (List.getElem?_eq_some_iff.1 hv).1; rw [List.length_map, hs.2] at this; exact this
  rw [cell_of_row w g _ _ 77 (0, 0) h, hcells_get_last s hs j hj]; exact hv
theorem HashAt.set_st {w : World} {g : Nat} {s : HS} (h : HashAt w g s) (hs : s.ok) (m : List UInt32) (hm : m.length = 8) : HashAt (w.setCells g 0 (m.map wv)) g ⟨m, s.last, s.told⟩ := by
  have ho : ∀ v ∈ m.map wv, v.oneCell' = true := fun v hv => by obtain ⟨x, _, rfl⟩ := List.mem_map.1 hv; rfl
  unfold HashAt
  rw [setCells_setRow w g 0 _ _ 77 h (by rw [List.length_map, hm, List.size_toArray, length_hcells s hs]; omega) ho, setRow_heap w g _ _ _ _ h]
  congr 3
  have e : (hcells s).drop 8 = s.last.map bv ++ [.int .i64 (s.told : Int)] := by
    unfold hcells; rw [List.append_assoc, List.drop_append, List.drop_of_length_le (by rw [List.length_map, hs.1]; omega), List.length_map, hs.1]; rfl
  simp only [List.length_map, hm, List.take_zero, List.nil_append, Nat.zero_add, e]
  simp [hcells]
theorem HashAt.set_told {w : World} {g : Nat} {s : HS} (h : HashAt w g s) (hs : s.ok) (t : Nat) : HashAt (w.setCell ⟨g, 72, none⟩ (.int .i64 (t : Int))) g ⟨s.st, s.last, t⟩ := by
  unfold HashAt
  rw [heap_setCell_same w g 72 _ 77 _ h, hcells_told s hs t]
theorem mix_of (st : List UInt32) (hst : st.length = 8) (l : List UInt8) (hl : l.length = 64) (ss cs : Array Value) (h1 : (st.map wv).toArray = ss) (h2 : (l.map bv).toArray = cs) (w : World) (hK : TabAt w) (hw : 1 < w.heap.size) :
    Calls Tryd.prog 56 #[.agg ss, .agg cs] w fun e w' => ∃ mm : Array Value, e = .returned (.agg mm) ∧ Hid (((mixed st l).map wv).toArray = mm) ∧ aggOk (.agg mm) 8 ∧ Below w.heap.size w w' := by
  subst h1 h2
  obtain ⟨tk, fr, hf⟩ := hK
  refine (mix_any st hst l hl w tk fr hw hf).mono fun e w' h => ⟨_, h.1, rfl, ⟨_, rfl, by simp [length_mixed st l hst], one_words _⟩, h.2⟩
theorem there_below {w w' : World} {g o n : Nat} (h : w.there g o n) (hb : Below w.heap.size w w') (hg : g < w.heap.size) : w'.there g o n := fun j hj => by
  rw [hb.cell (p := ⟨g, o + j, none⟩) hg, hb.frozen (p := ⟨g, o + j, none⟩) hg]; exact h j hj
theorem _root_.Go.World.grownBy.drew {a b : World} {row : Option Nat} (h : a.grownBy b row) : a.grownBy b.drew row := ⟨h.os, h.tape, h.output, h.size, h.block⟩
theorem grown_setRow {a b : World} {row : Option Nat} (h : a.grownBy b row) (g : Nat) (cs : Array Value) (hg : row = some g) : a.grownBy (b.setRow g cs) row :=
  ⟨h.os, h.tape, h.output, by rw [setRow_size]; exact h.size, fun i hi hne => by rw [setRow_other _ _ _ _ (fun e => hne (by rw [hg, e]))]; exact h.block i hi hne⟩
theorem grown_setCell {a b : World} {row : Option Nat} (h : a.grownBy b row) (x : Addr) (v : Value) (hg : row = some x.block) : a.grownBy (b.setCell x v) row :=
  ⟨h.os, h.tape, h.output, by rw [World.size_setCell]; exact h.size, fun i hi hne => by rw [heap_setCell_other _ _ _ _ (fun e => hne (by rw [hg, e]))]; exact h.block i hi hne⟩
theorem grown_below {a b c : World} {row : Option Nat} (h : a.grownBy b row) (hb : Below b.heap.size b c) : a.grownBy c row :=
  ⟨hb.os.trans h.os, hb.tape.trans h.tape, hb.output.trans h.output, Nat.le_trans h.size hb.size, fun i hi hne => (hb.block i (Nat.lt_of_lt_of_le hi h.size)).trans (h.block i hi hne)⟩
theorem tab_grown {a b : World} {g : Nat} (h : TabAt a) (hg : a.grownBy b (some g)) (h1 : 1 ≠ g) : TabAt b := by
  obtain ⟨tk, fr, hf⟩ := h
  exact ⟨tk, fr, by rw [hg.block 1 (Array.getElem?_eq_some_iff.1 hf).1 (by simpa using h1)]; exact hf⟩
theorem range_grown {a b : World} {g ba bo : Nat} {cs : List Value} (h : a.rangeAt ba bo cs) (hg : a.grownBy b (some g)) (hne : ba ≠ g) : b.rangeAt ba bo cs := fun j v hv =>
  hg.cell (h j v hv) (by simpa using hne)
theorem SrcAt.grown {a b : World} {g : Nat} {sp : Option Addr} {bs : List UInt8} (h : SrcAt a g sp bs) (hg : a.grownBy b (some g)) : SrcAt b g sp bs := fun hne => by
  obtain ⟨ba, bo, e, hb, hr⟩ := h hne
  exact ⟨ba, bo, e, hb, range_grown hr hg hb⟩
theorem range_drop {w : World} {ba bo : Nat} {bs : List UInt8} (h : w.rangeAt ba bo (bs.map bv)) (n : Nat) : w.rangeAt ba (bo + n) ((bs.drop n).map bv) := fun j v hv => by
  rw [Nat.add_assoc]
  refine h (n + j) v ?_
  rw [List.map_drop, List.getElem?_drop] at hv
  exact hv
theorem src_rest {w : World} {g ba bo cap n : Nat} {bs : List UInt8} {sp : Option Addr} (h : w.rangeAt ba bo (bs.map bv)) (hne : ba ≠ g) (hc : bs.length ≤ cap)
    (hsp : (if cap = n then (some ⟨ba, bo, none⟩ : Option Addr) else (some ⟨ba, bo, none⟩ : Option Addr).map (·.add n)) = sp) : SrcAt w g sp (bs.drop n) := fun hd => by
  have hlt : n < bs.length := by
    rcases Nat.lt_or_ge n bs.length with h | h
    · exact h
    · exact absurd (List.drop_of_length_le h) hd
  rw [if_neg (by omega), Option.map_some, Addr.add_mid] at hsp
  exact ⟨ba, bo + n, hsp.symm, hne, range_drop h n⟩
theorem grown_setCells {a b : World} {g : Nat} (h : a.grownBy b (some g)) (vs : List Value) (o : Nat) : a.grownBy (b.setCells g o vs) (some g) := by
  induction vs generalizing b o with
  | nil => exact h
  | cons v r ih => rw [World.setCells]; exact ih (grown_setCell h _ _ rfl) _
end Go.Proofs.YtmhlafhbdpeglaaDoor.Sha
namespace Go.Proofs.YtmhlafhbdpeglaaDoor.Sha
open Go.RowKit
attribute [local go_sem ↓] Go.wp_at_zero Go.wp_at_succ
attribute [local go_sem ↓] wp_load39 wp_load44 wp_store39
attribute [local go_sem] readRow_drew ptrOk_pointer ptrBlock_pointer ptrOff_pointer aggCells_agg World.there_drew
set_option maxRecDepth 100000 in
set_option maxHeartbeats 1000000 in
theorem write_any (g : Nat) (hg1 : 1 < g) (s : HS) (hs : s.ok) (w : World) (hg : HashAt w g s) (hK : TabAt w) (sp : Option Addr) (bs : List UInt8) (cap : Nat) (hcap : bs.length ≤ cap) (hsrc : SrcAt w g sp bs) (htold : s.told + bs.length ≤ 4611686018427387904) :
    Calls Tryd.prog 48 #[.pointer (some ⟨g, 0, none⟩), .slice sp bs.length cap] w fun e w' => e = .returned (.tuple #[]) ∧ HashAt w' g (feed s bs) ∧ w.grownBy w' (some g) := by
  have Hg := hide hg
  have HK := hide hK
  have Hs := hide hsrc
  clear hg hK hsrc
  go_enter Tryd.func48, Tryd.ntmps48
  go_wp2
  go_loopw [1] (fun b wr => ∃ (done rest : List UInt8) (sp : Option Addr) (cap : Nat), Hid (done ++ rest = bs) ∧ b = .slice sp rest.length cap ∧ rest.length ≤ cap ∧ SrcAt wr g sp rest ∧ HashAt wr g (feed s done) ∧ w.grownBy wr (some g)) (fun b _ => lenVal b)
  case atStart => exact ⟨[], bs, sp, cap, rfl, rfl, hcap, unhide Hs, unhide Hg, World.grownBy.refl _ _⟩
  case round =>
    obtain ⟨done, rest, sp, cap, hd, rfl, hcap, hS, hH, hG⟩ := hrel
    clear Hg Hs
    have hok := feed_ok s done hs
    have htd := feed_told s done
    have hlen : done.length + rest.length = bs.length := by rw [← unhide hd]; simp
    generalize hs1 : feed s done = s1 at *
    by_cases he : rest = []
    · subst he
      have HG := hide hG
      have HH := hide hH
      clear hG hH hS
      go_wp2
      go_end0
      refine ⟨rfl, ?_, unhide HG⟩
      rw [← unhide hd, List.append_nil, hs1]; exact unhide HH
    · obtain ⟨ba, bo, rfl, hne, hr⟩ := hS he
      have hpos : 0 < rest.length := List.length_pos_iff.2 he
      generalize ho : s1.told % 64 = o
      have ho64 : o < 64 := by omega
      have cT : wr.cell? ⟨g, 72, none⟩ = some (.int .i64 (s1.told : Int)) := by rw [cell_of_row _ _ 72 _ 77 (0, 0) hH]; exact hcells_get_told s1 hok
      generalize hn : Nat.min rest.length (64 - o) = n
      have hn1 : n ≤ rest.length := by rw [← hn]; exact Nat.min_le_left _ _
      have hn2 : n ≤ 64 - o := by rw [← hn]; exact Nat.min_le_right _ _
      have hnp : 0 < n := by rw [← hn]; exact Nat.lt_min.2 ⟨hpos, by omega⟩
      have hcp := copy_round wr.drew g o s1 hok hH ho64 rest n hn.symm cap ba bo (by simpa using hr) 3
      have hW2 : HashAt (wr.drew.setRow g (hcells ⟨s1.st, s1.last.take o ++ rest.take n ++ s1.last.drop (o + n), s1.told⟩).toArray) g ⟨s1.st, s1.last.take o ++ rest.take n ++ s1.last.drop (o + n), s1.told⟩ := setRow_heap _ _ _ _ _ _ hH
      have hG2 : wr.grownBy (wr.drew.setRow g (hcells ⟨s1.st, s1.last.take o ++ rest.take n ++ s1.last.drop (o + n), s1.told⟩).toArray) (some g) := grown_setRow (World.grownBy.refl wr (some g)).drew g _ rfl
      generalize wr.drew.setRow g (hcells ⟨s1.st, s1.last.take o ++ rest.take n ++ s1.last.drop (o + n), s1.told⟩).toArray = W2 at hcp hW2 hG2
      generalize hl2 : s1.last.take o ++ rest.take n ++ s1.last.drop (o + n) = L at hW2
      have hLl : L.length = 64 := by rw [← hl2]; simp [hok.2]; omega
      have hok2 : HS.ok ⟨s1.st, L, s1.told⟩ := ⟨hok.1, hLl⟩
      have cT2 : W2.cell? ⟨g, 72, none⟩ = some (.int .i64 (s1.told : Int)) := by rw [cell_of_row _ _ 72 _ 77 (0, 0) hW2]; exact hcells_get_told _ hok2
      have fT2 : W2.frozen? ⟨g, 72, none⟩ = false := frozen_of_row _ _ _ _ 77 hW2
      have hW3 : HashAt (W2.setCell ⟨g, 72, none⟩ (.int .i64 ((s1.told : Int) + (n : Int)))) g ⟨s1.st, L, s1.told + n⟩ := by
        have := hW2.set_told hok2 (s1.told + n)
        rwa [Int.natCast_add] at this
      have hG3 : wr.grownBy (W2.setCell ⟨g, 72, none⟩ (.int .i64 ((s1.told : Int) + (n : Int)))) (some g) := grown_setCell hG2 _ _ rfl
      generalize hE3 : W2.setCell ⟨g, 72, none⟩ (.int .i64 ((s1.told : Int) + (n : Int))) = W3 at hW3 hG3
      have cT3 : W3.cell? ⟨g, 72, none⟩ = some (.int .i64 ((s1.told : Int) + (n : Int))) := by
        rw [cell_of_row _ _ 72 _ 77 (0, 0) hW3, hcells_get_told _ (show HS.ok ⟨s1.st, L, s1.told + n⟩ from ⟨hok.1, hLl⟩), Int.natCast_add]
      have hsr := fun w => slice_rest w (some ⟨ba, bo, none⟩) rest.length cap n hn1
      generalize hsp : (if cap = n then (some ⟨ba, bo, none⟩ : Option Addr) else (some ⟨ba, bo, none⟩ : Option Addr).map (·.add n)) = sp2 at hsr
      have hto : ((s1.told : Int)).tmod 64 = (o : Int) := by rw [Int.tmod_eq_emod_of_nonneg (by omega)]; omega
      have hsl : ∀ w, (Instr.sliceAt 75 (.pointer (some ⟨g, 8, none⟩)) (some (.int .i64 (o : Int))) none none).run Tryd.prog w = .ok (.slice (some ⟨g, 8 + o, none⟩) (64 - o) (64 - o)) w := fun w => slice_last w g o ho64
      have htm : (0 : Int) ≤ (s1.told : Int) := by omega
      have htn : (s1.told : Int) ≤ 4611686018427387904 := by omega
      have hn64 : (n : Int) ≤ 64 := by omega
      have hn0 : (0 : Int) ≤ (n : Int) := by omega
      have hlt3 : g < W3.heap.size := (Array.getElem?_eq_some_iff.1 hW3).1
      have Hsrc : Hid (SrcAt W3 g sp2 (rest.drop n)) := (src_rest hr hne hcap hsp).grown hG3
      have Hfs := hide hs1
      have HL := hide hl2
      have HD := hide hd
      have HW3 := hide hW3
      have HG3 := hide (hG.trans hG3)
      have HO := hide hok
      have HT := hide htd
      have Hle := hide hlen
      clear hs1 hl2 hd hH hG hr hS hok htd hlen hW3 hG3 hW2 hG2 hok2 hsp
      by_cases hfull : 64 - o ≤ rest.length
      · have hnn : n = 64 - o := by rw [← hn]; exact Nat.min_eq_right hfull
        have hz : ((s1.told : Int) + (n : Int)).tmod 64 = 0 := by rw [Int.tmod_eq_emod_of_nonneg (by omega)]; omega
        have Hnn := hide hnn
        clear hnn
        go_wp2
        go_region_held3 (fun w' => w'.cell? ⟨g, 72, none⟩ = some (.int .i64 (s1.told : Int))) (go_keep) (fail)
        have ok3 : HS.ok ⟨s1.st, L, s1.told + n⟩ := ⟨(unhide HO).1, hLl⟩
        have ht0 : W3.there g 0 8 := (unhide HW3).there ok3 0 8 (by omega)
        have ht8 : W3.there g 8 64 := (unhide HW3).there ok3 8 64 (by omega)
        have r1 : readRow W3 g 0 8 = _ := (unhide HW3).read_st ok3
        have r2 : readRow W3 g 8 64 = _ := (unhide HW3).read_last ok3
        generalize hss : (List.map wv (HS.st ⟨s1.st, L, s1.told + n⟩)).toArray = ss at r1
        generalize hcs : (List.map bv (HS.last ⟨s1.st, L, s1.told + n⟩)).toArray = cs at r2
        have Hss := hide hss
        have Hcs := hide hcs
        have HTab : Hid (TabAt W3) := tab_grown (unhide HK) (unhide HG3) (by omega)
        clear hss hcs ok3
        go_wp2
        go_region_with ((go_at_call 56; go_must (refine (mix_of s1.st (unhide HO).1 L hLl ss cs (unhide Hss) (unhide Hcs) W3.drew (unhide HTab) (Nat.lt_trans hg1 hlt3)).mono ?_; rintro e w4 ⟨mm, rfl, Hmm, haok, hb4⟩; have ht4 := there_below ((World.there_drew _ _ _ _).2 ht0) hb4 hlt3)))
        all_goals
          have hB := grown_setCells (grown_below (World.grownBy.refl W3 (some g)).drew hb4) mm.toList 0
          have hH5 : HashAt (w4.setCells g 0 mm.toList) g (feed s (done ++ rest.take n)) := by
            rw [feed_append, unhide Hfs, feed_fill s1 (rest.take n) (unhide HO).2 (by rw [List.length_take]; have := unhide Hnn; omega), ← unhide Hmm]
            have h4 : HashAt w4 g ⟨s1.st, L, s1.told + n⟩ := by
              show w4.heap[g]? = _
              rw [hb4.block g hlt3]; exact unhide HW3
            have hL2 : s1.last.take (s1.told % 64) ++ rest.take n = L := by
              rw [← unhide HL, ho, List.drop_of_length_le (by rw [(unhide HO).2]; have := unhide Hnn; omega), List.append_nil]
            have hlt : (rest.take n).length = n := by rw [List.length_take]; omega
            rw [hL2, hlt]
            have := h4.set_st ⟨(unhide HO).1, hLl⟩ (mixed s1.st L) (length_mixed _ _ (unhide HO).1)
            exact this
          have hD5 : (done ++ rest.take n) ++ rest.drop n = bs := by rw [List.append_assoc, List.take_append_drop]; exact unhide HD
          have HB := hide hB
          have HH5 := hide hH5
          have HD5 := hide hD5
          have Hb4 := hide hb4
          clear hB hH5 hD5 hb4
          go_wp2
          go_roundw
          case rel =>
            have hr : ∃ (done' rest' : List UInt8) (sp' : Option Addr) (cap' : Nat), Hid (done' ++ rest' = bs) ∧ Value.slice sp2 (rest.length - n) (cap - n) = .slice sp' rest'.length cap' ∧ rest'.length ≤ cap' ∧ SrcAt (w4.setCells g 0 mm.toList) g sp' rest' ∧ HashAt (w4.setCells g 0 mm.toList) g (feed s done') ∧ w.grownBy (w4.setCells g 0 mm.toList) (some g) :=
              ⟨done ++ rest.take n, rest.drop n, sp2, cap - n, HD5, by rw [List.length_drop], by rw [List.length_drop]; omega, (unhide Hsrc).grown (unhide HB), unhide HH5, (unhide HG3).trans (unhide HB)⟩
            first | exact hr | ((repeat apply Exists.intro); exact ⟨hr, rfl⟩)
          case measure => simp [lenVal]; omega
      · have hnn : n = rest.length := by rw [← hn]; exact Nat.min_eq_left (by omega)
        have hz : ((s1.told : Int) + (n : Int)).tmod 64 = (o : Int) + (n : Int) := by rw [Int.tmod_eq_emod_of_nonneg (by omega)]; omega
        have hnz : (((o : Int) + (n : Int)) == 0) = false := beq_eq_false_iff_ne.2 (by omega)
        have Hnn := hide hnn
        clear hnn
        go_wp2
        go_region_held3 (fun w' => w'.cell? ⟨g, 72, none⟩ = some (.int .i64 (s1.told : Int))) (go_keep) (fail)
        go_wp2
        go_roundw
        case rel =>
          have hH5 : HashAt W3 g (feed s (done ++ rest.take n)) := by
            have hlt : (rest.take n).length = n := by rw [List.length_take]; omega
            rw [feed_append, unhide Hfs, feed_part s1 (rest.take n) (unhide HO).2 (by rw [hlt]; have := unhide Hnn; omega), hlt, ho, unhide HL]
            exact unhide HW3
          have hD5 : (done ++ rest.take n) ++ rest.drop n = bs := by rw [List.append_assoc, List.take_append_drop]; exact unhide HD
          have hr : ∃ (done' rest' : List UInt8) (sp' : Option Addr) (cap' : Nat), Hid (done' ++ rest' = bs) ∧ Value.slice sp2 (rest.length - n) (cap - n) = .slice sp' rest'.length cap' ∧ rest'.length ≤ cap' ∧ SrcAt W3 g sp' rest' ∧ HashAt W3 g (feed s done') ∧ w.grownBy W3 (some g) :=
            ⟨done ++ rest.take n, rest.drop n, sp2, cap - n, hD5, by rw [List.length_drop], by rw [List.length_drop]; omega, unhide Hsrc, hH5, unhide HG3⟩
          first | exact hr | ((repeat apply Exists.intro); exact ⟨hr, rfl⟩)
        case measure => simp [lenVal]; omega
end Go.Proofs.YtmhlafhbdpeglaaDoor.Sha
namespace Go.Proofs.YtmhlafhbdpeglaaDoor.Sha
open Go.RowKit
/-- The value is a slice of bytes that holds l. -/
def BytesAt (w : World) (x : Value) (l : List UInt8) : Prop :=
  ∃ sp c, x = .slice sp l.length c ∧ l.length ≤ c ∧ (sp = none → c = 0) ∧ (l ≠ [] → ∃ b o, sp = some ⟨b, o, none⟩ ∧ w.rangeAt b o (l.map bv))
/-- It lies from block B on. -/
def Fresh (B : Nat) (x : Value) : Prop := ∀ k, x.ownBlock = some k → B ≤ k
/-- A row of bytes of the call's own. -/
def OwnB (w : World) (base : Nat) (v : Value) (l : List UInt8) : Prop := w.ownsRow base 5 1 v l.length (l.map bv)
theorem BytesAt.grown {a b : World} {g : Nat} {x : Value} {l : List UInt8} (h : BytesAt a x l) (hg : a.grownBy b (some g)) (hne : x.ownBlock ≠ some g) : BytesAt b x l := by
  obtain ⟨sp, c, rfl, h1, h2, h3⟩ := h
  refine ⟨sp, c, rfl, h1, h2, fun hl => ?_⟩
  obtain ⟨bb, o, rfl, hr⟩ := h3 hl
  exact ⟨bb, o, rfl, range_grown hr hg (by simpa [Value.ownBlock] using hne)⟩
theorem BytesAt.below {a b : World} {x : Value} {l : List UInt8} (h : BytesAt a x l) (hb : Below a.heap.size a b) : BytesAt b x l := by
  obtain ⟨sp, c, rfl, h1, h2, h3⟩ := h
  refine ⟨sp, c, rfl, h1, h2, fun hl => ?_⟩
  obtain ⟨bb, o, rfl, hr⟩ := h3 hl
  refine ⟨bb, o, rfl, fun j v hv => ?_⟩
  have h0 := hr j v hv
  rw [hb.cell (World.block_lt_of_cell? a _ h0)]; exact h0
theorem BytesAt.drew {a : World} {x : Value} {l : List UInt8} (h : BytesAt a x l) : BytesAt a.drew x l := h.below (Below.refl _ _).drew
theorem OwnB.bytes {w : World} {base : Nat} {v : Value} {l : List UInt8} (h : OwnB w base v l) : BytesAt w v l := by
  obtain ⟨_, h⟩ := h
  rcases h with ⟨rfl, hn⟩ | ⟨g, cap, cur, rfl, hb, hg, hn, hc, hz, ht⟩
  · have : l = [] := List.eq_nil_of_length_eq_zero hn
    subst this
    exact ⟨none, 0, rfl, Nat.le_refl _, fun _ => rfl, fun h => absurd rfl h⟩
  · refine ⟨some ⟨g, 0, none⟩, cap, rfl, hn, fun h => (by cases h), fun _ => ⟨g, 0, rfl, fun j v hv => ?_⟩⟩
    rw [cell_of_row w g _ cur 5 (0, 0) hg, Nat.zero_add]
    rw [← ht, List.getElem?_take] at hv
    split at hv
    · simpa using hv
    · cases hv
theorem OwnB.fresh {w : World} {base : Nat} {v : Value} {l : List UInt8} (h : OwnB w base v l) : Fresh base v := by
  obtain ⟨_, h⟩ := h
  intro k hk
  rcases h with ⟨rfl, hn⟩ | ⟨g, cap, cur, rfl, hb, _⟩
  · cases hk
  · simp [Value.ownBlock] at hk; omega
theorem info5 : ∃ i, Tryd.prog.info? 5 = some i ∧ i.zero = some (.int .u8 0) ∧ i.size = 1 ∧ i.bytes = 1 := by
  have h : (Tryd.prog.info? 5).map (fun i => (i.zero, i.size, i.bytes)) = some (some (.int .u8 0), 1, 1) := by kernel_rfl
  obtain ⟨i, h1, h2⟩ := Option.map_eq_some_iff.1 h
  simp only [Prod.mk.injEq] at h2
  exact ⟨i, h1, h2.1, h2.2.1, h2.2.2⟩
theorem one_bytes (l : List UInt8) : ∀ u ∈ l.map bv, u.oneCell' = true := fun u hu => by obtain ⟨x, _, rfl⟩ := List.mem_map.1 hu; rfl
/-- append to a row of the call's own, of bytes that lie anywhere. -/
theorem wpList_append_bytes {w : World} {ops : Array Oper} {rest : List Oper} {o : Oper} {a : Act} {Q : Exit → Act → World → Prop} (hgd : o.guard = none) (s x : Operand)
    (ho : o.op = .call { callee := .builtin .append, args := #[s, x], argTypes := #[28, 28] }) (base : Nat) (v y : Value) (l m : List UInt8) (hs : a.eval s = v) (hown : OwnB w base v l)
    (hx : a.eval x = y) (hy : BytesAt w y m) (hb : base ≤ w.heap.size) (hlen : l.length + m.length ≤ 1073741824)
    (h : ∀ v' w', OwnB w' base v' (l ++ m) → w.grownBy w' v.ownBlock → wpList Tryd.prog ops Q rest (a.put o.dst v') w') : wpList Tryd.prog ops Q (o :: rest) a w := by
  obtain ⟨i, hi, hz, hsz, hby⟩ := info5
  obtain ⟨sp, c, rfl, hc1, hc2, hc3⟩ := hy
  cases sp with
  | none =>
    have hm : m = [] := by
      rcases List.eq_nil_or_concat m with h | ⟨r, u, rfl⟩
      · exact h
      · obtain ⟨b, o, e, _⟩ := hc3 (by simp); cases e
    subst hm
    obtain rfl := hc2 rfl
    refine wpList_append_own_none hgd s x 28 ho base 5 i 1 Tryd.underlying28 hi v l.length (l.map bv) hs hown hx ?_
    exact h v w (by rw [List.append_nil]; exact hown) (World.grownBy.refl _ _)
  | some ad =>
    refine wpList_append_own w hgd s x 28 ho base 5 i (.int .u8 0) 1 1 Tryd.underlying28 hi hz hsz hby rfl (by omega) v l.length (l.map bv) hs hown ad m.length c (m.map bv) hx (by simp) ?_ (one_bytes m) (by simp only [maxLen]; omega) (by omega) hb ?_
    · intro j u hu
      have hne : m ≠ [] := by rintro rfl; simp at hu
      obtain ⟨b, o, e, hr⟩ := hc3 hne
      cases e
      rw [Addr.add_mid]; exact hr j u hu
    · intro v' w' h1 h2 _
      refine h v' w' ?_ h2
      show w'.ownsRow base 5 1 v' (l ++ m).length ((l ++ m).map bv)
      rw [List.length_append, List.map_append]; exact h1
theorem Fresh.grown {a b : World} {base : Nat} {v : Value} {l : List UInt8} {w0 : World} (h : OwnB a base v l) (hg : a.grownBy b v.ownBlock) (hB : Below base w0 a) (hs : base ≤ a.heap.size) : Below base w0 b :=
  hB.grown hg hs (fun k hk => h.fresh k hk)
theorem OwnB.alloc {w : World} {base : Nat} {v : Value} {l : List UInt8} (h : OwnB w base v l) (o : Obj) : OwnB (w.alloc o) base v l := by
  obtain ⟨h1, h2⟩ := h
  refine ⟨h1, ?_⟩
  rcases h2 with h2 | ⟨g, cap, cur, hv, hb, hg, r⟩
  · exact Or.inl h2
  · exact Or.inr ⟨g, cap, cur, hv, hb, by rw [heap_alloc_old _ _ (Array.getElem?_eq_some_iff.1 hg).1]; exact hg, r⟩
/-- Bytes in a block that has just been laid. -/
theorem bytes_new (w : World) (l : List UInt8) (t : TypeId) (_hl : l ≠ []) : BytesAt (w.alloc (.cells (l.map bv).toArray t)) (.slice (some ⟨w.heap.size, 0, none⟩) l.length l.length) l :=
  ⟨_, _, rfl, Nat.le_refl _, fun h => (by cases h), fun _ => ⟨w.heap.size, 0, rfl, fun j v hv => by
    rw [cell_of_row _ _ _ _ t (0, 0) (heap_alloc_new w _), Nat.zero_add]; simpa using hv⟩⟩
theorem OwnB.drew {w : World} {base : Nat} {v : Value} {l : List UInt8} (h : OwnB w base v l) : OwnB w.drew base v l := h
end Go.Proofs.YtmhlafhbdpeglaaDoor.Sha
