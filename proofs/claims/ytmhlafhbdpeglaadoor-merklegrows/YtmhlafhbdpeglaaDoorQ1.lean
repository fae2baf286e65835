/-
  Slices of bytes; the hash of the reference as a promise; what a call that makes bytes gives.
  Lists of slices of bytes in memory; structs in blocks.
  Worlds that differ in some blocks alone; blocks of a call's own.
  Parts of slices of bytes: the value that a slice expression gives, and what it holds.
-/
import Derived.Test.YtmhlafhbdpeglaaDoorProg
import Derived.Test.YtmhlafhbdpeglaaDoorQ0
import Derived.Deep.RegionHeld3
import Derived.BigRegion
import Derived.Deep.RegionWith
import Derived.Laws.BitsAllLaws
namespace Go.Proofs.YtmhlafhbdpeglaaDoor
open Go.RowKit
def bv (x : UInt8) : Value := .int .u8 (x.toNat : Int)
/-- The value is a slice of bytes that holds l. -/
def BytesAt (w : World) (x : Value) (l : Bs) : Prop := ValsAt w x (l.map bv)
/-- A row of bytes of the call's own. -/
def OwnB (w : World) (base : Nat) (v : Value) (l : Bs) : Prop := OwnV 5 w base v (l.map bv)
theorem BytesAt.below {a b : World} {x : Value} {l : Bs} (h : BytesAt a x l) (hb : Below a.heap.size a b) : BytesAt b x l := ValsAt.below h hb
theorem OwnB.bytes {w : World} {base : Nat} {v : Value} {l : Bs} (h : OwnB w base v l) : BytesAt w v l := OwnV.vals h
theorem OwnB.below {a b : World} {B : Nat} {v : Value} {l : Bs} (h : OwnB a B v l) (hb : Below a.heap.size a b) : OwnB b B v l := OwnV.below h hb
theorem OwnB.mono {w : World} {B B' : Nat} {v : Value} {l : Bs} (h : OwnB w B v l) (hB : B' ≤ B) : OwnB w B' v l := OwnV.mono h hB
theorem OwnB.form {w : World} {B : Nat} {v : Value} {l : Bs} (h : OwnB w B v l) : ∃ sp c, v = .slice sp l.length c := by
  obtain ⟨sp, c, e⟩ := OwnV.form h
  rw [List.length_map] at e
  exact ⟨sp, c, e⟩
theorem bytes_nil (w : World) : BytesAt w (.slice none 0 0) [] := vals_nil w
theorem ownb_nil (w : World) (base : Nat) : OwnB w base (.slice none 0 0) [] := own_nil 5 w base
theorem elem_of {t e : TypeId} {z : Value} {n : Nat} (hu : Tryd.prog.underlying t = some (.slice e)) (h : (Tryd.prog.info? e).map (fun i => (i.zero, i.size, i.bytes)) = some (some z, 1, n)) (h1 : z.cells.size = 1) (hn : n ≤ 64) : Elem Tryd.prog t e z n := by
  obtain ⟨i, hi, h2⟩ := Option.map_eq_some_iff.1 h
  simp only [Prod.mk.injEq] at h2
  exact ⟨hu, ⟨i, hi, h2.1, h2.2.1, h2.2.2⟩, h1, hn⟩
theorem Eb : Elem Tryd.prog 28 5 (.int .u8 0) 1 := elem_of Tryd.underlying28 (by kernel_rfl) rfl (by omega)
theorem one_bytes (l : Bs) : ∀ u ∈ l.map bv, u.oneCell' = true := fun u hu => by obtain ⟨x, _, rfl⟩ := List.mem_map.1 hu; rfl
theorem bytes_open {w : World} {x : Value} {l : Bs} (h : BytesAt w x l) : ∃ sp c, x = .slice sp l.length c ∧ l.length ≤ c ∧ (sp = none → c = 0) ∧ (l ≠ [] → ∃ b o, sp = some ⟨b, o, none⟩ ∧ b < w.heap.size ∧ ∀ k, k < l.length → w.cell? ⟨b, o + k, none⟩ = some (.int .u8 ((l.getD k 0).toNat : Int))) := by
  have h' := h
  obtain ⟨sp, c, rfl, h1, h2, _⟩ := h'
  rw [List.length_map] at h1
  refine ⟨sp, c, by rw [List.length_map], h1, h2, fun hl => ?_⟩
  obtain ⟨b, o, c2, e, _, hb, hc⟩ := ValsAt.cell h (by simpa using hl)
  simp only [Value.slice.injEq] at e
  obtain ⟨rfl, _, _⟩ := e
  refine ⟨b, o, rfl, hb, fun k hk => ?_⟩
  rw [hc k (by rw [List.length_map]; exact hk)]
  simp [bv, List.getD_eq_getElem?_getD, hk]
/-- append of bytes to a row of the call's own. -/
theorem wpList_append_bytes {w : World} {ops : Array Oper} {rest : List Oper} {o : Oper} {a : Act} {Q : Exit → Act → World → Prop} (hgd : o.guard = none) (s x : Operand)
    (ho : o.op = .call { callee := .builtin .append, args := #[s, x], argTypes := #[28, 28] }) (base : Nat) (v y : Value) (l m : Bs) (hs : a.eval s = v) (hown : OwnB w base v l)
    (hx : a.eval x = y) (hy : BytesAt w y m) (hb : base ≤ w.heap.size) (hlen : l.length + m.length ≤ 1073741824)
    (h : ∀ v' w', OwnB w' base v' (l ++ m) → w.grownBy w' v.ownBlock → (v'.ownBlock = v.ownBlock ∨ v'.ownBlock = some w.heap.size) → wpList Tryd.prog ops Q rest (a.put o.dst v') w') : wpList Tryd.prog ops Q (o :: rest) a w :=
  wpList_append_vals Eb hgd s x ho base v y (l.map bv) (m.map bv) hs hown hx hy (one_bytes m) hb (by simpa using hlen) fun v' w' h1 h2 h3 => h v' w' (by unfold OwnB; rw [List.map_append]; exact h1) h2 h3
/-- Bytes in a block that has just been laid. -/
theorem bytes_new (w : World) (l : Bs) : BytesAt (w.alloc (.cells (l.map bv).toArray 5)) (.slice (some ⟨w.heap.size, 0, none⟩) l.length l.length) l := by
  have := vals_new w (l.map bv) 5
  rwa [List.length_map] at this
theorem ownb_below {a b w0 : World} {base : Nat} {v : Value} {l : Bs} (h : OwnB a base v l) (hg : a.grownBy b v.ownBlock) (hB : Below base w0 a) (hs : base ≤ a.heap.size) : Below base w0 b := own_below h hg hB hs
/-- A row of bytes that was begun at the world wb, and lies there behind all that was there. -/
structure Row (wb w : World) (v : Value) (l : Bs) : Prop where
  own : OwnB w wb.heap.size v l
  b : Below wb.heap.size wb w
theorem Row.bytes {wb w : World} {v : Value} {l : Bs} (h : Row wb w v l) : BytesAt w v l := h.own.bytes
theorem Row.call {wb w w' : World} {v : Value} {l : Bs} (h : Row wb w v l) (hb : Below w.heap.size w w') : Row wb w' v l := ⟨h.own.below hb, h.b.trans (hb.mono h.b.size)⟩
theorem Row.lit {wb w : World} {v : Value} {l : Bs} (h : Row wb w v l) (o : Obj) : Row wb (w.alloc o) v l := h.call ((Below.refl _ _).alloc (Nat.le_refl _) _)
theorem Row.up {w0 wb w : World} {v : Value} {l : Bs} (h : Row wb w v l) (hb : Below w0.heap.size w0 wb) : Row w0 w v l := ⟨h.own.mono hb.size, hb.trans (h.b.mono hb.size)⟩
theorem wpList_append_row {wb w : World} {ops : Array Oper} {rest : List Oper} {o : Oper} {a : Act} {Q : Exit → Act → World → Prop} (hgd : o.guard = none) (s x : Operand)
    (ho : o.op = .call { callee := .builtin .append, args := #[s, x], argTypes := #[28, 28] }) (v y : Value) (l m : Bs) (hs : a.eval s = v) (hr : Row wb w v l)
    (hx : a.eval x = y) (hy : BytesAt w y m) (hlen : l.length + m.length ≤ 1073741824)
    (h : ∀ v' w', Row wb w' v' (l ++ m) → wpList Tryd.prog ops Q rest (a.put o.dst v') w') : wpList Tryd.prog ops Q (o :: rest) a w :=
  wpList_append_bytes hgd s x ho wb.heap.size v y l m hs hr.own hx hy hr.b.size hlen fun v' w' h1 h2 _ => h v' w' ⟨h1, ownb_below hr.own h2 hr.b hr.b.size⟩
/-- The row grew, and lies where it lay or in a block that was made then. -/
def Grew (w : World) (v : Value) (w' : World) (v' : Value) : Prop := w.grownBy w' v.ownBlock ∧ (v'.ownBlock = v.ownBlock ∨ v'.ownBlock = some w.heap.size)
/-- Another row's block is not this one. -/
def Apart (v u : Value) : Prop := ∀ k, v.ownBlock = some k → u.ownBlock ≠ some k
theorem Grew.kept {w w' : World} {v v' u : Value} {e : TypeId} {B : Nat} {cs : List Value} (h : Grew w v w' v') (ha : Apart v u) (hu : OwnV e w B u cs) : OwnV e w' B u cs ∧ Apart v' u := by
  refine ⟨hu.kept h.1 ?_, fun k hk hq => ?_⟩
  · cases hq : u.ownBlock with
    | none => exact Or.inl rfl
    | some k => exact Or.inr fun e => ha k e.symm hq
  · rcases h.2 with hb | hb
    · rw [hb] at hk; exact ha k hk hq
    · rw [hb] at hk
      have := (World.ownsRow.lt hu k hq).2
      simp only [Option.some.injEq] at hk
      omega
theorem wpList_append_grew {wb w : World} {ops : Array Oper} {rest : List Oper} {o : Oper} {a : Act} {Q : Exit → Act → World → Prop} (hgd : o.guard = none) (s x : Operand)
    (ho : o.op = .call { callee := .builtin .append, args := #[s, x], argTypes := #[28, 28] }) (v y : Value) (l m : Bs) (hs : a.eval s = v) (hr : Row wb w v l)
    (hx : a.eval x = y) (hy : BytesAt w y m) (hlen : l.length + m.length ≤ 1073741824)
    (h : ∀ v' w', Row wb w' v' (l ++ m) → Grew w v w' v' → wpList Tryd.prog ops Q rest (a.put o.dst v') w') : wpList Tryd.prog ops Q (o :: rest) a w :=
  wpList_append_bytes hgd s x ho wb.heap.size v y l m hs hr.own hx hy hr.b.size hlen fun v' w' h1 h2 h3 => h v' w' ⟨h1, ownb_below hr.own h2 hr.b hr.b.size⟩ ⟨h2, h3⟩
theorem Grew.bytes {w w' : World} {v v' y : Value} {l : Bs} (h : Grew w v w' v') (ha : Apart v y) (hy : BytesAt w y l) (hl : l ≠ []) : BytesAt w' y l ∧ Apart v' y := by
  have hne : l.map bv ≠ [] := by simpa using hl
  refine ⟨?_, fun k hk hq => ?_⟩
  · obtain ⟨b, o, c, rfl, hc, hb, hcell⟩ := ValsAt.cell hy hne
    refine ⟨_, _, rfl, hc, fun e => (by cases e), fun _ => ⟨b, o, rfl, fun j u hu => ?_⟩⟩
    have hj : j < (l.map bv).length := (List.getElem?_eq_some_iff.1 hu).1
    have h0 := hcell j hj
    have e : w'.cell? ⟨b, o + j, none⟩ = w.cell? ⟨b, o + j, none⟩ := World.cell?_of_block (h.1.block b hb fun e => by
      cases hv : v.ownBlock with
      | none => rw [hv] at e; cases e
      | some k => rw [hv] at e; simp only [Option.some.injEq] at e; exact ha k hv (by simp [Value.ownBlock, e]))
    rw [e, h0, ← hu, List.getD_eq_getElem?_getD, List.getElem?_eq_getElem hj]
    rfl
  · rcases h.2 with hb | hb
    · rw [hb] at hk; exact ha k hk hq
    · rw [hb] at hk
      have := ValsAt.old hy hne k hq
      simp only [Option.some.injEq] at hk
      omega
/-- The same as a step of a region that draws. -/
theorem step_append_row {wb w : World} {ops : Array Oper} {o : Oper} {a : Act} {K : Act → World → Prop} {Q : Exit → Act → World → Prop} {E : Prop} (hgd : o.guard = none) (s x : Operand)
    (ho : o.op = .call { callee := .builtin .append, args := #[s, x], argTypes := #[28, 28] }) (v y : Value) (l m : Bs) (hs : a.eval s = v) (hr : Row wb w v l)
    (hx : a.eval x = y) (hy : BytesAt w y m) (hlen : l.length + m.length ≤ 1073741824)
    (h : ∀ v' w', Row wb w' v' (l ++ m) → Grew w v w' v' → K (a.put o.dst v') w') : if Region.wanted o (yielded ops a.tmps) = true then Oper.wp Tryd.prog o a w K Q else E := by
  have hw : Region.wanted o (yielded ops a.tmps) = true := by simp [Region.wanted, hgd]
  rw [if_pos hw]
  obtain ⟨v', w', hrun, h2, h3, h4⟩ := run_append_vals Eb w wb.heap.size v y (l.map bv) (m.map bv) hr.own hy (one_bytes m) hr.b.size (by simpa using hlen) o.type
  unfold Oper.wp execOp
  simp only [ho, resolve, invoke, builtin, Sem.run_bind, Sem.run_pure, Result.andThen_ok, List.map_toArray, List.map_cons, List.map_nil, hs, hx, hrun]
  exact h v' w' ⟨by unfold OwnB; rw [List.map_append]; exact h2, ownb_below hr.own h3 hr.b hr.b.size⟩ ⟨h3, h4⟩
/-- The call gives these bytes, in new memory. -/
def GivesB (w : World) (f : FuncId) (args : Array Value) (l : Bs) : Prop :=
  Calls Tryd.prog f args w fun e w' => ∃ v, e = .returned v ∧ Row w w' v l
/-- The call gives these bytes, wherever they lie. -/
def TellsB (w : World) (f : FuncId) (args : Array Value) (l : Bs) : Prop :=
  Calls Tryd.prog f args w fun e w' => ∃ v, e = .returned v ∧ BytesAt w' v l ∧ Below w.heap.size w w'
/-- THE HASH OF THE REFERENCE. -/
structure RefHash (H : Bs → Bs) : Prop where
  len : ∀ l, (H l).length = 32
  sum : ∀ w x l, BytesAt w x l → l.length ≤ 1048576 → GivesB w 31 #[x] (H l)
end Go.Proofs.YtmhlafhbdpeglaaDoor
namespace Go.Proofs.YtmhlafhbdpeglaaDoor
open Go.RowKit
/-- The value is a slice whose elements hold these bytes. -/
def LL (w : World) (x : Value) (ls : List Bs) : Prop := ∃ cs : List Value, ValsAt w x cs ∧ cs.length = ls.length ∧ ∀ i, i < ls.length → BytesAt w (cs.getD i undef) (ls.getD i [])
theorem LL.below {a b : World} {x : Value} {ls : List Bs} (h : LL a x ls) (hb : Below a.heap.size a b) : LL b x ls := by
  obtain ⟨cs, h1, h2, h3⟩ := h
  exact ⟨cs, h1.below hb, h2, fun i hi => (h3 i hi).below hb⟩
theorem LL.drew {w : World} {x : Value} {ls : List Bs} (h : LL w x ls) : LL w.drew x ls := h.below (Below.refl _ _).drew
theorem LL.form {w : World} {x : Value} {ls : List Bs} (h : LL w x ls) : ∃ sp c, x = .slice sp ls.length c := by
  obtain ⟨cs, h1, h2, _⟩ := h
  rw [← h2]; exact h1.form
theorem LL.at {w : World} {x : Value} {ls : List Bs} (h : LL w x ls) (i : Nat) (hi : i < ls.length) : ∃ b o c v, x = .slice (some ⟨b, o, none⟩) ls.length c ∧ b < w.heap.size ∧ w.cell? ⟨b, o + i, none⟩ = some v ∧ BytesAt w v (ls.getD i []) := by
  obtain ⟨cs, h1, h2, h3⟩ := h
  obtain ⟨b, o, c, e, _, hb, hc⟩ := h1.cell (fun e => by rw [e] at h2; simp at h2; omega)
  rw [h2] at e hc
  exact ⟨b, o, c, _, e, hb, hc i hi, h3 i hi⟩
theorem ll_new (w : World) (cs : List Value) (ls : List Bs) (t : TypeId) (hl : cs.length = ls.length) (h : ∀ i, i < ls.length → BytesAt w (cs.getD i undef) (ls.getD i [])) : LL (w.alloc (.cells cs.toArray t)) (.slice (some ⟨w.heap.size, 0, none⟩) cs.length cs.length) ls :=
  ⟨cs, vals_new w cs t, hl, fun i hi => (h i hi).below ((Below.refl _ _).alloc (Nat.le_refl _) _)⟩
theorem ll_new1 (w : World) (a : Value) (la : Bs) (t : TypeId) (ha : BytesAt w a la) : LL (w.alloc (.cells #[a] t)) (.slice (some ⟨w.heap.size, 0, none⟩) 1 1) [la] :=
  ll_new w [a] [la] t rfl fun i hi => by
    match i, hi with
    | 0, _ => exact ha
theorem ll_new2 (w : World) (a b : Value) (la lb : Bs) (t : TypeId) (ha : BytesAt w a la) (hb : BytesAt w b lb) : LL (w.alloc (.cells #[a, b] t)) (.slice (some ⟨w.heap.size, 0, none⟩) 2 2) [la, lb] :=
  ll_new w [a, b] [la, lb] t rfl fun i hi => by
    match i, hi with
    | 0, _ => exact ha
    | 1, _ => exact hb
theorem ll_new3 (w : World) (a b c : Value) (la lb lc : Bs) (t : TypeId) (ha : BytesAt w a la) (hb : BytesAt w b lb) (hc : BytesAt w c lc) : LL (w.alloc (.cells #[a, b, c] t)) (.slice (some ⟨w.heap.size, 0, none⟩) 3 3) [la, lb, lc] :=
  ll_new w [a, b, c] [la, lb, lc] t rfl fun i hi => by
    match i, hi with
    | 0, _ => exact ha
    | 1, _ => exact hb
    | 2, _ => exact hc
theorem ll_new4 (w : World) (a b c d : Value) (la lb lc ld : Bs) (t : TypeId) (ha : BytesAt w a la) (hb : BytesAt w b lb) (hc : BytesAt w c lc) (hd : BytesAt w d ld) : LL (w.alloc (.cells #[a, b, c, d] t)) (.slice (some ⟨w.heap.size, 0, none⟩) 4 4) [la, lb, lc, ld] :=
  ll_new w [a, b, c, d] [la, lb, lc, ld] t rfl fun i hi => by
    match i, hi with
    | 0, _ => exact ha
    | 1, _ => exact hb
    | 2, _ => exact hc
    | 3, _ => exact hd
theorem BytesAt.forms {w : World} {x : Value} {l : Bs} (h : BytesAt w x l) : ∃ sp n c, x = .slice sp n c := by
  obtain ⟨sp, c, e, _⟩ := bytes_open h
  exact ⟨sp, _, c, e⟩
theorem BytesAt.set_other {w : World} {x : Value} {l : Bs} (h : BytesAt w x l) (B i : Nat) (v : Value) (hne : x.ownBlock ≠ some B) : BytesAt (w.setCell ⟨B, i, none⟩ v) x l :=
  ValsAt.grown h (grown_setCell (World.grownBy.refl _ _) ⟨B, i, none⟩ v rfl) hne
theorem flat_succ (L : List Bs) (k : Nat) (h : k < L.length) : (L.take (k + 1)).flatten = (L.take k).flatten ++ L.getD k [] := by
  rw [List.take_succ_eq_append_getElem h, List.flatten_append]
  simp [List.getD_eq_getElem?_getD, h]
theorem flat_le (L : List Bs) (k : Nat) : (L.take k).flatten.length ≤ L.flatten.length := by
  have h : L.flatten.length = (L.take k).flatten.length + (L.drop k).flatten.length := by
    rw [← List.length_append, ← List.flatten_append, List.take_append_drop]
  omega
/-- A struct's cells lie at the front of a block. -/
def AggAt (w : World) (K : Nat) (cs : List Value) : Prop := K < w.heap.size ∧ w.rangeAt K 0 cs
theorem AggAt.below {a b : World} {K : Nat} {cs : List Value} (k : AggAt a K cs) (hb : Below a.heap.size a b) : AggAt b K cs :=
  ⟨Nat.lt_of_lt_of_le k.1 hb.size, fun j v hv => by rw [hb.cell (p := ⟨K, 0 + j, none⟩) k.1]; exact k.2 j v hv⟩
theorem AggAt.c {w : World} {K : Nat} {cs : List Value} (k : AggAt w K cs) (j : Nat) (v : Value) (hv : cs[j]? = some v) : w.cell? ⟨K, j, none⟩ = some v := by
  have := k.2 j v hv
  rwa [Nat.zero_add] at this
theorem agg_new (w : World) (cs : List Value) (t : TypeId) : AggAt (w.alloc (.cells cs.toArray t)) w.heap.size cs := by
  refine ⟨by simp, fun j v hv => ?_⟩
  rw [cell_of_row _ _ _ _ t (0, 0) (heap_alloc_new w _), Nat.zero_add]
  simpa using hv
theorem own_new (e : TypeId) (w : World) (cs : List Value) (hm : cs.length ≤ maxLen) : OwnV e (w.alloc (.cells cs.toArray e)) w.heap.size (.slice (some ⟨w.heap.size, 0, none⟩) cs.length cs.length) cs := by
  have h : RowAt e (w.alloc (.cells cs.toArray e)) w.heap.size [] cs := by
    unfold RowAt
    rw [List.append_nil]; exact heap_alloc_new _ _
  exact h.own (Nat.le_refl _) cs.length cs.length rfl rfl hm
theorem row_new (w : World) (l : Bs) (hm : l.length ≤ 1000) : Row w (w.alloc (.cells (l.map bv).toArray 5)) (.slice (some ⟨w.heap.size, 0, none⟩) l.length l.length) l := by
  have h := own_new 5 w (l.map bv) (by rw [List.length_map]; simp only [maxLen]; omega)
  rw [List.length_map] at h
  exact ⟨h, (Below.refl _ _).alloc (Nat.le_refl _) _⟩
end Go.Proofs.YtmhlafhbdpeglaaDoor
namespace Go.Proofs.YtmhlafhbdpeglaaDoor
open Go.RowKit
/-- All blocks but those of S are as they were. -/
structure Aside (S : Nat → Prop) (w w' : World) : Prop where
  os : w'.os = w.os
  tape : w'.tape = w.tape
  output : w'.output = w.output
  size : w.heap.size ≤ w'.heap.size
  block : ∀ k, k < w.heap.size → ¬ S k → w'.heap[k]? = w.heap[k]?
abbrev Set_ := Nat → Prop
def none_ : Set_ := fun _ => False
theorem Aside.refl (S : Set_) (w : World) : Aside S w w := ⟨rfl, rfl, rfl, Nat.le_refl _, fun _ _ _ => rfl⟩
theorem Aside.mono {S T : Set_} {a b : World} (h : Aside S a b) (hs : ∀ k, k < a.heap.size → S k → T k) : Aside T a b := ⟨h.os, h.tape, h.output, h.size, fun k hk hn => h.block k hk fun hS => hn (hs k hk hS)⟩
theorem Aside.trans {S T : Set_} {a b c : World} (h : Aside S a b) (k : Aside T b c) (hT : ∀ i, i < a.heap.size → T i → S i) : Aside S a c :=
  ⟨k.os.trans h.os, k.tape.trans h.tape, k.output.trans h.output, Nat.le_trans h.size k.size, fun i hi hn => (k.block i (Nat.lt_of_lt_of_le hi h.size) fun hc => hn (hT i hi hc)).trans (h.block i hi hn)⟩
theorem Aside.drew {S : Set_} {a b : World} (h : Aside S a b) : Aside S a b.drew := ⟨h.os, h.tape, h.output, h.size, h.block⟩
theorem Aside.of_below {S : Set_} {a b : World} (h : Below a.heap.size a b) : Aside S a b := ⟨h.os, h.tape, h.output, h.size, fun k hk _ => h.block k hk⟩
theorem Aside.of_grown {S : Set_} {a b : World} {row : Option Nat} (h : a.grownBy b row) (hr : ∀ k, row = some k → S k) : Aside S a b := ⟨h.os, h.tape, h.output, h.size, fun k hk hn => h.block k hk fun e => hn (hr k e.symm)⟩
theorem Aside.below {S : Set_} {a b : World} {B : Nat} (h : Aside S a b) (hB : B ≤ a.heap.size) (hs : ∀ k, S k → B ≤ k) : Below B a b := ⟨h.os, h.tape, h.output, h.size, fun k hk => h.block k (by omega) fun hS => by have := hs k hS; omega⟩
theorem Aside.alloc {S : Set_} {a b : World} (h : Aside S a b) (o : Obj) : Aside S a (b.alloc o) := h.trans (T := S) (Aside.of_below ((Below.refl _ _).alloc (Nat.le_refl _) _)) (fun _ _ h => h)
theorem Aside.setCell {S : Set_} {a b : World} (h : Aside S a b) (x : Addr) (v : Value) (hx : a.heap.size ≤ x.block ∨ S x.block) : Aside S a (b.setCell x v) := by
  refine ⟨h.os, h.tape, h.output, by rw [World.size_setCell]; exact h.size, fun k hk hn => ?_⟩
  have hne : k ≠ x.block := by
    intro e
    rcases hx with hx | hx
    · omega
    · exact hn (e ▸ hx)
  rw [heap_setCell_other _ _ _ _ hne]
  exact h.block k hk hn
theorem ValsAt.aside {S : Set_} {a b : World} {x : Value} {cs : List Value} (h : ValsAt a x cs) (hb : Aside S a b) (hx : ∀ k, x.ownBlock = some k → ¬ S k) : ValsAt b x cs := by
  obtain ⟨sp, c, rfl, h1, h2, h3⟩ := h
  refine ⟨sp, c, rfl, h1, h2, fun hl => ?_⟩
  obtain ⟨bb, o, rfl, hr⟩ := h3 hl
  refine ⟨bb, o, rfl, fun j v hv => ?_⟩
  have h0 := hr j v hv
  rw [World.cell?_of_block (hb.block bb (World.block_lt_of_cell? a _ h0) (hx bb (by simp [Value.ownBlock])))]; exact h0
theorem ValsAt.beside {S : Set_} {a b : World} {x : Value} {cs : List Value} (h : ValsAt a x cs) (hb : Aside S a b) (hx : cs ≠ [] → ∀ k, x.ownBlock = some k → ¬ S k) : ValsAt b x cs := by
  by_cases hne : cs = []
  · obtain ⟨sp, c, rfl, h1, h2, _⟩ := h
    exact ⟨sp, c, rfl, h1, h2, fun hl => absurd hne hl⟩
  · exact h.aside hb (hx hne)
theorem BytesAt.aside {S : Set_} {a b : World} {x : Value} {l : Bs} (h : BytesAt a x l) (hb : Aside S a b) (hx : ∀ k, x.ownBlock = some k → ¬ S k) : BytesAt b x l := ValsAt.aside h hb hx
theorem OwnV.aside {S : Set_} {e : TypeId} {a b : World} {B : Nat} {v : Value} {cs : List Value} (h : OwnV e a B v cs) (hb : Aside S a b) (hx : ∀ k, v.ownBlock = some k → ¬ S k) : OwnV e b B v cs := by
  obtain ⟨h1, h2⟩ := h
  refine ⟨h1, ?_⟩
  rcases h2 with h2 | ⟨n, cap, cur, hv, hn, hh, r⟩
  · exact Or.inl h2
  · exact Or.inr ⟨n, cap, cur, hv, hn, by rw [hb.block _ (Array.getElem?_eq_some_iff.1 hh).1 (hx n (by rw [hv]; rfl))]; exact hh, r⟩
theorem cell_aside {S : Set_} {a b : World} {A k : Nat} {v : Value} (h : a.cell? ⟨A, k, none⟩ = some v) (hb : Aside S a b) (hA : ¬ S A) : b.cell? ⟨A, k, none⟩ = some v := by
  rw [World.cell?_of_block (hb.block A (World.block_lt_of_cell? a _ h) hA)]; exact h
end Go.Proofs.YtmhlafhbdpeglaaDoor
namespace Go.Proofs.YtmhlafhbdpeglaaDoor
open Go.RowKit
theorem under_b : Tryd.prog.underlying 28 = some (.slice (Tryd.prog.elem 28)) := by kernel_rfl
theorem elem_b : Tryd.prog.elem 28 = 5 := by kernel_rfl
theorem size5 (w : World) : (Go.sizeOf 5).run Tryd.prog w = .ok 1 w := by
  obtain ⟨_, ⟨i, hi, _, hsz, _⟩, _, _⟩ := Eb
  simp [Go.sizeOf, typeInfo, hi, hsz]
/-- The front of a slice of bytes. -/
theorem slice_front (sp : Option Addr) (n c k : Nat) (hk : k ≤ c) (w : World) : (Instr.sliceAt 28 (.slice sp n c) none (some (.int .i64 (k : Int))) none).run Tryd.prog w = .ok (.slice sp k c) w := by
  rw [run_sliceAt_slice w 28 _ _ _ _ under_b, run_slice_h w 28 sp n c under_b .i64 (k : Int) (by omega) (by omega), elem_b, size5, Result.andThen_ok]
  simp only [sliced, Int.toNat_natCast, Nat.sub_zero, Nat.zero_mul]
  split
  · rfl
  · cases sp <;> simp [Addr.add]
def cutAt (sp : Option Addr) (c f : Nat) : Option Addr := if c = f then sp else sp.map (·.add f)
theorem slice_mid (sp : Option Addr) (K c f e : Nat) (hf : f ≤ e) (he : e ≤ c) (w : World) : (Instr.sliceAt 28 (.slice sp K c) (some (.int .i64 (f : Int))) (some (.int .i64 (e : Int))) none).run Tryd.prog w = .ok (.slice (cutAt sp c f) (e - f) (c - f)) w := by
  rw [run_sliceAt_slice w 28 _ _ _ _ under_b, run_slice_lh w 28 sp K c under_b .i64 .i64 (f : Int) (e : Int) (by omega) (by omega) (by omega), elem_b, size5, Result.andThen_ok]
  simp only [sliced, Int.toNat_natCast, Nat.mul_one]
  rfl
theorem slice_rest (sp : Option Addr) (K c f : Nat) (hf : f ≤ K) (w : World) : (Instr.sliceAt 28 (.slice sp K c) (some (.int .i64 (f : Int))) none none).run Tryd.prog w = .ok (.slice (cutAt sp c f) (K - f) (c - f)) w := by
  rw [run_sliceAt_slice w 28 _ _ _ _ under_b, run_slice_l w 28 sp K c under_b .i64 (f : Int) (by omega) (by omega), elem_b, size5, Result.andThen_ok]
  simp only [sliced, Int.toNat_natCast, Nat.mul_one]
  rfl
theorem bytes_part {w : World} {sp : Option Addr} {c : Nat} {b : Bs} (h : BytesAt w (.slice sp b.length c) b) (f e : Nat) (hf : f ≤ e) (he : e ≤ b.length) : BytesAt w (.slice (cutAt sp c f) (e - f) (c - f)) ((b.drop f).take (e - f)) := by
  obtain ⟨sp', c', ex, h1, h2, h3⟩ := h
  simp only [Value.slice.injEq] at ex
  obtain ⟨rfl, _, rfl⟩ := ex
  rw [List.length_map] at h1
  have hl : (((b.drop f).take (e - f)).map bv).length = e - f := by rw [List.length_map, List.length_take, List.length_drop]; omega
  refine ⟨_, _, by rw [hl], by omega, fun h => ?_, fun hne => ?_⟩
  · unfold cutAt at h
    split at h
    · omega
    · have : sp = none := by cases sp with
        | none => rfl
        | some a => simp at h
      rw [h2 this]; omega
  · have hpos : 0 < e - f := by
      rcases Nat.eq_zero_or_pos (e - f) with h0 | h0
      · exact absurd (List.eq_nil_of_length_eq_zero (hl.trans h0)) hne
      · exact h0
    obtain ⟨bb, o, rfl, hr⟩ := h3 (by intro e0; have := congrArg List.length e0; rw [List.length_map] at this; simp at this; rw [this] at he; simp at he; omega)
    unfold cutAt
    rw [if_neg (by omega)]
    refine ⟨bb, o + f, by simp [Addr.add_mid], fun j v hv => ?_⟩
    have hj : j < e - f := by have := (List.getElem?_eq_some_iff.1 hv).1; omega
    have := hr (f + j) v (by
      rw [← hv]
      rw [List.getElem?_map, List.getElem?_map, List.getElem?_take, if_pos hj, List.getElem?_drop])
    rwa [← Nat.add_assoc] at this
theorem bytes_rest {w : World} {sp : Option Addr} {c : Nat} {b : Bs} (h : BytesAt w (.slice sp b.length c) b) (f : Nat) (hf : f ≤ b.length) : BytesAt w (.slice (cutAt sp c f) (b.length - f) (c - f)) (b.drop f) := by
  have := bytes_part h f b.length hf (Nat.le_refl _)
  rwa [List.take_of_length_le (by rw [List.length_drop]; omega)] at this
theorem bytes_front {w : World} {sp : Option Addr} {c : Nat} {b : Bs} (h : BytesAt w (.slice sp b.length c) b) (e : Nat) (he : e ≤ b.length) : BytesAt w (.slice sp e c) (b.take e) := by
  obtain ⟨sp', c', ex, h1, h2, h3⟩ := h
  simp only [Value.slice.injEq] at ex
  obtain ⟨rfl, _, rfl⟩ := ex
  rw [List.length_map] at h1
  have hl : ((b.take e).map bv).length = e := by rw [List.length_map, List.length_take]; omega
  refine ⟨sp, c, by rw [hl], by omega, h2, fun hne => ?_⟩
  obtain ⟨bb, o, e2, hr⟩ := h3 (by intro e0; exact hne (by have : b = [] := by simpa using e0
                                                           rw [this]; simp))
  refine ⟨bb, o, e2, fun j v hv => hr j v ?_⟩
  have hj : j < e := by have := (List.getElem?_eq_some_iff.1 hv).1; omega
  rw [← hv, List.getElem?_map, List.getElem?_map, List.getElem?_take, if_pos hj]
end Go.Proofs.YtmhlafhbdpeglaaDoor
