/- Parts of the walk. -/
import Derived.Test.YtcofnockikninaaGreatDoorProg
import Derived.Test.YtcofnockikninaaGreatDoorZgVals
import Derived.Test.YtcofnockikninaaGreatDoorZgDpure
import Derived.Deep.RegionHeld3
import Derived.BigRegion
import Derived.Deep.RegionWith
import Derived.Laws.BitsAllLaws
import Derived.Test.YtcofnockikninaaGreatDoorZgDright
import Derived.Test.YtcofnockikninaaGreatDoorZgDwhole
import Derived.Shelf.Abstract
import Derived.Lib.OthersKept
import Derived.Deep.LoopGhost
import Derived.Laws.IdiomStrings
import Derived.Test.YtcofnockikninaaGreatDoorZgPF
set_option maxRecDepth 100000
set_option maxHeartbeats 16000000
namespace Go.Proofs.YtcofnockikninaaGreatDoor
open Go.RowKit
def bv (x : UInt8) : Value := .int .u8 (x.toNat : Int)
def BytesAt (w : World) (x : Value) (l : Bs) : Prop := ValsAt w x (l.map bv)
def OwnB (w : World) (base : Nat) (v : Value) (l : Bs) : Prop := OwnV 5 w base v (l.map bv)
theorem BytesAt.below {a b : World} {x : Value} {l : Bs} (h : BytesAt a x l) (hb : Below a.heap.size a b) : BytesAt b x l := ValsAt.below h hb
theorem OwnB.bytes {w : World} {base : Nat} {v : Value} {l : Bs} (h : OwnB w base v l) : BytesAt w v l := OwnV.vals h
theorem OwnB.below {a b : World} {B : Nat} {v : Value} {l : Bs} (h : OwnB a B v l) (hb : Below a.heap.size a b) : OwnB b B v l := OwnV.below h hb
theorem OwnB.mono {w : World} {B B' : Nat} {v : Value} {l : Bs} (h : OwnB w B v l) (hB : B' ≤ B) : OwnB w B' v l := OwnV.mono h hB
theorem OwnB.form {w : World} {B : Nat} {v : Value} {l : Bs} (h : OwnB w B v l) : ∃ sp c, v = .slice sp l.length c := by
 obtain ⟨sp, c, e⟩ := OwnV.form h
 rw [List.length_map] at e
 exact ⟨sp, c, e⟩
theorem bytes_nil (w : World) : BytesAt w (.slice none 0 0) [] := vals_nil w
theorem ownb_nil (w : World) (base : Nat) : OwnB w base (.slice none 0 0) [] := own_nil 5 w base
theorem elem_of {t e : TypeId} {z : Value} {n : Nat} (hu : Tryz.prog.underlying t = some (.slice e)) (h : (Tryz.prog.info? e).map (fun i => (i.zero, i.size, i.bytes)) = some (some z, 1, n)) (h1 : z.cells.size = 1) (hn : n ≤ 64) : Elem Tryz.prog t e z n := by
 obtain ⟨i, hi, h2⟩ := Option.map_eq_some_iff.1 h
 simp only [Prod.mk.injEq] at h2
 exact ⟨hu, ⟨i, hi, h2.1, h2.2.1, h2.2.2⟩, h1, hn⟩
theorem Eb : Elem Tryz.prog 22 5 (.int .u8 0) 1 := elem_of Tryz.underlying22 (by kernel_rfl) rfl (by omega)
theorem one_bytes (l : Bs) : ∀ u ∈ l.map bv, u.oneCell' = true := fun u hu => by obtain ⟨x, _, rfl⟩ := List.mem_map.1 hu; rfl
theorem bytes_open {w : World} {x : Value} {l : Bs} (h : BytesAt w x l) : ∃ sp c, x = .slice sp l.length c ∧ l.length ≤ c ∧ (sp = none → c = 0) ∧ (l ≠ [] → ∃ b o, sp = some ⟨b, o, none⟩ ∧ b < w.heap.size ∧ ∀ k, k < l.length → w.cell? ⟨b, o + k, none⟩ = some (.int .u8 ((l.getD k 0).toNat : Int))) := by
 have h' := h
 obtain ⟨sp, c, rfl, h1, h2, _⟩ := h'
 rw [List.length_map] at h1
 refine ⟨sp, c, by rw [List.length_map], h1, h2, fun hl => ?_⟩
 obtain ⟨b, o, c2, e, _, hb, hc⟩ := ValsAt.cell h (by simpa using hl)
 simp only [Value.slice.injEq] at e
 obtain ⟨rfl, _, _⟩ := e
 refine ⟨b, o, rfl, hb, fun k hk => ?_⟩
 rw [hc k (by rw [List.length_map]; exact hk)]
 simp [bv, List.getD_eq_getElem?_getD, hk]
theorem wpList_append_bytes {w : World} {ops : Array Oper} {rest : List Oper} {o : Oper} {a : Act} {Q : Exit → Act → World → Prop} (hgd : o.guard = none) (s x : Operand)
  (ho : o.op = .call { callee := .builtin .append, args := #[s, x], argTypes := #[22, 22] }) (base : Nat) (v y : Value) (l m : Bs) (hs : a.eval s = v) (hown : OwnB w base v l)
  (hx : a.eval x = y) (hy : BytesAt w y m) (hb : base ≤ w.heap.size) (hlen : l.length + m.length ≤ 1073741824)
  (h : ∀ v' w', OwnB w' base v' (l ++ m) → w.grownBy w' v.ownBlock → (v'.ownBlock = v.ownBlock ∨ v'.ownBlock = some w.heap.size) → wpList Tryz.prog ops Q rest (a.put o.dst v') w') : wpList Tryz.prog ops Q (o :: rest) a w :=
 wpList_append_vals Eb hgd s x ho base v y (l.map bv) (m.map bv) hs hown hx hy (one_bytes m) hb (by simpa using hlen) fun v' w' h1 h2 h3 => h v' w' (by unfold OwnB; rw [List.map_append]; exact h1) h2 h3
theorem bytes_new (w : World) (l : Bs) : BytesAt (w.alloc (.cells (l.map bv).toArray 5)) (.slice (some ⟨w.heap.size, 0, none⟩) l.length l.length) l := by
 have := vals_new w (l.map bv) 5
 rwa [List.length_map] at this
theorem ownb_below {a b w0 : World} {base : Nat} {v : Value} {l : Bs} (h : OwnB a base v l) (hg : a.grownBy b v.ownBlock) (hB : Below base w0 a) (hs : base ≤ a.heap.size) : Below base w0 b := own_below h hg hB hs
structure Row (wb w : World) (v : Value) (l : Bs) : Prop where
 own : OwnB w wb.heap.size v l
 b : Below wb.heap.size wb w
theorem Row.bytes {wb w : World} {v : Value} {l : Bs} (h : Row wb w v l) : BytesAt w v l := h.own.bytes
theorem Row.call {wb w w' : World} {v : Value} {l : Bs} (h : Row wb w v l) (hb : Below w.heap.size w w') : Row wb w' v l := ⟨h.own.below hb, h.b.trans (hb.mono h.b.size)⟩
theorem Row.lit {wb w : World} {v : Value} {l : Bs} (h : Row wb w v l) (o : Obj) : Row wb (w.alloc o) v l := h.call ((Below.refl _ _).alloc (Nat.le_refl _) _)
theorem Row.up {w0 wb w : World} {v : Value} {l : Bs} (h : Row wb w v l) (hb : Below w0.heap.size w0 wb) : Row w0 w v l := ⟨h.own.mono hb.size, hb.trans (h.b.mono hb.size)⟩
theorem wpList_append_row {wb w : World} {ops : Array Oper} {rest : List Oper} {o : Oper} {a : Act} {Q : Exit → Act → World → Prop} (hgd : o.guard = none) (s x : Operand)
  (ho : o.op = .call { callee := .builtin .append, args := #[s, x], argTypes := #[22, 22] }) (v y : Value) (l m : Bs) (hs : a.eval s = v) (hr : Row wb w v l)
  (hx : a.eval x = y) (hy : BytesAt w y m) (hlen : l.length + m.length ≤ 1073741824)
  (h : ∀ v' w', Row wb w' v' (l ++ m) → wpList Tryz.prog ops Q rest (a.put o.dst v') w') : wpList Tryz.prog ops Q (o :: rest) a w :=
 wpList_append_bytes hgd s x ho wb.heap.size v y l m hs hr.own hx hy hr.b.size hlen fun v' w' h1 h2 _ => h v' w' ⟨h1, ownb_below hr.own h2 hr.b hr.b.size⟩
def Grew (w : World) (v : Value) (w' : World) (v' : Value) : Prop := w.grownBy w' v.ownBlock ∧ (v'.ownBlock = v.ownBlock ∨ v'.ownBlock = some w.heap.size)
def Apart (v u : Value) : Prop := ∀ k, v.ownBlock = some k → u.ownBlock ≠ some k
theorem Grew.kept {w w' : World} {v v' u : Value} {e : TypeId} {B : Nat} {cs : List Value} (h : Grew w v w' v') (ha : Apart v u) (hu : OwnV e w B u cs) : OwnV e w' B u cs ∧ Apart v' u := by
 refine ⟨hu.kept h.1 ?_, fun k hk hq => ?_⟩
 ·cases hq : u.ownBlock with
  | none => exact Or.inl rfl
  | some k => exact Or.inr fun e => ha k e.symm hq
 ·rcases h.2 with hb | hb
  ·rw [hb] at hk; exact ha k hk hq
  ·rw [hb] at hk
   have := (World.ownsRow.lt hu k hq).2
   simp only [Option.some.injEq] at hk
   omega
theorem wpList_append_grew {wb w : World} {ops : Array Oper} {rest : List Oper} {o : Oper} {a : Act} {Q : Exit → Act → World → Prop} (hgd : o.guard = none) (s x : Operand)
  (ho : o.op = .call { callee := .builtin .append, args := #[s, x], argTypes := #[22, 22] }) (v y : Value) (l m : Bs) (hs : a.eval s = v) (hr : Row wb w v l)
  (hx : a.eval x = y) (hy : BytesAt w y m) (hlen : l.length + m.length ≤ 1073741824)
  (h : ∀ v' w', Row wb w' v' (l ++ m) → Grew w v w' v' → wpList Tryz.prog ops Q rest (a.put o.dst v') w') : wpList Tryz.prog ops Q (o :: rest) a w :=
 wpList_append_bytes hgd s x ho wb.heap.size v y l m hs hr.own hx hy hr.b.size hlen fun v' w' h1 h2 h3 => h v' w' ⟨h1, ownb_below hr.own h2 hr.b hr.b.size⟩ ⟨h2, h3⟩
theorem Grew.bytes {w w' : World} {v v' y : Value} {l : Bs} (h : Grew w v w' v') (ha : Apart v y) (hy : BytesAt w y l) (hl : l ≠ []) : BytesAt w' y l ∧ Apart v' y := by
 have hne : l.map bv ≠ [] := by simpa using hl
 refine ⟨?_, fun k hk hq => ?_⟩
 ·obtain ⟨b, o, c, rfl, hc, hb, hcell⟩ := ValsAt.cell hy hne
  refine ⟨_, _, rfl, hc, fun e => (by cases e), fun _ => ⟨b, o, rfl, fun j u hu => ?_⟩⟩
  have hj : j < (l.map bv).length := (List.getElem?_eq_some_iff.1 hu).1
  have h0 := hcell j hj
  have e : w'.cell? ⟨b, o + j, none⟩ = w.cell? ⟨b, o + j, none⟩ := World.cell?_of_block (h.1.block b hb fun e => by
   cases hv : v.ownBlock with
   | none => rw [hv] at e; cases e
   | some k => rw [hv] at e; simp only [Option.some.injEq] at e; exact ha k hv (by simp [Value.ownBlock, e]))
  rw [e, h0, ← hu, List.getD_eq_getElem?_getD, List.getElem?_eq_getElem hj]
  rfl
 ·rcases h.2 with hb | hb
  ·rw [hb] at hk; exact ha k hk hq
  ·rw [hb] at hk
   have := ValsAt.old hy hne k hq
   simp only [Option.some.injEq] at hk
   omega
theorem step_append_row {wb w : World} {ops : Array Oper} {o : Oper} {a : Act} {K : Act → World → Prop} {Q : Exit → Act → World → Prop} {E : Prop} (hgd : o.guard = none) (s x : Operand)
  (ho : o.op = .call { callee := .builtin .append, args := #[s, x], argTypes := #[22, 22] }) (v y : Value) (l m : Bs) (hs : a.eval s = v) (hr : Row wb w v l)
  (hx : a.eval x = y) (hy : BytesAt w y m) (hlen : l.length + m.length ≤ 1073741824)
  (h : ∀ v' w', Row wb w' v' (l ++ m) → Grew w v w' v' → K (a.put o.dst v') w') : if Region.wanted o (yielded ops a.tmps) = true then Oper.wp Tryz.prog o a w K Q else E := by
 have hw : Region.wanted o (yielded ops a.tmps) = true := by simp [Region.wanted, hgd]
 rw [if_pos hw]
 obtain ⟨v', w', hrun, h2, h3, h4⟩ := run_append_vals Eb w wb.heap.size v y (l.map bv) (m.map bv) hr.own hy (one_bytes m) hr.b.size (by simpa using hlen) o.type
 unfold Oper.wp execOp
 simp only [ho, resolve, invoke, builtin, Sem.run_bind, Sem.run_pure, Result.andThen_ok, List.map_toArray, List.map_cons, List.map_nil, hs, hx, hrun]
 exact h v' w' ⟨by unfold OwnB; rw [List.map_append]; exact h2, ownb_below hr.own h3 hr.b hr.b.size⟩ ⟨h3, h4⟩
def GivesB (w : World) (f : FuncId) (args : Array Value) (l : Bs) : Prop :=
 Calls Tryz.prog f args w fun e w' => ∃ v, e = .returned v ∧ Row w w' v l
def dcells (c t : Int) (m : Bool) (xb xk : Value) : List Value := [.int .i64 c, .int .i64 t, .bool m, xb, xk]
def CellsAt (w : World) (b o : Nat) (cs : List Value) : Prop := ∀ j u, cs[j]? = some u → w.cell? ⟨b, o + j, none⟩ = some u
def VAt : Nat → (Nat → Prop) → World → List Value → DV → Prop
 | 0, _, _, _, _ => False
 | n + 1, S, w, cs, v => ∃ xb sk ck, cs = dcells v.cls v.tag v.made xb (.slice sk v.kids.length ck) ∧ BytesAt w xb v.bytes ∧ (v.bytes ≠ [] → ∀ k, xb.ownBlock = some k → S k) ∧ (v.bytes.length ≤ 9223372036854775807 ∧ v.kids.length ≤ 9223372036854775807) ∧ v.kids.length ≤ ck ∧ (sk = none → ck = 0) ∧
   (v.kids ≠ [] → ∃ b o, sk = some ⟨b, o, none⟩ ∧ S b ∧ ∀ i k, v.kids[i]? = some k → ∃ ds, CellsAt w b (o + i * 5) ds ∧ VAt n S w ds k)
def ValAt (S : Nat → Prop) (w : World) (cs : List Value) (v : DV) : Prop := ∃ n, VAt n S w cs v
theorem CellsAt.below {a b : World} {B o : Nat} {cs : List Value} (h : CellsAt a B o cs) (hb : Below a.heap.size a b) : CellsAt b B o cs := fun j u hu => by
 have h1 := h j u hu
 have hlt : B < a.heap.size := World.block_lt_of_cell? a _ h1
 rw [hb.cell (p := ⟨B, o + j, none⟩) hlt]
 exact h1
theorem CellsAt.kept {a b : World} {B o : Nat} {row : Option Nat} {cs : List Value} (h : CellsAt a B o cs) (hg : a.grownBy b row) (hne : some B ≠ row) : CellsAt b B o cs := fun j u hu => by
 have h1 := h j u hu
 have hlt : B < a.heap.size := World.block_lt_of_cell? a _ h1
 rw [World.cell?_of_block (hg.block B hlt hne)]
 exact h1
theorem VAt.len {n : Nat} {S : Nat → Prop} {w : World} {cs : List Value} {v : DV} (h : VAt n S w cs v) : cs.length = 5 := by
 cases n with
 | zero => exact h.elim
 | succ n => obtain ⟨_, _, _, rfl, _⟩ := h; rfl
theorem VAt.below : ∀ {n : Nat} {S : Nat → Prop} {a b : World} {cs : List Value} {v : DV}, VAt n S a cs v → Below a.heap.size a b → VAt n S b cs v
 | 0, _, _, _, _, _, h, _ => h
 | n + 1, S, a, b, cs, v, h, hb => by
  obtain ⟨xb, sk, ck, e, h1, h2, h6, h3, h4, h5⟩ := h
  refine ⟨xb, sk, ck, e, h1.below hb, h2, h6, h3, h4, fun hk => ?_⟩
  obtain ⟨b', o, e2, hB, hi⟩ := h5 hk
  refine ⟨b', o, e2, hB, fun i k hik => ?_⟩
  obtain ⟨ds, hc, hv⟩ := hi i k hik
  exact ⟨ds, hc.below hb, VAt.below hv hb⟩
theorem VAt.mono : ∀ {n : Nat} {S S' : Nat → Prop} {a : World} {cs : List Value} {v : DV}, VAt n S a cs v → (∀ b, S b → b < a.heap.size → S' b) → VAt n S' a cs v
 | 0, _, _, _, _, _, h, _ => h
 | n + 1, S, S', a, cs, v, h, hs => by
  obtain ⟨xb, sk, ck, e, h1, h2, h6, h3, h4, h5⟩ := h
  refine ⟨xb, sk, ck, e, h1, fun hne k hk => hs k (h2 hne k hk) (ValsAt.old h1 (by simpa using hne) k hk), h6, h3, h4, fun hk => ?_⟩
  obtain ⟨b', o, e2, hB, hi⟩ := h5 hk
  have hlt : b' < a.heap.size := by
   obtain ⟨k0, hk0⟩ : ∃ k0, v.kids[0]? = some k0 := by cases hv : v.kids with | nil => exact absurd hv hk | cons k0 r => exact ⟨k0, rfl⟩
   obtain ⟨ds, hc, hv⟩ := hi 0 k0 hk0
   have hl := hv.len
   obtain ⟨u, hu⟩ : ∃ u, ds[0]? = some u := ⟨_, List.getElem?_eq_getElem (by omega)⟩
   exact World.block_lt_of_cell? a _ (hc 0 u hu)
  refine ⟨b', o, e2, hs b' hB hlt, fun i k hik => ?_⟩
  obtain ⟨ds, hc, hv⟩ := hi i k hik
  exact ⟨ds, hc, VAt.mono hv hs⟩
theorem VAt.more : ∀ {n m : Nat} {S : Nat → Prop} {a : World} {cs : List Value} {v : DV}, VAt n S a cs v → n ≤ m → VAt m S a cs v
 | 0, _, _, _, _, _, h, _ => h.elim
 | n + 1, 0, _, _, _, _, _, h => by omega
 | n + 1, m + 1, S, a, cs, v, h, hn => by
  obtain ⟨xb, sk, ck, e, h1, h2, h6, h3, h4, h5⟩ := h
  refine ⟨xb, sk, ck, e, h1, h2, h6, h3, h4, fun hk => ?_⟩
  obtain ⟨b', o, e2, hB, hi⟩ := h5 hk
  refine ⟨b', o, e2, hB, fun i k hik => ?_⟩
  obtain ⟨ds, hc, hv⟩ := hi i k hik
  exact ⟨ds, hc, VAt.more hv (by omega)⟩
theorem VAt.kept : ∀ {n : Nat} {S : Nat → Prop} {row : Option Nat} {a b : World} {cs : List Value} {v : DV}, VAt n S a cs v → a.grownBy b row → (∀ g, row = some g → ¬ S g) → VAt n S b cs v
 | 0, _, _, _, _, _, _, h, _, _ => h
 | n + 1, S, row, a, b, cs, v, h, hg, hS => by
  obtain ⟨xb, sk, ck, e, h1, h2, h6, h3, h4, h5⟩ := h
  refine ⟨xb, sk, ck, e, ?_, h2, h6, h3, h4, fun hk => ?_⟩
  ·by_cases hne : v.bytes = []
   ·obtain ⟨sp, c, rfl, g1, g2, _⟩ := h1
    exact ⟨sp, c, rfl, g1, g2, fun hn => absurd (by rw [hne]; rfl) hn⟩
   ·have hne2 : v.bytes.map bv ≠ [] := by simpa using hne
    obtain ⟨b0, o0, c0, e0, hc0, hb0, hcell⟩ := ValsAt.cell h1 hne2
    subst e0
    refine ⟨_, _, rfl, hc0, fun e => (by cases e), fun _ => ⟨b0, o0, rfl, fun j u hu => ?_⟩⟩
    have hj : j < (v.bytes.map bv).length := (List.getElem?_eq_some_iff.1 hu).1
    have hS0 : some b0 ≠ row := fun er => hS b0 er.symm (h2 hne b0 rfl)
    rw [World.cell?_of_block (hg.block b0 hb0 hS0), hcell j hj, ← hu, List.getD_eq_getElem?_getD, List.getElem?_eq_getElem hj]
    rfl
  ·obtain ⟨b', o, e2, hB, hi⟩ := h5 hk
   refine ⟨b', o, e2, hB, fun i k hik => ?_⟩
   obtain ⟨ds, hc, hv⟩ := hi i k hik
   exact ⟨ds, hc.kept hg (fun er => hS b' er.symm hB), VAt.kept hv hg hS⟩
theorem ValAt.below {S : Nat → Prop} {a b : World} {cs : List Value} {v : DV} (h : ValAt S a cs v) (hb : Below a.heap.size a b) : ValAt S b cs v := by
 obtain ⟨n, h⟩ := h
 exact ⟨n, h.below hb⟩
theorem ValAt.mono {S S' : Nat → Prop} {a : World} {cs : List Value} {v : DV} (h : ValAt S a cs v) (hb : ∀ b, S b → b < a.heap.size → S' b) : ValAt S' a cs v := by
 obtain ⟨n, h⟩ := h
 exact ⟨n, h.mono hb⟩
theorem ValAt.kept {S : Nat → Prop} {row : Option Nat} {a b : World} {cs : List Value} {v : DV} (h : ValAt S a cs v) (hg : a.grownBy b row) (hS : ∀ g, row = some g → ¬ S g) : ValAt S b cs v := by
 obtain ⟨n, h⟩ := h
 exact ⟨n, h.kept hg hS⟩
theorem CellsAt.five {w : World} {b o : Nat} {c t : Int} {m : Bool} {xb xk : Value} (h : CellsAt w b o (dcells c t m xb xk)) :
  w.cell? ⟨b, o, none⟩ = some (.int .i64 c) ∧ w.cell? ⟨b, o + 1, none⟩ = some (.int .i64 t) ∧ w.cell? ⟨b, o + 2, none⟩ = some (.bool m) ∧ w.cell? ⟨b, o + 3, none⟩ = some xb ∧ w.cell? ⟨b, o + 4, none⟩ = some xk :=
 ⟨h 0 _ rfl, h 1 _ rfl, h 2 _ rfl, h 3 _ rfl, h 4 _ rfl⟩
theorem VAt.form {n : Nat} {S : Nat → Prop} {w : World} {cs : List Value} {v : DV} (h : VAt n S w cs v) : ∃ s1 c1 s2 c2, cs = dcells v.cls v.tag v.made (.slice s1 v.bytes.length c1) (.slice s2 v.kids.length c2) := by
 cases n with
 | zero => exact h.elim
 | succ n =>
  obtain ⟨xb, s2, c2, rfl, hx, _⟩ := h
  obtain ⟨s1, c1, rfl, _⟩ := bytes_open hx
  exact ⟨s1, c1, s2, c2, rfl⟩
theorem CellsAt.five0 {w : World} {b : Nat} {c t : Int} {m : Bool} {xb xk : Value} (h : CellsAt w b 0 (dcells c t m xb xk)) :
  w.cell? ⟨b, 0, none⟩ = some (.int .i64 c) ∧ w.cell? ⟨b, 1, none⟩ = some (.int .i64 t) ∧ w.cell? ⟨b, 2, none⟩ = some (.bool m) ∧ w.cell? ⟨b, 3, none⟩ = some xb ∧ w.cell? ⟨b, 4, none⟩ = some xk :=
 ⟨h 0 _ rfl, h 1 _ rfl, h 2 _ rfl, h 3 _ rfl, h 4 _ rfl⟩
theorem cells_new (w : World) (cs : List Value) (t : TypeId) : CellsAt (w.alloc (.cells cs.toArray t)) w.heap.size 0 cs := fun j u hu => by
 rw [cell_of_row _ _ _ _ t (0, 0) (heap_alloc_new w _), Nat.zero_add, List.getElem?_toArray]
 exact hu
mutual
def weight : DV → Nat
 | .mk _ _ _ b ks => 1 + b.length + weights ks
def weights : List DV → Nat
 | [] => 0
 | v :: l => weight v + weights l
end
theorem weight_kid : ∀ {ks : List DV} {i : Nat} {k : DV}, ks[i]? = some k → weight k ≤ weights ks
 | [], i, k, h => by simp at h
 | v :: l, 0, k, h => by simp at h; subst h; simp [weights]
 | v :: l, i + 1, k, h => by
  have := weight_kid (ks := l) (i := i) (k := k) (by simpa using h)
  simp only [weights]
  omega
theorem weights_len : ∀ ks : List DV, ks.length ≤ weights ks
 | [] => by simp
 | v :: l => by
  have := weights_len l
  have h1 : 1 ≤ weight v := by cases v; simp only [weight]; omega
  simp only [weights, List.length_cons]
  omega
theorem weights_take : ∀ (ks : List DV) (i : Nat) (k : DV), ks[i]? = some k → weights (ks.take (i + 1)) = weights (ks.take i) + weight k
 | [], i, k, h => by simp at h
 | v :: l, 0, k, h => by simp at h; subst h; simp [weights]
 | v :: l, i + 1, k, h => by
  have := weights_take l i k (by simpa using h)
  simp only [List.take_succ_cons, weights]
  omega
def errOf {α : Type} : Told α → Nat
 | .no e => e
 | .yes _ => 0
def valOf : Told DV → DV
 | .no _ => .mk 0 0 false [] []
 | .yes v => v
def bytesOf : Told Bs → Bs
 | .no _ => []
 | .yes b => b
structure Der (R : World → Prop) : Prop where
 below : ∀ a b, R a → Below a.heap.size a b → R b
 write : ∀ (w : World) (S : Nat → Prop) (cs : List Value) (v : DV), R w → ValAt S w cs v → weight v ≤ 1000000 → Calls Tryz.prog 80 #[.agg cs.toArray] w fun e w' => ∃ x, e = .returned (.tuple #[x, .int .i64 (errOf (writeTop formD v) : Int)]) ∧ OwnB w' w.heap.size x (bytesOf (writeTop formD v)) ∧ Below w.heap.size w w'
theorem write_pos (form : Form) : ∀ (f : Nat) (v : DV) (e : Nat), writeP form f v = .no e → e ≠ 0
 | 0, v, e, h => by simp [writeP] at h; omega
 | f + 1, .mk c t m b ks, e, h => by
  unfold writeP at h
  split at h
  ·cases h; omega
  split at h
  ·cases h; omega
  split at h
  ·cases h; omega
  split at h
  ·rename_i e' he
   cases h
   have key : ∀ l : List DV, ∀ e, allP (writeP form f) l = .no e → e ≠ 0 := fun l => by
    induction l with
    | nil => intro e h; simp [allP] at h
    | cons v l ih =>
     intro e h
     unfold allP at h
     split at h
     ·rename_i e2 h2
      cases h
      exact write_pos form f v _ h2
     ·split at h
      ·rename_i e2 h2
       cases h
       exact ih _ h2
      ·cases h
   exact key ks _ he
  ·split at h
   ·cases h; omega
   ·cases h
theorem top_pos (form : Form) (v : DV) (e : Nat) (h : writeTop form v = .no e) : e ≠ 0 := by
 unfold writeTop at h
 split at h
 ·rename_i e' he
  cases h
  exact write_pos form 17 v _ he
 ·split at h
  ·cases h; omega
  ·cases h
namespace K
theorem u8_dec (c : UInt8) (n : Nat) (h : n < 256) : decide (c = UInt8.ofNat n) = decide (c.toNat = n) := by
 have e : (UInt8.ofNat n).toNat = n := by rw [UInt8.toNat_ofNat']; omega
 by_cases hc : c.toNat = n
 ·rw [decide_eq_true hc, decide_eq_true (UInt8.toNat_inj.1 (by rw [e]; exact hc))]
 ·rw [decide_eq_false hc, decide_eq_false (fun h2 => hc (by rw [h2]; exact e))]
theorem right1 (b : Bs) : rightP 1 b = (decide (b.length = 1) && (decide ((b.getD 0 0).toNat = 0) || decide ((b.getD 0 0).toNat = 255))) := by
 unfold rightP
 rw [if_pos rfl, ← u8_dec _ 0 (by omega), ← u8_dec _ 255 (by omega)]
 rfl
theorem right2 {t : Nat} (ht : t = 2 ∨ t = 10) (b : Bs) : rightP t b = (decide (b.length = 1) || (decide (1 < b.length) && (!decide ((b.getD 0 0).toNat = 0) || decide (128 ≤ (b.getD 1 0).toNat)) && (!decide ((b.getD 0 0).toNat = 255) || decide ((b.getD 1 0).toNat < 128)))) := by
 unfold rightP
 rw [if_neg (by omega), if_pos ht, ← u8_dec _ 0 (by omega), ← u8_dec _ 255 (by omega)]
 rfl
theorem right3 (b : Bs) : rightP 3 b = (if b.length = 0 ∨ 7 < (b.getD 0 0).toNat then false else if b.length = 1 then decide ((b.getD 0 0).toNat = 0) else decide ((b.getD (b.length - 1) 0).toNat % 2 ^ (b.getD 0 0).toNat = 0)) := by
 unfold rightP
 rw [if_neg (by omega), if_neg (by omega), if_pos rfl, ← u8_dec _ 0 (by omega)]
 rfl
theorem right5 (b : Bs) : rightP 5 b = decide (b.length = 0) := by
 unfold rightP
 rw [if_neg (by omega), if_neg (by omega), if_neg (by omega), if_pos rfl]
theorem right4 (b : Bs) : rightP 4 b = true := by
 unfold rightP
 rw [if_neg (by omega), if_neg (by omega), if_neg (by omega), if_neg (by omega), if_neg (by omega), if_neg (by omega), if_neg (by omega), if_neg (by omega), if_neg (by omega), if_neg (by omega)]
theorem byte_at {w : World} {sp : Option Addr} {N c : Nat} {b : Bs} (h : BytesAt w (.slice sp N c) b) (hN : b.length = N) (k : Nat) (hk : k < N) : ∃ ba oa p, sp = some ⟨ba, oa, none⟩ ∧ (b.getD k 0).toNat = p ∧ p < 256 ∧ w.cell? ⟨ba, oa + k, none⟩ = some (.int .u8 (p : Int)) := by
 obtain ⟨s, c', e, _, _, hc⟩ := bytes_open h
 simp only [Value.slice.injEq] at e
 obtain ⟨rfl, _, _⟩ := e
 obtain ⟨ba, oa, e2, _, hcell⟩ := hc (fun e => by rw [e] at hN; simp at hN; omega)
 exact ⟨ba, oa, _, e2, rfl, (b.getD k 0).toNat_lt, hcell k (by omega)⟩
theorem right19 (b : Bs) : rightP 19 b = b.all printP := by
 unfold rightP
 rw [if_neg (by omega), if_neg (by omega), if_neg (by omega), if_neg (by omega), if_neg (by omega), if_neg (by omega), if_pos rfl]
theorem right22 (b : Bs) : rightP 22 b = b.all fun c => decide (c.toNat < 128) := by
 unfold rightP
 rw [if_neg (by omega), if_neg (by omega), if_neg (by omega), if_neg (by omega), if_neg (by omega), if_neg (by omega), if_neg (by omega), if_pos rfl]
theorem right6 (b : Bs) : rightP 6 b = oidP b := by
 unfold rightP
 rw [if_neg (by omega), if_neg (by omega), if_neg (by omega), if_neg (by omega), if_pos rfl]
theorem all_not {b : Bs} {f : UInt8 → Bool} {k : Nat} (hk : k < b.length) (h : f (b.getD k 0) = false) : b.all f = false := by
 rw [List.all_eq_false]
 refine ⟨b.getD k 0, ?_, by rw [h]; simp⟩
 rw [List.getD_eq_getElem?_getD, List.getElem?_eq_getElem hk, Option.getD_some]
 exact List.getElem_mem hk
theorem all_all {b : Bs} {f : UInt8 → Bool} (h : ∀ k, k < b.length → f (b.getD k 0) = true) : b.all f = true := by
 rw [List.all_eq_true]
 intro c hc
 obtain ⟨k, hk, rfl⟩ := List.getElem_of_mem hc
 have := h k hk
 rwa [List.getD_eq_getElem?_getD, List.getElem?_eq_getElem hk, Option.getD_some] at this
def badAt (b : Bs) (i : Nat) : Bool := decide ((b.getD i 0).toNat = 128) && (decide (i = 0) || decide ((b.getD (i - 1) 0).toNat < 128))
theorem oidP_eq (b : Bs) : oidP b = (((List.range b.length).all fun i => !badAt b i) && decide (0 < b.length) && decide ((b.getD (b.length - 1) 0).toNat < 128)) := by
 unfold oidP badAt
 congr 2
 congr 1
 funext i
 rw [← u8_dec _ 128 (by omega)]
 rfl
theorem oid_bad {b : Bs} {k : Nat} (hk : k < b.length) (h : badAt b k = true) : oidP b = false := by
 rw [oidP_eq]
 have : ((List.range b.length).all fun i => !badAt b i) = false := by
  rw [List.all_eq_false]
  exact ⟨k, List.mem_range.2 hk, by rw [h]; simp⟩
 rw [this]
 rfl
theorem oid_good {b : Bs} (h : ∀ k, k < b.length → badAt b k = false) : oidP b = (decide (0 < b.length) && decide ((b.getD (b.length - 1) 0).toNat < 128)) := by
 rw [oidP_eq]
 have : ((List.range b.length).all fun i => !badAt b i) = true := by
  rw [List.all_eq_true]
  intro k hk
  rw [h k (List.mem_range.1 hk)]
  rfl
 rw [this]
 rfl
def BFn (R : World → Prop) (f : Nat) (g : Bs → Bool) : Prop := ∀ (w : World) (x : Value) (b : Bs), R w → BytesAt w x b → b.length ≤ 1000000 → Calls Tryz.prog f #[x] w fun e w' => e = .returned (.bool (g b)) ∧ Below w.heap.size w w'
end K
namespace K
theorem print_cases : ∀ c : Fin 256, printP (UInt8.ofNat c.val) = ((decide (65 ≤ c.val) && decide (c.val ≤ 90)) || (decide (97 ≤ c.val) && decide (c.val ≤ 122)) || (decide (48 ≤ c.val) && decide (c.val ≤ 57)) || [32, 39, 40, 41, 43, 44, 45, 46, 47, 58, 61, 63].contains c.val) := by decide +kernel
theorem print_eq (c : UInt8) : printP c = ((decide (65 ≤ c.toNat) && decide (c.toNat ≤ 90)) || (decide (97 ≤ c.toNat) && decide (c.toNat ≤ 122)) || (decide (48 ≤ c.toNat) && decide (c.toNat ≤ 57)) || [32, 39, 40, 41, 43, 44, 45, 46, 47, 58, 61, 63].contains c.toNat) := by
 have h := print_cases ⟨c.toNat, c.toNat_lt⟩
 rw [UInt8.ofNat_toNat] at h
 exact h
theorem print_c (c : UInt8) (w : World) : Calls Tryz.prog 110 #[.int .u8 (c.toNat : Int)] w fun e w' => e = .returned (.bool (printP c)) ∧ w' = w := by
 rw [print_eq]
 have hlt := c.toNat_lt
 obtain ⟨p, hp⟩ := exq c.toNat
 rw [hp] at hlt ⊢
 clear hp
 by_cases hA : 65 ≤ p ∧ p ≤ 90
 ·have HT : Hid ((decide (65 ≤ p) && decide (p ≤ 90) || decide (97 ≤ p) && decide (p ≤ 122) || decide (48 ≤ p) && decide (p ≤ 57) || [32, 39, 40, 41, 43, 44, 45, 46, 47, 58, 61, 63].contains p) = true) := by show _ = _; simp [hA.1, hA.2]
  obtain ⟨d1, d1n⟩ := leLV 65 65 p
  obtain ⟨d2, d2n⟩ := leVL p 90 90
  clear hA
  go_enter Tryz.func110, Tryz.ntmps110
  go_wp2
  go_ret
  exact ⟨by rw [u_ HT]; rfl, rfl⟩
 by_cases ha : 97 ≤ p ∧ p ≤ 122
 ·have HT : Hid ((decide (65 ≤ p) && decide (p ≤ 90) || decide (97 ≤ p) && decide (p ≤ 122) || decide (48 ≤ p) && decide (p ≤ 57) || [32, 39, 40, 41, 43, 44, 45, 46, 47, 58, 61, 63].contains p) = true) := by show _ = _; simp [ha.1, ha.2]
  obtain ⟨d1, d1n⟩ := leLV 65 65 p
  obtain ⟨d2, d2n⟩ := leVLf p 90 90
  obtain ⟨d3, d3n⟩ := leLV 97 97 p
  obtain ⟨d4, d4n⟩ := leVL p 122 122
  clear hA ha
  go_enter Tryz.func110, Tryz.ntmps110
  go_wp2
  go_ret
  exact ⟨by rw [u_ HT]; rfl, rfl⟩
 by_cases h0 : 48 ≤ p ∧ p ≤ 57
 ·have HT : Hid ((decide (65 ≤ p) && decide (p ≤ 90) || decide (97 ≤ p) && decide (p ≤ 122) || decide (48 ≤ p) && decide (p ≤ 57) || [32, 39, 40, 41, 43, 44, 45, 46, 47, 58, 61, 63].contains p) = true) := by show _ = _; simp [h0.1, h0.2]
  obtain ⟨d1, d1n⟩ := leLVf 65 65 p
  obtain ⟨d3, d3n⟩ := leLVf 97 97 p
  obtain ⟨d5, d5n⟩ := leLV 48 48 p
  obtain ⟨d6, d6n⟩ := leVL p 57 57
  clear hA ha h0
  go_enter Tryz.func110, Tryz.ntmps110
  go_wp2
  go_ret
  exact ⟨by rw [u_ HT]; rfl, rfl⟩
 by_cases hs : p = 32 ∨ p = 39 ∨ p = 40 ∨ p = 41 ∨ p = 43 ∨ p = 44 ∨ p = 45 ∨ p = 46 ∨ p = 47 ∨ p = 58 ∨ p = 61 ∨ p = 63
 ·clear hA ha h0
  rcases hs with rfl | rfl | rfl | rfl | rfl | rfl | rfl | rfl | rfl | rfl | rfl | rfl <;>
  ·go_enter Tryz.func110, Tryz.ntmps110
   go_wp2
   go_ret
   exact ⟨rfl, rfl⟩
 ·have HT : Hid ((decide (65 ≤ p) && decide (p ≤ 90) || decide (97 ≤ p) && decide (p ≤ 122) || decide (48 ≤ p) && decide (p ≤ 57) || [32, 39, 40, 41, 43, 44, 45, 46, 47, 58, 61, 63].contains p) = false) := by
   show _ = _
   have e1 : (decide (65 ≤ p) && decide (p ≤ 90)) = false := by simp; omega
   have e2 : (decide (97 ≤ p) && decide (p ≤ 122)) = false := by simp; omega
   have e3 : (decide (48 ≤ p) && decide (p ≤ 57)) = false := by simp; omega
   rw [e1, e2, e3]
   simp
   omega
  have e32 : ((p : Int) == 32) = false := by simp; omega
  have e39 : ((p : Int) == 39) = false := by simp; omega
  have e40 : ((p : Int) == 40) = false := by simp; omega
  have e41 : ((p : Int) == 41) = false := by simp; omega
  have e43 : ((p : Int) == 43) = false := by simp; omega
  have e44 : ((p : Int) == 44) = false := by simp; omega
  have e45 : ((p : Int) == 45) = false := by simp; omega
  have e46 : ((p : Int) == 46) = false := by simp; omega
  have e47 : ((p : Int) == 47) = false := by simp; omega
  have e58 : ((p : Int) == 58) = false := by simp; omega
  have e61 : ((p : Int) == 61) = false := by simp; omega
  have e63 : ((p : Int) == 63) = false := by simp; omega
  obtain ⟨u1, hu1⟩ := exq (decide ((65 : Int) ≤ (p : Int)))
  rcases (by omega : p < 48 ∨ (57 < p ∧ p < 65) ∨ (90 < p ∧ p < 97) ∨ 122 < p) with h | h | h | h
  ·obtain ⟨d1, d1n⟩ := leLVf 65 65 p
   obtain ⟨d3, d3n⟩ := leLVf 97 97 p
   obtain ⟨d5, d5n⟩ := leLVf 48 48 p
   clear hA ha h0 h hs hu1 u1
   go_enter Tryz.func110, Tryz.ntmps110
   go_wp2
   go_ret
   exact ⟨by rw [u_ HT]; rfl, rfl⟩
  ·obtain ⟨d1, d1n⟩ := leLVf 65 65 p
   obtain ⟨d3, d3n⟩ := leLVf 97 97 p
   obtain ⟨d5, d5n⟩ := leLV 48 48 p
   obtain ⟨d6, d6n⟩ := leVLf p 57 57
   clear hA ha h0 h hs hu1 u1
   go_enter Tryz.func110, Tryz.ntmps110
   go_wp2
   go_ret
   exact ⟨by rw [u_ HT]; rfl, rfl⟩
  ·obtain ⟨d1, d1n⟩ := leLV 65 65 p
   obtain ⟨d2, d2n⟩ := leVLf p 90 90
   obtain ⟨d3, d3n⟩ := leLVf 97 97 p
   obtain ⟨d5, d5n⟩ := leLV 48 48 p
   obtain ⟨d6, d6n⟩ := leVLf p 57 57
   clear hA ha h0 h hs hu1 u1
   go_enter Tryz.func110, Tryz.ntmps110
   go_wp2
   go_ret
   exact ⟨by rw [u_ HT]; rfl, rfl⟩
  ·obtain ⟨d1, d1n⟩ := leLV 65 65 p
   obtain ⟨d2, d2n⟩ := leVLf p 90 90
   obtain ⟨d3, d3n⟩ := leLV 97 97 p
   obtain ⟨d4, d4n⟩ := leVLf p 122 122
   obtain ⟨d5, d5n⟩ := leLV 48 48 p
   obtain ⟨d6, d6n⟩ := leVLf p 57 57
   clear hA ha h0 h hs hu1 u1
   go_enter Tryz.func110, Tryz.ntmps110
   go_wp2
   go_ret
   exact ⟨by rw [u_ HT]; rfl, rfl⟩
theorem notprint_c (c : UInt8) (w : World) : Calls Tryz.prog 195 #[.int .u8 (c.toNat : Int)] w fun e w' => e = .returned (.bool (!printP c)) ∧ w' = w := by
 have H := h_ (print_c c w)
 obtain ⟨p, hp⟩ := exq c.toNat
 obtain ⟨u, hu⟩ := exq (printP c)
 rw [hp, hu] at H
 rw [hp, hu]
 clear hp hu
 go_enter Tryz.func195, Tryz.ntmps195
 go_wp2_with fail
 refine H.mono ?_
 rintro e w1 ⟨rfl, rfl⟩
 go_wp2
 go_ret
 exact ⟨rfl, rfl⟩
theorem notascii_c (c : UInt8) (w : World) : Calls Tryz.prog 196 #[.int .u8 (c.toNat : Int)] w fun e w' => e = .returned (.bool (!decide (c.toNat < 128))) ∧ w' = w := by
 obtain ⟨p, hp⟩ := exq c.toNat
 rw [hp]
 clear hp
 by_cases h : p < 128
 ·obtain ⟨d1, d1n⟩ := leLVf 128 128 p
  have HT : Hid (decide (p < 128) = true) := by show _ = _; simp; omega
  go_enter Tryz.func196, Tryz.ntmps196
  go_wp2
  go_ret
  exact ⟨by rw [u_ HT]; rfl, rfl⟩
 ·obtain ⟨d1, d1n⟩ := leLV 128 128 p
  have HT : Hid (decide (p < 128) = false) := by show _ = _; simp; omega
  go_enter Tryz.func196, Tryz.ntmps196
  go_wp2
  go_ret
  exact ⟨by rw [u_ HT]; rfl, rfl⟩
theorem index_c (f : Nat) (g : UInt8 → Bool) (hen : ∀ args w, (callFunc f args).run Tryz.prog w = .ok (.enter f args) w) (hf : ∀ (c : UInt8) (w : World), Calls Tryz.prog f #[.int .u8 (c.toNat : Int)] w fun e w' => e = .returned (.bool (!g c)) ∧ w' = w)
  (w : World) (x : Value) (b : Bs) (hx : BytesAt w x b) (hl : b.length ≤ 1000000) :
  Calls Tryz.prog 202 #[x, .func (.func f) #[] #[]] w fun e w' => ∃ k : Int, e = .returned (.int .i64 k) ∧ decide (0 ≤ k) = !b.all g ∧ w' = w := by
 obtain ⟨sp, c, rfl, _, _, _⟩ := bytes_open hx
 obtain ⟨N, hN⟩ := exq b.length
 have HN := h_ hN
 rw [hN] at hx hl ⊢
 have HX := h_ hx
 have HF := h_ hf
 clear hx hN hf
 go_enter Tryz.func202, Tryz.ntmps202
 go_wp2
 go_loopw [8] (fun ii wr => ∃ k : Nat, k ≤ N ∧ ii = .int .i64 (k : Int) ∧ wr = w ∧ Hid (∀ j, j < k → g (b.getD j 0) = true)) (fun ii _ => N - (intOf ii).toNat)
 case atStart => exact ⟨0, by omega, rfl, rfl, fun j hj => by omega⟩
 case round =>
  obtain ⟨k, hk, rfl, hwr, HE⟩ := hrel
  have := hwr.symm
  subst this
  by_cases hlt : k < N
  ·obtain ⟨ba, oa, p, rfl, hp, hpb, hc⟩ := byte_at (u_ HX) (u_ HN) k hlt
   have Hpr := h_ (u_ HF (b.getD k 0) w)
   rw [hp] at Hpr
   obtain ⟨d1, d1n⟩ := ltVV k N
   have k0 : (0 : Int) ≤ (k : Int) := by omega
   have k1 : (k : Int) < (N : Int) := by omega
   obtain ⟨u, hu⟩ := exq (g (b.getD k 0))
   have Hu := h_ hu
   rw [hu] at Hpr
   clear hp hu
   go_wp2_with fail
   refine Hpr.mono ?_
   rintro e w1 ⟨rfl, rfl⟩
   cases u with
   | false =>
    have HT : Hid (decide ((0 : Int) ≤ (k : Int)) = !b.all g) := by
     show _ = _
     rw [all_not (by rw [u_ HN]; exact hlt) (u_ Hu)]
     simp
    clear HE Hpr
    go_wp2
    go_ret
    exact ⟨_, rfl, u_ HT, rfl⟩
   | true =>
    have HE2 : Hid (∀ j, j < k + 1 → g (b.getD j 0) = true) := fun j hj => by
     by_cases e : j = k
     ·rw [e]; exact u_ Hu
     ·exact u_ HE j (by omega)
    clear HE Hpr
    go_wp2
    go_roundw
    case rel =>
     first
      | exact ⟨k + 1, by omega, by go_num, rfl, HE2⟩
      | exact ⟨k + 1, by omega, by go_num, trivial, HE2⟩
      | ((repeat apply Exists.intro); exact ⟨⟨k + 1, by omega, by go_num, rfl, HE2⟩, rfl⟩)
      | ((repeat apply Exists.intro); exact ⟨⟨k + 1, by omega, by go_num, trivial, HE2⟩, rfl⟩)
    case measure => simp [intOf]; omega
  ·obtain rfl : k = N := by omega
   have d1 : decide ((k : Int) < (k : Int)) = false := by simp
   have HT : Hid (b.all g = true) := all_all (fun j hj => u_ HE j (by rw [← u_ HN]; exact hj))
   clear HE
   go_wp2
   go_ret
   exact ⟨_, rfl, by rw [u_ HT]; decide, rfl⟩
theorem contains_c (f : Nat) (g : UInt8 → Bool) (hen : ∀ args w, (callFunc f args).run Tryz.prog w = .ok (.enter f args) w) (hf : ∀ (c : UInt8) (w : World), Calls Tryz.prog f #[.int .u8 (c.toNat : Int)] w fun e w' => e = .returned (.bool (!g c)) ∧ w' = w)
  (w : World) (x : Value) (b : Bs) (hx : BytesAt w x b) (hl : b.length ≤ 1000000) :
  Calls Tryz.prog 194 #[x, .func (.func f) #[] #[]] w fun e w' => e = .returned (.bool (!b.all g)) ∧ w' = w := by
 have H := h_ (index_c f g hen hf w x b hx hl)
 obtain ⟨sp, c, rfl, _, _, _⟩ := bytes_open hx
 obtain ⟨N, hN⟩ := exq b.length
 rw [hN] at H ⊢
 clear hx hN hf hen
 go_enter Tryz.func194, Tryz.ntmps194
 go_wp2_with fail
 refine H.mono ?_
 rintro e w1 ⟨k, rfl, hk, rfl⟩
 have Hk := h_ hk
 clear hk
 go_wp2
 go_ret
 exact ⟨by rw [← u_ Hk]; rfl, rfl⟩
theorem isprint_c (R : World → Prop) : BFn R 179 (rightP 19) := fun w x b _ hx hl => by
 have H := h_ (contains_c 195 printP (enters_of Tryz.func195 (by kernel_rfl) rfl) notprint_c w x b hx hl)
 have Hb := h_ (Below.refl w.heap.size w)
 rw [right19]
 obtain ⟨sp, c, rfl, _, _, _⟩ := bytes_open hx
 obtain ⟨N, hN⟩ := exq b.length
 obtain ⟨u, hu⟩ := exq (b.all printP)
 rw [hN, hu] at H
 rw [hN, hu]
 clear hx hN hu
 go_enter Tryz.func179, Tryz.ntmps179
 go_wp2_with fail
 refine H.mono ?_
 rintro e w1 ⟨rfl, rfl⟩
 go_wp2
 go_ret
 exact ⟨by cases u <;> rfl, u_ Hb⟩
theorem isascii_c (R : World → Prop) : BFn R 180 (rightP 22) := fun w x b _ hx hl => by
 have H := h_ (contains_c 196 (fun c => decide (c.toNat < 128)) (enters_of Tryz.func196 (by kernel_rfl) rfl) notascii_c w x b hx hl)
 have Hb := h_ (Below.refl w.heap.size w)
 rw [right22]
 obtain ⟨sp, c, rfl, _, _, _⟩ := bytes_open hx
 obtain ⟨N, hN⟩ := exq b.length
 obtain ⟨u, hu⟩ := exq (b.all fun c => decide (c.toNat < 128))
 rw [hN, hu] at H
 rw [hN, hu]
 clear hx hN hu
 go_enter Tryz.func180, Tryz.ntmps180
 go_wp2_with fail
 refine H.mono ?_
 rintro e w1 ⟨rfl, rfl⟩
 go_wp2
 go_ret
 exact ⟨by cases u <;> rfl, u_ Hb⟩
end K
def digN (r : Nat) : Bool := decide (48 ≤ r) && decide (r ≤ 57)
def capN (r : Nat) : Bool := decide (65 ≤ r) && decide (r ≤ 90)
def labN (r : Nat) : Bool := digN r || capN r || (decide (97 ≤ r) && decide (r ≤ 122)) || decide (r = 45)
def prnN (r : Nat) : Bool := decide (r < 128) && printP (UInt8.ofNat r)
namespace N
abbrev bs (s : ByteArray) : Bs := s.data.toList
theorem bs_len (s : ByteArray) : (bs s).length = s.size := rfl
theorem take_snocB {b : Bs} {i : Nat} (hi : i < b.length) : b.take (i + 1) = b.take i ++ [b.getD i 0] := by
 rw [List.take_add_one, List.getElem?_eq_getElem hi, List.getD_eq_getElem?_getD, List.getElem?_eq_getElem hi]; rfl
theorem bs_get (s : ByteArray) {k : Nat} (h : k < s.size) : (bs s).getD k 0 = s[k]'h := by
 rw [List.getD_eq_getElem?_getD, List.getElem?_eq_getElem (by rw [bs_len]; exact h), Option.getD_some]
 simp [bs]
 rfl
theorem isasc_c (r : Nat) (hr : r ≤ 2147483647) (w : World) : Calls Tryz.prog 93 #[.int .i32 (r : Int)] w fun e w' => e = .returned (.bool (decide (r < 128))) ∧ w' = w := by
 obtain ⟨A, hA⟩ := exq (decide (r < 128))
 have a1 : decide ((r : Int) < 128) = A := by rw [← hA, decide_eq_decide]; omega
 rw [hA]
 cases A <;> (go_enter Tryz.func93, Tryz.ntmps93; go_wp2; go_ret; exact ⟨rfl, rfl⟩)
theorem isdigit_c (r : Nat) (hr : r ≤ 2147483647) (w : World) : Calls Tryz.prog 108 #[.int .i32 (r : Int)] w fun e w' => e = .returned (.bool (digN r)) ∧ w' = w := by
 obtain ⟨A, hA⟩ := exq (decide (48 ≤ r))
 obtain ⟨B, hB⟩ := exq (decide (r ≤ 57))
 have a1 : decide ((48 : Int) ≤ (r : Int)) = A := by rw [← hA, decide_eq_decide]; omega
 have b1 : decide ((r : Int) ≤ 57) = B := by rw [← hB, decide_eq_decide]; omega
 have HT : Hid (digN r = (A && B)) := by show _ = _; unfold digN; rw [hA, hB]
 cases A <;> cases B <;> (go_enter Tryz.func108, Tryz.ntmps108; go_wp2; go_ret; exact ⟨by rw [u_ HT]; rfl, rfl⟩)
theorem iscap_c (r : Nat) (hr : r ≤ 2147483647) (w : World) : Calls Tryz.prog 147 #[.int .i32 (r : Int)] w fun e w' => e = .returned (.bool (capN r)) ∧ w' = w := by
 obtain ⟨A, hA⟩ := exq (decide (65 ≤ r))
 obtain ⟨B, hB⟩ := exq (decide (r ≤ 90))
 have a1 : decide ((65 : Int) ≤ (r : Int)) = A := by rw [← hA, decide_eq_decide]; omega
 have b1 : decide ((r : Int) ≤ 90) = B := by rw [← hB, decide_eq_decide]; omega
 have HT : Hid (capN r = (A && B)) := by show _ = _; unfold capN; rw [hA, hB]
 cases A <;> cases B <;> (go_enter Tryz.func147, Tryz.ntmps147; go_wp2; go_ret; exact ⟨by rw [u_ HT]; rfl, rfl⟩)
theorem maylabel_c (r : Nat) (hr : r ≤ 2147483647) (w : World) : Calls Tryz.prog 138 #[.int .i32 (r : Int)] w fun e w' => e = .returned (.bool (labN r)) ∧ w' = w := by
 have HD := h_ (isdigit_c r hr w)
 have HC := h_ (iscap_c r hr w)
 obtain ⟨D, hD⟩ := exq (digN r)
 obtain ⟨C, hC⟩ := exq (capN r)
 obtain ⟨A, hA⟩ := exq (decide (97 ≤ r))
 obtain ⟨B, hB⟩ := exq (decide (r ≤ 122))
 obtain ⟨E, hE⟩ := exq (decide (r = 45))
 rw [hD] at HD
 rw [hC] at HC
 have a1 : decide ((97 : Int) ≤ (r : Int)) = A := by rw [← hA, decide_eq_decide]; omega
 have b1 : decide ((r : Int) ≤ 122) = B := by rw [← hB, decide_eq_decide]; omega
 have e1 : ((r : Int) == 45) = E := by rw [← hE]; by_cases h : r = 45 <;> simp [h] <;> omega
 have HT : Hid (labN r = (D || C || (A && B) || E)) := by show _ = _; unfold labN; rw [hD, hC, hA, hB, hE]
 clear hD hC hE
 cases D <;> cases C <;> cases A <;> cases B <;> cases E <;>
  (go_enter Tryz.func138, Tryz.ntmps138
   go_wp2_with (first
    | (go_at_call 108; refine HD.mono ?_; rintro e w' ⟨rfl, hw⟩; obtain rfl := hw)
    | (go_at_call 147; refine HC.mono ?_; rintro e w' ⟨rfl, hw⟩; obtain rfl := hw))
   go_ret
   exact ⟨by rw [u_ HT]; rfl, rfl⟩)
theorem isprint_c (r : Nat) (hr : r ≤ 2147483647) (w : World) : Calls Tryz.prog 89 #[.int .i32 (r : Int)] w fun e w' => e = .returned (.bool (prnN r)) ∧ w' = w := by
 have HA := h_ (isasc_c r hr w)
 by_cases h : r < 128
 ·obtain ⟨c, hc⟩ := exq (UInt8.ofNat r : UInt8)
  have hcr : c.toNat = r := by rw [← hc, UInt8.toNat_ofNat']; omega
  have HP := h_ (K.print_c c w)
  rw [hcr] at HP
  rw [decide_eq_true h] at HA
  have u : IntKind.u8.wrap (r : Int) = (r : Int) := by rw [IntKind.wrap_u8']; omega
  have HT : Hid (prnN r = printP c) := by show _ = _; unfold prnN; rw [hc, decide_eq_true h]; rfl
  clear hc hcr
  go_enter Tryz.func89, Tryz.ntmps89
  go_wp2_with (first
     | (go_at_call 93; refine HA.mono ?_; rintro e w' ⟨rfl, hw⟩; obtain rfl := hw)
     | (go_at_call 110; refine HP.mono ?_; rintro e w' ⟨rfl, hw⟩; obtain rfl := hw))
  go_ret
  exact ⟨by rw [u_ HT]; rfl, rfl⟩
 ·rw [decide_eq_false h] at HA
  have HT : Hid (prnN r = false) := by show _ = _; unfold prnN; rw [decide_eq_false h]; rfl
  go_enter Tryz.func89, Tryz.ntmps89
  go_wp2_with (go_at_call 93; refine HA.mono ?_; rintro e w' ⟨rfl, hw⟩; obtain rfl := hw)
  go_ret
  exact ⟨by rw [u_ HT]; rfl, rfl⟩
structure Quest (f : Nat) (Q : Nat → Bool) : Prop where
 enters : ∀ args w, (callFunc f args).run Tryz.prog w = .ok (.enter f args) w
 asks : ∀ (r : Nat) (w : World), r ≤ 2147483647 → Calls Tryz.prog f #[.int .i32 (r : Int)] w fun e w' => e = .returned (.bool (Q r)) ∧ w' = w
 high : ∀ r : Nat, 128 ≤ r → Q r = false
theorem every_c (f : Nat) (Q : Nat → Bool) (hq : Quest f Q) (s : ByteArray) (hs : s.size ≤ 1000000000) (w : World) :
  Calls Tryz.prog 88 #[.string s, .func (.func f) #[] #[]] w fun e w' => e = .returned (.bool ((bs s).all fun c => Q c.toNat)) ∧ Below w.heap.size w w' := by
 obtain ⟨ANS, hA⟩ := exq ((bs s).all fun c => Q c.toNat)
 rw [hA]
 have HA := h_ hA
 have hen := hq.enters
 have HQ := h_ hq
 obtain ⟨IT, hIT⟩ := exq w.heap.size
 have H0 : Hid ((w.iter s 0).heap[IT]? = some (.stringIter s 0)) := by show _ = _; rw [← hIT]; exact World.iter_heap w s 0
 have HB0 : Hid (Below IT w (w.iter s 0)) := by show Below _ _ _; rw [← hIT]; exact (Below.refl _ _).alloc (Nat.le_refl _) _
 obtain ⟨w1, hw1⟩ := exq (w.iter s 0)
 rw [hw1] at H0 HB0
 clear hA hq
 go_enter Tryz.func88, Tryz.ntmps88
 go_wp2
 have HIT := h_ hIT
 clear hw1 hIT
 go_loopg [6] (s.size + 1) (fun gk r wr => Hid (Below IT w wr) ∧ ∃ pos : Nat, Hid (wr.heap[IT]? = some (.stringIter s pos)) ∧ pos ≤ s.size ∧ s.size < gk + pos ∧ Hid (((bs s).take pos).all (fun c => Q c.toNat) = true))
 case atStart => exact ⟨HB0, 0, H0, by omega, by omega, rfl⟩
 case round =>
  clear HB0 H0
  obtain ⟨HB, pos, HI, hp, hg, HT⟩ := hrel
  by_cases hlt : pos < s.size
  ·obtain ⟨g', rfl⟩ : ∃ g', gk = g' + 1 := ⟨gk - 1, by omega⟩
   obtain ⟨d, hd⟩ := exq (Utf8.decode s pos)
   obtain ⟨r, l⟩ := d
   have hr : r ≤ 2147483647 := by have := decode_le s pos; rw [hd] at this; exact this
   have hnx : ∀ ty, (Instr.next (.pointer (some ⟨IT, 0, none⟩)) true ty).run Tryz.prog wr = .ok (.tuple #[.bool true, .int .i64 pos, .int .i32 (r : Int)]) (wr.iterAt IT s (pos + l)) := fun ty => by
    have := Lib.run_next_any_at (P := Tryz.prog) wr IT s pos ty (u_ HI) hlt
    rw [hd] at this
    exact this
   have HI2 := h_ (Lib.iterAt_heap wr IT s pos (pos + l) (u_ HI))
   have HB2 := h_ (Lib.below_iterAt (u_ HB) (k := IT) (Nat.le_refl _) s (pos + l))
   obtain ⟨W1, hW1⟩ := exq (wr.iterAt IT s (pos + l))
   rw [hW1] at HI2 HB2
   simp only [hW1] at hnx
   have HC := h_ (HQ.asks r W1 hr)
   obtain ⟨u, hu⟩ := exq (Q r)
   rw [hu] at HC
   have key : (128 ≤ r ∧ u = false ∧ Q ((bs s).getD pos 0).toNat = false) ∨ (l = 1 ∧ Q ((bs s).getD pos 0).toNat = u) := by
    rw [bs_get s hlt]
    by_cases ha : (s[pos]'hlt).toNat < 128
    ·have := decode_ascii s pos hlt ha
     rw [hd] at this
     simp only [Prod.mk.injEq] at this
     exact Or.inr ⟨this.2, by rw [← this.1]; exact hu⟩
    ·have := (decode_high s pos hlt (by omega)).1
     rw [hd] at this
     exact Or.inl ⟨this, by rw [← hu]; exact HQ.high r this, HQ.high _ (by omega)⟩
   cases u with
   | false =>
    have HF : Hid (ANS = false) := by
     show _ = _
     rw [← u_ HA]
     refine K.all_not (k := pos) (by rw [bs_len]; exact hlt) ?_
     rcases key with ⟨_, _, h⟩ | ⟨_, h⟩ <;> exact h
    clear hd hW1 hu key HI HB HT HI2 HQ HA
    go_wp2_with fail
    refine HC.mono ?_
    rintro e w2 ⟨rfl, rfl⟩
    go_wp2
    go_ret
    exact ⟨by rw [u_ HF]; rfl, by rw [u_ HIT]; exact u_ HB2⟩
   | true =>
    have hl1 : l = 1 := by
     rcases key with ⟨_, h, _⟩ | ⟨h, _⟩
     ·cases h
     ·exact h
    have HT2 : Hid (((bs s).take (pos + 1)).all (fun c => Q c.toNat) = true) := by
     show _ = _
     rcases key with ⟨_, h, _⟩ | ⟨_, h⟩
     ·cases h
     ·rw [take_snocB (by rw [bs_len]; exact hlt), List.all_append, u_ HT, List.all_cons, h]
      rfl
    rw [hl1] at HI2
    clear hd hW1 hu key HI HB HT HQ HA hl1
    go_wp2_with fail
    refine HC.mono ?_
    rintro e w2 ⟨rfl, rfl⟩
    go_wp2
    go_roundg g'
    case measure => omega
    case rel => exact ⟨HB2, pos + 1, HI2, by omega, by omega, HT2⟩
  ·have hnx : ∀ ty, (Instr.next (.pointer (some ⟨IT, 0, none⟩)) true ty).run Tryz.prog wr = .ok (.tuple #[.bool false]) wr := fun ty => Lib.run_next_end_at wr IT s pos ty (u_ HI) hlt
   have HF : Hid (ANS = true) := by
    show _ = _
    have h1 := u_ HT
    rw [List.take_of_length_le (by rw [bs_len]; omega)] at h1
    rw [← u_ HA, h1]
   clear HI HT HQ HA
   go_wp2
   go_ret
   exact ⟨by rw [u_ HF]; rfl, by rw [u_ HIT]; exact u_ HB⟩
end N
namespace N
abbrev st (l : Bs) : ByteArray := ⟨l.toArray⟩
theorem bs_st (l : Bs) : bs (st l) = l := by simp [bs]
theorem st_bs (s : ByteArray) : st (bs s) = s := by cases s; simp [bs, st]
theorem st_size (l : Bs) : (st l).size = l.length := by simp [ByteArray.size]
theorem st_append (a b : Bs) : st a ++ st b = st (a ++ b) := ByteArray.mk_append_mk a b
theorem toList_bs (s : ByteArray) : s.toList = bs s := ByteArray.toList_eq s
theorem conv_str {w : World} {x : Value} {l : Bs} (h : BytesAt w x l) : (convert 22 9 x).run Tryz.prog w = .ok (.string (st l)) w := by
 obtain ⟨sp, c, rfl, _, hn, hc⟩ := bytes_open h
 by_cases hl : l = []
 ·subst hl
  cases sp with
  | none =>
   rw [run_convert_bytes_string w 22 9 5 none _ _ Tryz.underlying22 Tryz.underlying5 Tryz.underlying9]
   simp [Conv.bytesToString]
   rfl
  | some a => exact run_convert_bytes_back w 22 9 5 a c [] Tryz.underlying22 Tryz.underlying5 Tryz.underlying9 (fun j hj => by simp at hj)
 ·obtain ⟨b, o, rfl, _, hcell⟩ := hc hl
  refine run_convert_bytes_back w 22 9 5 ⟨b, o, none⟩ c l Tryz.underlying22 Tryz.underlying5 Tryz.underlying9 (fun j hj => ?_)
  have := hcell j hj
  rw [List.getD_eq_getElem?_getD, List.getElem?_eq_getElem hj, Option.getD_some] at this
  have e : (⟨b, o, none⟩ : Addr).add j = ⟨b, o + j, none⟩ := by unfold Addr.add; split <;> simp_all
  rw [e]
  exact this
theorem index_str (s : ByteArray) (k : Nat) (h : k < s.size) (p : Nat) (hp : ((bs s).getD k 0).toNat = p) (w : World) : (Instr.index 9 (.string s) (.int .i64 (k : Int))).run Tryz.prog w = .ok (.int .u8 (p : Int)) w := by
 rw [run_index_string w 9 s .i64 (k : Int) Tryz.underlying9, dif_pos ⟨by omega, by omega⟩, ← hp, bs_get s h]
 rfl
theorem cat_str (a b c : Bs) (h : a ++ b = c) (hl : a.length + b.length ≤ 1000000000) (w : World) : (Op.stringOp .add (st a) (st b)).run Tryz.prog w = .ok (.string (st c)) w := by
 rw [run_string_add_sum w _ _ (by rw [st_size, st_size]; omega), st_append, h]
theorem eql_str (a b : ByteArray) : (a.toList == b.toList) = decide (bs a = bs b) := by
 rw [toList_bs, toList_bs]
 by_cases h : bs a = bs b
 ·rw [decide_eq_true h]; simp [h]
 ·rw [decide_eq_false h]; simpa using h
end N
namespace N
theorem leaps_c (w : World) (y : Nat) (h1 : 1 ≤ y) (hy : y ≤ 100000) : Calls Tryz.prog 85 #[.int .i64 (y : Int)] w fun e w' => e = .returned (.int .i64 (leapsP y : Int)) ∧ w' = w := by
 obtain ⟨l, hl⟩ := exq (y - 1)
 obtain ⟨a, ha⟩ := exq (l / 4)
 obtain ⟨b, hb⟩ := exq (l / 100)
 obtain ⟨c, hc⟩ := exq (l / 400)
 obtain ⟨r, hr⟩ := exq (leapsP y)
 have HR : Hid ((a : Int) - (b : Int) + (c : Int) = (r : Int)) := by
  show _ = _
  unfold leapsP at hr
  omega
 have e1 : (y : Int) - 1 = (l : Int) := by omega
 have e2 : (l : Int) / 4 = (a : Int) := by omega
 have e3 : (l : Int) / 100 = (b : Int) := by omega
 have e4 : (l : Int) / 400 = (c : Int) := by omega
 have b1 : (0 : Int) ≤ (l : Int) := by omega
 have b2 : (a : Int) ≤ 100000 := by omega
 have b3 : (b : Int) ≤ (a : Int) := by omega
 have b4 : (c : Int) ≤ 100000 := by omega
 rw [hr]
 clear hr ha hb hc hl
 go_enter Tryz.func85, Tryz.ntmps85
 go_wp2
 go_ret
 exact ⟨by rw [u_ HR]; rfl, rfl⟩
theorem daysP_31 {y m : Nat} (h2 : m ≠ 2) (h4 : m ≠ 4) (h6 : m ≠ 6) (h9 : m ≠ 9) (h11 : m ≠ 11) : daysP y m = 31 := by
 unfold daysP
 rw [if_neg h2, if_neg (by omega)]
theorem daysP_30 {y m : Nat} (h : m = 4 ∨ m = 6 ∨ m = 9 ∨ m = 11) : daysP y m = 30 := by
 unfold daysP
 rw [if_neg (by omega), if_pos h]
theorem daysP_2 (y : Nat) (h : 1 ≤ y) : 28 + leapsP (y + 1) = daysP y 2 + leapsP y := by
 have := leaps_succ y h
 have e : daysP y 2 = if isLeap y then 29 else 28 := rfl
 rw [e]
 split <;> simp_all <;> omega
theorem daysin_c (w : World) (y m : Nat) (h1 : 1 ≤ y) (hy : y ≤ 90000) (hm : m ≤ 1000) : Calls Tryz.prog 86 #[.int .i64 (y : Int), .int .i64 (m : Int)] w fun e w' => e = .returned (.int .i64 (daysP y m : Int)) ∧ w' = w := by
 by_cases h30 : m = 4 ∨ m = 6 ∨ m = 9 ∨ m = 11
 ·rw [daysP_30 h30]
  rcases h30 with rfl | rfl | rfl | rfl <;>
  ·go_enter Tryz.func86, Tryz.ntmps86
   go_wp2
   go_ret
   exact ⟨rfl, rfl⟩
 by_cases h2 : m = 2
 ·subst h2
  obtain ⟨z, hz⟩ := exq (y + 1)
  have e1 : (y : Int) + 1 = (z : Int) := by omega
  obtain ⟨a, ha⟩ := exq (leapsP z)
  obtain ⟨b, hb⟩ := exq (leapsP y)
  obtain ⟨r, hr⟩ := exq (daysP y 2)
  have hk := daysP_2 y h1
  have ha2 : a ≤ 100000 := by rw [← ha]; unfold leapsP; omega
  have HR : Hid ((28 : Int) + (a : Int) - (b : Int) = (r : Int)) := by
   show _ = _
   rw [hz] at hk
   omega
  have b1 : (a : Int) ≤ 100000 := by omega
  have b2 : (b : Int) ≤ 100000 := by
   have : leapsP y ≤ 100000 := by unfold leapsP; omega
   omega
  have HA := h_ (leaps_c w z (by omega) (by omega))
  have HB := h_ (leaps_c w y (by omega) (by omega))
  rw [ha] at HA
  rw [hb] at HB
  rw [hr]
  clear hk ha2 ha hb hr hz h30
  go_enter Tryz.func86, Tryz.ntmps86
  go_wp2_with (first
   | (go_at_call_of 85 (Value.int IntKind.i64 (z : Int)); refine HA.mono ?_; rintro e w' ⟨rfl, hw⟩; obtain rfl := hw)
   | (go_at_call_of 85 (Value.int IntKind.i64 (y : Int)); refine HB.mono ?_; rintro e w' ⟨rfl, hw⟩; obtain rfl := hw))
  go_ret
  exact ⟨by rw [u_ HR]; rfl, rfl⟩
 ·rw [daysP_31 h2 (by omega) (by omega) (by omega) (by omega)]
  have d4 : ((m : Int) == 4) = false := by simp; omega
  have d6 : ((m : Int) == 6) = false := by simp; omega
  have d9 : ((m : Int) == 9) = false := by simp; omega
  have d11 : ((m : Int) == 11) = false := by simp; omega
  have d2 : ((m : Int) == 2) = false := by simp; omega
  clear h30 h2
  go_enter Tryz.func86, Tryz.ntmps86
  go_wp2
  go_ret
  exact ⟨rfl, rfl⟩
def daysToP (y m : Nat) : Nat := yearsTo y + monthsTo y m
theorem daysto_c (w : World) (y m : Nat) (h1 : 1970 ≤ y) (hy : y ≤ 90000) (hm0 : 1 ≤ m) (hm : m ≤ 1000) : Calls Tryz.prog 48 #[.int .i64 (y : Int), .int .i64 (m : Int)] w fun e w' => e = .returned (.int .i64 (daysToP y m : Int)) ∧ w' = w := by
 obtain ⟨k, hk⟩ := exq (y - 1970)
 have e1 : (y : Int) - 1970 = (k : Int) := by omega
 obtain ⟨a, ha⟩ := exq (leapsP y)
 obtain ⟨Y, hY⟩ := exq (yearsTo y)
 have e0 : leapsP 1970 = 477 := by decide
 have hmo := leaps_mono (a := 1970) (by omega) h1
 have e2 : (365 : Int) * (k : Int) + (a : Int) - 477 = (Y : Int) := by unfold yearsTo at hY; omega
 have b1 : (k : Int) ≤ 100000 := by omega
 have b2 : (a : Int) ≤ 100000 := by
  have : leapsP y ≤ 100000 := by unfold leapsP; omega
  omega
 have HA := h_ (leaps_c w y (by omega) (by omega))
 have HB := h_ (leaps_c w 1970 (by omega) (by omega))
 rw [ha] at HA
 rw [e0] at HB
 have HY := h_ hY
 have b3 : (Y : Int) ≤ 100000000 := by omega
 have HD : Hid (∀ (m' : Nat), m' ≤ 1000 → Calls Tryz.prog 86 #[.int .i64 (y : Int), .int .i64 (m' : Int)] w fun e w' => e = .returned (.int .i64 (daysP y m' : Int)) ∧ w' = w) := fun m' h => daysin_c w y m' (by omega) hy h
 clear hmo ha e0 hY hk
 go_enter Tryz.func48, Tryz.ntmps48
 go_wp2_with (first
  | (go_at_call_of 85 (Value.int IntKind.i64 (y : Int)); refine HA.mono ?_; rintro e w' ⟨rfl, hw⟩; obtain rfl := hw)
  | (go_at_call_of 85 (Value.int IntKind.i64 1970); refine HB.mono ?_; rintro e w' ⟨rfl, hw⟩; obtain rfl := hw))
 go_loop [5, 6] (fun dd ii => ∃ j d : Nat, 1 ≤ j ∧ j ≤ m ∧ ii = .int .i64 (j : Int) ∧ dd = .int .i64 (d : Int) ∧ d ≤ 100000000 + 31 * j ∧ Hid (d = Y + monthsTo y j)) (fun _ ii => m - (intOf ii).toNat)
 case atStart => exact ⟨1, Y, by omega, by omega, rfl, rfl, by omega, rfl⟩
 case round =>
  obtain ⟨j, d, hj1, hj, rfl, rfl, hd, HE⟩ := hrel
  by_cases hlt : j < m
  ·obtain ⟨s, hs⟩ := exq (daysP y j)
   have hs31 := daysP_pos y j
   have HD2 := h_ (u_ HD j (by omega))
   rw [hs] at HD2 hs31
   have f1 : decide ((j : Int) < (m : Int)) = true := by simp; omega
   have HS := h_ hs
   clear hs HA HB HD
   go_wp2_with (go_at_call 86; refine HD2.mono ?_; rintro e w' ⟨rfl, hw⟩; obtain rfl := hw)
   go_round
   case rel => exact ⟨j + 1, d + s, by omega, by omega, by go_num, by go_num, by omega, by show _ = _; rw [monthsTo_succ y j hj1, u_ HS]; have := u_ HE; omega⟩
   case measure => simp [intOf]; omega
  ·have f1 : decide ((j : Int) < (m : Int)) = false := by simp; omega
   have HF : Hid (d = daysToP y m) := by
    have : j = m := by omega
    show _ = _
    unfold daysToP
    rw [u_ HE, u_ HY, this]
   clear HE HA HB HD
   go_wp2
   go_ret
   exact ⟨by rw [← u_ HF]; rfl, rfl⟩
end N
namespace N
theorem daysTo_small {y m : Nat} (h : 1970 ≤ y) (hy : y ≤ 90000) (hm0 : 1 ≤ m) (hm : m ≤ 1000) : daysToP y m ≤ 100000000 := by
 have h1 := yearsTo_le h
 have h2 := monthsTo_le y m hm0
 unfold daysToP
 omega
end N
theorem len_tagB_le (c t : Nat) (m : Bool) : (tagB c t m).length ≤ 4 := by
 unfold tagB
 split
 ·simp
 ·simp only [List.length_cons, List.length_append, List.length_nil]
  split <;> split <;> simp
end Go.Proofs.YtcofnockikninaaGreatDoor
