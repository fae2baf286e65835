/-
  Slices of bytes; what a call that makes bytes gives.
-/
import Derived.Test.YtlmikagmcaicoaaProg
import Derived.Test.YtlmikagmcaicoaaVals
import Derived.Test.YtlmikagmcaicoaaPp13
import Derived.Deep.RegionHeld3
import Derived.BigRegion
import Derived.Deep.RegionWith
import Derived.Laws.BitsAllLaws
namespace Go.Proofs.Ytlmikagmcaicoaa
open Go.RowKit
def bv (x : UInt8) : Value := .int .u8 (x.toNat : Int)
/-- The value is a slice of bytes that holds l. -/
def BytesAt (w : World) (x : Value) (l : Bs) : Prop := ValsAt w x (l.map bv)
/-- A row of bytes of the call's own. -/
def OwnB (w : World) (base : Nat) (v : Value) (l : Bs) : Prop := OwnV 5 w base v (l.map bv)
theorem BytesAt.below {a b : World} {x : Value} {l : Bs} (h : BytesAt a x l) (hb : Below a.heap.size a b) : BytesAt b x l := ValsAt.below h hb
theorem OwnB.bytes {w : World} {base : Nat} {v : Value} {l : Bs} (h : OwnB w base v l) : BytesAt w v l := OwnV.vals h
theorem OwnB.below {a b : World} {B : Nat} {v : Value} {l : Bs} (h : OwnB a B v l) (hb : Below a.heap.size a b) : OwnB b B v l := OwnV.below h hb
theorem OwnB.mono {w : World} {B B' : Nat} {v : Value} {l : Bs} (h : OwnB w B v l) (hB : B' ≤ B) : OwnB w B' v l := OwnV.mono h hB
theorem OwnB.form {w : World} {B : Nat} {v : Value} {l : Bs} (h : OwnB w B v l) : ∃ sp c, v = .slice sp l.length c := by
  obtain ⟨sp, c, e⟩ := OwnV.form h
  rw [List.length_map] at e
  exact ⟨sp, c, e⟩
theorem bytes_nil (w : World) : BytesAt w (.slice none 0 0) [] := vals_nil w
theorem ownb_nil (w : World) (base : Nat) : OwnB w base (.slice none 0 0) [] := own_nil 5 w base
theorem elem_of {t e : TypeId} {z : Value} {n : Nat} (hu : Try.prog.underlying t = some (.slice e)) (h : (Try.prog.info? e).map (fun i => (i.zero, i.size, i.bytes)) = some (some z, 1, n)) (h1 : z.cells.size = 1) (hn : n ≤ 64) : Elem Try.prog t e z n := by
  obtain ⟨i, hi, h2⟩ := Option.map_eq_some_iff.1 h
  simp only [Prod.mk.injEq] at h2
  exact ⟨hu, ⟨i, hi, h2.1, h2.2.1, h2.2.2⟩, h1, hn⟩
theorem Eb : Elem Try.prog 40 5 (.int .u8 0) 1 := elem_of Try.underlying40 (by kernel_rfl) rfl (by omega)
theorem one_bytes (l : Bs) : ∀ u ∈ l.map bv, u.oneCell' = true := fun u hu => by obtain ⟨x, _, rfl⟩ := List.mem_map.1 hu; rfl
theorem bytes_open {w : World} {x : Value} {l : Bs} (h : BytesAt w x l) : ∃ sp c, x = .slice sp l.length c ∧ l.length ≤ c ∧ (sp = none → c = 0) ∧ (l ≠ [] → ∃ b o, sp = some ⟨b, o, none⟩ ∧ b < w.heap.size ∧ ∀ k, k < l.length → w.cell? ⟨b, o + k, none⟩ = some (.int .u8 ((l.getD k 0).toNat : Int))) := by
  have h' := h
  obtain ⟨sp, c, rfl, h1, h2, _⟩ := h'
  rw [List.length_map] at h1
  refine ⟨sp, c, by rw [List.length_map], h1, h2, fun hl => ?_⟩
  obtain ⟨b, o, c2, e, _, hb, hc⟩ := ValsAt.cell h (by simpa using hl)
  simp only [Value.slice.injEq] at e
  obtain ⟨rfl, _, _⟩ := e
  refine ⟨b, o, rfl, hb, fun k hk => ?_⟩
  rw [hc k (by rw [List.length_map]; exact hk)]
  simp [bv, List.getD_eq_getElem?_getD, hk]
/-- append of bytes to a row of the call's own. -/
theorem wpList_append_bytes {w : World} {ops : Array Oper} {rest : List Oper} {o : Oper} {a : Act} {Q : Exit → Act → World → Prop} (hgd : o.guard = none) (s x : Operand)
    (ho : o.op = .call { callee := .builtin .append, args := #[s, x], argTypes := #[40, 40] }) (base : Nat) (v y : Value) (l m : Bs) (hs : a.eval s = v) (hown : OwnB w base v l)
    (hx : a.eval x = y) (hy : BytesAt w y m) (hb : base ≤ w.heap.size) (hlen : l.length + m.length ≤ 1073741824)
    (h : ∀ v' w', OwnB w' base v' (l ++ m) → w.grownBy w' v.ownBlock → (v'.ownBlock = v.ownBlock ∨ v'.ownBlock = some w.heap.size) → wpList Try.prog ops Q rest (a.put o.dst v') w') : wpList Try.prog ops Q (o :: rest) a w :=
  wpList_append_vals Eb hgd s x ho base v y (l.map bv) (m.map bv) hs hown hx hy (one_bytes m) hb (by simpa using hlen) fun v' w' h1 h2 h3 => h v' w' (by unfold OwnB; rw [List.map_append]; exact h1) h2 h3
/-- Bytes in a block that has just been laid. -/
theorem bytes_new (w : World) (l : Bs) : BytesAt (w.alloc (.cells (l.map bv).toArray 5)) (.slice (some ⟨w.heap.size, 0, none⟩) l.length l.length) l := by
  have := vals_new w (l.map bv) 5
  rwa [List.length_map] at this
theorem ownb_below {a b w0 : World} {base : Nat} {v : Value} {l : Bs} (h : OwnB a base v l) (hg : a.grownBy b v.ownBlock) (hB : Below base w0 a) (hs : base ≤ a.heap.size) : Below base w0 b := own_below h hg hB hs
/-- A row of bytes that was begun at the world wb, and lies there behind all that was there. -/
structure Row (wb w : World) (v : Value) (l : Bs) : Prop where
  own : OwnB w wb.heap.size v l
  b : Below wb.heap.size wb w
theorem Row.bytes {wb w : World} {v : Value} {l : Bs} (h : Row wb w v l) : BytesAt w v l := h.own.bytes
theorem Row.call {wb w w' : World} {v : Value} {l : Bs} (h : Row wb w v l) (hb : Below w.heap.size w w') : Row wb w' v l := ⟨h.own.below hb, h.b.trans (hb.mono h.b.size)⟩
theorem Row.lit {wb w : World} {v : Value} {l : Bs} (h : Row wb w v l) (o : Obj) : Row wb (w.alloc o) v l := h.call ((Below.refl _ _).alloc (Nat.le_refl _) _)
theorem Row.up {w0 wb w : World} {v : Value} {l : Bs} (h : Row wb w v l) (hb : Below w0.heap.size w0 wb) : Row w0 w v l := ⟨h.own.mono hb.size, hb.trans (h.b.mono hb.size)⟩
theorem wpList_append_row {wb w : World} {ops : Array Oper} {rest : List Oper} {o : Oper} {a : Act} {Q : Exit → Act → World → Prop} (hgd : o.guard = none) (s x : Operand)
    (ho : o.op = .call { callee := .builtin .append, args := #[s, x], argTypes := #[40, 40] }) (v y : Value) (l m : Bs) (hs : a.eval s = v) (hr : Row wb w v l)
    (hx : a.eval x = y) (hy : BytesAt w y m) (hlen : l.length + m.length ≤ 1073741824)
    (h : ∀ v' w', Row wb w' v' (l ++ m) → wpList Try.prog ops Q rest (a.put o.dst v') w') : wpList Try.prog ops Q (o :: rest) a w :=
  wpList_append_bytes hgd s x ho wb.heap.size v y l m hs hr.own hx hy hr.b.size hlen fun v' w' h1 h2 _ => h v' w' ⟨h1, ownb_below hr.own h2 hr.b hr.b.size⟩
/-- The row grew, and lies where it lay or in a block that was made then. -/
def Grew (w : World) (v : Value) (w' : World) (v' : Value) : Prop := w.grownBy w' v.ownBlock ∧ (v'.ownBlock = v.ownBlock ∨ v'.ownBlock = some w.heap.size)
/-- Another row's block is not this one. -/
def Apart (v u : Value) : Prop := ∀ k, v.ownBlock = some k → u.ownBlock ≠ some k
theorem Grew.kept {w w' : World} {v v' u : Value} {e : TypeId} {B : Nat} {cs : List Value} (h : Grew w v w' v') (ha : Apart v u) (hu : OwnV e w B u cs) : OwnV e w' B u cs ∧ Apart v' u := by
  refine ⟨hu.kept h.1 ?_, fun k hk hq => ?_⟩
  · cases hq : u.ownBlock with
    | none => exact Or.inl rfl
    | some k => exact Or.inr fun e => ha k e.symm hq
  · rcases h.2 with hb | hb
    · rw [hb] at hk; exact ha k hk hq
    · rw [hb] at hk
      have := (World.ownsRow.lt hu k hq).2
      simp only [Option.some.injEq] at hk
      omega
theorem wpList_append_grew {wb w : World} {ops : Array Oper} {rest : List Oper} {o : Oper} {a : Act} {Q : Exit → Act → World → Prop} (hgd : o.guard = none) (s x : Operand)
    (ho : o.op = .call { callee := .builtin .append, args := #[s, x], argTypes := #[40, 40] }) (v y : Value) (l m : Bs) (hs : a.eval s = v) (hr : Row wb w v l)
    (hx : a.eval x = y) (hy : BytesAt w y m) (hlen : l.length + m.length ≤ 1073741824)
    (h : ∀ v' w', Row wb w' v' (l ++ m) → Grew w v w' v' → wpList Try.prog ops Q rest (a.put o.dst v') w') : wpList Try.prog ops Q (o :: rest) a w :=
  wpList_append_bytes hgd s x ho wb.heap.size v y l m hs hr.own hx hy hr.b.size hlen fun v' w' h1 h2 h3 => h v' w' ⟨h1, ownb_below hr.own h2 hr.b hr.b.size⟩ ⟨h2, h3⟩
theorem Grew.bytes {w w' : World} {v v' y : Value} {l : Bs} (h : Grew w v w' v') (ha : Apart v y) (hy : BytesAt w y l) (hl : l ≠ []) : BytesAt w' y l ∧ Apart v' y := by
  have hne : l.map bv ≠ [] := by simpa using hl
  refine ⟨?_, fun k hk hq => ?_⟩
  · obtain ⟨b, o, c, rfl, hc, hb, hcell⟩ := ValsAt.cell hy hne
    refine ⟨_, _, rfl, hc, fun e => (by cases e), fun _ => ⟨b, o, rfl, fun j u hu => ?_⟩⟩
    have hj : j < (l.map bv).length := (List.getElem?_eq_some_iff.1 hu).1
    have h0 := hcell j hj
    have e : w'.cell? ⟨b, o + j, none⟩ = w.cell? ⟨b, o + j, none⟩ := World.cell?_of_block (h.1.block b hb fun e => by
      cases hv : v.ownBlock with
      | none => rw [hv] at e; cases e
      | some k => rw [hv] at e; simp only [Option.some.injEq] at e; exact ha k hv (by simp [Value.ownBlock, e]))
    rw [e, h0, ← hu, List.getD_eq_getElem?_getD, List.getElem?_eq_getElem hj]
    rfl
  · rcases h.2 with hb | hb
    · rw [hb] at hk; exact ha k hk hq
    · rw [hb] at hk
      have := ValsAt.old hy hne k hq
      simp only [Option.some.injEq] at hk
      omega
/-- The same as a step of a region that draws. -/
theorem step_append_row {wb w : World} {ops : Array Oper} {o : Oper} {a : Act} {K : Act → World → Prop} {Q : Exit → Act → World → Prop} {E : Prop} (hgd : o.guard = none) (s x : Operand)
    (ho : o.op = .call { callee := .builtin .append, args := #[s, x], argTypes := #[40, 40] }) (v y : Value) (l m : Bs) (hs : a.eval s = v) (hr : Row wb w v l)
    (hx : a.eval x = y) (hy : BytesAt w y m) (hlen : l.length + m.length ≤ 1073741824)
    (h : ∀ v' w', Row wb w' v' (l ++ m) → Grew w v w' v' → K (a.put o.dst v') w') : if Region.wanted o (yielded ops a.tmps) = true then Oper.wp Try.prog o a w K Q else E := by
  have hw : Region.wanted o (yielded ops a.tmps) = true := by simp [Region.wanted, hgd]
  rw [if_pos hw]
  obtain ⟨v', w', hrun, h2, h3, h4⟩ := run_append_vals Eb w wb.heap.size v y (l.map bv) (m.map bv) hr.own hy (one_bytes m) hr.b.size (by simpa using hlen) o.type
  unfold Oper.wp execOp
  simp only [ho, resolve, invoke, builtin, Sem.run_bind, Sem.run_pure, Result.andThen_ok, List.map_toArray, List.map_cons, List.map_nil, hs, hx, hrun]
  exact h v' w' ⟨by unfold OwnB; rw [List.map_append]; exact h2, ownb_below hr.own h3 hr.b hr.b.size⟩ ⟨h3, h4⟩
/-- The call gives these bytes, in new memory. -/
def GivesB (w : World) (f : FuncId) (args : Array Value) (l : Bs) : Prop :=
  Calls Try.prog f args w fun e w' => ∃ v, e = .returned v ∧ Row w w' v l
/-- The call gives these bytes, wherever they lie. -/
def TellsB (w : World) (f : FuncId) (args : Array Value) (l : Bs) : Prop :=
  Calls Try.prog f args w fun e w' => ∃ v, e = .returned v ∧ BytesAt w' v l ∧ Below w.heap.size w w'
end Go.Proofs.Ytlmikagmcaicoaa
