/-
  Pairs in memory (the reference's store); rows of pairs, and of the reference's changes, that grow.
  Contracts of library functions, laid at this translation.
  The walk of the landed store's pairs.keys.
  The walk of the landed store's pairs.keys.
-/
import Derived.Test.YtbjgknoipbekoaaGreatQ22
import Derived.Shelf.Sort.Plain
import Derived.Shelf.Strings.Prefix
import Derived.Shelf.Slices.In.SortNone
import Derived.Shelf.Bytes.SlEqualAll
import Derived.Shelf.Bytes.Small
import Derived.Test.YtbjgknoipbekoaaGreatProg
import Derived.Test.YtbjgknoipbekoaaGreatQ19
import Derived.Sort.OwnSorted
import Derived.Sort.KeysCollected
import Derived.Deep.Cut
namespace Go.Proofs.YtbjgknoipbekoaaGreat
open Go.RowKit
/-- A pair's two cells. -/
structure Pr2 (K : Set_) (w : World) (g o : Nat) (c : Bs × Bs) (kv vv : Value) : Prop where
  c0 : w.cell? ⟨g, o, none⟩ = some kv
  c1 : w.cell? ⟨g, o + 1, none⟩ = some vv
  key : ElS K w kv c.1
  val : ElS K w vv c.2
/-- A slice of pairs, all of it in blocks of K. -/
structure PrsAt (K : Set_) (w : World) (x : Value) (l : List (Bs × Bs)) : Prop where
  form : ∃ sp c, x = .slice sp l.length c ∧ l.length ≤ c ∧ (sp = none → c = 0)
  at_ : ∀ (i : Nat) (c : Bs × Bs), l[i]? = some c → ∃ g o m cp, x = .slice (some ⟨g, o, none⟩) m cp ∧ K g ∧ g < w.heap.size ∧ ∃ kv vv, Pr2 K w g (o + i * 2) c kv vv
theorem prs_nil (K : Set_) (w : World) : PrsAt K w (.slice none 0 0) [] := ⟨⟨none, 0, rfl, Nat.le_refl _, fun _ => rfl⟩, fun i c h => by simp at h⟩
theorem Pr2.aside {K S : Set_} {a b : World} {g o : Nat} {c : Bs × Bs} {kv vv : Value} (h : Pr2 K a g o c kv vv) (hb : Aside S a b) (hK : ∀ k, S k → ¬ K k) (hg : K g) : Pr2 K b g o c kv vv :=
  ⟨cell_aside h.c0 hb fun hS => hK g hS hg, cell_aside h.c1 hb fun hS => hK g hS hg, h.key.aside hb hK, h.val.aside hb hK⟩
theorem PrsAt.aside {K S : Set_} {a b : World} {x : Value} {l : List (Bs × Bs)} (h : PrsAt K a x l) (hb : Aside S a b) (hK : ∀ k, S k → ¬ K k) : PrsAt K b x l := by
  refine ⟨h.form, fun i c hi => ?_⟩
  obtain ⟨g, o, m, cp, e, hg, hl, kv, vv, h3⟩ := h.at_ i c hi
  exact ⟨g, o, m, cp, e, hg, Nat.lt_of_lt_of_le hl hb.size, kv, vv, h3.aside hb hK hg⟩
theorem PrsAt.below {K : Set_} {a b : World} {x : Value} {l : List (Bs × Bs)} (h : PrsAt K a x l) (hb : Below a.heap.size a b) : PrsAt K b x l := h.aside (S := none_) (Aside.of_below hb) fun _ h => h.elim
theorem PrsAt.mono {K K' : Set_} {a : World} {x : Value} {l : List (Bs × Bs)} (h : PrsAt K a x l) (hK : ∀ k, k < a.heap.size → K k → K' k) : PrsAt K' a x l := by
  refine ⟨h.form, fun i c hi => ?_⟩
  obtain ⟨g, o, m, cp, e, hg, hl, kv, vv, h3⟩ := h.at_ i c hi
  exact ⟨g, o, m, cp, e, hK g hl hg, hl, kv, vv, ⟨h3.c0, h3.c1, h3.key.mono' hK, h3.val.mono' hK⟩⟩
/-- One pair of the slice. -/
theorem PrsAt.one {K : Set_} {w : World} {sp : Option Addr} {n cp i : Nat} {l : List (Bs × Bs)} (h : PrsAt K w (.slice sp n cp) l) (hi : i < l.length) : ∃ c g o s1 c1 s2 c2, l[i]? = some c ∧ sp = some ⟨g, o, none⟩ ∧ K g ∧ g < w.heap.size ∧ Pr2 K w g (o + i * 2) c (.slice s1 c.1.length c1) (.slice s2 c.2.length c2) := by
  obtain ⟨g, o, m, cp', e, hg, hl, kv, vv, h3⟩ := h.at_ i l[i] (List.getElem?_eq_getElem hi)
  simp only [Value.slice.injEq] at e
  obtain ⟨rfl, _, _⟩ := e
  obtain ⟨s1, c1, e1, _⟩ := bytes_open h3.key.at_
  obtain ⟨s2, c2, e2, _⟩ := bytes_open h3.val.at_
  subst e1
  subst e2
  exact ⟨l[i], g, o, s1, c1, s2, c2, List.getElem?_eq_getElem hi, rfl, hg, hl, h3⟩
theorem ElPr : ElemN Tryz.prog 32 78 (.agg #[.slice none 0 0, .slice none 0 0]) 2 48 := elemN_of Tryz.underlying32 (by kernel_rfl) rfl (by omega) (by omega) (by omega)
theorem ElRc : ElemN Tryz.prog 39 74 (.agg #[.slice none 0 0, .slice none 0 0, .bool false]) 3 56 := elemN_of Tryz.underlying39 (by kernel_rfl) rfl (by omega) (by omega) (by omega)
abbrev PrT := (Bs × Bs) × Value × Value
def prsT (t : List PrT) : List (Bs × Bs) := t.map (·.1)
def prCells (t : List PrT) : List Value := t.flatMap fun x => [x.2.1, x.2.2]
theorem prCells_at : ∀ (t : List PrT) (i : Nat) (x : PrT), t[i]? = some x → (prCells t)[i * 2]? = some x.2.1 ∧ (prCells t)[i * 2 + 1]? = some x.2.2
  | [], i, x, h => by simp at h
  | y :: t, 0, x, h => by
    simp only [List.getElem?_cons_zero, Option.some.injEq] at h
    subst h
    exact ⟨rfl, rfl⟩
  | y :: t, i + 1, x, h => by
    rw [List.getElem?_cons_succ] at h
    obtain ⟨h1, h2⟩ := prCells_at t i x h
    have e : ∀ j, (prCells (y :: t))[(i + 1) * 2 + j]? = (prCells t)[i * 2 + j]? := fun j => by
      show (([y.2.1, y.2.2] : List Value) ++ prCells t)[(i + 1) * 2 + j]? = _
      rw [List.getElem?_append_right (by simp; omega)]
      congr 1
      simp only [List.length_cons, List.length_nil]
      omega
    exact ⟨(e 0).trans h1, (e 1).trans h2⟩
theorem prCells_snoc (t : List PrT) (x : PrT) : prCells (t ++ [x]) = prCells t ++ [x.2.1, x.2.2] := by
  unfold prCells
  rw [List.flatMap_append]
  simp
/-- A row of pairs of the call's own, whose bytes lie in blocks of K. -/
structure PrRow (K : Set_) (B : Nat) (w : World) (v : Value) (t : List PrT) : Prop where
  own : OwnN 78 2 w B v t.length (prCells t)
  each : ∀ x ∈ t, ElS K w x.2.1 x.1.1 ∧ ElS K w x.2.2 x.1.2
theorem PrRow.call {K : Set_} {B : Nat} {w w' : World} {v : Value} {t : List PrT} (h : PrRow K B w v t) (hb : Below w.heap.size w w') : PrRow K B w' v t :=
  ⟨h.own.below hb, fun x hx => ⟨(h.each x hx).1.aside (S := none_) (Aside.of_below hb) fun _ h => h.elim, (h.each x hx).2.aside (S := none_) (Aside.of_below hb) fun _ h => h.elim⟩⟩
theorem prrow_nil (K : Set_) (B : Nat) (w : World) : PrRow K B w (.slice none 0 0) [] := ⟨ownn_nil _ _ _ _, fun x hx => by cases hx⟩
theorem PrRow.at_ {K K' : Set_} {B : Nat} {w : World} {v : Value} {t : List PrT} (h : PrRow K B w v t) (hK : ∀ k, K k → K' k) (hB : ∀ k, B ≤ k → K' k) : PrsAt K' w v (prsT t) := by
  unfold prsT
  obtain ⟨sp, c, e, h1, h2⟩ := h.own.form
  refine ⟨⟨sp, c, by rw [List.length_map]; exact e, by rw [List.length_map]; exact h1, h2⟩, fun i ch hi => ?_⟩
  rw [List.getElem?_map] at hi
  obtain ⟨x, hx, rfl⟩ := Option.map_eq_some_iff.1 hi
  have hpos : 0 < t.length := by have := (List.getElem?_eq_some_iff.1 hx).1; omega
  obtain ⟨g, cp, ev, hB1, hg, _, hcell⟩ := h.own.at hpos
  obtain ⟨e0, e1⟩ := prCells_at t i x hx
  have hm := List.mem_of_getElem? hx
  exact ⟨g, 0, _, cp, ev, hB g hB1, hg, x.2.1, x.2.2, ⟨hcell _ _ e0, hcell _ _ e1, (h.each x hm).1.mono hK, (h.each x hm).2.mono hK⟩⟩
theorem PrRow.add {K : Set_} {B : Nat} {w w' : World} {v v' : Value} {t : List PrT} {x : PrT} (h : PrRow K B w v t) (ho : OwnN 78 2 w' B v' (t.length + 1) (prCells t ++ [x.2.1, x.2.2])) (hb : Below B w w') (hK : ∀ k, K k → k < B) (h1 : ElS K w x.2.1 x.1.1) (h2 : ElS K w x.2.2 x.1.2) : PrRow K B w' v' (t ++ [x]) := by
  refine ⟨by rw [List.length_append, prCells_snoc]; exact ho, fun y hy => ?_⟩
  rcases List.mem_append.1 hy with hy | hy
  · exact ⟨(h.each y hy).1.low hb hK, (h.each y hy).2.low hb hK⟩
  · rw [List.mem_singleton] at hy
    subst hy
    exact ⟨h1.low hb hK, h2.low hb hK⟩
/-- A row of the reference's changes of the call's own. -/
structure RcRow (K : Set_) (B : Nat) (w : World) (v : Value) (t : List (Ch × Value × Value)) : Prop where
  own : OwnN 74 3 w B v t.length (chCells t)
  each : ∀ x ∈ t, ElS K w x.2.1 x.1.key ∧ ElS K w x.2.2 x.1.val
theorem RcRow.call {K : Set_} {B : Nat} {w w' : World} {v : Value} {t : List (Ch × Value × Value)} (h : RcRow K B w v t) (hb : Below w.heap.size w w') : RcRow K B w' v t :=
  ⟨h.own.below hb, fun x hx => ⟨(h.each x hx).1.aside (S := none_) (Aside.of_below hb) fun _ h => h.elim, (h.each x hx).2.aside (S := none_) (Aside.of_below hb) fun _ h => h.elim⟩⟩
theorem rcrow_nil (K : Set_) (B : Nat) (w : World) : RcRow K B w (.slice none 0 0) [] := ⟨ownn_nil _ _ _ _, fun x hx => by cases hx⟩
theorem RcRow.at_ {K K' : Set_} {B : Nat} {w : World} {v : Value} {t : List (Ch × Value × Value)} (h : RcRow K B w v t) (hK : ∀ k, K k → K' k) (hB : ∀ k, B ≤ k → K' k) : ChsAt K' w v (chsT t) := by
  unfold chsT
  obtain ⟨sp, c, e, h1, h2⟩ := h.own.form
  refine ⟨⟨sp, c, by rw [List.length_map]; exact e, by rw [List.length_map]; exact h1, h2⟩, fun i ch hi => ?_⟩
  rw [List.getElem?_map] at hi
  obtain ⟨x, hx, rfl⟩ := Option.map_eq_some_iff.1 hi
  have hpos : 0 < t.length := by have := (List.getElem?_eq_some_iff.1 hx).1; omega
  obtain ⟨g, cp, ev, hB1, hg, _, hcell⟩ := h.own.at hpos
  obtain ⟨e0, e1, e2⟩ := chCells_at t i x hx
  have hm := List.mem_of_getElem? hx
  exact ⟨g, 0, _, cp, ev, hB g hB1, hg, x.2.1, x.2.2, ⟨hcell _ _ e0, hcell _ _ e1, hcell _ _ e2, (h.each x hm).1.mono hK, (h.each x hm).2.mono hK⟩⟩
theorem RcRow.add {K : Set_} {B : Nat} {w w' : World} {v v' : Value} {t : List (Ch × Value × Value)} {x : Ch × Value × Value} (h : RcRow K B w v t) (ho : OwnN 74 3 w' B v' (t.length + 1) (chCells t ++ [x.2.1, x.2.2, .bool x.1.gone])) (hb : Below B w w') (hK : ∀ k, K k → k < B) (h1 : ElS K w x.2.1 x.1.key) (h2 : ElS K w x.2.2 x.1.val) : RcRow K B w' v' (t ++ [x]) := by
  refine ⟨by rw [List.length_append, chCells_snoc]; exact ho, fun y hy => ?_⟩
  rcases List.mem_append.1 hy with hy | hy
  · exact ⟨(h.each y hy).1.low hb hK, (h.each y hy).2.low hb hK⟩
  · rw [List.mem_singleton] at hy
    subst hy
    exact ⟨h1.low hb hK, h2.low hb hK⟩
theorem step_append_pair {K : Set_} {B : Nat} {w : World} {ops : Array Oper} {o : Oper} {a : Act} {Kc : Act → World → Prop} {Q : Exit → Act → World → Prop} {F : Prop} (hgd : o.guard = none) (s x : Operand)
    (ho : o.op = .call { callee := .builtin .append, args := #[s, x], argTypes := #[32, 32] }) (v : Value) (t : List PrT) (hs : a.eval s = v) (hown : PrRow K B w v t) (ga go c : Nat)
    (hx : a.eval x = .slice (some ⟨ga, go, none⟩) 1 c) (z : PrT) (c0 : w.cell? ⟨ga, go, none⟩ = some (z.2.1)) (c1 : w.cell? ⟨ga, go + 1, none⟩ = some (z.2.2)) (h1 : z.2.1.oneCell' = true) (h2 : z.2.2.oneCell' = true) (hb : B ≤ w.heap.size) (hlen : t.length ≤ 1073741824) (hK : ∀ k, K k → k < B) (k1 : ElS K w z.2.1 z.1.1) (k2 : ElS K w z.2.2 z.1.2)
    (h : ∀ v' w' sp cp, v' = .slice sp (t.length + 1) cp → PrRow K B w' v' (t ++ [z]) → Below B w w' → Kc (a.put o.dst v') w') : if Region.wanted o (yielded ops a.tmps) = true then Oper.wp Tryz.prog o a w Kc Q else F := by
  refine step_append_one ElPr hgd s x ho B v t.length (prCells t) [z.2.1, z.2.2] hs hown.own ga go c hx rfl (fun j u hu => by
    rcases j with _ | _ | j
    · simp only [List.getElem?_cons_zero, Option.some.injEq] at hu; subst hu; exact c0
    · simp only [List.getElem?_cons_succ, List.getElem?_cons_zero, Option.some.injEq] at hu; subst hu; exact c1
    · simp at hu) (by simp [h1, h2]) hb hlen fun v' w' ho5 hg5 hor5 => ?_
  have hb5 : Below B w w' := Aside.below (S := fun k => v.ownBlock = some k) (Aside.of_grown hg5 fun _ h => h) hb fun k hk => (hown.own.lt k hk).1
  obtain ⟨sp, cp, e, _⟩ := ho5.form
  exact h v' w' sp cp e (hown.add (x := z) ho5 hb5 hK k1 k2) hb5
theorem wpList_append_pair {K : Set_} {B : Nat} {w : World} {ops : Array Oper} {rest : List Oper} {o : Oper} {a : Act} {Q : Exit → Act → World → Prop} (hgd : o.guard = none) (s x : Operand)
    (ho : o.op = .call { callee := .builtin .append, args := #[s, x], argTypes := #[32, 32] }) (v : Value) (t : List PrT) (hs : a.eval s = v) (hown : PrRow K B w v t) (ga go c : Nat)
    (hx : a.eval x = .slice (some ⟨ga, go, none⟩) 1 c) (z : PrT) (c0 : w.cell? ⟨ga, go, none⟩ = some (z.2.1)) (c1 : w.cell? ⟨ga, go + 1, none⟩ = some (z.2.2)) (h1 : z.2.1.oneCell' = true) (h2 : z.2.2.oneCell' = true) (hb : B ≤ w.heap.size) (hlen : t.length ≤ 1073741824) (hK : ∀ k, K k → k < B) (k1 : ElS K w z.2.1 z.1.1) (k2 : ElS K w z.2.2 z.1.2)
    (h : ∀ v' w' sp cp, v' = .slice sp (t.length + 1) cp → PrRow K B w' v' (t ++ [z]) → Below B w w' → wpList Tryz.prog ops Q rest (a.put o.dst v') w') : wpList Tryz.prog ops Q (o :: rest) a w := by
  refine wpList_append_one ElPr hgd s x ho B v t.length (prCells t) [z.2.1, z.2.2] hs hown.own ga go c hx rfl (fun j u hu => by
    rcases j with _ | _ | j
    · simp only [List.getElem?_cons_zero, Option.some.injEq] at hu; subst hu; exact c0
    · simp only [List.getElem?_cons_succ, List.getElem?_cons_zero, Option.some.injEq] at hu; subst hu; exact c1
    · simp at hu) (by simp [h1, h2]) hb hlen fun v' w' ho5 hg5 hor5 => ?_
  have hb5 : Below B w w' := Aside.below (S := fun k => v.ownBlock = some k) (Aside.of_grown hg5 fun _ h => h) hb fun k hk => (hown.own.lt k hk).1
  obtain ⟨sp, cp, e, _⟩ := ho5.form
  exact h v' w' sp cp e (hown.add (x := z) ho5 hb5 hK k1 k2) hb5
theorem step_append_rch {K : Set_} {B : Nat} {w : World} {ops : Array Oper} {o : Oper} {a : Act} {Kc : Act → World → Prop} {Q : Exit → Act → World → Prop} {F : Prop} (hgd : o.guard = none) (s x : Operand)
    (ho : o.op = .call { callee := .builtin .append, args := #[s, x], argTypes := #[39, 39] }) (v : Value) (t : List (Ch × Value × Value)) (hs : a.eval s = v) (hown : RcRow K B w v t) (ga go c : Nat)
    (hx : a.eval x = .slice (some ⟨ga, go, none⟩) 1 c) (z : (Ch × Value × Value)) (c0 : w.cell? ⟨ga, go, none⟩ = some (z.2.1)) (c1 : w.cell? ⟨ga, go + 1, none⟩ = some (z.2.2)) (c2 : w.cell? ⟨ga, go + 2, none⟩ = some (.bool z.1.gone)) (h1 : z.2.1.oneCell' = true) (h2 : z.2.2.oneCell' = true) (hb : B ≤ w.heap.size) (hlen : t.length ≤ 1073741824) (hK : ∀ k, K k → k < B) (k1 : ElS K w z.2.1 z.1.key) (k2 : ElS K w z.2.2 z.1.val)
    (h : ∀ v' w' sp cp, v' = .slice sp (t.length + 1) cp → RcRow K B w' v' (t ++ [z]) → Below B w w' → Kc (a.put o.dst v') w') : if Region.wanted o (yielded ops a.tmps) = true then Oper.wp Tryz.prog o a w Kc Q else F := by
  refine step_append_one ElRc hgd s x ho B v t.length (chCells t) [z.2.1, z.2.2, .bool z.1.gone] hs hown.own ga go c hx rfl (fun j u hu => by
    rcases j with _ | _ | _ | j
    · simp only [List.getElem?_cons_zero, Option.some.injEq] at hu; subst hu; exact c0
    · simp only [List.getElem?_cons_succ, List.getElem?_cons_zero, Option.some.injEq] at hu; subst hu; exact c1
    · simp only [List.getElem?_cons_succ, List.getElem?_cons_zero, Option.some.injEq] at hu; subst hu; exact c2
    · simp at hu) (fun u hu => by
    simp only [List.mem_cons, List.not_mem_nil, or_false] at hu
    rcases hu with rfl | rfl | rfl
    · exact h1
    · exact h2
    · rfl) hb hlen fun v' w' ho5 hg5 hor5 => ?_
  have hb5 : Below B w w' := Aside.below (S := fun k => v.ownBlock = some k) (Aside.of_grown hg5 fun _ h => h) hb fun k hk => (hown.own.lt k hk).1
  obtain ⟨sp, cp, e, _⟩ := ho5.form
  exact h v' w' sp cp e (hown.add (x := z) ho5 hb5 hK k1 k2) hb5
theorem wpList_append_rch {K : Set_} {B : Nat} {w : World} {ops : Array Oper} {rest : List Oper} {o : Oper} {a : Act} {Q : Exit → Act → World → Prop} (hgd : o.guard = none) (s x : Operand)
    (ho : o.op = .call { callee := .builtin .append, args := #[s, x], argTypes := #[39, 39] }) (v : Value) (t : List (Ch × Value × Value)) (hs : a.eval s = v) (hown : RcRow K B w v t) (ga go c : Nat)
    (hx : a.eval x = .slice (some ⟨ga, go, none⟩) 1 c) (z : (Ch × Value × Value)) (c0 : w.cell? ⟨ga, go, none⟩ = some (z.2.1)) (c1 : w.cell? ⟨ga, go + 1, none⟩ = some (z.2.2)) (c2 : w.cell? ⟨ga, go + 2, none⟩ = some (.bool z.1.gone)) (h1 : z.2.1.oneCell' = true) (h2 : z.2.2.oneCell' = true) (hb : B ≤ w.heap.size) (hlen : t.length ≤ 1073741824) (hK : ∀ k, K k → k < B) (k1 : ElS K w z.2.1 z.1.key) (k2 : ElS K w z.2.2 z.1.val)
    (h : ∀ v' w' sp cp, v' = .slice sp (t.length + 1) cp → RcRow K B w' v' (t ++ [z]) → Below B w w' → wpList Tryz.prog ops Q rest (a.put o.dst v') w') : wpList Tryz.prog ops Q (o :: rest) a w := by
  refine wpList_append_one ElRc hgd s x ho B v t.length (chCells t) [z.2.1, z.2.2, .bool z.1.gone] hs hown.own ga go c hx rfl (fun j u hu => by
    rcases j with _ | _ | _ | j
    · simp only [List.getElem?_cons_zero, Option.some.injEq] at hu; subst hu; exact c0
    · simp only [List.getElem?_cons_succ, List.getElem?_cons_zero, Option.some.injEq] at hu; subst hu; exact c1
    · simp only [List.getElem?_cons_succ, List.getElem?_cons_zero, Option.some.injEq] at hu; subst hu; exact c2
    · simp at hu) (fun u hu => by
    simp only [List.mem_cons, List.not_mem_nil, or_false] at hu
    rcases hu with rfl | rfl | rfl
    · exact h1
    · exact h2
    · rfl) hb hlen fun v' w' ho5 hg5 hor5 => ?_
  have hb5 : Below B w w' := Aside.below (S := fun k => v.ownBlock = some k) (Aside.of_grown hg5 fun _ h => h) hb fun k hk => (hown.own.lt k hk).1
  obtain ⟨sp, cp, e, _⟩ := ho5.form
  exact h v' w' sp cp e (hown.add (x := z) ho5 hb5 hK k1 k2) hb5
end Go.Proofs.YtbjgknoipbekoaaGreat
namespace Go.Proofs
open Go.Shelf
def Tryz.lays190_ren : Go.Shelf.Ren := ⟨fun | 190 => 76 | 125 => 97 | 258 => 96 | 128 => 116 | 129 => 117 | 302 => 107 | 303 => 108 | 304 => 109 | 305 => 110 | 306 => 111 | 307 => 112 | 308 => 113 | 309 => 114 | 310 => 115 | 333 => 122 | 329 => 123 | 330 => 124 | 334 => 125 | 335 => 126 | 336 => 127 | 344 => 130 | n => n, fun | 31 => 66 | 9 => 9 | 3 => 3 | 46 => 117 | 0 => 0 | 51 => 168 | 53 => 170 | 4 => 4 | 183 => 162 | 182 => 161 | 131 => 79 | 5 => 5 | 218 => 174 | 222 => 178 | 228 => 181 | 229 => 182 | n => n, fun | n => n⟩
theorem Tryz.lays190 : Go.Proofs.Lays.n190 Tryz.prog Tryz.lays190_ren := {
  mixed := by kernel_rfl
  f125 := Tryz.func97.trans (congrArg some (by kernel_rfl))
  f128 := Tryz.func116.trans (congrArg some (by kernel_rfl))
  f129 := Tryz.func117.trans (congrArg some (by kernel_rfl))
  f190 := Tryz.func76.trans (congrArg some (by kernel_rfl))
  f258 := Tryz.func96.trans (congrArg some (by kernel_rfl))
  f302 := Tryz.func107.trans (congrArg some (by kernel_rfl))
  f303 := Tryz.func108.trans (congrArg some (by kernel_rfl))
  f304 := Tryz.func109.trans (congrArg some (by kernel_rfl))
  f305 := Tryz.func110.trans (congrArg some (by kernel_rfl))
  f306 := Tryz.func111.trans (congrArg some (by kernel_rfl))
  f307 := Tryz.func112.trans (congrArg some (by kernel_rfl))
  f308 := Tryz.func113.trans (congrArg some (by kernel_rfl))
  f309 := Tryz.func114.trans (congrArg some (by kernel_rfl))
  f310 := Tryz.func115.trans (congrArg some (by kernel_rfl))
  f329 := Tryz.func123.trans (congrArg some (by kernel_rfl))
  f330 := Tryz.func124.trans (congrArg some (by kernel_rfl))
  f333 := Tryz.func122.trans (congrArg some (by kernel_rfl))
  f334 := Tryz.func125.trans (congrArg some (by kernel_rfl))
  f335 := Tryz.func126.trans (congrArg some (by kernel_rfl))
  f336 := Tryz.func127.trans (congrArg some (by kernel_rfl))
  f344 := Tryz.func130.trans (congrArg some (by kernel_rfl))
  t0 := Tryz.underlying0
  a0 := Tryz.isAgg0
  z0 := Tryz.sizeOf0
  v0 := Tryz.zeroValue0
  t3 := Tryz.underlying3
  a3 := Tryz.isAgg3
  z3 := Tryz.sizeOf3
  v3 := Tryz.zeroValue3
  t4 := Tryz.underlying4
  a4 := Tryz.isAgg4
  z4 := Tryz.sizeOf4
  v4 := Tryz.zeroValue4
  t5 := Tryz.underlying5
  a5 := Tryz.isAgg5
  z5 := Tryz.sizeOf5
  v5 := Tryz.zeroValue5
  t9 := Tryz.underlying9
  a9 := Tryz.isAgg9
  z9 := Tryz.sizeOf9
  v9 := Tryz.zeroValue9
  t31 := Tryz.underlying66
  a31 := Tryz.isAgg66
  z31 := Tryz.sizeOf66
  v31 := Tryz.zeroValue66
  t46 := Tryz.underlying117
  a46 := Tryz.isAgg117
  z46 := Tryz.sizeOf117
  v46 := Tryz.zeroValue117
  t51 := Tryz.underlying168
  a51 := Tryz.isAgg168
  z51 := Tryz.sizeOf168
  v51 := Tryz.zeroValue168
  t53 := Tryz.underlying170
  a53 := Tryz.isAgg170
  z53 := Tryz.sizeOf170
  v53 := Tryz.zeroValue170
  t131 := Tryz.underlying79
  a131 := Tryz.isAgg79
  z131 := Tryz.sizeOf79
  v131 := Tryz.zeroValue79
  t182 := Tryz.underlying161
  a182 := Tryz.isAgg161
  z182 := Tryz.sizeOf161
  v182 := Tryz.zeroValue161
  t183 := Tryz.underlying162
  a183 := Tryz.isAgg162
  z183 := Tryz.sizeOf162
  v183 := Tryz.zeroValue162
  t218 := Tryz.underlying174
  a218 := Tryz.isAgg174
  z218 := Tryz.sizeOf174
  v218 := Tryz.zeroValue174
  t222 := Tryz.underlying178
  a222 := Tryz.isAgg178
  z222 := Tryz.sizeOf178
  v222 := Tryz.zeroValue178
  t228 := Tryz.underlying181
  a228 := Tryz.isAgg181
  z228 := Tryz.sizeOf181
  v228 := Tryz.zeroValue181
  t229 := Tryz.underlying182
  a229 := Tryz.isAgg182
  z229 := Tryz.sizeOf182
  v229 := Tryz.zeroValue182 }
open Go.Sort Go.RowKit in
theorem Tryz.slices_Sort_string (blk off cap : Nat) (ss : List (List UInt8)) (w : World) (hH : Holds encStr w blk off ss.toArray) (hblk : blk < w.heap.size) (hsz : ss.length < 4611686018427387904) :
    Calls Tryz.prog 76 #[.slice (some ⟨blk, off, none⟩) ss.length cap] w fun e w' =>
      e = .returned (.tuple #[]) ∧ ∃ n os, w' = grow (putRow encStr (Sort.ahead w n) blk off (ss.mergeSort fun x y => decide (x ≤ y)).toArray) os := Any.slices_Sort_string Tryz.lays190 blk off cap ss w hH hblk hsz
def Tryz.lays99_ren : Go.Shelf.Ren := ⟨fun | 99 => 75 | 206 => 95 | n => n, fun | 9 => 9 | 4 => 4 | 3 => 3 | n => n, fun | n => n⟩
theorem Tryz.lays99 : Go.Proofs.Lays.n99 Tryz.prog Tryz.lays99_ren := {
  mixed := by kernel_rfl
  f99 := Tryz.func75.trans (congrArg some (by kernel_rfl))
  f206 := Tryz.func95.trans (congrArg some (by kernel_rfl))
  t3 := Tryz.underlying3
  a3 := Tryz.isAgg3
  z3 := Tryz.sizeOf3
  v3 := Tryz.zeroValue3
  t4 := Tryz.underlying4
  a4 := Tryz.isAgg4
  z4 := Tryz.sizeOf4
  v4 := Tryz.zeroValue4
  t9 := Tryz.underlying9
  a9 := Tryz.isAgg9
  z9 := Tryz.sizeOf9
  v9 := Tryz.zeroValue9 }
open Go.RowKit Go.Lib in
theorem Tryz.strings_HasPrefix (s p : ByteArray) (w : World) :
    Calls Tryz.prog 75 #[.string s, .string p] w fun e w' => e = .returned (.bool (Lib.hasPrefix s.data.toList p.data.toList)) ∧ w' = w := Any.strings_HasPrefix Tryz.lays99 s p w
open Go.RowKit Go.Sort in
theorem Tryz.slices_Sort_string_none (p : Option Addr) (cap : Nat) (w : World) :
    Calls Tryz.prog 76 #[.slice p 0 cap] w fun e w' => e = .returned (.tuple #[]) ∧ w' = w := Any.slices_Sort_string_none Tryz.lays190 p cap w
def Tryz.laysnb115_ren : Go.Shelf.Ren := ⟨fun | 115 => 82 | n => n, fun | 37 => 23 | 4 => 4 | 9 => 9 | 5 => 5 | n => n, fun | n => n⟩
theorem Tryz.laysnb115 : Go.Proofs.Lays.nb115 Tryz.prog Tryz.laysnb115_ren := {
  mixed := by kernel_rfl
  f115 := Tryz.func82.trans (congrArg some (by kernel_rfl))
  t4 := Tryz.underlying4
  a4 := Tryz.isAgg4
  z4 := Tryz.sizeOf4
  v4 := Tryz.zeroValue4
  t9 := Tryz.underlying9
  a9 := Tryz.isAgg9
  z9 := Tryz.sizeOf9
  v9 := Tryz.zeroValue9
  t37 := Tryz.underlying23
  a37 := Tryz.isAgg23
  z37 := Tryz.sizeOf23
  v37 := Tryz.zeroValue23
  t5 := Tryz.underlying5
  a5 := Tryz.isAgg5
  z5 := Tryz.sizeOf5
  v5 := Tryz.zeroValue5 }
theorem Tryz.bytes_Equal_all (p1 p2 : Option Addr) (n c m d : Nat) (xs ys : List Int) (w : World) (hx : xs.length = n) (hy : ys.length = m) (h1 : Lib.BytesIn w p1 n xs) (h2 : Lib.BytesIn w p2 m ys) :
    Calls Tryz.prog 82 #[.slice p1 n c, .slice p2 m d] w fun e w' => e = .returned (.bool (Lib.bytesOf xs == Lib.bytesOf ys)) ∧ w' = w := Any.bytes_Equal_all Tryz.laysnb115 p1 p2 n c m d xs ys w hx hy h1 h2
end Go.Proofs
namespace Go.Proofs.YtbjgknoipbekoaaGreat
open Go.RowKit Go.MapKept
theorem less_lt : ∀ {x y : Bs}, lessB x y = true → x < y
  | [], [], h => by simp [lessB] at h
  | [], b :: y, _ => List.nil_lt_cons b y
  | a :: x, [], h => by simp [lessB] at h
  | a :: x, b :: y, h => by
    unfold lessB at h
    rw [List.cons_lt_cons_iff]
    split at h
    · rename_i e
      exact Or.inr ⟨e, less_lt h⟩
    · exact Or.inl (UInt8.lt_iff_toNat_lt.2 (by simpa using h))
theorem less_le {x y : Bs} (h : lessB x y = true) : leB x y = true := by
  simp only [leB, decide_eq_true_eq]
  exact List.le_of_lt (less_lt h)
theorem keys_sorted {ps : List (Bs × Bs)} (h : SortedP ps) (pre : Bs) : (keysP ps pre).Pairwise fun x y => lessB x y = true := by
  have h' : (ps.map (·.1)).Pairwise (fun x y => lessB x y = true) := List.pairwise_map.2 (show ps.Pairwise (fun a b => lessB a.1 b.1 = true) from h)
  unfold keysP
  exact h'.filter _
theorem keys_merge {ps : List (Bs × Bs)} (h : SortedP ps) (pre : Bs) {ss : List Bs} (hp : ss.Perm (keysP ps pre)) : ss.mergeSort (fun x y => decide (x ≤ y)) = keysP ps pre := by
  have h1 := mergeSort_of_perm hp
  have h2 : (keysP ps pre).mergeSort leB = keysP ps pre := List.mergeSort_of_pairwise ((keys_sorted h pre).imp fun h => less_le h)
  exact h1.trans h2
theorem keys_nodup {ps : List (Bs × Bs)} (h : SortedP ps) (pre : Bs) : (keysP ps pre).Nodup := (keys_sorted h pre).imp fun h => less_ne h
theorem keys_len (ps : List (Bs × Bs)) (pre : Bs) : (keysP ps pre).length ≤ ps.length := by
  unfold keysP
  exact Nat.le_trans (List.length_filter_le _ _) (by rw [List.length_map]; exact Nat.le_refl _)
theorem get_mem : ∀ {ps : List (Bs × Bs)} {k : Bs} {b : Bs}, getP ps k = some b → (k, b) ∈ ps
  | [], _, _, h => by simp [getP] at h
  | x :: ps, k, b, h => by
    unfold getP at h
    split at h
    · rename_i e
      simp only [Option.some.injEq] at h
      obtain ⟨x1, x2⟩ := x
      simp only at e h
      rw [← e, ← h]
      exact List.mem_cons_self
    · exact List.mem_cons_of_mem _ (get_mem h)
theorem mem_get {ps : List (Bs × Bs)} {k : Bs} (h : k ∈ ps.map (·.1)) : getP ps k ≠ none := by
  induction ps with
  | nil => simp at h
  | cons x ps ih =>
    unfold getP
    split
    · simp
    · rename_i hne
      rw [List.map_cons, List.mem_cons] at h
      rcases h with h | h
      · exact absurd h.symm hne
      · exact ih h
/-- What was collected so far. -/
structure Got (es : Array MapEntry) (seen : Array Nat) (pre : Bs) (ss : List Bs) : Prop where
  nodup : ss.Nodup
  mem : ∀ x, x ∈ ss ↔ (pre.isPrefixOf x = true ∧ ∃ e ∈ es.toList, e.key = ks x ∧ seen.contains e.born = true)
theorem Got.start (es : Array MapEntry) (pre : Bs) : Got es #[] pre [] := ⟨List.nodup_nil, fun x => by simp⟩
theorem same_key {es : Array MapEntry} {clock : Nat} (h : Stamped es clock) {e e' : MapEntry} (he : e ∈ es.toList) (he' : e' ∈ es.toList) (hk : e.key = e'.key) : e = e' := entry_eq_of_key ((stamped_iff es clock).1 h).2.2 he he' hk
theorem Got.not {es : Array MapEntry} {clock : Nat} {seen : Array Nat} {pre : Bs} {ss : List Bs} (h : Got es seen pre ss) (hst : Stamped es clock) {e : MapEntry} (he : e ∈ es.toList) {x : Bs} (hx : e.key = ks x) (hp : pre.isPrefixOf x = false) : Got es (seen.push e.born) pre ss := by
  refine ⟨h.nodup, fun y => ?_⟩
  rw [h.mem y]
  constructor
  · rintro ⟨h1, e', h2, h3, h4⟩
    exact ⟨h1, e', h2, h3, by rw [contains_push, h4]; rfl⟩
  · rintro ⟨h1, e', h2, h3, h4⟩
    refine ⟨h1, e', h2, h3, ?_⟩
    rw [contains_push] at h4
    simp only [Bool.or_eq_true, beq_iff_eq] at h4
    rcases h4 with h4 | h4
    · exact h4
    · have h5 := born_inj ((stamped_iff es clock).1 hst).2.1 h2 he h4
      subst h5
      rw [hx] at h3
      rw [ks_inj h3] at hp
      rw [hp] at h1
      cases h1
theorem Got.add {es : Array MapEntry} {clock : Nat} {seen : Array Nat} {pre : Bs} {ss : List Bs} (h : Got es seen pre ss) (hst : Stamped es clock) {e : MapEntry} (he : e ∈ es.toList) {x : Bs} (hx : e.key = ks x) (hp : pre.isPrefixOf x = true) (hs : seen.contains e.born = false) : Got es (seen.push e.born) pre (ss ++ [x]) := by
  have hnew : x ∉ ss := fun hm => by
    obtain ⟨_, e', h2, h3, h4⟩ := (h.mem x).1 hm
    have h5 := same_key hst h2 he (by rw [h3, hx])
    subst h5
    rw [hs] at h4
    cases h4
  refine ⟨List.nodup_append.2 ⟨h.nodup, by simp, fun a ha b hb => by simp only [List.mem_singleton] at hb; subst hb; exact fun e => hnew (e ▸ ha)⟩, fun y => ?_⟩
  rw [List.mem_append, List.mem_singleton, h.mem y]
  constructor
  · rintro (⟨h1, e', h2, h3, h4⟩ | rfl)
    · exact ⟨h1, e', h2, h3, by rw [contains_push, h4]; rfl⟩
    · exact ⟨hp, e, he, hx, by rw [contains_push]; simp⟩
  · rintro ⟨h1, e', h2, h3, h4⟩
    rw [contains_push] at h4
    simp only [Bool.or_eq_true, beq_iff_eq] at h4
    rcases h4 with h4 | h4
    · exact Or.inl ⟨h1, e', h2, h3, h4⟩
    · have h5 := born_inj ((stamped_iff es clock).1 hst).2.1 h2 he h4
      subst h5
      rw [hx] at h3
      exact Or.inr (ks_inj h3).symm
theorem Got.sub {V : Set_} {w : World} {es : Array MapEntry} {seen : Array Nat} {pre : Bs} {ss : List Bs} {ps : List (Bs × Bs)} (h : Got es seen pre ss) (hE : SEs V w es (getP ps)) : ∀ x ∈ ss, x ∈ keysP ps pre := fun x hx => by
  obtain ⟨h1, e, h2, h3, _⟩ := (h.mem x).1 hx
  obtain ⟨k, b, h4, h5, _⟩ := hE.each e h2
  rw [h3] at h4
  rw [← ks_inj h4] at h5
  unfold keysP
  exact List.mem_filter.2 ⟨List.mem_map.2 ⟨_, get_mem h5, rfl⟩, h1⟩
theorem nodup_len {a b : List Bs} (ha : a.Nodup) (hb : b.Nodup) (h : ∀ x ∈ a, x ∈ b) : a.length ≤ b.length := by
  have hp : a.Perm (b.filter fun x => decide (x ∈ a)) := (List.perm_ext_iff_of_nodup ha (hb.filter _)).2 fun x => by
    rw [List.mem_filter]
    simp only [decide_eq_true_eq]
    exact ⟨fun hx => ⟨h x hx, hx⟩, fun hx => hx.2⟩
  rw [hp.length_eq]
  exact List.length_filter_le _ _
theorem Got.len {V : Set_} {w : World} {es : Array MapEntry} {seen : Array Nat} {pre : Bs} {ss : List Bs} {ps : List (Bs × Bs)} (h : Got es seen pre ss) (hE : SEs V w es (getP ps)) (hs : SortedP ps) : ss.length ≤ ps.length := Nat.le_trans (nodup_len h.nodup (keys_nodup hs pre) (h.sub hE)) (keys_len ps pre)
theorem Got.perm {V : Set_} {w : World} {es : Array MapEntry} {seen : Array Nat} {pre : Bs} {ss : List Bs} {ps : List (Bs × Bs)} (h : Got es seen pre ss) (hE : SEs V w es (getP ps)) (hs : SortedP ps) (hall : ∀ e ∈ es.toList, seen.contains e.born = true) : ss.Perm (keysP ps pre) := by
  refine (List.perm_ext_iff_of_nodup h.nodup (keys_nodup hs pre)).2 fun x => ⟨h.sub hE x, fun hx => ?_⟩
  unfold keysP at hx
  obtain ⟨h1, h2⟩ := List.mem_filter.1 hx
  refine (h.mem x).2 ⟨h2, ?_⟩
  apply Classical.byContradiction
  intro hn
  exact mem_get h1 (hE.none x fun e he hk => hn ⟨e, he, hk, hall e he⟩)
theorem Est : Elem Tryz.prog 66 9 (.string ⟨#[]⟩) 16 := elem_of Tryz.underlying66 (by kernel_rfl) rfl (by omega)
/-- A row of strings of the call's own. -/
def OwnS (w : World) (B : Nat) (v : Value) (ss : List Bs) : Prop := OwnV 9 w B v (ss.map ks)
end Go.Proofs.YtbjgknoipbekoaaGreat
namespace Go.Proofs.YtbjgknoipbekoaaGreat
open Go.RowKit Go.MapKept
/-- slices.Sort of strings of the call's own. -/
theorem sort_c (w : World) (B : Nat) (v : Value) (ss : List Bs) (h : OwnS w B v ss) (hl : ss.length ≤ 1000000) : Calls Tryz.prog 76 #[v] w fun e w' => e = .returned (.tuple #[]) ∧ OwnS w' B v (ss.mergeSort fun x y => decide (x ≤ y)) ∧ w.grownBy w' v.ownBlock := by
  have hlen : (ss.map ks).length = ss.length := List.length_map _
  have h' : w.ownsRow B 9 1 v ss.length (ss.map encStr) := by
    have h0 : w.ownsRow B 9 1 v (ss.map ks).length (ss.map ks) := h
    rw [hlen] at h0
    exact h0
  rcases h'.2 with ⟨hnil, hn⟩ | ⟨g, cap, cur, rfl, hbase, hb, h1, h2, h3, h4⟩
  · obtain rfl : ss = [] := by simpa using hn
    subst hnil
    refine (Tryz.slices_Sort_string_none none 0 w).mono ?_
    rintro e w' ⟨rfl, rfl⟩
    exact ⟨rfl, by simpa using h, World.grownBy.refl _ _⟩
  · refine (Tryz.slices_Sort_string g 0 cap ss w (holds_of_block hb (by simpa using h4)) (Array.getElem?_eq_some_iff.1 hb).1 (by omega)).mono ?_
    rintro e w' ⟨rfl, n, os, rfl⟩
    have hls : (ss.mergeSort fun x y => decide (x ≤ y)).length = ss.length := by simp
    refine ⟨rfl, ?_, grownBy_sorted _⟩
    have := ownsRow_sorted (n := n) (os := os) hls hbase hb h1 h2 h3
    unfold OwnS OwnV
    rw [List.length_map, hls]
    exact this
theorem own_ne_iter {w : World} {B r c0 since : Nat} {m : Option Nat} {seen : Array Nat} {v : Value} {cs : List Value} {e : TypeId} (h : OwnV e w B v cs) (hr : w.heap[r]? = some (.mapIter m since seen c0)) : v.ownBlock ≠ some r := fun e1 => by
  rcases h.2 with ⟨hnil, _⟩ | ⟨g, cap, cur, rfl, _, hb, _⟩
  · subst hnil
    simp [Value.ownBlock] at e1
  · simp only [Value.ownBlock, Option.some.injEq] at e1
    rw [e1, hr] at hb
    cases hb
set_option maxRecDepth 100000 in
set_option maxHeartbeats 4000000 in
theorem pkeys_c {V : Set_} {w : World} {B : Nat} {ps : List (Bs × Bs)} (h : SMAt V w B (getP ps)) (hs : SortedP ps) (hl : ps.length ≤ 1000000) (pre : ByteArray) :
    Calls Tryz.prog 52 #[.map (some B), .string pre] w fun e w' => ∃ v, e = .returned v ∧ OwnS w' w.heap.size v (keysP ps pre.data.toList) ∧ Below w.heap.size w w' := by
  have hBl := h.lt
  obtain ⟨es, clock, hE, w1, hrun, hR1, hb1⟩ := range_s h
  have HE := hide hE
  have HS := hide hs
  obtain ⟨P, hP⟩ : ∃ P : Bs, pre.data.toList = P := ⟨_, rfl⟩
  have HP := hide hP
  have HR1 := hide hR1
  have HB1 := hide hb1
  have HBL := hide hBl
  rw [hP]
  clear h hE hs hR1 hb1 hP hBl
  go_enter Tryz.func52, Tryz.ntmps52
  go_wp2
  go_loopw [5] (fun kv wr => ∃ (sp : Option Addr) (n c : Nat) (ss : List Bs) (seen : Array Nat), kv = .slice sp n c ∧ n ≤ 1000000 ∧ Hid (ss.length = n) ∧ Hid (OwnS wr w.heap.size (.slice sp n c) ss) ∧ Hid (RngS wr B w.heap.size es clock seen) ∧ Hid (Got es seen P ss) ∧ Hid (Below w.heap.size w wr)) (fun _ wr => leftIn wr B w.heap.size)
  case atStart => exact ⟨none, 0, 0, [], #[], rfl, by omega, rfl, own_nil _ _ _, unhide HR1, Got.start _ _, unhide HB1⟩
  case round =>
    clear hrun HR1 HB1
    obtain ⟨sp, n, c, ss, seen, rfl, hn, HN, HO, HR, HG, HB⟩ := hrel
    have hlft := (unhide HR).left
    have hst := (unhide HR).st
    rcases (unhide HR).next 0 with ⟨hall, hrun⟩ | ⟨e, he, hsn, w2, hrun, hR2, hA2, hsz2, hlt2, hent⟩
    · have HPm := hide ((unhide HG).perm (unhide HE) (unhide HS) hall)
      have Hso := hide (sort_c wr w.heap.size (.slice sp n c) ss (unhide HO) (by rw [unhide HN]; exact hn))
      clear hall hlft hst
      go_wp2_with (go_at_call 76; refine (unhide Hso).mono ?_
                   rintro e w2 ⟨rfl, ho2, hg2⟩
                   rw [keys_merge (unhide HS) P (unhide HPm)] at ho2
                   have HO2 := hide ho2
                   have HB2 := hide (own_below (unhide HO) hg2 (unhide HB) (unhide HB).size)
                   clear ho2 hg2)
      go_ret
      exact ⟨_, rfl, unhide HO2, unhide HB2⟩
    · obtain ⟨x, b, hkx, _, _⟩ := (unhide HE).each e he
      have HBsz := hide (unhide HB).size
      have HR2 := hide hR2
      have hb2 : Below w.heap.size wr w2 := Aside.below hA2 (unhide HB).size fun k hk => by omega
      have HB2 := hide ((unhide HB).trans hb2)
      have HO2 : Hid (OwnS w2 w.heap.size (.slice sp n c) ss) := OwnV.aside (unhide HO) hA2 fun k hk he => by
        obtain ⟨c0, hit, _⟩ := (unhide HR).it
        exact own_ne_iter (unhide HO) hit (he ▸ hk)
      have hlt3 : leftIn w2 B w.heap.size < leftIn wr B w.heap.size := by rw [hR2.left, hlft]; exact hlt2
      have HLT := hide hlt3
      obtain ⟨sx, hsx⟩ : ∃ y : ByteArray, (⟨x.toArray⟩ : ByteArray) = y := ⟨_, rfl⟩
      have hke : e.key = .string sx := by rw [hkx]; unfold ks; rw [hsx]
      have hxs : sx.data.toList = x := by rw [← hsx]
      rw [hke] at hrun hent
      obtain ⟨ev, hev⟩ : ∃ y, e.val = y := ⟨_, rfl⟩
      rw [hev] at hrun hent
      have Hpf := hide (Tryz.strings_HasPrefix sx pre w2)
      rw [show Lib.hasPrefix sx.data.toList pre.data.toList = P.isPrefixOf x by unfold Lib.hasPrefix; rw [hxs, unhide HP]] at Hpf
      obtain ⟨pf, hpf⟩ : ∃ y, P.isPrefixOf x = y := ⟨_, rfl⟩
      rw [hpf] at Hpf
      cases pf
      · have HG2 := hide ((unhide HG).not hst he hkx hpf)
        clear hA2 hsz2 hlt2 hb2 hlft hst hkx hsx hke hxs hpf hev hR2 hlt3 HG HO HR
        go_wp2_with (go_at_call 75; refine (unhide Hpf).mono ?_; rintro e w3 ⟨rfl, hw⟩; have hw' := hw.symm; subst hw')
        exact ⟨⟨sp, n, c, ss, _, rfl, hn, HN, HO2, HR2, HG2, HB2⟩, unhide HLT⟩
      · have HG2 := hide ((unhide HG).add hst he hkx hpf hsn)
        have hn1 : (ss ++ [x]).length ≤ 1000000 := Nat.le_trans ((unhide HG2).len (unhide HE) (unhide HS)) hl
        rw [List.length_append, unhide HN, List.length_singleton] at hn1
        have hbA : Below w2.heap.size w2 (w2.alloc (.cells #[.string sx] 9)) := (Below.refl _ _).alloc (Nat.le_refl _) _
        have HY : Hid (ValsAt (w2.alloc (.cells #[.string sx] 9)) (.slice (some ⟨w2.heap.size, 0, none⟩) 1 1) [.string sx]) := vals_new w2 [.string sx] 9
        have HOA := hide (OwnV.below (unhide HO2) hbA)
        have HBA := hide ((unhide HB2).trans (hbA.mono (unhide HB2).size))
        have HRA := hide ((unhide HR2).kept (S := none_) (Aside.of_below hbA) (fun h => h) (fun h => h))
        have HXK : Hid (ks x = .string sx) := by show _ = _; unfold ks; rw [hsx]
        clear hA2 hsz2 hlt2 hb2 hlft hst hkx hsx hke hxs hpf hev hR2 hlt3 hbA HG HO HR
        go_wp2_with (first
          | (go_at_call 75; refine (unhide Hpf).mono ?_; rintro e w3 ⟨rfl, hw⟩; have hw' := hw.symm; subst hw')
          | (at_builtin; refine wpList_append_vals Est rfl _ _ rfl w.heap.size (.slice sp n c) (.slice (some ⟨w2.heap.size, 0, none⟩) 1 1) (ss.map ks) [.string sx] rfl (unhide HOA) rfl (unhide HY) (by simp [Value.oneCell']) (unhide HBA).size (by rw [List.length_map, unhide HN]; simp; omega) ?_
             intro v3 w3 ho3 hg3 hor3
             obtain ⟨s3, c3, e3⟩ := ho3.form
             rw [List.length_append, List.length_map, unhide HN, List.length_singleton] at e3
             subst e3
             have HO3 : Hid (OwnS w3 w.heap.size (.slice s3 (n + 1) c3) (ss ++ [x])) := by
               show OwnV _ _ _ _ _
               rw [List.map_append, List.map_singleton, unhide HXK]
               exact ho3
             have ha3 : Aside (fun k => (Value.slice sp n c).ownBlock = some k) (w2.alloc (.cells #[.string sx] 9)) w3 := Aside.of_grown hg3 fun _ h => h
             have HR3 := hide ((unhide HRA).kept ha3 (fun hk => by
               have := (World.ownsRow.lt (unhide HOA) _ hk).1
               have := unhide HBL
               omega) (fun hk => by
               obtain ⟨c0, hit, _⟩ := (unhide HRA).it
               exact own_ne_iter (unhide HOA) hit hk))
             have HB3 := hide (own_below (unhide HOA) hg3 (unhide HBA) (unhide HBA).size)
             clear ho3 hg3 hor3 ha3))
        refine ⟨⟨s3, n + 1, c3, ss ++ [x], _, rfl, hn1, ?_, HO3, HR3, HG2, HB3⟩, ?_⟩
        · show _ = _; rw [List.length_append, unhide HN]; rfl
        · have h1 := (unhide HR3).left
          have h2 := (unhide HR2).left
          rw [h1, ← h2]
          exact unhide HLT
end Go.Proofs.YtbjgknoipbekoaaGreat
