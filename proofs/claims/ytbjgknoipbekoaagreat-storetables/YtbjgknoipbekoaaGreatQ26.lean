/-
  Pairs in memory (the reference's store); rows of pairs, and of the reference's changes, that grow.
  The statements' plain and small, walked.
  Same and Less of the references, as calls that leave the world as it was but for draws.
-/
import Derived.Test.YtbjgknoipbekoaaGreatQ22
import Derived.Test.YtbjgknoipbekoaaGreatQ25
import Derived.Test.YtbjgknoipbekoaaGreatQ15
namespace Go.Proofs.YtbjgknoipbekoaaGreat
open Go.RowKit
/-- A pair's two cells. -/
structure Pr2 (K : Set_) (w : World) (g o : Nat) (c : Bs × Bs) (kv vv : Value) : Prop where
  c0 : w.cell? ⟨g, o, none⟩ = some kv
  c1 : w.cell? ⟨g, o + 1, none⟩ = some vv
  key : ElS K w kv c.1
  val : ElS K w vv c.2
/-- A slice of pairs, all of it in blocks of K. -/
structure PrsAt (K : Set_) (w : World) (x : Value) (l : List (Bs × Bs)) : Prop where
  form : ∃ sp c, x = .slice sp l.length c ∧ l.length ≤ c ∧ (sp = none → c = 0)
  at_ : ∀ (i : Nat) (c : Bs × Bs), l[i]? = some c → ∃ g o m cp, x = .slice (some ⟨g, o, none⟩) m cp ∧ K g ∧ g < w.heap.size ∧ ∃ kv vv, Pr2 K w g (o + i * 2) c kv vv
theorem prs_nil (K : Set_) (w : World) : PrsAt K w (.slice none 0 0) [] := ⟨⟨none, 0, rfl, Nat.le_refl _, fun _ => rfl⟩, fun i c h => by simp at h⟩
theorem Pr2.aside {K S : Set_} {a b : World} {g o : Nat} {c : Bs × Bs} {kv vv : Value} (h : Pr2 K a g o c kv vv) (hb : Aside S a b) (hK : ∀ k, S k → ¬ K k) (hg : K g) : Pr2 K b g o c kv vv :=
  ⟨cell_aside h.c0 hb fun hS => hK g hS hg, cell_aside h.c1 hb fun hS => hK g hS hg, h.key.aside hb hK, h.val.aside hb hK⟩
theorem PrsAt.aside {K S : Set_} {a b : World} {x : Value} {l : List (Bs × Bs)} (h : PrsAt K a x l) (hb : Aside S a b) (hK : ∀ k, S k → ¬ K k) : PrsAt K b x l := by
  refine ⟨h.form, fun i c hi => ?_⟩
  obtain ⟨g, o, m, cp, e, hg, hl, kv, vv, h3⟩ := h.at_ i c hi
  exact ⟨g, o, m, cp, e, hg, Nat.lt_of_lt_of_le hl hb.size, kv, vv, h3.aside hb hK hg⟩
theorem PrsAt.below {K : Set_} {a b : World} {x : Value} {l : List (Bs × Bs)} (h : PrsAt K a x l) (hb : Below a.heap.size a b) : PrsAt K b x l := h.aside (S := none_) (Aside.of_below hb) fun _ h => h.elim
theorem PrsAt.mono {K K' : Set_} {a : World} {x : Value} {l : List (Bs × Bs)} (h : PrsAt K a x l) (hK : ∀ k, k < a.heap.size → K k → K' k) : PrsAt K' a x l := by
  refine ⟨h.form, fun i c hi => ?_⟩
  obtain ⟨g, o, m, cp, e, hg, hl, kv, vv, h3⟩ := h.at_ i c hi
  exact ⟨g, o, m, cp, e, hK g hl hg, hl, kv, vv, ⟨h3.c0, h3.c1, h3.key.mono' hK, h3.val.mono' hK⟩⟩
/-- One pair of the slice. -/
theorem PrsAt.one {K : Set_} {w : World} {sp : Option Addr} {n cp i : Nat} {l : List (Bs × Bs)} (h : PrsAt K w (.slice sp n cp) l) (hi : i < l.length) : ∃ c g o s1 c1 s2 c2, l[i]? = some c ∧ sp = some ⟨g, o, none⟩ ∧ K g ∧ g < w.heap.size ∧ Pr2 K w g (o + i * 2) c (.slice s1 c.1.length c1) (.slice s2 c.2.length c2) := by
  obtain ⟨g, o, m, cp', e, hg, hl, kv, vv, h3⟩ := h.at_ i l[i] (List.getElem?_eq_getElem hi)
  simp only [Value.slice.injEq] at e
  obtain ⟨rfl, _, _⟩ := e
  obtain ⟨s1, c1, e1, _⟩ := bytes_open h3.key.at_
  obtain ⟨s2, c2, e2, _⟩ := bytes_open h3.val.at_
  subst e1
  subst e2
  exact ⟨l[i], g, o, s1, c1, s2, c2, List.getElem?_eq_getElem hi, rfl, hg, hl, h3⟩
theorem ElPr : ElemN Tryz.prog 32 78 (.agg #[.slice none 0 0, .slice none 0 0]) 2 48 := elemN_of Tryz.underlying32 (by kernel_rfl) rfl (by omega) (by omega) (by omega)
abbrev PrT := (Bs × Bs) × Value × Value
def prsT (t : List PrT) : List (Bs × Bs) := t.map (·.1)
def prCells (t : List PrT) : List Value := t.flatMap fun x => [x.2.1, x.2.2]
theorem prCells_at : ∀ (t : List PrT) (i : Nat) (x : PrT), t[i]? = some x → (prCells t)[i * 2]? = some x.2.1 ∧ (prCells t)[i * 2 + 1]? = some x.2.2
  | [], i, x, h => by simp at h
  | y :: t, 0, x, h => by
    simp only [List.getElem?_cons_zero, Option.some.injEq] at h
    subst h
    exact ⟨rfl, rfl⟩
  | y :: t, i + 1, x, h => by
    rw [List.getElem?_cons_succ] at h
    obtain ⟨h1, h2⟩ := prCells_at t i x h
    have e : ∀ j, (prCells (y :: t))[(i + 1) * 2 + j]? = (prCells t)[i * 2 + j]? := fun j => by
      show (([y.2.1, y.2.2] : List Value) ++ prCells t)[(i + 1) * 2 + j]? = _
      rw [List.getElem?_append_right (by simp; omega)]
      congr 1
      simp only [List.length_cons, List.length_nil]
      omega
    exact ⟨(e 0).trans h1, (e 1).trans h2⟩
theorem prCells_snoc (t : List PrT) (x : PrT) : prCells (t ++ [x]) = prCells t ++ [x.2.1, x.2.2] := by
  unfold prCells
  rw [List.flatMap_append]
  simp
/-- A row of pairs of the call's own, whose bytes lie in blocks of K. -/
structure PrRow (K : Set_) (B : Nat) (w : World) (v : Value) (t : List PrT) : Prop where
  own : OwnN 78 2 w B v t.length (prCells t)
  each : ∀ x ∈ t, ElS K w x.2.1 x.1.1 ∧ ElS K w x.2.2 x.1.2
theorem PrRow.call {K : Set_} {B : Nat} {w w' : World} {v : Value} {t : List PrT} (h : PrRow K B w v t) (hb : Below w.heap.size w w') : PrRow K B w' v t :=
  ⟨h.own.below hb, fun x hx => ⟨(h.each x hx).1.aside (S := none_) (Aside.of_below hb) fun _ h => h.elim, (h.each x hx).2.aside (S := none_) (Aside.of_below hb) fun _ h => h.elim⟩⟩
theorem prrow_nil (K : Set_) (B : Nat) (w : World) : PrRow K B w (.slice none 0 0) [] := ⟨ownn_nil _ _ _ _, fun x hx => by cases hx⟩
theorem PrRow.at_ {K K' : Set_} {B : Nat} {w : World} {v : Value} {t : List PrT} (h : PrRow K B w v t) (hK : ∀ k, K k → K' k) (hB : ∀ k, B ≤ k → K' k) : PrsAt K' w v (prsT t) := by
  unfold prsT
  obtain ⟨sp, c, e, h1, h2⟩ := h.own.form
  refine ⟨⟨sp, c, by rw [List.length_map]; exact e, by rw [List.length_map]; exact h1, h2⟩, fun i ch hi => ?_⟩
  rw [List.getElem?_map] at hi
  obtain ⟨x, hx, rfl⟩ := Option.map_eq_some_iff.1 hi
  have hpos : 0 < t.length := by have := (List.getElem?_eq_some_iff.1 hx).1; omega
  obtain ⟨g, cp, ev, hB1, hg, _, hcell⟩ := h.own.at hpos
  obtain ⟨e0, e1⟩ := prCells_at t i x hx
  have hm := List.mem_of_getElem? hx
  exact ⟨g, 0, _, cp, ev, hB g hB1, hg, x.2.1, x.2.2, ⟨hcell _ _ e0, hcell _ _ e1, (h.each x hm).1.mono hK, (h.each x hm).2.mono hK⟩⟩
theorem PrRow.add {K : Set_} {B : Nat} {w w' : World} {v v' : Value} {t : List PrT} {x : PrT} (h : PrRow K B w v t) (ho : OwnN 78 2 w' B v' (t.length + 1) (prCells t ++ [x.2.1, x.2.2])) (hb : Below B w w') (hK : ∀ k, K k → k < B) (h1 : ElS K w x.2.1 x.1.1) (h2 : ElS K w x.2.2 x.1.2) : PrRow K B w' v' (t ++ [x]) := by
  refine ⟨by rw [List.length_append, prCells_snoc]; exact ho, fun y hy => ?_⟩
  rcases List.mem_append.1 hy with hy | hy
  · exact ⟨(h.each y hy).1.low hb hK, (h.each y hy).2.low hb hK⟩
  · rw [List.mem_singleton] at hy
    subst hy
    exact ⟨h1.low hb hK, h2.low hb hK⟩
/-- A row of the reference's changes of the call's own. -/
structure RcRow (K : Set_) (B : Nat) (w : World) (v : Value) (t : List (Ch × Value × Value)) : Prop where
  own : OwnN 74 3 w B v t.length (chCells t)
  each : ∀ x ∈ t, ElS K w x.2.1 x.1.key ∧ ElS K w x.2.2 x.1.val
theorem RcRow.call {K : Set_} {B : Nat} {w w' : World} {v : Value} {t : List (Ch × Value × Value)} (h : RcRow K B w v t) (hb : Below w.heap.size w w') : RcRow K B w' v t :=
  ⟨h.own.below hb, fun x hx => ⟨(h.each x hx).1.aside (S := none_) (Aside.of_below hb) fun _ h => h.elim, (h.each x hx).2.aside (S := none_) (Aside.of_below hb) fun _ h => h.elim⟩⟩
theorem RcRow.at_ {K K' : Set_} {B : Nat} {w : World} {v : Value} {t : List (Ch × Value × Value)} (h : RcRow K B w v t) (hK : ∀ k, K k → K' k) (hB : ∀ k, B ≤ k → K' k) : ChsAt K' w v (chsT t) := by
  unfold chsT
  obtain ⟨sp, c, e, h1, h2⟩ := h.own.form
  refine ⟨⟨sp, c, by rw [List.length_map]; exact e, by rw [List.length_map]; exact h1, h2⟩, fun i ch hi => ?_⟩
  rw [List.getElem?_map] at hi
  obtain ⟨x, hx, rfl⟩ := Option.map_eq_some_iff.1 hi
  have hpos : 0 < t.length := by have := (List.getElem?_eq_some_iff.1 hx).1; omega
  obtain ⟨g, cp, ev, hB1, hg, _, hcell⟩ := h.own.at hpos
  obtain ⟨e0, e1, e2⟩ := chCells_at t i x hx
  have hm := List.mem_of_getElem? hx
  exact ⟨g, 0, _, cp, ev, hB g hB1, hg, x.2.1, x.2.2, ⟨hcell _ _ e0, hcell _ _ e1, hcell _ _ e2, (h.each x hm).1.mono hK, (h.each x hm).2.mono hK⟩⟩
theorem RcRow.add {K : Set_} {B : Nat} {w w' : World} {v v' : Value} {t : List (Ch × Value × Value)} {x : Ch × Value × Value} (h : RcRow K B w v t) (ho : OwnN 74 3 w' B v' (t.length + 1) (chCells t ++ [x.2.1, x.2.2, .bool x.1.gone])) (hb : Below B w w') (hK : ∀ k, K k → k < B) (h1 : ElS K w x.2.1 x.1.key) (h2 : ElS K w x.2.2 x.1.val) : RcRow K B w' v' (t ++ [x]) := by
  refine ⟨by rw [List.length_append, chCells_snoc]; exact ho, fun y hy => ?_⟩
  rcases List.mem_append.1 hy with hy | hy
  · exact ⟨(h.each y hy).1.low hb hK, (h.each y hy).2.low hb hK⟩
  · rw [List.mem_singleton] at hy
    subst hy
    exact ⟨h1.low hb hK, h2.low hb hK⟩
theorem step_append_pair {K : Set_} {B : Nat} {w : World} {ops : Array Oper} {o : Oper} {a : Act} {Kc : Act → World → Prop} {Q : Exit → Act → World → Prop} {F : Prop} (hgd : o.guard = none) (s x : Operand)
    (ho : o.op = .call { callee := .builtin .append, args := #[s, x], argTypes := #[32, 32] }) (v : Value) (t : List PrT) (hs : a.eval s = v) (hown : PrRow K B w v t) (ga go c : Nat)
    (hx : a.eval x = .slice (some ⟨ga, go, none⟩) 1 c) (z : PrT) (c0 : w.cell? ⟨ga, go, none⟩ = some (z.2.1)) (c1 : w.cell? ⟨ga, go + 1, none⟩ = some (z.2.2)) (h1 : z.2.1.oneCell' = true) (h2 : z.2.2.oneCell' = true) (hb : B ≤ w.heap.size) (hlen : t.length ≤ 1073741824) (hK : ∀ k, K k → k < B) (k1 : ElS K w z.2.1 z.1.1) (k2 : ElS K w z.2.2 z.1.2)
    (h : ∀ v' w' sp cp, v' = .slice sp (t.length + 1) cp → PrRow K B w' v' (t ++ [z]) → Below B w w' → Kc (a.put o.dst v') w') : if Region.wanted o (yielded ops a.tmps) = true then Oper.wp Tryz.prog o a w Kc Q else F := by
  refine step_append_one ElPr hgd s x ho B v t.length (prCells t) [z.2.1, z.2.2] hs hown.own ga go c hx rfl (fun j u hu => by
    rcases j with _ | _ | j
    · simp only [List.getElem?_cons_zero, Option.some.injEq] at hu; subst hu; exact c0
    · simp only [List.getElem?_cons_succ, List.getElem?_cons_zero, Option.some.injEq] at hu; subst hu; exact c1
    · simp at hu) (by simp [h1, h2]) hb hlen fun v' w' ho5 hg5 hor5 => ?_
  have hb5 : Below B w w' := Aside.below (S := fun k => v.ownBlock = some k) (Aside.of_grown hg5 fun _ h => h) hb fun k hk => (hown.own.lt k hk).1
  obtain ⟨sp, cp, e, _⟩ := ho5.form
  exact h v' w' sp cp e (hown.add (x := z) ho5 hb5 hK k1 k2) hb5
theorem wpList_append_pair {K : Set_} {B : Nat} {w : World} {ops : Array Oper} {rest : List Oper} {o : Oper} {a : Act} {Q : Exit → Act → World → Prop} (hgd : o.guard = none) (s x : Operand)
    (ho : o.op = .call { callee := .builtin .append, args := #[s, x], argTypes := #[32, 32] }) (v : Value) (t : List PrT) (hs : a.eval s = v) (hown : PrRow K B w v t) (ga go c : Nat)
    (hx : a.eval x = .slice (some ⟨ga, go, none⟩) 1 c) (z : PrT) (c0 : w.cell? ⟨ga, go, none⟩ = some (z.2.1)) (c1 : w.cell? ⟨ga, go + 1, none⟩ = some (z.2.2)) (h1 : z.2.1.oneCell' = true) (h2 : z.2.2.oneCell' = true) (hb : B ≤ w.heap.size) (hlen : t.length ≤ 1073741824) (hK : ∀ k, K k → k < B) (k1 : ElS K w z.2.1 z.1.1) (k2 : ElS K w z.2.2 z.1.2)
    (h : ∀ v' w' sp cp, v' = .slice sp (t.length + 1) cp → PrRow K B w' v' (t ++ [z]) → Below B w w' → wpList Tryz.prog ops Q rest (a.put o.dst v') w') : wpList Tryz.prog ops Q (o :: rest) a w := by
  refine wpList_append_one ElPr hgd s x ho B v t.length (prCells t) [z.2.1, z.2.2] hs hown.own ga go c hx rfl (fun j u hu => by
    rcases j with _ | _ | j
    · simp only [List.getElem?_cons_zero, Option.some.injEq] at hu; subst hu; exact c0
    · simp only [List.getElem?_cons_succ, List.getElem?_cons_zero, Option.some.injEq] at hu; subst hu; exact c1
    · simp at hu) (by simp [h1, h2]) hb hlen fun v' w' ho5 hg5 hor5 => ?_
  have hb5 : Below B w w' := Aside.below (S := fun k => v.ownBlock = some k) (Aside.of_grown hg5 fun _ h => h) hb fun k hk => (hown.own.lt k hk).1
  obtain ⟨sp, cp, e, _⟩ := ho5.form
  exact h v' w' sp cp e (hown.add (x := z) ho5 hb5 hK k1 k2) hb5
end Go.Proofs.YtbjgknoipbekoaaGreat
namespace Go.Proofs.YtbjgknoipbekoaaGreat
open Go.RowKit
/-- A slice of slices of changes, all of it in blocks of K. -/
structure ChssAt (K : Set_) (w : World) (x : Value) (ll : List (List Ch)) : Prop where
  form : ∃ sp c, x = .slice sp ll.length c ∧ ll.length ≤ c ∧ (sp = none → c = 0)
  at_ : ∀ (i : Nat) (l : List Ch), ll[i]? = some l → ∃ g o m cp v, x = .slice (some ⟨g, o, none⟩) m cp ∧ K g ∧ g < w.heap.size ∧ w.cell? ⟨g, o + i, none⟩ = some v ∧ ChsAt K w v l
theorem ChssAt.aside {K S : Set_} {a b : World} {x : Value} {l : List (List Ch)} (h : ChssAt K a x l) (hb : Aside S a b) (hK : ∀ k, S k → ¬ K k) : ChssAt K b x l := by
  refine ⟨h.form, fun i c hi => ?_⟩
  obtain ⟨g, o, m, cp, v, e, hg, hl, h1, h2⟩ := h.at_ i c hi
  exact ⟨g, o, m, cp, v, e, hg, Nat.lt_of_lt_of_le hl hb.size, cell_aside h1 hb fun hS => hK g hS hg, h2.aside hb hK⟩
theorem ChssAt.below {K : Set_} {a b : World} {x : Value} {l : List (List Ch)} (h : ChssAt K a x l) (hb : Below a.heap.size a b) : ChssAt K b x l := h.aside (S := none_) (Aside.of_below hb) fun _ h => h.elim
theorem ChssAt.one {K : Set_} {w : World} {sp : Option Addr} {n cp i : Nat} {ll : List (List Ch)} (h : ChssAt K w (.slice sp n cp) ll) (hi : i < ll.length) : ∃ l g o s1 c1, ll[i]? = some l ∧ sp = some ⟨g, o, none⟩ ∧ w.cell? ⟨g, o + i, none⟩ = some (.slice s1 l.length c1) ∧ ChsAt K w (.slice s1 l.length c1) l := by
  obtain ⟨g, o, m, cp', v, e, hg, hl, h1, h2⟩ := h.at_ i ll[i] (List.getElem?_eq_getElem hi)
  simp only [Value.slice.injEq] at e
  obtain ⟨rfl, _, _⟩ := e
  obtain ⟨s1, c1, e1, _⟩ := h2.form
  subst e1
  exact ⟨ll[i], g, o, s1, c1, List.getElem?_eq_getElem hi, rfl, h1, h2⟩
/-- Changes that a play goes through with. -/
def SmallC (c : Ch) : Prop := c.key.length ≤ 100 ∧ c.val.length ≤ 9000
def SmallL (l : List Ch) : Prop := l.length ≤ 12 ∧ ∀ c ∈ l, SmallC c
def SmallLL (ll : List (List Ch)) : Prop := ll.length ≤ 12 ∧ ∀ l ∈ ll, SmallL l
instance (c : Ch) : Decidable (SmallC c) := by unfold SmallC; exact inferInstance
instance (l : List Ch) : Decidable (SmallL l) := by unfold SmallL; exact inferInstance
instance (ll : List (List Ch)) : Decidable (SmallLL ll) := by unfold SmallLL; exact inferInstance
end Go.Proofs.YtbjgknoipbekoaaGreat
namespace Go.Proofs.YtbjgknoipbekoaaGreat
open Go.RowKit
theorem qdrew {w wr : World} : (∃ q, wr = w.drewN q) → ∃ q, wr.drew = w.drewN q := fun ⟨q, h⟩ => ⟨q + 1, by rw [h]; rfl⟩
set_option maxRecDepth 100000 in
set_option maxHeartbeats 1000000 in
theorem same_quiet (w : World) (x y : Value) (a b : Bs) (hx : BytesAt w x a) (hy : BytesAt w y b) (hl : a.length ≤ 1099511627776) :
    Calls Tryz.prog 19 #[x, y] w fun e w' => e = .returned (.bool (decide (a = b))) ∧ ∃ q, w' = w.drewN q := by
  obtain ⟨sp, c, rfl, _, _, hc⟩ := bytes_open hx
  obtain ⟨sp2, c2, rfl, _, _, hc2⟩ := bytes_open hy
  have H1 := hide hc
  have H2 := hide hc2
  clear hc hc2 hx hy
  go_enter Tryz.func19, Tryz.ntmps19
  by_cases hab : a.length = b.length
  · obtain ⟨N, hN⟩ : ∃ N, a.length = N := ⟨_, rfl⟩
    have hN2 : b.length = N := by omega
    have hNb : N ≤ 1099511627776 := by rw [← hN]; exact hl
    rw [hN] at H1
    rw [hN2] at H2
    rw [hN, hN2]
    have HN := hide hN
    have HN2 := hide hN2
    clear hN hN2 hab
    go_wp2
    go_loopw [5] (fun i wr => ∃ k : Nat, k ≤ N ∧ i = .int .i64 k ∧ wr.heap = w.heap ∧ Hid (a.take k = b.take k) ∧ ∃ q, wr = w.drewN q) (fun i _ => N - (intOf i).toNat)
    case atStart => exact ⟨0, by omega, rfl, rfl, rfl, ⟨0, rfl⟩⟩
    case round =>
      obtain ⟨k, hk, rfl, hh, HE, hB⟩ := hrel
      by_cases hlt : k < N
      · have hna : a ≠ [] := by intro e; have := unhide HN; rw [e] at this; simp at this; omega
        have hnb : b ≠ [] := by intro e; have := unhide HN2; rw [e] at this; simp at this; omega
        obtain ⟨ba, oa, rfl, _, hcell⟩ := unhide H1 hna
        obtain ⟨bb, ob, rfl, _, hcell2⟩ := unhide H2 hnb
        have c1 : wr.cell? ⟨ba, oa + k, none⟩ = some (.int .u8 ((a.getD k 0).toNat : Int)) := by rw [← hcell k hlt]; unfold World.cell?; rw [hh]
        have c2' : wr.cell? ⟨bb, ob + k, none⟩ = some (.int .u8 ((b.getD k 0).toNat : Int)) := by rw [← hcell2 k hlt]; unfold World.cell?; rw [hh]
        have Ht : Hid ((a.getD k 0).toNat = (b.getD k 0).toNat → a.take (k + 1) = b.take (k + 1)) := fun e => take_eq_succ (unhide HE) (by have := unhide HN; omega) (by have := unhide HN2; omega) e
        have Hf : Hid ((a.getD k 0).toNat ≠ (b.getD k 0).toNat → a ≠ b) := fun e e2 => e (by rw [e2])
        obtain ⟨p, hp⟩ : ∃ p, (a.getD k 0).toNat = p := ⟨_, rfl⟩
        obtain ⟨q, hq⟩ : ∃ q, (b.getD k 0).toNat = q := ⟨_, rfl⟩
        rw [hp] at c1 Ht Hf
        rw [hq] at c2' Ht Hf
        have HB := hide hB
        have Hh := hide hh
        clear hB hh hcell hcell2 hp hq hna hnb
        have k0 : (0 : Int) ≤ (k : Int) := by omega
        have k1 : (k : Int) < (N : Int) := by omega
        by_cases hpq : p = q
        · have Ht2 := hide (unhide Ht hpq)
          have de : ((p : Int) == (q : Int)) = true := by simp [hpq]
          subst hpq
          clear Ht Hf
          go_wp2
          go_region_held3 (fun w' => w'.cell? ⟨ba, oa + k, none⟩ = some (.int .u8 p) ∧ w'.cell? ⟨bb, ob + k, none⟩ = some (.int .u8 p)) (go_keep) (fail)
          go_wp2
          go_roundw
          case rel =>
            first
              | exact ⟨k + 1, by omega, by go_num, unhide Hh, Ht2, qdrew (unhide HB)⟩
              | ((repeat apply Exists.intro); exact ⟨⟨k + 1, by omega, by go_num, unhide Hh, Ht2, qdrew (unhide HB)⟩, rfl⟩)
          case measure => simp [intOf]; omega
        · have Hf2 := hide (unhide Hf hpq)
          have de : ((p : Int) == (q : Int)) = false := by simp; omega
          clear Ht Hf hpq
          go_wp2
          go_region_held3 (fun w' => w'.cell? ⟨ba, oa + k, none⟩ = some (.int .u8 p) ∧ w'.cell? ⟨bb, ob + k, none⟩ = some (.int .u8 q)) (go_keep) (fail)
          go_wp2
          go_ret
          exact ⟨by simp [unhide Hf2], qdrew (unhide HB)⟩
      · have Hf : Hid (a = b) := by
          show _ = _
          have h1 := unhide HE
          rwa [List.take_of_length_le (by have := unhide HN; omega), List.take_of_length_le (by have := unhide HN2; omega)] at h1
        go_wp2
        go_ret
        exact ⟨by simp [unhide Hf], hB⟩
  · have Hf : Hid (a ≠ b) := fun e => hab (by rw [e])
    have de : ((a.length : Int) == (b.length : Int)) = false := by simp; omega
    go_wp2
    go_ret
    exact ⟨by simp [unhide Hf], ⟨0, rfl⟩⟩
theorem less_app (c : Bs) : ∀ a b : Bs, lessB (c ++ a) (c ++ b) = lessB a b := by
  induction c with
  | nil => intro a b; rfl
  | cons x c ih => intro a b; show (if x = x then lessB (c ++ a) (c ++ b) else decide (x.toNat < x.toNat)) = _; rw [if_pos rfl]; exact ih a b
theorem less_diff {a b : Bs} {k : Nat} (h : a.take k = b.take k) (ha : k < a.length) (hb : k < b.length) (hne : (a.getD k 0).toNat ≠ (b.getD k 0).toNat) : lessB a b = decide ((a.getD k 0).toNat < (b.getD k 0).toNat) := by
  have ea : a = a.take k ++ (a.getD k 0 :: a.drop (k + 1)) := by
    rw [List.getD_eq_getElem?_getD, List.getElem?_eq_getElem ha, Option.getD_some, ← List.drop_eq_getElem_cons ha, List.take_append_drop]
  have eb : b = b.take k ++ (b.getD k 0 :: b.drop (k + 1)) := by
    rw [List.getD_eq_getElem?_getD, List.getElem?_eq_getElem hb, Option.getD_some, ← List.drop_eq_getElem_cons hb, List.take_append_drop]
  have : lessB a b = lessB (a.take k ++ (a.getD k 0 :: a.drop (k + 1))) (a.take k ++ (b.getD k 0 :: b.drop (k + 1))) := by rw [← ea, h, ← eb]
  rw [this, less_app]
  show (if a.getD k 0 = b.getD k 0 then lessB (a.drop (k + 1)) (b.drop (k + 1)) else decide ((a.getD k 0).toNat < (b.getD k 0).toNat)) = _
  rw [if_neg (fun e => hne (by rw [e]))]
theorem less_end {a b : Bs} {k : Nat} (h : a.take k = b.take k) (hk : k = a.length ∨ k = b.length) (ha : k ≤ a.length) (hb : k ≤ b.length) : lessB a b = decide (a.length < b.length) := by
  have e : lessB a b = lessB (a.take k ++ a.drop k) (a.take k ++ b.drop k) := by rw [List.take_append_drop, h, List.take_append_drop]
  rw [e, less_app]
  have la : (a.drop k).length = a.length - k := List.length_drop
  have lb : (b.drop k).length = b.length - k := List.length_drop
  cases ha' : a.drop k with
  | nil =>
    rw [ha'] at la
    cases hb' : b.drop k with
    | nil => rw [hb'] at lb; simp at la lb; unfold lessB; symm; simp; omega
    | cons y m => rw [hb'] at lb; simp at la lb; unfold lessB; symm; simp; omega
  | cons x l =>
    rw [ha'] at la
    cases hb' : b.drop k with
    | nil => rw [hb'] at lb; simp at la lb; unfold lessB; symm; simp; omega
    | cons y m => rw [hb'] at lb; simp at la lb; omega
set_option maxRecDepth 100000 in
set_option maxHeartbeats 1000000 in
theorem less_quiet (w : World) (x y : Value) (a b : Bs) (hx : BytesAt w x a) (hy : BytesAt w y b) (hl : a.length ≤ 1099511627776) (hl2 : b.length ≤ 1099511627776) :
    Calls Tryz.prog 54 #[x, y] w fun e w' => e = .returned (.bool (lessB a b)) ∧ ∃ q, w' = w.drewN q := by
  obtain ⟨sp, c, rfl, _, _, hc⟩ := bytes_open hx
  obtain ⟨sp2, c2, rfl, _, _, hc2⟩ := bytes_open hy
  have H1 := hide hc
  have H2 := hide hc2
  clear hc hc2 hx hy
  go_enter Tryz.func54, Tryz.ntmps54
  have Hd : Hid (∀ k, a.take k = b.take k → k < a.length → k < b.length → (a.getD k 0).toNat ≠ (b.getD k 0).toNat → lessB a b = decide ((a.getD k 0).toNat < (b.getD k 0).toNat)) := fun k h ha hb hne => less_diff h ha hb hne
  have He : Hid (∀ k, a.take k = b.take k → k = a.length ∨ k = b.length → k ≤ a.length → k ≤ b.length → lessB a b = decide (a.length < b.length)) := fun k h hk ha hb => less_end h hk ha hb
  have Ht : Hid (∀ k, a.take k = b.take k → k < a.length → k < b.length → (a.getD k 0).toNat = (b.getD k 0).toNat → a.take (k + 1) = b.take (k + 1)) := fun k h ha hb e => take_eq_succ h ha hb e
  have Hna : Hid (∀ k, k < a.length → a ≠ []) := fun k hk e => by rw [e] at hk; simp at hk
  have Hnb : Hid (∀ k, k < b.length → b ≠ []) := fun k hk e => by rw [e] at hk; simp at hk
  obtain ⟨N, hN⟩ : ∃ N, a.length = N := ⟨_, rfl⟩
  obtain ⟨M, hM⟩ : ∃ M, b.length = M := ⟨_, rfl⟩
  simp only [hN, hM] at H1 H2 Hd He Ht Hna Hnb hl hl2 ⊢
  clear hN hM
  go_wp2
  go_loopw [5] (fun i wr => ∃ k : Nat, k ≤ N ∧ k ≤ M ∧ i = .int .i64 k ∧ wr.heap = w.heap ∧ Hid (a.take k = b.take k) ∧ ∃ q, wr = w.drewN q) (fun i _ => N - (intOf i).toNat)
  case atStart => exact ⟨0, by omega, by omega, rfl, rfl, rfl, ⟨0, rfl⟩⟩
  case round =>
    obtain ⟨k, hk, hk2, rfl, hh, HE, hB⟩ := hrel
    by_cases hlt : k < N
    · by_cases hlt2 : k < M
      · obtain ⟨ba, oa, rfl, _, hcell⟩ := unhide H1 (unhide Hna k hlt)
        obtain ⟨bb, ob, rfl, _, hcell2⟩ := unhide H2 (unhide Hnb k hlt2)
        have c1 : wr.cell? ⟨ba, oa + k, none⟩ = some (.int .u8 ((a.getD k 0).toNat : Int)) := by rw [← hcell k hlt]; unfold World.cell?; rw [hh]
        have c2' : wr.cell? ⟨bb, ob + k, none⟩ = some (.int .u8 ((b.getD k 0).toNat : Int)) := by rw [← hcell2 k hlt2]; unfold World.cell?; rw [hh]
        have Hd2 := hide (unhide Hd k (unhide HE) hlt hlt2)
        have Ht2 := hide (unhide Ht k (unhide HE) hlt hlt2)
        obtain ⟨p, hp⟩ : ∃ p, (a.getD k 0).toNat = p := ⟨_, rfl⟩
        obtain ⟨q, hq⟩ : ∃ q, (b.getD k 0).toNat = q := ⟨_, rfl⟩
        rw [hp] at c1 Ht2 Hd2
        rw [hq] at c2' Ht2 Hd2
        have HB := hide hB
        have Hh := hide hh
        have k0 : (0 : Int) ≤ (k : Int) := by omega
        have k1 : (k : Int) < (N : Int) := by omega
        have k2 : (k : Int) < (M : Int) := by omega
        have d1 : decide ((k : Int) < (N : Int)) = true := by simp; omega
        have d1n : decide (k < N) = true := by simp; omega
        have d2 : decide ((k : Int) < (M : Int)) = true := by simp; omega
        have d2n : decide (k < M) = true := by simp; omega
        clear hB hh hcell hcell2 hp hq Hd He Ht Hna Hnb HE
        by_cases hpq : p = q
        · have Ht3 := hide (unhide Ht2 hpq)
          have de : ((p : Int) == (q : Int)) = true := by simp [hpq]
          subst hpq
          clear Ht2 Hd2
          go_wp2
          go_region_held3 (fun w' => w'.cell? ⟨ba, oa + k, none⟩ = some (.int .u8 p) ∧ w'.cell? ⟨bb, ob + k, none⟩ = some (.int .u8 p)) (go_keep) (fail)
          go_wp2
          go_roundw
          case rel =>
            first
              | exact ⟨k + 1, by omega, by omega, by go_num, unhide Hh, Ht3, qdrew (unhide HB)⟩
              | ((repeat apply Exists.intro); exact ⟨⟨k + 1, by omega, by omega, by go_num, unhide Hh, Ht3, qdrew (unhide HB)⟩, rfl⟩)
          case measure => simp [intOf]; omega
        · have Hd3 := hide (unhide Hd2 hpq)
          have de : ((p : Int) == (q : Int)) = false := by simp; omega
          clear Ht2 Hd2 hpq
          go_wp2
          go_region_held3 (fun w' => w'.cell? ⟨ba, oa + k, none⟩ = some (.int .u8 p) ∧ w'.cell? ⟨bb, ob + k, none⟩ = some (.int .u8 q)) (go_keep) (fail)
          go_wp2
          go_region_held3 (fun w' => w'.cell? ⟨ba, oa + k, none⟩ = some (.int .u8 p) ∧ w'.cell? ⟨bb, ob + k, none⟩ = some (.int .u8 q)) (go_keep) (fail)
          go_wp2
          go_ret
          exact ⟨by rw [unhide Hd3]; simp, qdrew (qdrew (unhide HB))⟩
      · have d1 : decide ((k : Int) < (N : Int)) = true := by simp; omega
        have d1n : decide (k < N) = true := by simp; omega
        have d2 : decide ((k : Int) < (M : Int)) = false := by simp; omega
        have d2n : decide (k < M) = false := by simp; omega
        have Hf := hide (unhide He k (unhide HE) (by omega) hk hk2)
        have HB := hide hB
        clear Hd He Ht Hna Hnb HE hB hh
        go_wp2
        go_ret
        exact ⟨by rw [unhide Hf]; simp, unhide HB⟩
    · have d1 : decide ((k : Int) < (N : Int)) = false := by simp; omega
      have d1n : decide (k < N) = false := by simp; omega
      have Hf := hide (unhide He k (unhide HE) (by omega) hk hk2)
      have HB := hide hB
      clear Hd He Ht Hna Hnb HE hB hh
      go_wp2
      go_ret
      exact ⟨by rw [unhide Hf]; simp, unhide HB⟩
end Go.Proofs.YtbjgknoipbekoaaGreat
