/-
  The statement's own rows of boxes in memory, beside a feed.
-/
import Derived.Test.YtbblhogdfdpipaaHd17
import Derived.Test.YtbblhogdfdpipaaWide
import Derived.Test.YtbblhogdfdpipaaSl17
import Derived.Laws.Rows
namespace Go.Proofs.Ytbblhogdfdpipaa
open Go.RowKit
theorem wpList_append_one {t e : TypeId} {z : Value} {m by_ : Nat} (E : ElemN Try.prog t e z m by_) {w : World} {ops : Array Oper} {rest : List Oper} {o : Oper} {a : Act} {Q : Exit → Act → World → Prop} (hgd : o.guard = none) (s x : Operand)
    (ho : o.op = .call { callee := .builtin .append, args := #[s, x], argTypes := #[t, t] }) (base : Nat) (v : Value) (n : Nat) (xs ds : List Value) (hs : a.eval s = v) (hown : OwnN e m w base v n xs) (ga go c : Nat)
    (hx : a.eval x = .slice (some ⟨ga, go, none⟩) 1 c) (hds : ds.length = m) (hy : CellsAt w ga go ds) (h1 : ∀ u ∈ ds, u.oneCell' = true) (hb : base ≤ w.heap.size) (hlen : n ≤ 1073741824)
    (h : ∀ v' w', OwnN e m w' base v' (n + 1) (xs ++ ds) → w.grownBy w' v.ownBlock → (v'.ownBlock = v.ownBlock ∨ v'.ownBlock = some w.heap.size) → wpList Try.prog ops Q rest (a.put o.dst v') w') : wpList Try.prog ops Q (o :: rest) a w := by
  refine wpList_plain hgd fun K hK' => ?_
  obtain ⟨v', w', hrun, r1, r2, r3⟩ := run_append_one E w base v n xs ds hown ga go c hds hy h1 hb hlen o.type
  unfold Oper.wp
  simp [execOp, ho, resolve, invoke, builtin, hs, hx, hrun, Result.andThen]
  exact hK' _ _ (h v' w' r1 r2 r3)
/-- Cells in fours. -/
theorem flat_get : ∀ {L : List (List Value)}, (∀ c ∈ L, c.length = 4) → ∀ {i : Nat} {c : List Value}, L[i]? = some c → ∀ {j : Nat}, j < 4 → L.flatten[i * 4 + j]? = c[j]?
  | [], _, i, c, h, _, _ => by simp at h
  | y :: L, hL, 0, c, h, j, hj => by
    simp only [List.getElem?_cons_zero, Option.some.injEq] at h
    subst h
    rw [List.flatten_cons, Nat.zero_mul, Nat.zero_add, List.getElem?_append_left (by rw [hL _ (List.mem_cons_self ..)]; exact hj)]
  | y :: L, hL, i + 1, c, h, j, hj => by
    rw [List.getElem?_cons_succ] at h
    have hy := hL y (List.mem_cons_self ..)
    rw [List.flatten_cons, List.getElem?_append_right (by omega), hy, show (i + 1) * 4 + j - 4 = i * 4 + j by omega]
    exact flat_get (fun c hc => hL c (List.mem_cons_of_mem _ hc)) h hj
theorem flat_set : ∀ {L : List (List Value)}, (∀ c ∈ L, c.length = 4) → ∀ {i : Nat} {c : List Value}, L[i]? = some c → ∀ {j : Nat}, j < 4 → ∀ (u : Value), L.flatten.set (i * 4 + j) u = (L.set i (c.set j u)).flatten
  | [], _, i, c, h, _, _, _ => by simp at h
  | y :: L, hL, 0, c, h, j, hj, u => by
    simp only [List.getElem?_cons_zero, Option.some.injEq] at h
    subst h
    rw [List.flatten_cons, Nat.zero_mul, Nat.zero_add, List.set_append_left _ _ (by rw [hL _ (List.mem_cons_self ..)]; exact hj)]
    rfl
  | y :: L, hL, i + 1, c, h, j, hj, u => by
    rw [List.getElem?_cons_succ] at h
    have hy := hL y (List.mem_cons_self ..)
    rw [List.flatten_cons, List.set_append_right _ _ (by omega), hy, show (i + 1) * 4 + j - 4 = i * 4 + j by omega, flat_set (fun c hc => hL c (List.mem_cons_of_mem _ hc)) h hj u]
    rfl
theorem flat_len : ∀ {L : List (List Value)}, (∀ c ∈ L, c.length = 4) → L.flatten.length = L.length * 4
  | [], _ => rfl
  | y :: L, hL => by
    have hy := hL y (List.mem_cons_self ..)
    rw [List.flatten_cons, List.length_append, hy, flat_len (fun c hc => hL c (List.mem_cons_of_mem _ hc)), List.length_cons]
    omega
/-- A box of the statement, with the value of its list. -/
abbrev Pb := Option (Bx Int) × Value
def dl (o : Option (Bx Int)) : List Int := match o with
  | some b => b.list
  | none => []
def dc (x : Pb) : List Value := match x.1 with
  | some b => [.int .i64 (b.places : Int), .int .i64 (b.lost : Int), .bool false, x.2]
  | none => [.int .i64 0, .int .i64 0, .bool true, x.2]
def rows (T : List Pb) : List Value := (T.map dc).flatten
theorem dc_len (x : Pb) : (dc x).length = 4 := by
  obtain ⟨o, v⟩ := x
  cases o <;> rfl
theorem dcs_len (T : List Pb) : ∀ c ∈ T.map dc, c.length = 4 := by
  intro c hc
  obtain ⟨x, _, rfl⟩ := List.mem_map.1 hc
  exact dc_len x
theorem rows_get {T : List Pb} {i : Nat} {x : Pb} (h : T[i]? = some x) {j : Nat} (hj : j < 4) : (rows T)[i * 4 + j]? = (dc x)[j]? :=
  flat_get (dcs_len T) (by rw [List.getElem?_map, h]; rfl) hj
theorem rows_len (T : List Pb) : (rows T).length = T.length * 4 := by
  unfold rows
  rw [flat_len (dcs_len T), List.length_map]
theorem rows_snoc (T : List Pb) (x : Pb) : rows (T ++ [x]) = rows T ++ dc x := by simp [rows]
/-- One cell of one box is written. -/
theorem rows_set {T : List Pb} {i : Nat} {x : Pb} (h : T[i]? = some x) {j : Nat} (hj : j < 4) (u : Value) (y : Pb) (hy : (dc x).set j u = dc y) : (rows T).set (i * 4 + j) u = rows (T.set i y) := by
  unfold rows
  rw [flat_set (dcs_len T) (c := dc x) (by rw [List.getElem?_map, h]; rfl) hj, hy, List.map_set]
/-- All four. -/
theorem rows_set4 {T : List Pb} {i : Nat} {x : Pb} (h : T[i]? = some x) (a b c d : Value) (y : Pb) (hy : [a, b, c, d] = dc y) : ((((rows T).set (i * 4 + 0) a).set (i * 4 + 1) b).set (i * 4 + 2) c).set (i * 4 + 3) d = rows (T.set i y) := by
  obtain ⟨L, hL⟩ : ∃ L, T.map dc = L := ⟨_, rfl⟩
  have h4 := dcs_len T
  have hi : L[i]? = some (dc x) := by rw [← hL, List.getElem?_map, h]; rfl
  have hil : i < L.length := (List.getElem?_eq_some_iff.1 hi).1
  unfold rows
  rw [hL] at h4 ⊢
  have set4 : ∀ (M : List (List Value)), (∀ c ∈ M, c.length = 4) → ∀ z : List Value, z.length = 4 → ∀ c ∈ M.set i z, c.length = 4 := fun M hM z hz c hc => by
    rcases List.mem_or_eq_of_mem_set hc with hc | rfl
    · exact hM c hc
    · exact hz
  obtain ⟨p, q, r, s, hdx⟩ : ∃ p q r s, dc x = [p, q, r, s] := by
    obtain ⟨o, v⟩ := x
    cases o <;> exact ⟨_, _, _, _, rfl⟩
  rw [hdx] at hi
  rw [flat_set h4 hi (by omega)]
  have e1 : (L.set i ([p, q, r, s].set 0 a))[i]? = some [a, q, r, s] := by rw [List.getElem?_set_self hil]; rfl
  rw [flat_set (set4 L h4 _ rfl) e1 (by omega), List.set_set]
  have e2 : (L.set i ([a, q, r, s].set 1 b))[i]? = some [a, b, r, s] := by rw [List.getElem?_set_self hil]; rfl
  rw [flat_set (set4 L h4 _ rfl) e2 (by omega), List.set_set]
  have e3 : (L.set i ([a, b, r, s].set 2 c))[i]? = some [a, b, c, s] := by rw [List.getElem?_set_self hil]; rfl
  rw [flat_set (set4 L h4 _ rfl) e3 (by omega), List.set_set]
  show (L.set i [a, b, c, d]).flatten = _
  rw [hy, ← hL, List.map_set]
/-- A cell of a row of the call's own is written. -/
theorem OwnN.setCell {e : TypeId} {m : Nat} {w : World} {B n c g : Nat} {xs : List Value} (h : OwnN e m w B (.slice (some ⟨g, 0, none⟩) n c) n xs) (k : Nat) (u : Value) : OwnN e m (w.setCell ⟨g, k, none⟩ u) B (.slice (some ⟨g, 0, none⟩) n c) n (xs.set k u) := by
  obtain ⟨h1, h2⟩ := h
  refine ⟨by rw [List.length_set]; exact h1, ?_⟩
  rcases h2 with ⟨hv, _⟩ | ⟨g', cap, cur, hv, hB, hg, hn, hm, hs, ht⟩
  · cases hv
  · simp only [Value.slice.injEq, Option.some.injEq, Addr.mk.injEq] at hv
    obtain ⟨⟨rfl, _, _⟩, _, rfl⟩ := hv
    refine Or.inr ⟨g, c, cur.setIfInBounds k u, rfl, hB, heap_setCell_same w g k cur e u hg, hn, hm, by rw [Array.size_setIfInBounds]; exact hs, ?_⟩
    rw [Array.toList_setIfInBounds, List.take_set, ht]
theorem OwnN.cell {e : TypeId} {m : Nat} {w : World} {B n c g : Nat} {xs : List Value} (h : OwnN e m w B (.slice (some ⟨g, 0, none⟩) n c) n xs) {k : Nat} {u : Value} (hk : xs[k]? = some u) : w.cell? ⟨g, k, none⟩ = some u := by
  have := World.ownsRow.cells h (g := g) rfl k u hk
  rwa [Addr.add_mid, Nat.zero_add] at this
theorem OwnN.frozen {e : TypeId} {m : Nat} {w : World} {B n c g : Nat} {xs : List Value} (h : OwnN e m w B (.slice (some ⟨g, 0, none⟩) n c) n xs) (k : Nat) : w.frozen? ⟨g, k, none⟩ = false := by
  obtain ⟨h1, h2⟩ := h
  rcases h2 with ⟨hv, _⟩ | ⟨g', cap, cur, hv, hB, hg, hn, hm, hs, ht⟩
  · cases hv
  · simp only [Value.slice.injEq, Option.some.injEq, Addr.mk.injEq] at hv
    obtain ⟨⟨rfl, _, _⟩, _, rfl⟩ := hv
    exact frozen_of_row w g k cur e hg
theorem Ebx : ElemN Try.prog 26 31 (.agg #[.int .i64 0, .int .i64 0, .bool false, .slice none 0 0]) 4 48 := elemN_of Try.underlying26 (by kernel_rfl) rfl (by omega) (by omega) (by omega)
def ivs (l : List Int) : List Value := l.map fun x => .int .i64 x
/-- The statement's rows beside a feed in X. -/
structure PlayX (X : Set_) (w0 w : World) (P : Nat) (lv : Value) (T : List Pb) (R : Rs Int) : Prop where
  feed : FeedAt KI X w (pt P) R
  xw : ∀ k, X k → w0.heap.size ≤ k
  below : Below w0.heap.size w0 w
  own : OwnN 31 4 w w0.heap.size lv T.length (rows T)
  lx : ∀ k, lv.ownBlock = some k → ¬ X k
  each : ∀ x ∈ T, ValsAt w x.2 (ivs (dl x.1)) ∧ (dl x.1 ≠ [] → ∀ k, x.2.ownBlock = some k → ¬ X k ∧ lv.ownBlock ≠ some k)
def PlayAt (w0 w : World) (P : Nat) (lv : Value) (T : List Pb) (R : Rs Int) : Prop := ∃ X, PlayX X w0 w P lv T R
theorem ivs_ne {l : List Int} (h : ivs l ≠ []) : l ≠ [] := fun e => h (by rw [e]; rfl)
theorem ValsAt.oldI {w : World} {x : Value} {l : List Int} (h : ValsAt w x (ivs l)) (hl : l ≠ []) (k : Nat) (hk : x.ownBlock = some k) : k < w.heap.size := ValsAt.old h (by unfold ivs; simpa using hl) k hk
/-- Other blocks change, and some may come to the feed. -/
theorem PlayX.aside {X X' S : Set_} {w0 w w' : World} {P : Nat} {lv : Value} {T : List Pb} {R R' : Rs Int} (h : PlayX X w0 w P lv T R) (ha : Aside S w w') (hS : ∀ k, S k → X k) (hX : ∀ k, X' k → X k ∨ w.heap.size ≤ k) (hF : FeedAt KI X' w' (pt P) R') : PlayX X' w0 w' P lv T R' where
  feed := hF
  xw := fun k hk => by
    rcases hX k hk with hk | hk
    · exact h.xw k hk
    · exact Nat.le_trans h.below.size hk
  below := h.below.trans (ha.below h.below.size fun k hk => h.xw k (hS k hk))
  own := h.own.aside ha fun k hk hs => h.lx k hk (hS k hs)
  lx := fun k hk hx => by
    rcases hX k hx with hx | hx
    · exact h.lx k hk hx
    · have := (h.own.lt k hk).2; omega
  each := fun x hx => by
    obtain ⟨h1, h2⟩ := h.each x hx
    refine ⟨h1.beside ha fun hne k hk hs => (h2 (ivs_ne hne) k hk).1 (hS k hs), fun hne k hk => ⟨fun hx' => ?_, (h2 hne k hk).2⟩⟩
    rcases hX k hx' with hx' | hx'
    · exact (h2 hne k hk).1 hx'
    · have := h1.oldI hne k hk; omega
theorem PlayAt.hold {w0 w : World} {P : Nat} {lv : Value} {T : List Pb} {R : Rs Int} (h : PlayAt w0 w P lv T R) : Hold KI w P R fun w' R' => PlayAt w0 w' P lv T R' := by
  obtain ⟨X, h⟩ := h
  refine ⟨X, h.feed, fun w' R' ht => ?_⟩
  obtain ⟨X', t1, t2, t3⟩ := ht
  exact ⟨X', h.aside t2 (fun _ h => h) t3 t1⟩
theorem PlayX.below' {X : Set_} {w0 w w' : World} {P : Nat} {lv : Value} {T : List Pb} {R : Rs Int} (h : PlayX X w0 w P lv T R) (hb : Below w.heap.size w w') : PlayX X w0 w' P lv T R :=
  h.aside (S := none_) (Aside.of_below hb) (fun _ h => h.elim) (fun _ h => Or.inl h) (h.feed.aside (S := none_) (Aside.of_below hb) fun _ h => h.elim)
theorem PlayAt.below' {w0 w w' : World} {P : Nat} {lv : Value} {T : List Pb} {R : Rs Int} (h : PlayAt w0 w P lv T R) (hb : Below w.heap.size w w') : PlayAt w0 w' P lv T R := by
  obtain ⟨X, h⟩ := h
  exact ⟨X, h.below' hb⟩
theorem PlayAt.start {w0 w : World} {P : Nat} (h : OneF KI w0 w P []) : PlayAt w0 w P (.slice none 0 0) [] [] := by
  obtain ⟨X, h1, h2, h3⟩ := h
  exact ⟨X, h1, h2, h3, ownn_nil _ _ _ _, (fun k hk => by cases hk), fun x hx => by cases hx⟩
/-- A box is added behind. -/
theorem PlayAt.grow {w0 w w' : World} {P : Nat} {lv lv' : Value} {T : List Pb} {R : Rs Int} (h : PlayAt w0 w P lv T R) (n : Nat) (ho : OwnN 31 4 w' w0.heap.size lv' (T.length + 1) (rows T ++ [.int .i64 (n : Int), .int .i64 0, .bool false, .slice none 0 0])) (hg : w.grownBy w' lv.ownBlock)
    (hor : lv'.ownBlock = lv.ownBlock ∨ lv'.ownBlock = some w.heap.size) : PlayAt w0 w' P lv' (T ++ [(some ⟨n, 0, []⟩, .slice none 0 0)]) R := by
  obtain ⟨X, h⟩ := h
  have ha : Aside (fun k => lv.ownBlock = some k) w w' := Aside.of_grown hg fun _ h => h
  have hold := h.feed.old
  refine ⟨X, h.feed.aside ha fun k hk => h.lx k hk, h.xw, h.below.trans (ha.below h.below.size fun k hk => (h.own.lt k hk).1), ?_, fun k hk hx => ?_, fun x hx => ?_⟩
  · rw [List.length_append, rows_snoc]; exact ho
  · rcases hor with e | e
    · exact h.lx k (e ▸ hk) hx
    · rw [e] at hk
      cases hk
      have := hold _ hx
      omega
  · rcases List.mem_append.1 hx with hx | hx
    · obtain ⟨h1, h2⟩ := h.each x hx
      refine ⟨h1.beside ha fun hne k hk hs => (h2 (ivs_ne hne) k hk).2 hs, fun hne k hk => ⟨(h2 hne k hk).1, fun hl => ?_⟩⟩
      rcases hor with e | e
      · exact (h2 hne k hk).2 (e ▸ hl)
      · rw [e] at hl
        have := h1.oldI hne k hk
        cases hl
        omega
    · rw [List.mem_singleton] at hx
      subst hx
      exact ⟨vals_nil _, fun hne => absurd rfl hne⟩
/-- A box is written. -/
theorem PlayX.seti {X : Set_} {w0 w w' : World} {P g n c : Nat} {T : List Pb} {R : Rs Int} (h : PlayX X w0 w P (.slice (some ⟨g, 0, none⟩) n c) T R) {i : Nat} {y : Pb} (ho : OwnN 31 4 w' w0.heap.size (.slice (some ⟨g, 0, none⟩) n c) T.length (rows (T.set i y))) (ha : Aside (fun k => k = g) w w')
    (hy : ValsAt w y.2 (ivs (dl y.1))) (hb : dl y.1 ≠ [] → ∀ k, y.2.ownBlock = some k → ¬ X k ∧ k ≠ g) : PlayX X w0 w' P (.slice (some ⟨g, 0, none⟩) n c) (T.set i y) R := by
  have hgx : ¬ X g := h.lx g rfl
  have hgB : w0.heap.size ≤ g := (h.own.lt g rfl).1
  have hlg : ∀ k, (Value.slice (some ⟨g, 0, none⟩) n c).ownBlock = some k ↔ g = k := fun k => by simp [Value.ownBlock]
  refine ⟨h.feed.aside ha fun k hk hx => hgx (hk ▸ hx), h.xw, h.below.trans (ha.below h.below.size fun k hk => hk ▸ hgB), by rw [List.length_set]; exact ho, h.lx, fun x hx => ?_⟩
  have key : ∀ z : Pb, (ValsAt w z.2 (ivs (dl z.1))) → (dl z.1 ≠ [] → ∀ k, z.2.ownBlock = some k → ¬ X k ∧ k ≠ g) → ValsAt w' z.2 (ivs (dl z.1)) ∧ (dl z.1 ≠ [] → ∀ k, z.2.ownBlock = some k → ¬ X k ∧ (Value.slice (some ⟨g, 0, none⟩) n c).ownBlock ≠ some k) := fun z h1 h2 =>
    ⟨h1.beside ha fun hne k hk hs => (h2 (ivs_ne hne) k hk).2 hs, fun hne k hk => ⟨(h2 hne k hk).1, fun e => (h2 hne k hk).2 ((hlg k).1 e).symm⟩⟩
  rcases List.mem_or_eq_of_mem_set hx with hx | rfl
  · obtain ⟨h1, h2⟩ := h.each x hx
    exact key x h1 fun hne k hk => ⟨(h2 hne k hk).1, fun e => (h2 hne k hk).2 ((hlg k).2 e.symm)⟩
  · exact key _ hy hb
/-- Its list is a new one. -/
theorem PlayAt.set_new {w0 w1 w w' : World} {P g n c : Nat} {T : List Pb} {R : Rs Int} (h : PlayAt w0 w1 P (.slice (some ⟨g, 0, none⟩) n c) T R) (hb1 : Below w1.heap.size w1 w) {i : Nat} {y : Pb} (ho : OwnN 31 4 w' w0.heap.size (.slice (some ⟨g, 0, none⟩) n c) T.length (rows (T.set i y))) (ha : Aside (fun k => k = g) w w')
    (hy : ValsAt w y.2 (ivs (dl y.1))) (hb : dl y.1 ≠ [] → ∀ k, y.2.ownBlock = some k → w1.heap.size ≤ k) : PlayAt w0 w' P (.slice (some ⟨g, 0, none⟩) n c) (T.set i y) R := by
  obtain ⟨X, h⟩ := h
  refine ⟨X, (h.below' hb1).seti ho ha hy fun hne k hk => ⟨fun hx => ?_, fun e => ?_⟩⟩
  · have := h.feed.old k hx
    have := hb hne k hk
    omega
  · have := (h.own.lt g rfl).2
    have := hb hne k hk
    omega
/-- Its list lies in the old one's block. -/
theorem PlayAt.set_part {w0 w w' : World} {P g n c : Nat} {T : List Pb} {R : Rs Int} (h : PlayAt w0 w P (.slice (some ⟨g, 0, none⟩) n c) T R) {i : Nat} {x y : Pb} (hx : T[i]? = some x) (ho : OwnN 31 4 w' w0.heap.size (.slice (some ⟨g, 0, none⟩) n c) T.length (rows (T.set i y))) (ha : Aside (fun k => k = g) w w')
    (hy : ValsAt w y.2 (ivs (dl y.1))) (hb : dl y.1 ≠ [] → dl x.1 ≠ [] ∧ ∀ k, y.2.ownBlock = some k → x.2.ownBlock = some k) : PlayAt w0 w' P (.slice (some ⟨g, 0, none⟩) n c) (T.set i y) R := by
  obtain ⟨X, h⟩ := h
  obtain ⟨h1, h2⟩ := h.each x (List.mem_of_getElem? hx)
  refine ⟨X, h.seti ho ha hy fun hne k hk => ?_⟩
  obtain ⟨b1, b2⟩ := hb hne
  obtain ⟨c1, c2⟩ := h2 b1 k (b2 k hk)
  exact ⟨c1, fun e => c2 (by simp [Value.ownBlock, e])⟩
/-- What the statement's rows and the feed have between two steps. -/
structure PlOk (w0 w : World) (P : Nat) (lv : Value) (T : List Pb) (i : Nat) : Prop where
  play : PlayAt w0 w P lv T (T.map Prod.fst)
  len : T.length ≤ i
  lost : ∀ x ∈ T, ∀ b, x.1 = some b → b.lost ≤ i
theorem PlOk.below' {w0 w w' : World} {P : Nat} {lv : Value} {T : List Pb} {i : Nat} (h : PlOk w0 w P lv T i) (hb : Below w.heap.size w w') : PlOk w0 w' P lv T i := ⟨h.play.below' hb, h.len, h.lost⟩
theorem PlOk.below {w0 w : World} {P : Nat} {lv : Value} {T : List Pb} {i : Nat} (h : PlOk w0 w P lv T i) : Below w0.heap.size w0 w := by
  obtain ⟨X, h⟩ := h.play
  exact h.below
/-- A reader's box is small. -/
theorem PlayAt.few {w0 w : World} {P : Nat} {lv : Value} {T : List Pb} {R : Rs Int} (h : PlayAt w0 w P lv T R) {n : Int} {b : Bx Int} (hb : rd R n = some b) : b.list.length ≤ b.places ∧ b.places ≤ 256 ∧ 1 ≤ b.places := by
  obtain ⟨X, h⟩ := h
  obtain ⟨P', bm, Q, C, _, hF⟩ := h.feed
  have := hF.box n b hb
  exact ⟨this.len, this.few, this.pos⟩
/-- One of the statement's boxes, as it lies there. -/
theorem PlayAt.nth {w0 w : World} {P n c : Nat} {s : Option Addr} {T : List Pb} {R : Rs Int} (h : PlayAt w0 w P (.slice s n c) T R) {i : Nat} {x : Pb} (hx : T[i]? = some x) :
    ∃ g, s = some ⟨g, 0, none⟩ ∧ n = T.length ∧ OwnN 31 4 w w0.heap.size (.slice (some ⟨g, 0, none⟩) n c) n (rows T) ∧ ∃ s2 c2, x.2 = .slice s2 (dl x.1).length c2 ∧ ValsAt w (.slice s2 (dl x.1).length c2) (ivs (dl x.1)) := by
  obtain ⟨X, h⟩ := h
  have hil := (List.getElem?_eq_some_iff.1 hx).1
  obtain ⟨g, c', e, _, _, _, _⟩ := h.own.at (by omega)
  simp only [Value.slice.injEq] at e
  obtain ⟨rfl, rfl, rfl⟩ := e
  obtain ⟨h1, _⟩ := h.each x (List.mem_of_getElem? hx)
  obtain ⟨s2, c2, e2⟩ := h1.form
  have hl : (ivs (dl x.1)).length = (dl x.1).length := List.length_map _
  rw [hl] at e2
  exact ⟨g, rfl, rfl, h.own, s2, c2, e2, e2 ▸ h1⟩
theorem PlayAt.form {w0 w : World} {P : Nat} {lv : Value} {T : List Pb} {R : Rs Int} (h : PlayAt w0 w P lv T R) : ∃ s c, lv = .slice s T.length c := by
  obtain ⟨X, h⟩ := h
  obtain ⟨s, c, e, _⟩ := h.own.form
  exact ⟨s, c, e⟩
/-- Its four cells. -/
theorem PlayAt.cells {w0 w : World} {P n c g : Nat} {T : List Pb} {R : Rs Int} (h : PlayAt w0 w P (.slice (some ⟨g, 0, none⟩) n c) T R) {i : Nat} {x : Pb} (hx : T[i]? = some x) {j : Nat} {u : Value} (hu : (dc x)[j]? = some u) (hj : j < 4) : w.cell? ⟨g, i * 4 + j, none⟩ = some u ∧ w.frozen? ⟨g, i * 4 + j, none⟩ = false := by
  obtain ⟨g', e, hn, ho, _⟩ := h.nth hx
  cases e
  exact ⟨ho.cell (by rw [rows_get hx hj]; exact hu), ho.frozen _⟩
theorem rd_map {T : List Pb} {n : Int} {b : Bx Int} (h : rd (T.map Prod.fst) n = some b) : 1 ≤ n ∧ n ≤ T.length ∧ ∃ sv, T[n.toNat - 1]? = some (some b, sv) := by
  obtain ⟨h1, h2, h3⟩ := rd_some h
  rw [List.length_map] at h2
  refine ⟨h1, h2, ?_⟩
  rw [List.getElem?_map] at h3
  obtain ⟨⟨o, sv⟩, h4, h5⟩ := Option.map_eq_some_iff.1 h3
  exact ⟨sv, by rw [h4, show o = some b from h5]⟩
theorem map_setR {T : List Pb} {n : Int} {y : Pb} : (T.set (n.toNat - 1) y).map Prod.fst = setR (T.map Prod.fst) n y.1 := by
  unfold setR
  rw [List.map_set]
/-- What the inner loop reads of a box, and what the feed answers of that reader. -/
theorem PlayAt.look {w0 w : World} {P n c : Nat} {s : Option Addr} {T : List Pb} (h : PlayAt w0 w P (.slice s n c) T (T.map Prod.fst)) {j : Nat} (hj : j < T.length) :
    ∃ g pl lo gn s2 n2 c2, s = some ⟨g, 0, none⟩ ∧ w.cell? ⟨g, j * 4, none⟩ = some (.int .i64 pl) ∧ w.cell? ⟨g, j * 4 + 1, none⟩ = some (.int .i64 (lo : Int)) ∧ w.cell? ⟨g, j * 4 + 2, none⟩ = some (.bool gn) ∧ w.cell? ⟨g, j * 4 + 3, none⟩ = some (.slice s2 n2 c2) ∧
      waitsN (T.map Prod.fst) ((j : Int) + 1) = n2 ∧ lostN (T.map Prod.fst) ((j : Int) + 1) = lo := by
  obtain ⟨⟨o, sv⟩, hx⟩ : ∃ x, T[j]? = some x := ⟨_, List.getElem?_eq_getElem hj⟩
  obtain ⟨g, rfl, _, _, s2, c2, e2, _⟩ := h.nth hx
  have hrd : rd (T.map Prod.fst) ((j : Int) + 1) = o := by
    rw [rd_at (by rw [List.length_map]; exact hj), List.getElem_map, (List.getElem?_eq_some_iff.1 hx).2]
  have e2' : sv = .slice s2 (dl o).length c2 := e2
  subst e2'
  have q : ∀ (k : Nat) (u : Value), (dc (o, .slice s2 (dl o).length c2))[k]? = some u → k < 4 → w.cell? ⟨g, j * 4 + k, none⟩ = some u := fun k u hu hk => (h.cells hx hu hk).1
  cases o with
  | none => exact ⟨g, 0, 0, true, s2, 0, c2, rfl, q 0 _ rfl (by omega), q 1 _ rfl (by omega), q 2 _ rfl (by omega), q 3 _ rfl (by omega), by unfold waitsN; rw [hrd]; try rfl, by unfold lostN; rw [hrd]; try rfl⟩
  | some b => exact ⟨g, b.places, b.lost, false, s2, b.list.length, c2, rfl, q 0 _ rfl (by omega), q 1 _ rfl (by omega), q 2 _ rfl (by omega), q 3 _ rfl (by omega), by unfold waitsN; rw [hrd]; try rfl, by unfold lostN; rw [hrd]; try rfl⟩
theorem PlOk.same {w0 w w' : World} {P : Nat} {lv : Value} {T : List Pb} {i : Nat} (h : PlOk w0 w P lv T i) (hp : PlayAt w0 w' P lv T (T.map Prod.fst)) : PlOk w0 w' P lv T (i + 1) := ⟨hp, Nat.le_succ_of_le h.len, fun x hx b hb => Nat.le_succ_of_le (h.lost x hx b hb)⟩
theorem PlOk.join_yes {w0 w w' : World} {P : Nat} {lv lv' : Value} {T : List Pb} {i : Nat} (h : PlOk w0 w P lv T i) (n : Nat) (h1 : 1 ≤ n) (h2 : n ≤ 256) (hp : PlayAt w0 w' P lv' (T ++ [(some ⟨n, 0, []⟩, .slice none 0 0)]) (joinR (T.map Prod.fst) (n : Int))) : PlOk w0 w' P lv' (T ++ [(some ⟨n, 0, []⟩, .slice none 0 0)]) (i + 1) := by
  have hl := h.len
  refine ⟨?_, by rw [List.length_append]; exact Nat.succ_le_succ hl, fun x hx b hb => ?_⟩
  · unfold joinR at hp
    rw [if_pos ⟨by omega, by omega⟩, Int.toNat_natCast] at hp
    rw [List.map_append]
    exact hp
  · rcases List.mem_append.1 hx with hx | hx
    · exact Nat.le_succ_of_le (h.lost x hx b hb)
    · rw [List.mem_singleton] at hx
      subst hx
      cases hb
      exact Nat.zero_le _
/-- A box is written over: its place in the readers too. -/
theorem PlOk.seti {w0 w w' : World} {P : Nat} {lv : Value} {T : List Pb} {i m : Nat} {y : Pb} {R : Rs Int} (h : PlOk w0 w P lv T i) (hp : PlayAt w0 w' P lv (T.set m y) R) (hR : R = setR (T.map Prod.fst) ((m : Int) + 1) y.1) (hy : ∀ b, y.1 = some b → b.lost ≤ i + 1) : PlOk w0 w' P lv (T.set m y) (i + 1) := by
  refine ⟨?_, by rw [List.length_set]; exact Nat.le_succ_of_le h.len, fun x hx b hb => ?_⟩
  · have := map_setR (T := T) (n := (m : Int) + 1) (y := y)
    rw [show ((m : Int) + 1).toNat - 1 = m by omega] at this
    rw [this, ← hR]
    exact hp
  · rcases List.mem_or_eq_of_mem_set hx with hx | rfl
    · exact Nat.le_succ_of_le (h.lost x hx b hb)
    · exact hy b hb
def wipe (w : World) (g m : Nat) : World := (((w.setCell ⟨g, m * 4, none⟩ (.int .i64 0)).setCell ⟨g, m * 4 + 1, none⟩ (.int .i64 0)).setCell ⟨g, m * 4 + 2, none⟩ (.bool true)).setCell ⟨g, m * 4 + 3, none⟩ (.slice none 0 0)
theorem PlayAt.wiped {w0 w : World} {P n c g : Nat} {T : List Pb} {R : Rs Int} (h : PlayAt w0 w P (.slice (some ⟨g, 0, none⟩) n c) T R) {m : Nat} {x : Pb} (hx : T[m]? = some x) : PlayAt w0 (wipe w g m) P (.slice (some ⟨g, 0, none⟩) n c) (T.set m (none, .slice none 0 0)) R := by
  obtain ⟨g', e, hn, ho, _⟩ := h.nth hx
  cases e
  refine h.set_part hx (y := (none, .slice none 0 0)) ?_ ?_ (vals_nil _) fun hne => absurd rfl hne
  · have := ((((ho.setCell (m * 4 + 0) (.int .i64 0)).setCell (m * 4 + 1) (.int .i64 0)).setCell (m * 4 + 2) (.bool true)).setCell (m * 4 + 3) (.slice none 0 0))
    rw [rows_set4 hx _ _ _ _ (none, .slice none 0 0) rfl] at this
    rw [← hn]
    exact this
  · have a0 : Aside (fun k => k = g) w w := Aside.refl _ _
    have a1 := a0.setCell ⟨g, m * 4, none⟩ (.int .i64 0) (Or.inr rfl)
    have a2 := a1.setCell ⟨g, m * 4 + 1, none⟩ (.int .i64 0) (Or.inr rfl)
    have a3 := a2.setCell ⟨g, m * 4 + 2, none⟩ (.bool true) (Or.inr rfl)
    exact a3.setCell ⟨g, m * 4 + 3, none⟩ (.slice none 0 0) (Or.inr rfl)
/-- The list of a box is cut. -/
theorem PlayAt.cut {w0 w : World} {P n c g : Nat} {T : List Pb} {R : Rs Int} (h : PlayAt w0 w P (.slice (some ⟨g, 0, none⟩) n c) T R) {m : Nat} {b : Bx Int} {s2 : Option Addr} {n2 c2 : Nat} (hx : T[m]? = some (some b, .slice s2 n2 c2)) (hl : b.list ≠ []) : PlayAt w0 (w.setCell ⟨g, m * 4 + 3, none⟩ (.slice (cutAt s2 c2 1) (n2 - 1) (c2 - 1))) P (.slice (some ⟨g, 0, none⟩) n c) (T.set m (some b.pop, .slice (cutAt s2 c2 1) (n2 - 1) (c2 - 1))) R := by
  obtain ⟨g', e, hn, ho, s3, c3, e3, hv⟩ := h.nth hx
  cases e
  simp only [Value.slice.injEq] at e3
  obtain ⟨rfl, e4, rfl⟩ := e3
  have hpos : 1 ≤ b.list.length := List.length_pos_iff.2 hl
  have e5 : n2 = b.list.length := e4
  have hv' : ValsAt w (.slice s2 n2 c2) (ivs b.list) := by rw [e5]; exact hv
  have hv2 := vals_rest hv' 1 (by omega)
  refine h.set_part hx (y := (some b.pop, .slice (cutAt s2 c2 1) (n2 - 1) (c2 - 1))) ?_ ((Aside.refl _ _).setCell _ _ (Or.inr rfl)) ?_ fun hne => ⟨hl, fun k hk => ?_⟩
  · have := ho.setCell (m * 4 + 3) (.slice (cutAt s2 c2 1) (n2 - 1) (c2 - 1))
    rw [rows_set hx (by omega) _ (some b.pop, .slice (cutAt s2 c2 1) (n2 - 1) (c2 - 1)) rfl] at this
    rw [← hn]
    exact this
  · show ValsAt w _ (ivs (b.list.drop 1))
    unfold ivs at hv2 ⊢
    rw [List.map_drop]
    exact hv2
  · show (Value.slice s2 n2 c2).ownBlock = some k
    have hk' : (Value.slice (cutAt s2 c2 1) (n2 - 1) (c2 - 1)).ownBlock = some k := hk
    unfold cutAt at hk'
    cases s2 with
    | none => split at hk' <;> cases hk'
    | some a =>
      obtain ⟨ab, ao, q⟩ := a
      have e6 : ((⟨ab, ao, q⟩ : Addr).add 1).block = ab := by cases q <;> rfl
      split at hk'
      · exact hk'
      · simp only [Option.map_some, Value.ownBlock, Option.some.injEq] at hk' ⊢
        rw [← hk', e6]
theorem cell_below {a b : World} {x : Addr} {v : Value} (h : a.cell? x = some v) (hb : Below a.heap.size a b) : b.cell? x = some v := by
  rw [World.cell?_of_block (hb.block _ (World.block_lt_of_cell? a _ h))]; exact h
theorem step_append_vals {P : Program} {t e : TypeId} {z : Value} {by_ : Nat} (E : Elem P t e z by_) {w : World} {ops : Array Oper} {o : Oper} {a : Act} {K : Act → World → Prop} {Q : Exit → Act → World → Prop} {F : Prop} (hgd : o.guard = none) (s x : Operand)
    (ho : o.op = .call { callee := .builtin .append, args := #[s, x], argTypes := #[t, t] }) (base : Nat) (v y : Value) (cs ds : List Value) (hs : a.eval s = v) (hown : OwnV e w base v cs)
    (hx : a.eval x = y) (hy : ValsAt w y ds) (h1 : ∀ u ∈ ds, u.oneCell' = true) (hb : base ≤ w.heap.size) (hlen : cs.length + ds.length ≤ 1073741824)
    (h : ∀ v' w', OwnV e w' base v' (cs ++ ds) → w.grownBy w' v.ownBlock → (v'.ownBlock = v.ownBlock ∨ v'.ownBlock = some w.heap.size) → K (a.put o.dst v') w') : if Region.wanted o (yielded ops a.tmps) = true then Oper.wp P o a w K Q else F := by
  have hw : Region.wanted o (yielded ops a.tmps) = true := by simp [Region.wanted, hgd]
  rw [if_pos hw]
  obtain ⟨v', w', hrun, h2, h3, h4⟩ := run_append_vals E w base v y cs ds hown hy h1 hb hlen o.type
  unfold Oper.wp execOp
  simp only [ho, resolve, invoke, builtin, Sem.run_bind, Sem.run_pure, Result.andThen_ok, List.map_toArray, List.map_cons, List.map_nil, hs, hx, hrun]
  exact h v' w' h2 h3 h4
/-- An empty row of a block. -/
theorem own_empty {e : TypeId} {w : World} {B base : Nat} (h : w.heap[B]? = some (.cells #[] e (0, 0))) (hb : base ≤ B) : OwnV e w base (.slice (some ⟨B, 0, none⟩) 0 0) [] := by
  refine ⟨by simp, Or.inr ⟨B, 0, #[], rfl, hb, h, Nat.le_refl _, by simp [maxLen], by simp, by simp⟩⟩
theorem ivs_one (l : List Int) : ∀ u ∈ ivs l, u.oneCell' = true := by
  intro u hu
  obtain ⟨x, _, rfl⟩ := List.mem_map.1 hu
  rfl
/-- Slots that are written. -/
def puts (a : Act) (l : List (Nat × Value)) : Act := l.foldl (fun a x => a.put (some x.1) x.2) a
/-- The second frame is the first one but for these slots. -/
def Slots (L : List Nat) (a a' : Act) : Prop := a' = puts a (L.map fun i => (i, a'.tmps.getD i undef))
theorem own_of_eq {e : TypeId} {w : World} {base : Nat} {v v' : Value} {cs : List Value} (q : v' = v) (h : OwnV e w base v cs) : OwnV e w base v' cs := q ▸ h
/-- A thing is put behind the others of a box. -/
theorem PlayAt.behind {w0 w1 w : World} {P n c g : Nat} {T : List Pb} {R : Rs Int} (h : PlayAt w0 w1 P (.slice (some ⟨g, 0, none⟩) n c) T R) (hb : Below w1.heap.size w1 w) {m : Nat} {b : Bx Int} {sv sv' : Value} (hx : T[m]? = some (some b, sv)) (v : Int) (ho : OwnV 3 w w1.heap.size sv' (ivs (b.list ++ [v]))) :
    PlayAt w0 (w.setCell ⟨g, m * 4 + 3, none⟩ sv') P (.slice (some ⟨g, 0, none⟩) n c) (T.set m (some ⟨b.places, b.lost, b.list ++ [v]⟩, sv')) R := by
  obtain ⟨g', e, hn, hw, _⟩ := (h.below' hb).nth hx
  cases e
  refine h.set_new hb (y := (some ⟨b.places, b.lost, b.list ++ [v]⟩, sv')) ?_ ((Aside.refl _ _).setCell _ _ (Or.inr rfl)) ho.vals fun _ k hk => (World.ownsRow.lt ho k hk).1
  have := hw.setCell (m * 4 + 3) sv'
  rw [rows_set hx (by omega) _ (some ⟨b.places, b.lost, b.list ++ [v]⟩, sv') rfl] at this
  rw [← hn]
  exact this
/-- Its losses are counted on. -/
theorem PlayAt.bump {w0 w : World} {P n c g : Nat} {T : List Pb} {R : Rs Int} (h : PlayAt w0 w P (.slice (some ⟨g, 0, none⟩) n c) T R) {m : Nat} {b : Bx Int} {sv : Value} (hx : T[m]? = some (some b, sv)) :
    PlayAt w0 (w.setCell ⟨g, m * 4 + 1, none⟩ (.int .i64 (((b.lost + 1 : Nat) : Int)))) P (.slice (some ⟨g, 0, none⟩) n c) (T.set m (some ⟨b.places, b.lost + 1, b.list⟩, sv)) R := by
  obtain ⟨g', e, hn, hw, s2, c2, e2, hv⟩ := h.nth hx
  cases e
  have e3 : sv = .slice s2 b.list.length c2 := e2
  subst e3
  refine h.set_part hx (y := (some ⟨b.places, b.lost + 1, b.list⟩, .slice s2 b.list.length c2)) ?_ ((Aside.refl _ _).setCell _ _ (Or.inr rfl)) hv fun hne => ⟨hne, fun k hk => hk⟩
  have := hw.setCell (m * 4 + 1) (.int .i64 (((b.lost + 1 : Nat) : Int)))
  rw [rows_set hx (by omega) _ (some ⟨b.places, b.lost + 1, b.list⟩, .slice s2 b.list.length c2) rfl] at this
  rw [← hn]
  exact this
/-- The first j boxes were told. -/
structure TellJ (T Tj : List Pb) (v : Int) (j : Nat) : Prop where
  fst : Tj.map Prod.fst = tellR ((T.map Prod.fst).take j) v ++ (T.map Prod.fst).drop j
theorem TellJ.len {T Tj : List Pb} {v : Int} {j : Nat} (h : TellJ T Tj v j) : Tj.length = T.length := by
  have := congrArg List.length h.fst
  rw [List.length_append, len_tell, List.length_take, List.length_drop, List.length_map, List.length_map] at this
  omega
theorem TellJ.start (T : List Pb) (v : Int) : TellJ T T v 0 := ⟨by simp [tellR]⟩
theorem TellJ.now {T Tj : List Pb} {v : Int} {j : Nat} (h : TellJ T Tj v j) {x : Pb} (hx : Tj[j]? = some x) : (T.map Prod.fst)[j]? = some x.1 := by
  have hl := (List.getElem?_eq_some_iff.1 hx).1
  rw [h.len] at hl
  have : (Tj.map Prod.fst)[j]? = some x.1 := by rw [List.getElem?_map, hx]; rfl
  rw [h.fst, List.getElem?_append_right (by rw [len_tell, List.length_take]; omega), len_tell, List.length_take, List.length_map, Nat.min_eq_left (by omega), Nat.sub_self, List.getElem?_drop, Nat.add_zero] at this
  exact this
theorem TellJ.next {T Tj Tj' : List Pb} {v : Int} {j : Nat} (h : TellJ T Tj v j) {x : Pb} (hx : Tj[j]? = some x) (h' : ∀ k, (Tj'.map Prod.fst)[k]? = if k = j then some (x.1.map fun b => b.put v) else (Tj.map Prod.fst)[k]?) : TellJ T Tj' v (j + 1) := by
  have hn := h.now hx
  have hjl := (List.getElem?_eq_some_iff.1 hn).1
  refine ⟨List.ext_getElem? fun k => ?_⟩
  rw [h' k, h.fst]
  obtain ⟨R, hR⟩ : ∃ y, T.map Prod.fst = y := ⟨_, rfl⟩
  rw [hR] at hn hjl ⊢
  have l1 : (tellR (R.take j) v).length = j := by rw [len_tell, List.length_take]; omega
  have l2 : (tellR (R.take (j + 1)) v).length = j + 1 := by rw [len_tell, List.length_take]; omega
  have e2 : tellR (R.take (j + 1)) v = tellR (R.take j) v ++ [x.1.map fun b => b.put v] := by
    unfold tellR
    rw [List.take_add_one, hn, List.map_append]; rfl
  rw [e2, List.append_assoc]
  by_cases hk : k = j
  · subst hk
    rw [if_pos rfl, List.getElem?_append_right (by omega), l1, Nat.sub_self]; rfl
  · rw [if_neg hk]
    by_cases hlt : k < j
    · rw [List.getElem?_append_left (by omega), List.getElem?_append_left (by omega)]
    · rw [List.getElem?_append_right (by omega), List.getElem?_append_right (by omega), l1, List.getElem?_drop, show k - j = (k - (j + 1)) + 1 by omega]
      show _ = (R.drop (j + 1))[k - (j + 1)]?
      rw [List.getElem?_drop]
      congr 1
      omega
theorem TellJ.skip {T Tj : List Pb} {v : Int} {j : Nat} (h : TellJ T Tj v j) {sv : Value} (hx : Tj[j]? = some (none, sv)) : TellJ T Tj v (j + 1) := by
  refine h.next hx fun k => ?_
  split
  · rename_i e
    rw [e, List.getElem?_map, hx]; rfl
  · rfl
theorem TellJ.set {T Tj : List Pb} {v : Int} {j : Nat} (h : TellJ T Tj v j) {b : Bx Int} {sv sv' : Value} (hx : Tj[j]? = some (some b, sv)) : TellJ T (Tj.set j (some (b.put v), sv')) v (j + 1) := by
  refine h.next hx fun k => ?_
  have hjl := (List.getElem?_eq_some_iff.1 hx).1
  rw [List.map_set]
  split
  · rename_i e
    rw [e, List.getElem?_set_self (by rw [List.length_map]; exact hjl)]; rfl
  · rename_i e
    rw [List.getElem?_set_ne (fun e1 => e e1.symm)]
theorem live_take {R : Rs Int} {j : Nat} {o : Option (Bx Int)} (h : R[j]? = some o) : live (R.take (j + 1)) = live (R.take j) + (if o.isSome then 1 else 0) := by
  unfold live
  rw [List.take_add_one, h, List.countP_append]
  cases o <;> rfl
theorem TellJ.done {T Tj : List Pb} {v : Int} (h : TellJ T Tj v T.length) : Tj.map Prod.fst = tellR (T.map Prod.fst) v := by
  have hl : (T.map Prod.fst).length = T.length := List.length_map _
  rw [h.fst, List.take_of_length_le (by omega), List.drop_of_length_le (by omega), List.append_nil]
theorem PlOk.told {w0 w w' : World} {P : Nat} {lv lv' : Value} {T Tj : List Pb} {i : Nat} {v : Int} (h : PlOk w0 w P lv T i) (ht : TellJ T Tj v T.length) (hp : PlayAt w0 w' P lv' Tj (tellR (T.map Prod.fst) v)) : PlOk w0 w' P lv' Tj (i + 1) := by
  refine ⟨by rw [ht.done]; exact hp, by rw [ht.len]; exact Nat.le_succ_of_le h.len, fun x hx b hb => ?_⟩
  have hm : x.1 ∈ Tj.map Prod.fst := List.mem_map_of_mem hx
  rw [ht.done] at hm
  obtain ⟨o, ho, he⟩ := List.mem_map.1 hm
  cases o with
  | none => rw [hb] at he; cases he
  | some d =>
    rw [hb] at he
    obtain ⟨y, hy, hy2⟩ := List.mem_map.1 ho
    have h1 := h.lost y hy d hy2
    have e : d.put v = b := Option.some.inj he
    have : (d.put v).lost ≤ d.lost + 1 := by
      unfold Bx.put
      split
      · exact Nat.le_succ _
      · exact Nat.le_refl _
    rw [← e]; omega
end Go.Proofs.Ytbblhogdfdpipaa
