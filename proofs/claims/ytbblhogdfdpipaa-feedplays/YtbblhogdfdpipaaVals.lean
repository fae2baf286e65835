/-
  Slices of values of one cell each, of any kind, over any program: that a value holds these; that it lies in new memory; what an append and a make come to; rows in a block of their own. No program is named here.
-/
import Derived.WalkKit
import Derived.WalkSpells
import Derived.WalkLawsBesides
import Derived.Below
import Derived.Deep.MidRow
import Derived.Maps.RangeWalk
import Derived.Laws.AppendOwn
import Derived.Laws.AppendOwnNone
import Derived.Laws.MakeOwn
namespace Go.Proofs.Ytbblhogdfdpipaa
open Go.RowKit
theorem hide {p : Prop} (h : p) : Hid p := h
theorem unhide {p : Prop} (h : Hid p) : p := h
theorem range_grown {a b : World} {g ba bo : Nat} {cs : List Value} (h : a.rangeAt ba bo cs) (hg : a.grownBy b (some g)) (hne : ba ≠ g) : b.rangeAt ba bo cs := fun j v hv =>
  hg.cell (h j v hv) (by simpa using hne)
theorem grown_setCell {a b : World} {row : Option Nat} (h : a.grownBy b row) (x : Addr) (v : Value) (hg : row = some x.block) : a.grownBy (b.setCell x v) row :=
  ⟨h.os, h.tape, h.output, by rw [World.size_setCell]; exact h.size, fun i hi hne => by rw [heap_setCell_other _ _ _ _ (fun e => hne (by rw [hg, e]))]; exact h.block i hi hne⟩
theorem grown_below {a b c : World} {row : Option Nat} (h : a.grownBy b row) (hb : Below b.heap.size b c) : a.grownBy c row :=
  ⟨hb.os.trans h.os, hb.tape.trans h.tape, hb.output.trans h.output, Nat.le_trans h.size hb.size, fun i hi hne => (hb.block i (Nat.lt_of_lt_of_le hi h.size)).trans (h.block i hi hne)⟩
theorem grown_trans {a b c : World} {row : Option Nat} (h : a.grownBy b row) (k : b.grownBy c row) : a.grownBy c row :=
  ⟨k.os.trans h.os, k.tape.trans h.tape, k.output.trans h.output, Nat.le_trans h.size k.size, fun i hi hne => (k.block i (Nat.lt_of_lt_of_le hi h.size) hne).trans (h.block i hi hne)⟩
theorem _root_.Go.World.grownBy.drew {a b : World} {row : Option Nat} (h : a.grownBy b row) : a.grownBy b.drew row := ⟨h.os, h.tape, h.output, h.size, h.block⟩
/-- A type of slices whose elements have one cell each: t the slices', e the elements', z their zero, by their bytes. -/
structure Elem (P : Program) (t e : TypeId) (z : Value) (bytes : Nat) : Prop where
  under : P.underlying t = some (.slice e)
  info : ∃ i, P.info? e = some i ∧ i.zero = some z ∧ i.size = 1 ∧ i.bytes = bytes
  one : z.cells.size = 1
  small : bytes ≤ 64
/-- The value is a slice that holds cs. -/
def ValsAt (w : World) (x : Value) (cs : List Value) : Prop :=
  ∃ sp c, x = .slice sp cs.length c ∧ cs.length ≤ c ∧ (sp = none → c = 0) ∧ (cs ≠ [] → ∃ b o, sp = some ⟨b, o, none⟩ ∧ w.rangeAt b o cs)
/-- It lies from block B on. -/
def Fresh (B : Nat) (x : Value) : Prop := ∀ k, x.ownBlock = some k → B ≤ k
/-- A row of the call's own. -/
def OwnV (e : TypeId) (w : World) (base : Nat) (v : Value) (cs : List Value) : Prop := w.ownsRow base e 1 v cs.length cs
theorem vals_nil (w : World) : ValsAt w (.slice none 0 0) [] := ⟨none, 0, rfl, Nat.le_refl _, fun _ => rfl, fun h => absurd rfl h⟩
theorem ValsAt.grown {a b : World} {g : Nat} {x : Value} {cs : List Value} (h : ValsAt a x cs) (hg : a.grownBy b (some g)) (hne : x.ownBlock ≠ some g) : ValsAt b x cs := by
  obtain ⟨sp, c, rfl, h1, h2, h3⟩ := h
  refine ⟨sp, c, rfl, h1, h2, fun hl => ?_⟩
  obtain ⟨bb, o, rfl, hr⟩ := h3 hl
  exact ⟨bb, o, rfl, range_grown hr hg (by simpa [Value.ownBlock] using hne)⟩
theorem ValsAt.below {a b : World} {x : Value} {cs : List Value} (h : ValsAt a x cs) (hb : Below a.heap.size a b) : ValsAt b x cs := by
  obtain ⟨sp, c, rfl, h1, h2, h3⟩ := h
  refine ⟨sp, c, rfl, h1, h2, fun hl => ?_⟩
  obtain ⟨bb, o, rfl, hr⟩ := h3 hl
  refine ⟨bb, o, rfl, fun j v hv => ?_⟩
  have h0 := hr j v hv
  rw [hb.cell (World.block_lt_of_cell? a _ h0)]; exact h0
theorem ValsAt.drew {a : World} {x : Value} {cs : List Value} (h : ValsAt a x cs) : ValsAt a.drew x cs := h.below (Below.refl _ _).drew
theorem ValsAt.cell {w : World} {x : Value} {cs : List Value} (h : ValsAt w x cs) (hl : cs ≠ []) : ∃ b o c, x = .slice (some ⟨b, o, none⟩) cs.length c ∧ cs.length ≤ c ∧ b < w.heap.size ∧ ∀ j, j < cs.length → w.cell? ⟨b, o + j, none⟩ = some (cs.getD j undef) := by
  obtain ⟨sp, c, rfl, h1, _, h3⟩ := h
  obtain ⟨b, o, rfl, hr⟩ := h3 hl
  have key : ∀ j, j < cs.length → w.cell? ⟨b, o + j, none⟩ = some (cs.getD j undef) := fun j hj => hr j _ (by simp [List.getD_eq_getElem?_getD, hj])
  have hp : 0 < cs.length := Nat.pos_of_ne_zero fun e => hl (List.eq_nil_of_length_eq_zero e)
  exact ⟨b, o, c, rfl, h1, World.block_lt_of_cell? w _ (key 0 hp), key⟩
theorem ValsAt.form {w : World} {x : Value} {cs : List Value} (h : ValsAt w x cs) : ∃ sp c, x = .slice sp cs.length c := by
  obtain ⟨sp, c, e, _⟩ := h
  exact ⟨sp, c, e⟩
theorem ValsAt.old {w : World} {x : Value} {cs : List Value} (h : ValsAt w x cs) (hl : cs ≠ []) (k : Nat) (hk : x.ownBlock = some k) : k < w.heap.size := by
  obtain ⟨b, o, c, rfl, _, hb, _⟩ := h.cell hl
  simp [Value.ownBlock] at hk
  omega
theorem OwnV.vals {e : TypeId} {w : World} {base : Nat} {v : Value} {cs : List Value} (h : OwnV e w base v cs) : ValsAt w v cs := by
  obtain ⟨_, h⟩ := h
  rcases h with ⟨rfl, hn⟩ | ⟨g, cap, cur, rfl, hb, hg, hn, hc, hz, ht⟩
  · have : cs = [] := List.eq_nil_of_length_eq_zero hn
    subst this
    exact vals_nil w
  · refine ⟨some ⟨g, 0, none⟩, cap, rfl, hn, fun h => (by cases h), fun _ => ⟨g, 0, rfl, fun j v hv => ?_⟩⟩
    rw [cell_of_row w g _ cur e (0, 0) hg, Nat.zero_add]
    rw [← ht, List.getElem?_take] at hv
    split at hv
    · simpa using hv
    · cases hv
theorem OwnV.fresh {e : TypeId} {w : World} {base : Nat} {v : Value} {cs : List Value} (h : OwnV e w base v cs) : Fresh base v := by
  obtain ⟨_, h⟩ := h
  intro k hk
  rcases h with ⟨rfl, hn⟩ | ⟨g, cap, cur, rfl, hb, _⟩
  · cases hk
  · simp [Value.ownBlock] at hk; omega
theorem own_nil (e : TypeId) (w : World) (base : Nat) : OwnV e w base (.slice none 0 0) [] := World.ownsRow_nil w base e 1
theorem OwnV.form {e : TypeId} {w : World} {base : Nat} {v : Value} {cs : List Value} (h : OwnV e w base v cs) : ∃ sp c, v = .slice sp cs.length c := h.vals.form
theorem OwnV.drew {e : TypeId} {w : World} {base : Nat} {v : Value} {cs : List Value} (h : OwnV e w base v cs) : OwnV e w.drew base v cs := h
theorem OwnV.mono {e : TypeId} {w : World} {B B' : Nat} {v : Value} {cs : List Value} (h : OwnV e w B v cs) (hB : B' ≤ B) : OwnV e w B' v cs := by
  obtain ⟨h1, h2⟩ := h
  refine ⟨h1, ?_⟩
  rcases h2 with h2 | ⟨g, cap, cur, hv, hb, r⟩
  · exact Or.inl h2
  · exact Or.inr ⟨g, cap, cur, hv, by omega, r⟩
theorem OwnV.below {e : TypeId} {a b : World} {B : Nat} {v : Value} {cs : List Value} (h : OwnV e a B v cs) (hb : Below a.heap.size a b) : OwnV e b B v cs := by
  obtain ⟨h1, h2⟩ := h
  refine ⟨h1, ?_⟩
  rcases h2 with h2 | ⟨n, cap, cur, hv, hn, hh, r⟩
  · exact Or.inl h2
  · exact Or.inr ⟨n, cap, cur, hv, hn, by rw [hb.block _ (Array.getElem?_eq_some_iff.1 hh).1]; exact hh, r⟩
theorem OwnV.alloc {e : TypeId} {w : World} {base : Nat} {v : Value} {cs : List Value} (h : OwnV e w base v cs) (o : Obj) : OwnV e (w.alloc o) base v cs := h.below ((Below.refl _ _).alloc (Nat.le_refl _) _)
theorem OwnV.kept {e : TypeId} {a b : World} {B : Nat} {v : Value} {cs : List Value} {row : Option Nat} (h : OwnV e a B v cs) (hg : a.grownBy b row) (hne : v.ownBlock = none ∨ v.ownBlock ≠ row) : OwnV e b B v cs := World.ownsRow.kept h hg hne
theorem OwnV.cellAt {e : TypeId} {w : World} {B : Nat} {v : Value} {cs : List Value} (h : OwnV e w B v cs) (hl : cs ≠ []) : ∃ b c, v = .slice (some ⟨b, 0, none⟩) cs.length c ∧ B ≤ b ∧ b < w.heap.size ∧ ∀ j, j < cs.length → w.cell? ⟨b, j, none⟩ = some (cs.getD j undef) := by
  have hv := h.vals
  obtain ⟨_, h2⟩ := h
  rcases h2 with ⟨_, hn⟩ | ⟨b, cap, cur, rfl, hb, hh, _⟩
  · exact absurd (List.eq_nil_of_length_eq_zero hn) hl
  · obtain ⟨b2, o2, c2, e2, _, hlt, hc⟩ := hv.cell hl
    simp only [Value.slice.injEq, Option.some.injEq, Addr.mk.injEq] at e2
    obtain ⟨⟨rfl, rfl, _⟩, _, rfl⟩ := e2
    exact ⟨b, cap, rfl, hb, hlt, fun j hj => by have := hc j hj; rwa [Nat.zero_add] at this⟩
theorem own_below {e : TypeId} {a b w0 : World} {base : Nat} {v : Value} {cs : List Value} (h : OwnV e a base v cs) (hg : a.grownBy b v.ownBlock) (hB : Below base w0 a) (hs : base ≤ a.heap.size) : Below base w0 b :=
  hB.grown hg hs (fun k hk => h.fresh k hk)
/-- Values in a block that has just been laid. -/
theorem vals_new (w : World) (cs : List Value) (t : TypeId) : ValsAt (w.alloc (.cells cs.toArray t)) (.slice (some ⟨w.heap.size, 0, none⟩) cs.length cs.length) cs :=
  ⟨_, _, rfl, Nat.le_refl _, fun h => (by cases h), fun _ => ⟨w.heap.size, 0, rfl, fun j v hv => by
    rw [cell_of_row _ _ _ _ t (0, 0) (heap_alloc_new w _), Nat.zero_add]; simpa using hv⟩⟩
section
variable {P : Program}
/-- append to a row of the call's own, with the block that it ends in. -/
theorem run_append_vals {t e : TypeId} {z : Value} {by_ : Nat} (E : Elem P t e z by_) (w : World) (base : Nat) (v y : Value) (cs ds : List Value) (hown : OwnV e w base v cs) (hy : ValsAt w y ds) (h1 : ∀ u ∈ ds, u.oneCell' = true) (hb : base ≤ w.heap.size) (hlen : cs.length + ds.length ≤ 1073741824) (ty : TypeId) :
    ∃ v' w', (Builtin.append_ #[t, t] ty #[v, y]).run P w = .ok v' w' ∧ OwnV e w' base v' (cs ++ ds) ∧ w.grownBy w' v.ownBlock ∧ (v'.ownBlock = v.ownBlock ∨ v'.ownBlock = some w.heap.size) := by
  obtain ⟨hu, ⟨i, hi, hz, hsz, hby⟩, hone, hsmall⟩ := E
  have hbb : (cs.length + ds.length) * i.bytes ≤ 140737488355328 := by
    rw [hby]
    have := Nat.mul_le_mul hlen hsmall
    omega
  obtain ⟨sp, c, rfl, hc1, hc2, hc3⟩ := hy
  cases sp with
  | none =>
    have hm : ds = [] := by
      rcases List.eq_nil_or_concat ds with h | ⟨r, u, rfl⟩
      · exact h
      · obtain ⟨b, o, e, _⟩ := hc3 (by simp); cases e
    subst hm
    obtain rfl := hc2 rfl
    have hr := run_append_owned_none (P := P) w base t ty e i 1 hu hi v cs.length cs hown
    exact ⟨v, w, hr, by rw [List.append_nil]; exact hown, World.grownBy.refl _ _, Or.inl rfl⟩
  | some ad =>
    have hn : ∀ j u, ds[j]? = some u → w.cell? (ad.add j) = some u := by
      intro j u hu
      have hne : ds ≠ [] := by rintro rfl; simp at hu
      obtain ⟨b, o, e, hr⟩ := hc3 hne
      cases e
      rw [Addr.add_mid]; exact hr j u hu
    obtain ⟨v', w', hr, h2, h3, _⟩ := run_append_own (P := P) w base t ty e i z 1 by_ hu hi hz hsz hby hone (by omega) v cs.length cs hown ad ds.length c ds (by simp) hn h1 (by simp only [maxLen]; omega) (by rw [← hby]; exact hbb) hb
    refine ⟨v', w', hr, ?_, h3, ?_⟩
    · show w'.ownsRow base e 1 v' (cs ++ ds).length (cs ++ ds)
      rw [List.length_append]; exact h2
    · have hown' := hown
      rcases hown'.2 with ⟨rfl, hl0⟩ | ⟨g, cap, cur, rfl, hbg, hg, hnc, hcm, hcs, htake⟩
      · by_cases hm : ds.length = 0
        · rcases h2.2 with ⟨rfl, _⟩ | ⟨g', cap', cur', rfl, _⟩
          · exact Or.inl rfl
          · exfalso
            have hm' : ds = [] := List.eq_nil_of_length_eq_zero hm
            subst hm'
            simp [Builtin.append_, run_underlying hu, Go.sizeOf, typeInfo, hi, Builtin.lenOf, Builtin.firstCells, loadCells, loadCellsFrom] at hr
        · have hr2 := run_append_nil (P := P) w t ty e i z hu hi hz ad ds.length c ds (by rw [hsz]; simp) hn (by omega) (by omega) (by rw [hby]; have := Nat.mul_le_mul (show ds.length ≤ 1073741824 by omega) hsmall; omega)
          rw [hr] at hr2
          have := (Result.ok.inj hr2).1
          subst this
          exact Or.inr rfl
      · by_cases hroom : cs.length + ds.length ≤ cap
        · have hr2 := run_append_room (P := P) w t ty e i hu hi g cs.length cap cur hg ad ds.length c ds (by rw [hsz]; simp) hn h1 hroom (by rw [hsz, hcs]; omega)
          rw [hr] at hr2
          have := (Result.ok.inj hr2).1
          subst this
          exact Or.inl rfl
        · have holds : ∀ j u, cs[j]? = some u → w.cell? ((⟨g, 0, none⟩ : Addr).add j) = some u := hown.cells (g := g) rfl
          have hr2 := run_append_grow (P := P) w t ty e i z hu hi hz ⟨g, 0, none⟩ cs.length cap cs (by rw [hsz]; simp) holds ad ds.length c ds (by rw [hsz]; simp) hn (by omega) (by omega) (growslice_fits (by omega) hbb)
          rw [hr] at hr2
          have := (Result.ok.inj hr2).1
          subst this
          exact Or.inr rfl
theorem wpList_append_vals {t e : TypeId} {z : Value} {by_ : Nat} (E : Elem P t e z by_) {w : World} {ops : Array Oper} {rest : List Oper} {o : Oper} {a : Act} {Q : Exit → Act → World → Prop} (hgd : o.guard = none) (s x : Operand)
    (ho : o.op = .call { callee := .builtin .append, args := #[s, x], argTypes := #[t, t] }) (base : Nat) (v y : Value) (cs ds : List Value) (hs : a.eval s = v) (hown : OwnV e w base v cs)
    (hx : a.eval x = y) (hy : ValsAt w y ds) (h1 : ∀ u ∈ ds, u.oneCell' = true) (hb : base ≤ w.heap.size) (hlen : cs.length + ds.length ≤ 1073741824)
    (h : ∀ v' w', OwnV e w' base v' (cs ++ ds) → w.grownBy w' v.ownBlock → (v'.ownBlock = v.ownBlock ∨ v'.ownBlock = some w.heap.size) → wpList P ops Q rest (a.put o.dst v') w') : wpList P ops Q (o :: rest) a w := by
  obtain ⟨v', w', hr, h2, h3, h4⟩ := run_append_vals E w base v y cs ds hown hy h1 hb hlen o.type
  refine wpList_plain hgd fun _ hK => ?_
  unfold Oper.wp execOp
  simp only [ho, resolve, invoke, builtin, Sem.run_bind, Sem.run_pure, Result.andThen_ok, List.map_toArray, List.map_cons, List.map_nil, hs, hx, hr]
  exact hK _ _ (h v' w' h2 h3 h4)
end
/-- Values at the front of a block of their own; behind them whatever there is. -/
def RowAt (e : TypeId) (w : World) (B : Nat) (rest cs : List Value) : Prop := w.heap[B]? = some (.cells (cs ++ rest).toArray e (0, 0))
theorem RowAt.cell {e : TypeId} {w : World} {B : Nat} {rest cs : List Value} (h : RowAt e w B rest cs) (i : Nat) (hi : i < cs.length) : w.cell? ⟨B, i, none⟩ = some (cs.getD i undef) := by
  rw [cell_of_row w B i _ e (0, 0) h, List.getElem?_toArray, List.getElem?_append_left hi]
  simp [List.getD_eq_getElem?_getD, hi]
theorem RowAt.frozen {e : TypeId} {w : World} {B : Nat} {rest cs : List Value} (h : RowAt e w B rest cs) (i : Nat) : w.frozen? ⟨B, i, none⟩ = false := frozen_of_row w B i _ e h
theorem RowAt.set {e : TypeId} {w : World} {B : Nat} {rest cs : List Value} (h : RowAt e w B rest cs) (i : Nat) (hi : i < cs.length) (u : Value) : RowAt e (w.setCell ⟨B, i, none⟩ u) B rest (cs.set i u) := by
  unfold RowAt
  rw [heap_setCell_same w B i _ e _ h, List.setIfInBounds_toArray, List.set_append_left i _ hi]
theorem RowAt.other {e : TypeId} {w : World} {B : Nat} {rest cs : List Value} (h : RowAt e w B rest cs) (a : Addr) (v : Value) (hne : B ≠ a.block) : RowAt e (w.setCell a v) B rest cs := by
  unfold RowAt
  rw [heap_setCell_other _ _ _ _ hne]; exact h
theorem RowAt.drew {e : TypeId} {w : World} {B : Nat} {rest cs : List Value} (h : RowAt e w B rest cs) : RowAt e w.drew B rest cs := h
theorem RowAt.lt {e : TypeId} {w : World} {B : Nat} {rest cs : List Value} (h : RowAt e w B rest cs) : B < w.heap.size := (Array.getElem?_eq_some_iff.1 h).1
theorem RowAt.below {e : TypeId} {a b : World} {B : Nat} {rest cs : List Value} (h : RowAt e a B rest cs) (hb : Below a.heap.size a b) : RowAt e b B rest cs := by
  unfold RowAt
  rw [hb.block B h.lt]; exact h
theorem RowAt.grown {e : TypeId} {a b : World} {B : Nat} {row : Option Nat} {rest cs : List Value} (h : RowAt e a B rest cs) (hg : a.grownBy b row) (hne : some B ≠ row) : RowAt e b B rest cs := by
  unfold RowAt
  rw [hg.block B h.lt hne]; exact h
theorem RowAt.own {e : TypeId} {w : World} {B base : Nat} {rest cs : List Value} (h : RowAt e w B rest cs) (hB : base ≤ B) (n cap : Nat) (hl : cs.length = n) (hc : n + rest.length = cap) (hm : cap ≤ maxLen) : OwnV e w base (.slice (some ⟨B, 0, none⟩) n cap) cs := by
  subst hl
  subst hc
  refine ⟨by simp, Or.inr ⟨B, cs.length + rest.length, _, rfl, hB, h, by omega, hm, by simp, ?_⟩⟩
  rw [List.toList_toArray, Nat.mul_one]
  exact List.take_left' rfl
theorem OwnV.row {e : TypeId} {w : World} {base : Nat} {v : Value} {cs : List Value} (h : OwnV e w base v cs) (hl : cs ≠ []) : ∃ B rest cap, v = .slice (some ⟨B, 0, none⟩) cs.length cap ∧ base ≤ B ∧ cs.length + rest.length = cap ∧ cap ≤ maxLen ∧ RowAt e w B rest cs := by
  obtain ⟨_, h2⟩ := h
  rcases h2 with ⟨_, hn⟩ | ⟨b, cap, cur, rfl, hb, hh, hn, hm, hs, ht⟩
  · exact absurd (List.eq_nil_of_length_eq_zero hn) hl
  · rw [Nat.mul_one] at hs ht
    have hlen : cur.toList.length = cap := hs
    obtain ⟨n, hn'⟩ : ∃ n, cs.length = n := ⟨_, rfl⟩
    have e : cur = (cs ++ cur.toList.drop n).toArray := by
      rw [← ht, hn', List.take_append_drop, Array.toArray_toList]
    refine ⟨b, cur.toList.drop n, cap, rfl, hb, ?_, hm, ?_⟩
    · rw [List.length_drop, hlen]; omega
    · unfold RowAt
      rw [← e]; exact hh
/-- A make of n values. -/
theorem made_vals {P : Program} {t e : TypeId} {z : Value} {by_ : Nat} (E : Elem P t e z by_) (hz1 : z.cells = #[z]) (w : World) (k1 k2 : IntKind) (n : Nat) (x y : Int) (hx : x = (n : Int)) (hy : y = (n : Int)) (hn : n ≤ 1073741824) :
    ∃ W, (Instr.makeSlice t (.int k1 x) (.int k2 y)).run P w = .ok (.slice (some ⟨w.heap.size, 0, none⟩) n n) W ∧ RowAt e W w.heap.size [] (List.replicate n z) ∧ Below w.heap.size w W := by
  subst hx
  subst hy
  obtain ⟨hu, ⟨i, hi, h0, hsz, hby⟩, _, hsmall⟩ := E
  refine ⟨w.alloc (.cells (List.replicate n z).toArray e), ?_, ?_, (Below.refl _ _).alloc (Nat.le_refl _) _⟩
  · have hbn : (i.bytes : Int) * (n : Int) ≤ 281474976710656 := by
      rw [hby, ← Int.natCast_mul]
      have := Nat.mul_le_mul hsmall hn
      omega
    have h := run_make (P := P) w t e i z hu hi h0 k1 k2 n n (by omega) (by omega) hbn (by omega)
    rw [h, hsz, hz1]
    have e1 : madeCells #[z] (((n : Int)).toNat * 1) = (List.replicate n z).toArray := by
      rw [Int.toNat_natCast, Nat.mul_one]
      apply Array.ext
      · simp [madeCells]
      · intro j h1 h2
        simp [madeCells, Nat.mod_one]
    rw [e1, Int.toNat_natCast]
  · unfold RowAt
    rw [List.append_nil]; exact heap_alloc_new _ _
end Go.Proofs.Ytbblhogdfdpipaa
