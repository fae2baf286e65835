/-
  Slices of values of one cell each, of any kind, over any program: that a value holds these; that it lies in new memory; what an append and a make come to; rows in a block of their own. No program is named here.
-/
import Derived.WalkKit
import Derived.WalkSpells
import Derived.WalkLawsBesides
import Derived.Below
import Derived.Deep.MidRow
import Derived.Maps.RangeWalk
import Derived.Laws.AppendOwn
import Derived.Laws.AppendOwnNone
import Derived.Laws.MakeOwn
import Derived.Test.YtlhjifdahagkaaaDoorProg
import Derived.Deep.RegionHeld3
import Derived.BigRegion
import Derived.Deep.RegionWith
import Derived.Laws.BitsAllLaws
namespace Go.Proofs.YtlhjifdahagkaaaDoor
open Go.RowKit
theorem hide {p : Prop} (h : p) : Hid p := h
theorem unhide {p : Prop} (h : Hid p) : p := h
theorem range_grown {a b : World} {g ba bo : Nat} {cs : List Value} (h : a.rangeAt ba bo cs) (hg : a.grownBy b (some g)) (hne : ba ≠ g) : b.rangeAt ba bo cs := fun j v hv =>
  hg.cell (h j v hv) (by simpa using hne)
theorem grown_setCell {a b : World} {row : Option Nat} (h : a.grownBy b row) (x : Addr) (v : Value) (hg : row = some x.block) : a.grownBy (b.setCell x v) row :=
  ⟨h.os, h.tape, h.output, by rw [World.size_setCell]; exact h.size, fun i hi hne => by rw [heap_setCell_other _ _ _ _ (fun e => hne (by rw [hg, e]))]; exact h.block i hi hne⟩
theorem grown_below {a b c : World} {row : Option Nat} (h : a.grownBy b row) (hb : Below b.heap.size b c) : a.grownBy c row :=
  ⟨hb.os.trans h.os, hb.tape.trans h.tape, hb.output.trans h.output, Nat.le_trans h.size hb.size, fun i hi hne => (hb.block i (Nat.lt_of_lt_of_le hi h.size)).trans (h.block i hi hne)⟩
theorem grown_trans {a b c : World} {row : Option Nat} (h : a.grownBy b row) (k : b.grownBy c row) : a.grownBy c row :=
  ⟨k.os.trans h.os, k.tape.trans h.tape, k.output.trans h.output, Nat.le_trans h.size k.size, fun i hi hne => (k.block i (Nat.lt_of_lt_of_le hi h.size) hne).trans (h.block i hi hne)⟩
theorem _root_.Go.World.grownBy.drew {a b : World} {row : Option Nat} (h : a.grownBy b row) : a.grownBy b.drew row := ⟨h.os, h.tape, h.output, h.size, h.block⟩
/-- A type of slices whose elements have one cell each: t the slices', e the elements', z their zero, by their bytes. -/
structure Elem (P : Program) (t e : TypeId) (z : Value) (bytes : Nat) : Prop where
  under : P.underlying t = some (.slice e)
  info : ∃ i, P.info? e = some i ∧ i.zero = some z ∧ i.size = 1 ∧ i.bytes = bytes
  one : z.cells.size = 1
  small : bytes ≤ 64
/-- The value is a slice that holds cs. -/
def ValsAt (w : World) (x : Value) (cs : List Value) : Prop :=
  ∃ sp c, x = .slice sp cs.length c ∧ cs.length ≤ c ∧ (sp = none → c = 0) ∧ (cs ≠ [] → ∃ b o, sp = some ⟨b, o, none⟩ ∧ w.rangeAt b o cs)
/-- It lies from block B on. -/
def Fresh (B : Nat) (x : Value) : Prop := ∀ k, x.ownBlock = some k → B ≤ k
/-- A row of the call's own. -/
def OwnV (e : TypeId) (w : World) (base : Nat) (v : Value) (cs : List Value) : Prop := w.ownsRow base e 1 v cs.length cs
theorem vals_nil (w : World) : ValsAt w (.slice none 0 0) [] := ⟨none, 0, rfl, Nat.le_refl _, fun _ => rfl, fun h => absurd rfl h⟩
theorem ValsAt.grown {a b : World} {g : Nat} {x : Value} {cs : List Value} (h : ValsAt a x cs) (hg : a.grownBy b (some g)) (hne : x.ownBlock ≠ some g) : ValsAt b x cs := by
  obtain ⟨sp, c, rfl, h1, h2, h3⟩ := h
  refine ⟨sp, c, rfl, h1, h2, fun hl => ?_⟩
  obtain ⟨bb, o, rfl, hr⟩ := h3 hl
  exact ⟨bb, o, rfl, range_grown hr hg (by simpa [Value.ownBlock] using hne)⟩
theorem ValsAt.below {a b : World} {x : Value} {cs : List Value} (h : ValsAt a x cs) (hb : Below a.heap.size a b) : ValsAt b x cs := by
  obtain ⟨sp, c, rfl, h1, h2, h3⟩ := h
  refine ⟨sp, c, rfl, h1, h2, fun hl => ?_⟩
  obtain ⟨bb, o, rfl, hr⟩ := h3 hl
  refine ⟨bb, o, rfl, fun j v hv => ?_⟩
  have h0 := hr j v hv
  rw [hb.cell (World.block_lt_of_cell? a _ h0)]; exact h0
theorem ValsAt.drew {a : World} {x : Value} {cs : List Value} (h : ValsAt a x cs) : ValsAt a.drew x cs := h.below (Below.refl _ _).drew
theorem ValsAt.cell {w : World} {x : Value} {cs : List Value} (h : ValsAt w x cs) (hl : cs ≠ []) : ∃ b o c, x = .slice (some ⟨b, o, none⟩) cs.length c ∧ cs.length ≤ c ∧ b < w.heap.size ∧ ∀ j, j < cs.length → w.cell? ⟨b, o + j, none⟩ = some (cs.getD j undef) := by
  obtain ⟨sp, c, rfl, h1, _, h3⟩ := h
  obtain ⟨b, o, rfl, hr⟩ := h3 hl
  have key : ∀ j, j < cs.length → w.cell? ⟨b, o + j, none⟩ = some (cs.getD j undef) := fun j hj => hr j _ (by simp [List.getD_eq_getElem?_getD, hj])
  have hp : 0 < cs.length := Nat.pos_of_ne_zero fun e => hl (List.eq_nil_of_length_eq_zero e)
  exact ⟨b, o, c, rfl, h1, World.block_lt_of_cell? w _ (key 0 hp), key⟩
theorem ValsAt.form {w : World} {x : Value} {cs : List Value} (h : ValsAt w x cs) : ∃ sp c, x = .slice sp cs.length c := by
  obtain ⟨sp, c, e, _⟩ := h
  exact ⟨sp, c, e⟩
theorem ValsAt.old {w : World} {x : Value} {cs : List Value} (h : ValsAt w x cs) (hl : cs ≠ []) (k : Nat) (hk : x.ownBlock = some k) : k < w.heap.size := by
  obtain ⟨b, o, c, rfl, _, hb, _⟩ := h.cell hl
  simp [Value.ownBlock] at hk
  omega
theorem OwnV.vals {e : TypeId} {w : World} {base : Nat} {v : Value} {cs : List Value} (h : OwnV e w base v cs) : ValsAt w v cs := by
  obtain ⟨_, h⟩ := h
  rcases h with ⟨rfl, hn⟩ | ⟨g, cap, cur, rfl, hb, hg, hn, hc, hz, ht⟩
  · have : cs = [] := List.eq_nil_of_length_eq_zero hn
    subst this
    exact vals_nil w
  · refine ⟨some ⟨g, 0, none⟩, cap, rfl, hn, fun h => (by cases h), fun _ => ⟨g, 0, rfl, fun j v hv => ?_⟩⟩
    rw [cell_of_row w g _ cur e (0, 0) hg, Nat.zero_add]
    rw [← ht, List.getElem?_take] at hv
    split at hv
    · simpa using hv
    · cases hv
theorem OwnV.fresh {e : TypeId} {w : World} {base : Nat} {v : Value} {cs : List Value} (h : OwnV e w base v cs) : Fresh base v := by
  obtain ⟨_, h⟩ := h
  intro k hk
  rcases h with ⟨rfl, hn⟩ | ⟨g, cap, cur, rfl, hb, _⟩
  · cases hk
  · simp [Value.ownBlock] at hk; omega
theorem own_nil (e : TypeId) (w : World) (base : Nat) : OwnV e w base (.slice none 0 0) [] := World.ownsRow_nil w base e 1
theorem OwnV.form {e : TypeId} {w : World} {base : Nat} {v : Value} {cs : List Value} (h : OwnV e w base v cs) : ∃ sp c, v = .slice sp cs.length c := h.vals.form
theorem OwnV.drew {e : TypeId} {w : World} {base : Nat} {v : Value} {cs : List Value} (h : OwnV e w base v cs) : OwnV e w.drew base v cs := h
theorem OwnV.mono {e : TypeId} {w : World} {B B' : Nat} {v : Value} {cs : List Value} (h : OwnV e w B v cs) (hB : B' ≤ B) : OwnV e w B' v cs := by
  obtain ⟨h1, h2⟩ := h
  refine ⟨h1, ?_⟩
  rcases h2 with h2 | ⟨g, cap, cur, hv, hb, r⟩
  · exact Or.inl h2
  · exact Or.inr ⟨g, cap, cur, hv, by omega, r⟩
theorem OwnV.below {e : TypeId} {a b : World} {B : Nat} {v : Value} {cs : List Value} (h : OwnV e a B v cs) (hb : Below a.heap.size a b) : OwnV e b B v cs := by
  obtain ⟨h1, h2⟩ := h
  refine ⟨h1, ?_⟩
  rcases h2 with h2 | ⟨n, cap, cur, hv, hn, hh, r⟩
  · exact Or.inl h2
  · exact Or.inr ⟨n, cap, cur, hv, hn, by rw [hb.block _ (Array.getElem?_eq_some_iff.1 hh).1]; exact hh, r⟩
theorem OwnV.alloc {e : TypeId} {w : World} {base : Nat} {v : Value} {cs : List Value} (h : OwnV e w base v cs) (o : Obj) : OwnV e (w.alloc o) base v cs := h.below ((Below.refl _ _).alloc (Nat.le_refl _) _)
theorem OwnV.kept {e : TypeId} {a b : World} {B : Nat} {v : Value} {cs : List Value} {row : Option Nat} (h : OwnV e a B v cs) (hg : a.grownBy b row) (hne : v.ownBlock = none ∨ v.ownBlock ≠ row) : OwnV e b B v cs := World.ownsRow.kept h hg hne
theorem OwnV.cellAt {e : TypeId} {w : World} {B : Nat} {v : Value} {cs : List Value} (h : OwnV e w B v cs) (hl : cs ≠ []) : ∃ b c, v = .slice (some ⟨b, 0, none⟩) cs.length c ∧ B ≤ b ∧ b < w.heap.size ∧ ∀ j, j < cs.length → w.cell? ⟨b, j, none⟩ = some (cs.getD j undef) := by
  have hv := h.vals
  obtain ⟨_, h2⟩ := h
  rcases h2 with ⟨_, hn⟩ | ⟨b, cap, cur, rfl, hb, hh, _⟩
  · exact absurd (List.eq_nil_of_length_eq_zero hn) hl
  · obtain ⟨b2, o2, c2, e2, _, hlt, hc⟩ := hv.cell hl
    simp only [Value.slice.injEq, Option.some.injEq, Addr.mk.injEq] at e2
    obtain ⟨⟨rfl, rfl, _⟩, _, rfl⟩ := e2
    exact ⟨b, cap, rfl, hb, hlt, fun j hj => by have := hc j hj; rwa [Nat.zero_add] at this⟩
theorem own_below {e : TypeId} {a b w0 : World} {base : Nat} {v : Value} {cs : List Value} (h : OwnV e a base v cs) (hg : a.grownBy b v.ownBlock) (hB : Below base w0 a) (hs : base ≤ a.heap.size) : Below base w0 b :=
  hB.grown hg hs (fun k hk => h.fresh k hk)
/-- Values in a block that has just been laid. -/
theorem vals_new (w : World) (cs : List Value) (t : TypeId) : ValsAt (w.alloc (.cells cs.toArray t)) (.slice (some ⟨w.heap.size, 0, none⟩) cs.length cs.length) cs :=
  ⟨_, _, rfl, Nat.le_refl _, fun h => (by cases h), fun _ => ⟨w.heap.size, 0, rfl, fun j v hv => by
    rw [cell_of_row _ _ _ _ t (0, 0) (heap_alloc_new w _), Nat.zero_add]; simpa using hv⟩⟩
section
variable {P : Program}
/-- append to a row of the call's own, with the block that it ends in. -/
theorem run_append_vals {t e : TypeId} {z : Value} {by_ : Nat} (E : Elem P t e z by_) (w : World) (base : Nat) (v y : Value) (cs ds : List Value) (hown : OwnV e w base v cs) (hy : ValsAt w y ds) (h1 : ∀ u ∈ ds, u.oneCell' = true) (hb : base ≤ w.heap.size) (hlen : cs.length + ds.length ≤ 1073741824) (ty : TypeId) :
    ∃ v' w', (Builtin.append_ #[t, t] ty #[v, y]).run P w = .ok v' w' ∧ OwnV e w' base v' (cs ++ ds) ∧ w.grownBy w' v.ownBlock ∧ (v'.ownBlock = v.ownBlock ∨ v'.ownBlock = some w.heap.size) := by
  obtain ⟨hu, ⟨i, hi, hz, hsz, hby⟩, hone, hsmall⟩ := E
  have hbb : (cs.length + ds.length) * i.bytes ≤ 140737488355328 := by
    rw [hby]
    have := Nat.mul_le_mul hlen hsmall
    omega
  obtain ⟨sp, c, rfl, hc1, hc2, hc3⟩ := hy
  cases sp with
  | none =>
    have hm : ds = [] := by
      rcases List.eq_nil_or_concat ds with h | ⟨r, u, rfl⟩
      · exact h
      · obtain ⟨b, o, e, _⟩ := hc3 (by simp); cases e
    subst hm
    obtain rfl := hc2 rfl
    have hr := run_append_owned_none (P := P) w base t ty e i 1 hu hi v cs.length cs hown
    exact ⟨v, w, hr, by rw [List.append_nil]; exact hown, World.grownBy.refl _ _, Or.inl rfl⟩
  | some ad =>
    have hn : ∀ j u, ds[j]? = some u → w.cell? (ad.add j) = some u := by
      intro j u hu
      have hne : ds ≠ [] := by rintro rfl; simp at hu
      obtain ⟨b, o, e, hr⟩ := hc3 hne
      cases e
      rw [Addr.add_mid]; exact hr j u hu
    obtain ⟨v', w', hr, h2, h3, _⟩ := run_append_own (P := P) w base t ty e i z 1 by_ hu hi hz hsz hby hone (by omega) v cs.length cs hown ad ds.length c ds (by simp) hn h1 (by simp only [maxLen]; omega) (by rw [← hby]; exact hbb) hb
    refine ⟨v', w', hr, ?_, h3, ?_⟩
    · show w'.ownsRow base e 1 v' (cs ++ ds).length (cs ++ ds)
      rw [List.length_append]; exact h2
    · have hown' := hown
      rcases hown'.2 with ⟨rfl, hl0⟩ | ⟨g, cap, cur, rfl, hbg, hg, hnc, hcm, hcs, htake⟩
      · by_cases hm : ds.length = 0
        · rcases h2.2 with ⟨rfl, _⟩ | ⟨g', cap', cur', rfl, _⟩
          · exact Or.inl rfl
          · exfalso
            have hm' : ds = [] := List.eq_nil_of_length_eq_zero hm
            subst hm'
            simp [Builtin.append_, run_underlying hu, Go.sizeOf, typeInfo, hi, Builtin.lenOf, Builtin.firstCells, loadCells, loadCellsFrom] at hr
        · have hr2 := run_append_nil (P := P) w t ty e i z hu hi hz ad ds.length c ds (by rw [hsz]; simp) hn (by omega) (by omega) (by rw [hby]; have := Nat.mul_le_mul (show ds.length ≤ 1073741824 by omega) hsmall; omega)
          rw [hr] at hr2
          have := (Result.ok.inj hr2).1
          subst this
          exact Or.inr rfl
      · by_cases hroom : cs.length + ds.length ≤ cap
        · have hr2 := run_append_room (P := P) w t ty e i hu hi g cs.length cap cur hg ad ds.length c ds (by rw [hsz]; simp) hn h1 hroom (by rw [hsz, hcs]; omega)
          rw [hr] at hr2
          have := (Result.ok.inj hr2).1
          subst this
          exact Or.inl rfl
        · have holds : ∀ j u, cs[j]? = some u → w.cell? ((⟨g, 0, none⟩ : Addr).add j) = some u := hown.cells (g := g) rfl
          have hr2 := run_append_grow (P := P) w t ty e i z hu hi hz ⟨g, 0, none⟩ cs.length cap cs (by rw [hsz]; simp) holds ad ds.length c ds (by rw [hsz]; simp) hn (by omega) (by omega) (growslice_fits (by omega) hbb)
          rw [hr] at hr2
          have := (Result.ok.inj hr2).1
          subst this
          exact Or.inr rfl
theorem wpList_append_vals {t e : TypeId} {z : Value} {by_ : Nat} (E : Elem P t e z by_) {w : World} {ops : Array Oper} {rest : List Oper} {o : Oper} {a : Act} {Q : Exit → Act → World → Prop} (hgd : o.guard = none) (s x : Operand)
    (ho : o.op = .call { callee := .builtin .append, args := #[s, x], argTypes := #[t, t] }) (base : Nat) (v y : Value) (cs ds : List Value) (hs : a.eval s = v) (hown : OwnV e w base v cs)
    (hx : a.eval x = y) (hy : ValsAt w y ds) (h1 : ∀ u ∈ ds, u.oneCell' = true) (hb : base ≤ w.heap.size) (hlen : cs.length + ds.length ≤ 1073741824)
    (h : ∀ v' w', OwnV e w' base v' (cs ++ ds) → w.grownBy w' v.ownBlock → (v'.ownBlock = v.ownBlock ∨ v'.ownBlock = some w.heap.size) → wpList P ops Q rest (a.put o.dst v') w') : wpList P ops Q (o :: rest) a w := by
  obtain ⟨v', w', hr, h2, h3, h4⟩ := run_append_vals E w base v y cs ds hown hy h1 hb hlen o.type
  refine wpList_plain hgd fun _ hK => ?_
  unfold Oper.wp execOp
  simp only [ho, resolve, invoke, builtin, Sem.run_bind, Sem.run_pure, Result.andThen_ok, List.map_toArray, List.map_cons, List.map_nil, hs, hx, hr]
  exact hK _ _ (h v' w' h2 h3 h4)
end
/-- Values at the front of a block of their own; behind them whatever there is. -/
def RowAt (e : TypeId) (w : World) (B : Nat) (rest cs : List Value) : Prop := w.heap[B]? = some (.cells (cs ++ rest).toArray e (0, 0))
theorem RowAt.cell {e : TypeId} {w : World} {B : Nat} {rest cs : List Value} (h : RowAt e w B rest cs) (i : Nat) (hi : i < cs.length) : w.cell? ⟨B, i, none⟩ = some (cs.getD i undef) := by
  rw [cell_of_row w B i _ e (0, 0) h, List.getElem?_toArray, List.getElem?_append_left hi]
  simp [List.getD_eq_getElem?_getD, hi]
theorem RowAt.frozen {e : TypeId} {w : World} {B : Nat} {rest cs : List Value} (h : RowAt e w B rest cs) (i : Nat) : w.frozen? ⟨B, i, none⟩ = false := frozen_of_row w B i _ e h
theorem RowAt.set {e : TypeId} {w : World} {B : Nat} {rest cs : List Value} (h : RowAt e w B rest cs) (i : Nat) (hi : i < cs.length) (u : Value) : RowAt e (w.setCell ⟨B, i, none⟩ u) B rest (cs.set i u) := by
  unfold RowAt
  rw [heap_setCell_same w B i _ e _ h, List.setIfInBounds_toArray, List.set_append_left i _ hi]
theorem RowAt.other {e : TypeId} {w : World} {B : Nat} {rest cs : List Value} (h : RowAt e w B rest cs) (a : Addr) (v : Value) (hne : B ≠ a.block) : RowAt e (w.setCell a v) B rest cs := by
  unfold RowAt
  rw [heap_setCell_other _ _ _ _ hne]; exact h
theorem RowAt.drew {e : TypeId} {w : World} {B : Nat} {rest cs : List Value} (h : RowAt e w B rest cs) : RowAt e w.drew B rest cs := h
theorem RowAt.lt {e : TypeId} {w : World} {B : Nat} {rest cs : List Value} (h : RowAt e w B rest cs) : B < w.heap.size := (Array.getElem?_eq_some_iff.1 h).1
theorem RowAt.below {e : TypeId} {a b : World} {B : Nat} {rest cs : List Value} (h : RowAt e a B rest cs) (hb : Below a.heap.size a b) : RowAt e b B rest cs := by
  unfold RowAt
  rw [hb.block B h.lt]; exact h
theorem RowAt.grown {e : TypeId} {a b : World} {B : Nat} {row : Option Nat} {rest cs : List Value} (h : RowAt e a B rest cs) (hg : a.grownBy b row) (hne : some B ≠ row) : RowAt e b B rest cs := by
  unfold RowAt
  rw [hg.block B h.lt hne]; exact h
theorem RowAt.own {e : TypeId} {w : World} {B base : Nat} {rest cs : List Value} (h : RowAt e w B rest cs) (hB : base ≤ B) (n cap : Nat) (hl : cs.length = n) (hc : n + rest.length = cap) (hm : cap ≤ maxLen) : OwnV e w base (.slice (some ⟨B, 0, none⟩) n cap) cs := by
  subst hl
  subst hc
  refine ⟨by simp, Or.inr ⟨B, cs.length + rest.length, _, rfl, hB, h, by omega, hm, by simp, ?_⟩⟩
  rw [List.toList_toArray, Nat.mul_one]
  exact List.take_left' rfl
theorem OwnV.row {e : TypeId} {w : World} {base : Nat} {v : Value} {cs : List Value} (h : OwnV e w base v cs) (hl : cs ≠ []) : ∃ B rest cap, v = .slice (some ⟨B, 0, none⟩) cs.length cap ∧ base ≤ B ∧ cs.length + rest.length = cap ∧ cap ≤ maxLen ∧ RowAt e w B rest cs := by
  obtain ⟨_, h2⟩ := h
  rcases h2 with ⟨_, hn⟩ | ⟨b, cap, cur, rfl, hb, hh, hn, hm, hs, ht⟩
  · exact absurd (List.eq_nil_of_length_eq_zero hn) hl
  · rw [Nat.mul_one] at hs ht
    have hlen : cur.toList.length = cap := hs
    obtain ⟨n, hn'⟩ : ∃ n, cs.length = n := ⟨_, rfl⟩
    have e : cur = (cs ++ cur.toList.drop n).toArray := by
      rw [← ht, hn', List.take_append_drop, Array.toArray_toList]
    refine ⟨b, cur.toList.drop n, cap, rfl, hb, ?_, hm, ?_⟩
    · rw [List.length_drop, hlen]; omega
    · unfold RowAt
      rw [← e]; exact hh
/-- A make of n values. -/
theorem made_vals {P : Program} {t e : TypeId} {z : Value} {by_ : Nat} (E : Elem P t e z by_) (hz1 : z.cells = #[z]) (w : World) (k1 k2 : IntKind) (n : Nat) (x y : Int) (hx : x = (n : Int)) (hy : y = (n : Int)) (hn : n ≤ 1073741824) :
    ∃ W, (Instr.makeSlice t (.int k1 x) (.int k2 y)).run P w = .ok (.slice (some ⟨w.heap.size, 0, none⟩) n n) W ∧ RowAt e W w.heap.size [] (List.replicate n z) ∧ Below w.heap.size w W := by
  subst hx
  subst hy
  obtain ⟨hu, ⟨i, hi, h0, hsz, hby⟩, _, hsmall⟩ := E
  refine ⟨w.alloc (.cells (List.replicate n z).toArray e), ?_, ?_, (Below.refl _ _).alloc (Nat.le_refl _) _⟩
  · have hbn : (i.bytes : Int) * (n : Int) ≤ 281474976710656 := by
      rw [hby, ← Int.natCast_mul]
      have := Nat.mul_le_mul hsmall hn
      omega
    have h := run_make (P := P) w t e i z hu hi h0 k1 k2 n n (by omega) (by omega) hbn (by omega)
    rw [h, hsz, hz1]
    have e1 : madeCells #[z] (((n : Int)).toNat * 1) = (List.replicate n z).toArray := by
      rw [Int.toNat_natCast, Nat.mul_one]
      apply Array.ext
      · simp [madeCells]
      · intro j h1 h2
        simp [madeCells, Nat.mod_one]
    rw [e1, Int.toNat_natCast]
  · unfold RowAt
    rw [List.append_nil]; exact heap_alloc_new _ _
end Go.Proofs.YtlhjifdahagkaaaDoor
/-
  Plain words on leaves, trees and trees of trees of hashes; H: the hash. No program is named here.
-/
namespace Go.Proofs.YtlhjifdahagkaaaDoor
abbrev Bs := List UInt8
/-- A number in so many bytes, the highest first. -/
def big (n size : Nat) : Bs := (List.range size).map fun i => UInt8.ofNat (n / 256 ^ (size - 1 - i))
theorem len_big (n size : Nat) : (big n size).length = size := by simp [big]
/-- The number of four bytes. -/
def num4 (b : Bs) : Nat := (b.getD 0 0).toNat * 16777216 + (b.getD 1 0).toNat * 65536 + (b.getD 2 0).toNat * 256 + (b.getD 3 0).toNat
theorem num4_big {n : Nat} (hn : n < 4294967296) (b : Bs) : num4 (big n 4 ++ b) = n := by
  have e : big n 4 ++ b = UInt8.ofNat (n / 16777216) :: UInt8.ofNat (n / 65536) :: UInt8.ofNat (n / 256) :: UInt8.ofNat n :: b := by simp [big, List.range_succ]
  rw [e]
  simp only [num4, List.getD_cons_zero, List.getD_cons_succ, UInt8.toNat_ofNat']
  omega
/-- A width's type, how many digits it has, by how much its sum is shifted. -/
def tyW (w : Nat) : Nat := if w = 1 then 1 else if w = 2 then 2 else if w = 4 then 3 else if w = 8 then 4 else 0
def pW (w : Nat) : Nat := if w = 1 then 265 else if w = 2 then 133 else if w = 4 then 67 else if w = 8 then 34 else 0
def lsW (w : Nat) : Nat := if w = 1 then 7 else if w = 2 then 6 else if w = 4 then 4 else 0
def IsW (w : Nat) : Prop := w = 1 ∨ w = 2 ∨ w = 4 ∨ w = 8
def tyH (h : Nat) : Nat := if h = 5 then 5 else 3758096384 + h
def head (id : Bs) (q i : Nat) : Bs := id ++ big q 4 ++ big i 2
theorem len_head (id : Bs) (q i : Nat) : (head id q i).length = id.length + 6 := by simp [head, len_big]
/-- The part number i of w bits. -/
def coef (b : Bs) (i w : Nat) : Nat := (b.getD (i * w / 8) 0).toNat / 2 ^ (8 - w - i * w % 8) % 2 ^ w
def sumTo (b : Bs) (w : Nat) : Nat → Nat
  | 0 => 0
  | n + 1 => sumTo b w n + (2 ^ w - 1 - coef b n w)
/-- The digits of a hash. -/
def withSum (q : Bs) (w : Nat) : Bs := q ++ big (sumTo q w (256 / w) * 2 ^ lsW w) 2
def digit (q : Bs) (w i : Nat) : Nat := coef (withSum q w) i w
theorem coef_lt (b : Bs) (i w : Nat) : coef b i w < 2 ^ w := Nat.mod_lt _ (Nat.pow_pos (by omega))
theorem digit_lt (q : Bs) (w i : Nat) : digit q w i < 2 ^ w := coef_lt _ _ _
section
variable (H : Bs → Bs)
def secret (id seed : Bs) (q i : Nat) : Bs := H (head id q i ++ [255] ++ seed)
def steps (id : Bs) (q i : Nat) : Bs → Nat → Nat → Bs
  | x, _, 0 => x
  | x, j, n + 1 => steps id q i (H (head id q i ++ [UInt8.ofNat j] ++ x)) (j + 1) n
theorem steps_snoc (id : Bs) (q i : Nat) : ∀ (n : Nat) (x : Bs) (j : Nat), steps H id q i x j (n + 1) = H (head id q i ++ [UInt8.ofNat (j + n)] ++ steps H id q i x j n)
  | 0, x, j => by simp [steps]
  | n + 1, x, j => by
    rw [steps, steps_snoc id q i n, steps, show j + 1 + n = j + (n + 1) by omega]
theorem steps_add (id : Bs) (q i : Nat) : ∀ (a b : Nat) (x : Bs) (j : Nat), steps H id q i (steps H id q i x j a) (j + a) b = steps H id q i x j (a + b)
  | 0, b, x, j => by simp [steps]
  | a + 1, b, x, j => by
    rw [steps, show j + (a + 1) = j + 1 + a by omega, steps_add id q i a b, show a + 1 + b = (a + b) + 1 by omega, steps]
theorem len_steps (hH : ∀ l, (H l).length = 32) (id : Bs) (q i : Nat) : ∀ (n : Nat) (x : Bs) (j : Nat), x.length = 32 → (steps H id q i x j n).length = 32
  | 0, _, _, h => h
  | n + 1, _, _, _ => len_steps hH id q i n _ _ (hH _)
/-- The ends of the first p secrets. -/
def endsTo (id seed : Bs) (w q : Nat) : Nat → Bs
  | 0 => []
  | p + 1 => endsTo id seed w q p ++ steps H id q p (secret H id seed q p) 0 (2 ^ w - 1)
def leafKey (id seed : Bs) (w q : Nat) : Bs := H (head id q 0x8080 ++ endsTo H id seed w q (pW w))
/-- A node d levels above the leaves. -/
def nodeAt (id seed : Bs) (h w : Nat) : Nat → Nat → Bs
  | 0, r => H (head id r 0x8282 ++ leafKey H id seed w (r - 2 ^ h))
  | d + 1, r => H (head id r 0x8383 ++ nodeAt id seed h w d (2 * r) ++ nodeAt id seed h w d (2 * r + 1))
theorem len_node (hH : ∀ l, (H l).length = 32) (id seed : Bs) (h w d r : Nat) : (nodeAt H id seed h w d r).length = 32 := by
  cases d with
  | zero => exact hH _
  | succ d => exact hH _
def tree (id seed : Bs) (h w : Nat) : Bs := big (tyH h) 4 ++ big (tyW w) 4 ++ id ++ nodeAt H id seed h w h 1
def bars (id seed : Bs) (w q : Nat) (d : Nat → Nat) : Nat → Bs
  | 0 => []
  | p + 1 => bars id seed w q d p ++ steps H id q p (secret H id seed q p) 0 (d p)
/-- The nodes beside the way up. -/
def beside (id seed : Bs) (h w q : Nat) : Nat → Bs
  | 0 => []
  | z + 1 => beside id seed h w q z ++ nodeAt H id seed h w z ((2 ^ h + q) / 2 ^ z ^^^ 1)
def rnd (id seed : Bs) (q : Nat) : Bs := secret H id seed q 0xfffd
def hashed (id : Bs) (q : Nat) (c msg : Bs) : Bs := H (head id q 0x8181 ++ c ++ msg)
def oneSig (id seed : Bs) (h w q : Nat) (msg : Bs) : Bs :=
  big q 4 ++ big (tyW w) 4 ++ rnd H id seed q ++ bars H id seed w q (digit (hashed H id q (rnd H id seed q) msg) w) (pW w) ++ big (tyH h) 4 ++ beside H id seed h w q h
/-- The tree below a leaf. -/
def subId (id seed : Bs) (q : Nat) : Bs := (secret H id seed q 0xffff).take 16
def subSeed (id seed : Bs) (q : Nat) : Bs := secret H id seed q 0xfffe
def leafAt (h n level : Nat) : Nat := n / 2 ^ (h * level) % 2 ^ h
def signFrom (h w n : Nat) (msg : Bs) : Nat → Bs → Bs → Bs
  | 0, id, seed => oneSig H id seed h w (n % 2 ^ h) msg
  | l + 1, id, seed =>
    oneSig H id seed h w (leafAt h n (l + 1)) (tree H (subId H id seed (leafAt h n (l + 1))) (subSeed H id seed (leafAt h n (l + 1))) h w) ++ tree H (subId H id seed (leafAt h n (l + 1))) (subSeed H id seed (leafAt h n (l + 1))) h w
      ++ signFrom h w n msg l (subId H id seed (leafAt h n (l + 1))) (subSeed H id seed (leafAt h n (l + 1)))
def publicOf (L h w : Nat) (id seed : Bs) : Bs := big L 4 ++ tree H id seed h w
def signOf (L h w : Nat) (id seed : Bs) (n : Nat) (msg : Bs) : Bs := big (L - 1) 4 ++ signFrom H h w n msg (L - 1) id seed
theorem len_secret (hH : ∀ l, (H l).length = 32) (id seed : Bs) (q i : Nat) : (secret H id seed q i).length = 32 := hH _
theorem len_tree (hH : ∀ l, (H l).length = 32) {id seed : Bs} (hi : id.length = 16) (h w : Nat) : (tree H id seed h w).length = 56 := by
  unfold tree
  rw [List.length_append, List.length_append, List.length_append, len_big, len_big, hi, len_node H hH]
theorem len_bars (hH : ∀ l, (H l).length = 32) (id seed : Bs) (w q : Nat) (d : Nat → Nat) : ∀ p, (bars H id seed w q d p).length = 32 * p
  | 0 => rfl
  | p + 1 => by rw [bars, List.length_append, len_bars hH id seed w q d p, len_steps H hH _ _ _ _ _ _ (len_secret H hH _ _ _ _)]; omega
theorem len_ends (hH : ∀ l, (H l).length = 32) (id seed : Bs) (w q : Nat) : ∀ p, (endsTo H id seed w q p).length = 32 * p
  | 0 => rfl
  | p + 1 => by rw [endsTo, List.length_append, len_ends hH id seed w q p, len_steps H hH _ _ _ _ _ _ (len_secret H hH _ _ _ _)]; omega
theorem len_beside (hH : ∀ l, (H l).length = 32) (id seed : Bs) (h w q : Nat) : ∀ z, (beside H id seed h w q z).length = 32 * z
  | 0 => rfl
  | z + 1 => by rw [beside, List.length_append, len_beside hH id seed h w q z, len_node H hH]; omega
def sizeOf (h w : Nat) : Nat := 44 + 32 * pW w + 32 * h
theorem len_one (hH : ∀ l, (H l).length = 32) (id seed : Bs) (h w q : Nat) (msg : Bs) : (oneSig H id seed h w q msg).length = sizeOf h w := by
  unfold oneSig sizeOf
  simp only [List.length_append, len_big, len_bars H hH, len_beside H hH]
  rw [show (rnd H id seed q).length = 32 from hH _]
  omega
end
end Go.Proofs.YtlhjifdahagkaaaDoor
/-
  Slices of bytes; the hash of the reference as a promise; what a call that makes bytes gives.
-/
namespace Go.Proofs.YtlhjifdahagkaaaDoor
open Go.RowKit
def bv (x : UInt8) : Value := .int .u8 (x.toNat : Int)
/-- The value is a slice of bytes that holds l. -/
def BytesAt (w : World) (x : Value) (l : Bs) : Prop := ValsAt w x (l.map bv)
/-- A row of bytes of the call's own. -/
def OwnB (w : World) (base : Nat) (v : Value) (l : Bs) : Prop := OwnV 5 w base v (l.map bv)
theorem BytesAt.below {a b : World} {x : Value} {l : Bs} (h : BytesAt a x l) (hb : Below a.heap.size a b) : BytesAt b x l := ValsAt.below h hb
theorem OwnB.bytes {w : World} {base : Nat} {v : Value} {l : Bs} (h : OwnB w base v l) : BytesAt w v l := OwnV.vals h
theorem OwnB.below {a b : World} {B : Nat} {v : Value} {l : Bs} (h : OwnB a B v l) (hb : Below a.heap.size a b) : OwnB b B v l := OwnV.below h hb
theorem OwnB.mono {w : World} {B B' : Nat} {v : Value} {l : Bs} (h : OwnB w B v l) (hB : B' ≤ B) : OwnB w B' v l := OwnV.mono h hB
theorem OwnB.form {w : World} {B : Nat} {v : Value} {l : Bs} (h : OwnB w B v l) : ∃ sp c, v = .slice sp l.length c := by
  obtain ⟨sp, c, e⟩ := OwnV.form h
  rw [List.length_map] at e
  exact ⟨sp, c, e⟩
theorem bytes_nil (w : World) : BytesAt w (.slice none 0 0) [] := vals_nil w
theorem ownb_nil (w : World) (base : Nat) : OwnB w base (.slice none 0 0) [] := own_nil 5 w base
theorem elem_of {t e : TypeId} {z : Value} {n : Nat} (hu : Tryd.prog.underlying t = some (.slice e)) (h : (Tryd.prog.info? e).map (fun i => (i.zero, i.size, i.bytes)) = some (some z, 1, n)) (h1 : z.cells.size = 1) (hn : n ≤ 64) : Elem Tryd.prog t e z n := by
  obtain ⟨i, hi, h2⟩ := Option.map_eq_some_iff.1 h
  simp only [Prod.mk.injEq] at h2
  exact ⟨hu, ⟨i, hi, h2.1, h2.2.1, h2.2.2⟩, h1, hn⟩
theorem Ei : Elem Tryd.prog 44 3 (.int .i64 0) 8 := elem_of Tryd.underlying44 (by kernel_rfl) rfl (by omega)
theorem Eb : Elem Tryd.prog 24 5 (.int .u8 0) 1 := elem_of Tryd.underlying24 (by kernel_rfl) rfl (by omega)
theorem one_bytes (l : Bs) : ∀ u ∈ l.map bv, u.oneCell' = true := fun u hu => by obtain ⟨x, _, rfl⟩ := List.mem_map.1 hu; rfl
theorem bytes_open {w : World} {x : Value} {l : Bs} (h : BytesAt w x l) : ∃ sp c, x = .slice sp l.length c ∧ l.length ≤ c ∧ (sp = none → c = 0) ∧ (l ≠ [] → ∃ b o, sp = some ⟨b, o, none⟩ ∧ b < w.heap.size ∧ ∀ k, k < l.length → w.cell? ⟨b, o + k, none⟩ = some (.int .u8 ((l.getD k 0).toNat : Int))) := by
  have h' := h
  obtain ⟨sp, c, rfl, h1, h2, _⟩ := h'
  rw [List.length_map] at h1
  refine ⟨sp, c, by rw [List.length_map], h1, h2, fun hl => ?_⟩
  obtain ⟨b, o, c2, e, _, hb, hc⟩ := ValsAt.cell h (by simpa using hl)
  simp only [Value.slice.injEq] at e
  obtain ⟨rfl, _, _⟩ := e
  refine ⟨b, o, rfl, hb, fun k hk => ?_⟩
  rw [hc k (by rw [List.length_map]; exact hk)]
  simp [bv, List.getD_eq_getElem?_getD, hk]
/-- append of bytes to a row of the call's own. -/
theorem wpList_append_bytes {w : World} {ops : Array Oper} {rest : List Oper} {o : Oper} {a : Act} {Q : Exit → Act → World → Prop} (hgd : o.guard = none) (s x : Operand)
    (ho : o.op = .call { callee := .builtin .append, args := #[s, x], argTypes := #[24, 24] }) (base : Nat) (v y : Value) (l m : Bs) (hs : a.eval s = v) (hown : OwnB w base v l)
    (hx : a.eval x = y) (hy : BytesAt w y m) (hb : base ≤ w.heap.size) (hlen : l.length + m.length ≤ 1073741824)
    (h : ∀ v' w', OwnB w' base v' (l ++ m) → w.grownBy w' v.ownBlock → (v'.ownBlock = v.ownBlock ∨ v'.ownBlock = some w.heap.size) → wpList Tryd.prog ops Q rest (a.put o.dst v') w') : wpList Tryd.prog ops Q (o :: rest) a w :=
  wpList_append_vals Eb hgd s x ho base v y (l.map bv) (m.map bv) hs hown hx hy (one_bytes m) hb (by simpa using hlen) fun v' w' h1 h2 h3 => h v' w' (by unfold OwnB; rw [List.map_append]; exact h1) h2 h3
/-- Bytes in a block that has just been laid. -/
theorem bytes_new (w : World) (l : Bs) : BytesAt (w.alloc (.cells (l.map bv).toArray 5)) (.slice (some ⟨w.heap.size, 0, none⟩) l.length l.length) l := by
  have := vals_new w (l.map bv) 5
  rwa [List.length_map] at this
theorem ownb_below {a b w0 : World} {base : Nat} {v : Value} {l : Bs} (h : OwnB a base v l) (hg : a.grownBy b v.ownBlock) (hB : Below base w0 a) (hs : base ≤ a.heap.size) : Below base w0 b := own_below h hg hB hs
/-- A row of bytes that was begun at the world wb, and lies there behind all that was there. -/
structure Row (wb w : World) (v : Value) (l : Bs) : Prop where
  own : OwnB w wb.heap.size v l
  b : Below wb.heap.size wb w
theorem Row.bytes {wb w : World} {v : Value} {l : Bs} (h : Row wb w v l) : BytesAt w v l := h.own.bytes
theorem Row.call {wb w w' : World} {v : Value} {l : Bs} (h : Row wb w v l) (hb : Below w.heap.size w w') : Row wb w' v l := ⟨h.own.below hb, h.b.trans (hb.mono h.b.size)⟩
theorem Row.lit {wb w : World} {v : Value} {l : Bs} (h : Row wb w v l) (o : Obj) : Row wb (w.alloc o) v l := h.call ((Below.refl _ _).alloc (Nat.le_refl _) _)
theorem Row.up {w0 wb w : World} {v : Value} {l : Bs} (h : Row wb w v l) (hb : Below w0.heap.size w0 wb) : Row w0 w v l := ⟨h.own.mono hb.size, hb.trans (h.b.mono hb.size)⟩
theorem wpList_append_row {wb w : World} {ops : Array Oper} {rest : List Oper} {o : Oper} {a : Act} {Q : Exit → Act → World → Prop} (hgd : o.guard = none) (s x : Operand)
    (ho : o.op = .call { callee := .builtin .append, args := #[s, x], argTypes := #[24, 24] }) (v y : Value) (l m : Bs) (hs : a.eval s = v) (hr : Row wb w v l)
    (hx : a.eval x = y) (hy : BytesAt w y m) (hlen : l.length + m.length ≤ 1073741824)
    (h : ∀ v' w', Row wb w' v' (l ++ m) → wpList Tryd.prog ops Q rest (a.put o.dst v') w') : wpList Tryd.prog ops Q (o :: rest) a w :=
  wpList_append_bytes hgd s x ho wb.heap.size v y l m hs hr.own hx hy hr.b.size hlen fun v' w' h1 h2 _ => h v' w' ⟨h1, ownb_below hr.own h2 hr.b hr.b.size⟩
/-- The row grew, and lies where it lay or in a block that was made then. -/
def Grew (w : World) (v : Value) (w' : World) (v' : Value) : Prop := w.grownBy w' v.ownBlock ∧ (v'.ownBlock = v.ownBlock ∨ v'.ownBlock = some w.heap.size)
/-- Another row's block is not this one. -/
def Apart (v u : Value) : Prop := ∀ k, v.ownBlock = some k → u.ownBlock ≠ some k
theorem Grew.kept {w w' : World} {v v' u : Value} {e : TypeId} {B : Nat} {cs : List Value} (h : Grew w v w' v') (ha : Apart v u) (hu : OwnV e w B u cs) : OwnV e w' B u cs ∧ Apart v' u := by
  refine ⟨hu.kept h.1 ?_, fun k hk hq => ?_⟩
  · cases hq : u.ownBlock with
    | none => exact Or.inl rfl
    | some k => exact Or.inr fun e => ha k e.symm hq
  · rcases h.2 with hb | hb
    · rw [hb] at hk; exact ha k hk hq
    · rw [hb] at hk
      have := (World.ownsRow.lt hu k hq).2
      simp only [Option.some.injEq] at hk
      omega
theorem wpList_append_grew {wb w : World} {ops : Array Oper} {rest : List Oper} {o : Oper} {a : Act} {Q : Exit → Act → World → Prop} (hgd : o.guard = none) (s x : Operand)
    (ho : o.op = .call { callee := .builtin .append, args := #[s, x], argTypes := #[24, 24] }) (v y : Value) (l m : Bs) (hs : a.eval s = v) (hr : Row wb w v l)
    (hx : a.eval x = y) (hy : BytesAt w y m) (hlen : l.length + m.length ≤ 1073741824)
    (h : ∀ v' w', Row wb w' v' (l ++ m) → Grew w v w' v' → wpList Tryd.prog ops Q rest (a.put o.dst v') w') : wpList Tryd.prog ops Q (o :: rest) a w :=
  wpList_append_bytes hgd s x ho wb.heap.size v y l m hs hr.own hx hy hr.b.size hlen fun v' w' h1 h2 h3 => h v' w' ⟨h1, ownb_below hr.own h2 hr.b hr.b.size⟩ ⟨h2, h3⟩
theorem Grew.bytes {w w' : World} {v v' y : Value} {l : Bs} (h : Grew w v w' v') (ha : Apart v y) (hy : BytesAt w y l) (hl : l ≠ []) : BytesAt w' y l ∧ Apart v' y := by
  have hne : l.map bv ≠ [] := by simpa using hl
  refine ⟨?_, fun k hk hq => ?_⟩
  · obtain ⟨b, o, c, rfl, hc, hb, hcell⟩ := ValsAt.cell hy hne
    refine ⟨_, _, rfl, hc, fun e => (by cases e), fun _ => ⟨b, o, rfl, fun j u hu => ?_⟩⟩
    have hj : j < (l.map bv).length := (List.getElem?_eq_some_iff.1 hu).1
    have h0 := hcell j hj
    have e : w'.cell? ⟨b, o + j, none⟩ = w.cell? ⟨b, o + j, none⟩ := World.cell?_of_block (h.1.block b hb fun e => by
      cases hv : v.ownBlock with
      | none => rw [hv] at e; cases e
      | some k => rw [hv] at e; simp only [Option.some.injEq] at e; exact ha k hv (by simp [Value.ownBlock, e]))
    rw [e, h0, ← hu, List.getD_eq_getElem?_getD, List.getElem?_eq_getElem hj]
    rfl
  · rcases h.2 with hb | hb
    · rw [hb] at hk; exact ha k hk hq
    · rw [hb] at hk
      have := ValsAt.old hy hne k hq
      simp only [Option.some.injEq] at hk
      omega
/-- The same as a step of a region that draws. -/
theorem step_append_row {wb w : World} {ops : Array Oper} {o : Oper} {a : Act} {K : Act → World → Prop} {Q : Exit → Act → World → Prop} {E : Prop} (hgd : o.guard = none) (s x : Operand)
    (ho : o.op = .call { callee := .builtin .append, args := #[s, x], argTypes := #[24, 24] }) (v y : Value) (l m : Bs) (hs : a.eval s = v) (hr : Row wb w v l)
    (hx : a.eval x = y) (hy : BytesAt w y m) (hlen : l.length + m.length ≤ 1073741824)
    (h : ∀ v' w', Row wb w' v' (l ++ m) → Grew w v w' v' → K (a.put o.dst v') w') : if Region.wanted o (yielded ops a.tmps) = true then Oper.wp Tryd.prog o a w K Q else E := by
  have hw : Region.wanted o (yielded ops a.tmps) = true := by simp [Region.wanted, hgd]
  rw [if_pos hw]
  obtain ⟨v', w', hrun, h2, h3, h4⟩ := run_append_vals Eb w wb.heap.size v y (l.map bv) (m.map bv) hr.own hy (one_bytes m) hr.b.size (by simpa using hlen) o.type
  unfold Oper.wp execOp
  simp only [ho, resolve, invoke, builtin, Sem.run_bind, Sem.run_pure, Result.andThen_ok, List.map_toArray, List.map_cons, List.map_nil, hs, hx, hrun]
  exact h v' w' ⟨by unfold OwnB; rw [List.map_append]; exact h2, ownb_below hr.own h3 hr.b hr.b.size⟩ ⟨h3, h4⟩
/-- The call gives these bytes, in new memory. -/
def GivesB (w : World) (f : FuncId) (args : Array Value) (l : Bs) : Prop :=
  Calls Tryd.prog f args w fun e w' => ∃ v, e = .returned v ∧ Row w w' v l
/-- The call gives these bytes, wherever they lie. -/
def TellsB (w : World) (f : FuncId) (args : Array Value) (l : Bs) : Prop :=
  Calls Tryd.prog f args w fun e w' => ∃ v, e = .returned v ∧ BytesAt w' v l ∧ Below w.heap.size w w'
/-- THE HASH OF THE REFERENCE. -/
structure RefHash (H : Bs → Bs) : Prop where
  len : ∀ l, (H l).length = 32
  sum : ∀ w x l, BytesAt w x l → l.length ≤ 1048576 → GivesB w 59 #[x] (H l)
end Go.Proofs.YtlhjifdahagkaaaDoor
/-
  The walks of Join, Big, Same, of the reference's Width, Type and head.
-/
namespace Go.Proofs.YtlhjifdahagkaaaDoor
open Go.RowKit
set_option maxRecDepth 100000 in
theorem type_any (h : Nat) (hh : h ≤ 6) (w : World) : Calls Tryd.prog 54 #[.int .i64 (h : Int)] w fun e w' => e = .returned (.int .i64 (tyH h : Int)) ∧ w' = w := by
  by_cases h5 : h = 5
  · subst h5
    go_enter Tryd.func54, Tryd.ntmps54
    go_wp2
    go_ret
    exact ⟨rfl, rfl⟩
  · have d : ((h : Int) == 5) = false := by simp; omega
    have Hty : Hid (((tyH h : Nat) : Int) = 3758096384 + (h : Int)) := by show _ = _; unfold tyH; rw [if_neg h5]; simp
    clear h5
    go_enter Tryd.func54, Tryd.ntmps54
    go_wp2
    go_ret
    exact ⟨by rw [unhide Hty]; rfl, rfl⟩
def widthOf (x : Int) : Value := if x = 1 then .tuple #[.int .i64 1, .int .i64 265, .int .i64 7, .bool true] else if x = 2 then .tuple #[.int .i64 2, .int .i64 133, .int .i64 6, .bool true] else if x = 4 then .tuple #[.int .i64 3, .int .i64 67, .int .i64 4, .bool true] else if x = 8 then .tuple #[.int .i64 4, .int .i64 34, .int .i64 0, .bool true] else .tuple #[.int .i64 0, .int .i64 0, .int .i64 0, .bool false]
set_option maxRecDepth 100000 in
theorem width_any (x : Int) (w : World) : Calls Tryd.prog 23 #[.int .i64 x] w fun e w' => e = .returned (widthOf x) ∧ w' = w := by
  by_cases h1 : x = 1
  · subst h1
    go_enter Tryd.func23, Tryd.ntmps23
    go_wp2
    exact bodyPost_ret (v := .tuple #[.int .i64 1, .int .i64 265, .int .i64 7, .bool true]) (by simp [results, Tryd.results23, go_sem]) rfl ⟨rfl, rfl⟩
  · by_cases h2 : x = 2
    · subst h2
      go_enter Tryd.func23, Tryd.ntmps23
      go_wp2
      exact bodyPost_ret (v := .tuple #[.int .i64 2, .int .i64 133, .int .i64 6, .bool true]) (by simp [results, Tryd.results23, go_sem]) rfl ⟨rfl, rfl⟩
    · by_cases h4 : x = 4
      · subst h4
        go_enter Tryd.func23, Tryd.ntmps23
        go_wp2
        exact bodyPost_ret (v := .tuple #[.int .i64 3, .int .i64 67, .int .i64 4, .bool true]) (by simp [results, Tryd.results23, go_sem]) rfl ⟨rfl, rfl⟩
      · by_cases h8 : x = 8
        · subst h8
          go_enter Tryd.func23, Tryd.ntmps23
          go_wp2
          exact bodyPost_ret (v := .tuple #[.int .i64 4, .int .i64 34, .int .i64 0, .bool true]) (by simp [results, Tryd.results23, go_sem]) rfl ⟨rfl, rfl⟩
        · have d1 : (x == 1) = false := by simp [h1]
          have d2 : (x == 2) = false := by simp [h2]
          have d4 : (x == 4) = false := by simp [h4]
          have d8 : (x == 8) = false := by simp [h8]
          have Hw : Hid (widthOf x = .tuple #[.int .i64 0, .int .i64 0, .int .i64 0, .bool false]) := by show _ = _; unfold widthOf; rw [if_neg h1, if_neg h2, if_neg h4, if_neg h8]
          clear h1 h2 h4 h8
          go_enter Tryd.func23, Tryd.ntmps23
          go_wp2
          exact bodyPost_ret (v := .tuple #[.int .i64 0, .int .i64 0, .int .i64 0, .bool false]) (by simp [results, Tryd.results23, go_sem]) rfl ⟨by rw [unhide Hw], rfl⟩
theorem widthOf_of {x : Nat} (hx : IsW x) : widthOf (x : Int) = .tuple #[.int .i64 (tyW x : Int), .int .i64 (pW x : Int), .int .i64 (lsW x : Int), .bool true] := by
  rcases hx with rfl | rfl | rfl | rfl <;> rfl
/-- An empty literal. -/
theorem ownb_empty (w : World) : OwnB (w.alloc (.cells #[] 5)) w.heap.size (.slice (some ⟨w.heap.size, 0, none⟩) 0 0) [] := ⟨rfl, Or.inr ⟨w.heap.size, 0, #[], rfl, Nat.le_refl _, heap_alloc_new w _, Nat.le_refl _, Nat.zero_le _, rfl, rfl⟩⟩
set_option maxRecDepth 100000 in
set_option maxHeartbeats 1000000 in
theorem join_any (w : World) (x y : Value) (a b : Bs) (hx : BytesAt w x a) (hy : BytesAt w y b) (hl : a.length + b.length ≤ 1073741824) : GivesB w 30 #[x, y] (a ++ b) := by
  have hbA : Below w.heap.size w (w.alloc (.cells #[] 5)) := (Below.refl _ _).alloc (Nat.le_refl _) _
  have HOA := hide (ownb_empty w)
  have HXA := hide (hx.below hbA)
  have HY := hide hy
  have HbA := hide hbA
  have Hs := hide hbA.size
  have Hl1 := hide (show ([] : Bs).length + a.length ≤ 1073741824 by simp; omega)
  have Hl2 := hide hl
  clear hx hy hbA hl
  go_enter Tryd.func30, Tryd.ntmps30
  go_wp2_with (first
    | (at_builtin; refine wpList_append_bytes rfl _ _ rfl w.heap.size (.slice (some ⟨w.heap.size, 0, none⟩) 0 0) x [] a rfl (unhide HOA) rfl (unhide HXA) (unhide Hs) (unhide Hl1) ?_
       intro v2 w2 hO2 hg2 _
       rw [List.nil_append] at hO2
       have hb2 := ownb_below (unhide HOA) hg2 (unhide HbA) (unhide Hs)
       have HO2 := hide hO2
       have HB2 := hide hb2
       have HY2 := hide ((unhide HY).below hb2)
       have Hs2 := hide hb2.size
       clear hO2 hg2 hb2)
    | (at_builtin; refine wpList_append_bytes rfl _ _ rfl w.heap.size v2 y a b rfl (unhide HO2) rfl (unhide HY2) (unhide Hs2) (unhide Hl2) ?_
       intro v3 w3 hO3 hg3 _
       have HO3 := hide hO3
       have HB3 := hide (ownb_below (unhide HO2) hg3 (unhide HB2) (unhide Hs2))
       clear hO3 hg3))
  go_ret
  exact ⟨_, rfl, unhide HO3, unhide HB3⟩
theorem big_succ (n k : Nat) : big n (k + 1) = UInt8.ofNat (n / 256 ^ k) :: big n k := by
  unfold big
  rw [List.range_succ_eq_map, List.map_cons, List.map_map]
  congr 1
  apply List.map_congr_left
  intro i _
  show UInt8.ofNat (n / 256 ^ (k + 1 - 1 - (i + 1))) = UInt8.ofNat (n / 256 ^ (k - 1 - i))
  rw [show k + 1 - 1 - (i + 1) = k - 1 - i by omega]
/-- The last k bytes are laid. -/
def bigTo (n size k : Nat) : Bs := List.replicate (size - k) 0 ++ big n k
theorem len_bigTo (n size k : Nat) (hk : k ≤ size) : (bigTo n size k).length = size := by unfold bigTo; rw [List.length_append, List.length_replicate, len_big]; omega
theorem bigTo_set (n size k : Nat) (hk : k < size) : (bigTo n size k).set (size - k - 1) (UInt8.ofNat (n / 256 ^ k)) = bigTo n size (k + 1) := by
  unfold bigTo
  obtain ⟨d, hd⟩ : ∃ d, size - k = d + 1 := ⟨size - k - 1, by omega⟩
  rw [hd, show size - (k + 1) = d by omega, List.replicate_succ', List.append_assoc, List.set_append_right _ _ (by simp), List.length_replicate, show d + 1 - 1 - d = 0 by omega, big_succ]
  rfl
theorem bv_set (l : Bs) (i : Nat) (x : UInt8) : (l.map bv).set i (.int .u8 (x.toNat : Int)) = (l.set i x).map bv := by rw [List.map_set]; rfl
set_option maxRecDepth 100000 in
set_option maxHeartbeats 1000000 in
theorem big_any (w : World) (n size : Nat) (hn : n ≤ 4611686018427387904) (hs : size ≤ 8) : GivesB w 31 #[.int .i64 (n : Int), .int .i64 (size : Int)] (big n size) := by
  obtain ⟨W, hmk, hrow, hbel⟩ := made_vals Eb rfl w .i64 .i64 size (size : Int) (size : Int) rfl rfl (by omega)
  have HR : Hid (RowAt 5 W w.heap.size [] ((bigTo n size 0).map bv)) := by
    show RowAt _ _ _ _ _
    have e : (bigTo n size 0).map bv = List.replicate size (.int .u8 0) := by simp [bigTo, big, bv]
    rw [e]; exact hrow
  have HB := hide hbel
  have sb : (size : Int) ≤ 8 := by omega
  clear hrow hbel
  go_enter Tryd.func31, Tryd.ntmps31
  go_wp2
  clear hmk
  go_loopw [0, 6] (fun nn ii wr => ∃ k m : Nat, k ≤ size ∧ ii = .int .i64 ((size : Int) - 1 - (k : Int)) ∧ m ≤ 4611686018427387904 ∧ nn = .int .i64 (m : Int) ∧ Hid (m = n / 256 ^ k) ∧ Hid (RowAt 5 wr w.heap.size [] ((bigTo n size k).map bv)) ∧ Hid (Below w.heap.size w wr)) (fun _ ii _ => (intOf ii + 1).toNat)
  case atStart => exact ⟨0, n, by omega, by congr 1; omega, hn, rfl, by show n = _; simp, HR, HB⟩
  case round =>
    clear HR HB
    obtain ⟨k, m, hk, rfl, hm, rfl, Hm, HR, HB⟩ := hrel
    by_cases hlt : k < size
    · obtain ⟨j, hj⟩ : ∃ j, size - k - 1 = j := ⟨_, rfl⟩
      have ej : (size : Int) - 1 - (k : Int) = (j : Int) := by omega
      have hjs : j < size := by omega
      have hr := (unhide HR).set j (by rw [List.length_map, len_bigTo _ _ _ hk]; exact hjs) (.int .u8 ((UInt8.ofNat (n / 256 ^ k)).toNat : Int))
      rw [bv_set, ← hj, bigTo_set n size k hlt, hj] at hr
      have c1 := (unhide HR).cell j (by rw [List.length_map, len_bigTo _ _ _ hk]; exact hjs)
      have f1 := (unhide HR).frozen j
      generalize (List.map bv (bigTo n size k)).getD j undef = old at c1
      have hz : (UInt8.ofNat (n / 256 ^ k)).toNat = m % 256 := by rw [← unhide Hm, UInt8.toNat_ofNat']
      rw [hz] at hr
      have cvb : IntKind.u8.wrap (m : Int) = ((m % 256 : Nat) : Int) := by rw [IntKind.wrap_u8']; omega
      have cvs : (m : Int) / 256 = ((m / 256 : Nat) : Int) := by omega
      have hm2 : m / 256 ≤ 4611686018427387904 := by omega
      have Hm2 : Hid (m / 256 = n / 256 ^ (k + 1)) := by show _ = _; rw [unhide Hm, Nat.div_div_eq_div_mul, Nat.pow_succ]
      obtain ⟨z, hz'⟩ : ∃ z, m % 256 = z := ⟨_, rfl⟩
      obtain ⟨G, hG⟩ : ∃ G, m / 256 = G := ⟨_, rfl⟩
      rw [hz'] at cvb hr
      rw [hG] at cvs hm2 Hm2
      have HR2 := hide hr
      have HB2 := hide ((unhide HB).setCell (p := ⟨w.heap.size, j, none⟩) (Nat.le_refl _) (.int .u8 (z : Int)))
      have j0 : (0 : Int) ≤ (j : Int) := by omega
      have j1 : (j : Int) < (size : Int) := by omega
      have Hej := hide ej
      rw [ej]
      clear hr hz hz' hG HR HB hj ej Hm
      go_wp2
      go_roundw
      case rel =>
        first
          | exact ⟨k + 1, G, by omega, by congr 1; have := unhide Hej; omega, hm2, rfl, Hm2, HR2, HB2⟩
          | ((repeat apply Exists.intro); exact ⟨⟨k + 1, G, by omega, by congr 1; have := unhide Hej; omega, hm2, rfl, Hm2, HR2, HB2⟩, rfl⟩)
      case measure => simp [intOf]
    · obtain rfl : k = size := by omega
      have HO : Hid (OwnB wr w.heap.size (.slice (some ⟨w.heap.size, 0, none⟩) k k) (big n k)) := by
        have e : bigTo n k k = big n k := by unfold bigTo; simp
        have hr := unhide HR
        rw [e] at hr
        exact hr.own (Nat.le_refl _) k k (by rw [List.length_map, len_big]) (by simp) (by simp only [maxLen]; omega)
      have ek : (k : Int) - 1 - (k : Int) = -1 := by omega
      rw [ek]
      clear HR ek
      go_wp2
      go_ret
      exact ⟨_, rfl, unhide HO, unhide HB⟩
end Go.Proofs.YtlhjifdahagkaaaDoor
/-
  The walks of the reference's head, Secret, Steps; of Same.
-/
namespace Go.Proofs.YtlhjifdahagkaaaDoor
open Go.RowKit
set_option maxRecDepth 100000 in
set_option maxHeartbeats 1000000 in
theorem head_any (w0 : World) (x : Value) (id : Bs) (q i : Nat) (hx : BytesAt w0 x id) (hl : id.length ≤ 1000000) (hq : q ≤ 4611686018427387904) (hi : i ≤ 4611686018427387904) : GivesB w0 58 #[x, .int .i64 (q : Int), .int .i64 (i : Int)] (head id q i) := by
  have HX := hide hx
  have Hl := hide hl
  clear hx hl
  go_enter Tryd.func58, Tryd.ntmps58
  go_wp2_with fail
  refine (big_any w0 q 4 hq (by omega)).mono ?_
  rintro e w1 ⟨v1, rfl, hO, hb⟩
  replace HX := hide ((unhide HX).below hb)
  have HB := hide hb
  have HO1 := hide hO
  clear hO hb
  go_wp2_with fail
  refine (join_any w1 x v1 id (big q 4) (unhide HX) (unhide HO1).bytes (by have := unhide Hl; rw [len_big]; omega)).mono ?_
  rintro e w2 ⟨v2, rfl, hO, hb⟩
  have HO2 := hide (hO.mono (unhide HB).size)
  replace HB := hide ((unhide HB).trans (hb.mono (unhide HB).size))
  clear hO hb
  go_wp2_with fail
  refine (big_any w2 i 2 hi (by omega)).mono ?_
  rintro e w3 ⟨v3, rfl, hO, hb⟩
  replace HO2 := hide ((unhide HO2).below hb)
  replace HB := hide ((unhide HB).trans (hb.mono (unhide HB).size))
  have HO3 := hide hO
  clear hO hb
  have Hl2 : Hid ((id ++ big q 4).length + (big i 2).length ≤ 1073741824) := by show _ ≤ _; have := unhide Hl; rw [List.length_append, len_big, len_big]; omega
  go_wp2_with (at_builtin; refine wpList_append_bytes rfl _ _ rfl w0.heap.size v2 v3 (id ++ big q 4) (big i 2) rfl (unhide HO2) rfl (unhide HO3).bytes (unhide HB).size (unhide Hl2) ?_
               intro v4 w4 hO hg _
               have HO4 := hide hO
               have HB4 := hide (ownb_below (unhide HO2) hg (unhide HB) (unhide HB).size)
               clear hO hg)
  go_ret
  exact ⟨_, rfl, unhide HO4, unhide HB4⟩
/-- A key in the reference's form. -/
def keyV (L h wd : Int) (xi xs : Value) : Value := .agg #[.int .i64 L, .int .i64 h, .int .i64 wd, xi, xs]
/-- Its cells. -/
def keyC (L h wd : Int) (xi xs : Value) : List Value := [.int .i64 L, .int .i64 h, .int .i64 wd, xi, xs]
/-- It lies in a block. -/
def KeyAt (w : World) (K : Nat) (L h wd : Int) (xi xs : Value) : Prop := K < w.heap.size ∧ w.rangeAt K 0 (keyC L h wd xi xs)
theorem KeyAt.below {a b : World} {K : Nat} {L h wd : Int} {xi xs : Value} (k : KeyAt a K L h wd xi xs) (hb : Below a.heap.size a b) : KeyAt b K L h wd xi xs :=
  ⟨Nat.lt_of_lt_of_le k.1 hb.size, fun j v hv => by rw [hb.cell (p := ⟨K, 0 + j, none⟩) k.1]; exact k.2 j v hv⟩
theorem KeyAt.c {w : World} {K : Nat} {L h wd : Int} {xi xs : Value} (k : KeyAt w K L h wd xi xs) (j : Nat) (v : Value) (hv : (keyC L h wd xi xs)[j]? = some v) : w.cell? ⟨K, j, none⟩ = some v := by
  have := k.2 j v hv
  rwa [Nat.zero_add] at this
theorem key_new (w : World) (L h wd : Int) (xi xs : Value) (t : TypeId) : KeyAt (w.alloc (.cells #[.int .i64 L, .int .i64 h, .int .i64 wd, xi, xs] t)) w.heap.size L h wd xi xs := by
  refine ⟨by simp, fun j v hv => ?_⟩
  rw [cell_of_row _ _ _ _ t (0, 0) (heap_alloc_new w _), Nat.zero_add]
  simpa [keyC] using hv
set_option maxRecDepth 100000 in
set_option maxHeartbeats 1000000 in
theorem secret_any {H : Bs → Bs} (C : RefHash H) (w0 : World) (L h wd : Int) (xi xs : Value) (id seed : Bs) (hi : BytesAt w0 xi id) (hs : BytesAt w0 xs seed) (li : id.length ≤ 1000) (ls : seed.length ≤ 1000) (q i : Nat) (hq : q ≤ 4611686018427387904) (hii : i ≤ 4611686018427387904) :
    GivesB w0 36 #[keyV L h wd xi xs, .int .i64 (q : Int), .int .i64 (i : Int)] (secret H id seed q i) := by
  have HC := hide C
  have hbA : Below w0.heap.size w0 (w0.alloc (.cells #[.int .i64 L, .int .i64 h, .int .i64 wd, xi, xs] 29)) := (Below.refl _ _).alloc (Nat.le_refl _) _
  have HX := hide (hi.below hbA)
  have HS := hide (hs.below hbA)
  have HK := hide (key_new w0 L h wd xi xs 29)
  have HB := hide hbA
  have Hl := hide (And.intro li ls)
  clear C hi hs hbA li ls
  unfold keyV
  go_enter Tryd.func36, Tryd.ntmps36
  go_wp2_with fail
  refine (head_any _ xi id q i (unhide HX) (by have := unhide Hl; omega) hq hii).mono ?_
  rintro e w1 ⟨v1, rfl, hO, hb⟩
  have HO1 := hide (hO.mono (unhide HB).size)
  have HO1W0 := hide hO
  have HW := hide hb
  replace HB := hide ((unhide HB).trans (hb.mono (unhide HB).size))
  have hbl : Below w1.heap.size w1 (w1.alloc (.cells #[.int .u8 255] 5)) := (Below.refl _ _).alloc (Nat.le_refl _) _
  have HV := hide (bytes_new w1 [255])
  have HO1A := hide ((unhide HO1).below hbl)
  have HBA := hide ((unhide HB).trans (hbl.mono (unhide HB).size))
  have HO1W := hide ((unhide HO1W0).below hbl)
  have HWA := hide ((unhide HW).trans (hbl.mono (unhide HW).size))
  have Hl1 : Hid ((head id q i).length + ([255] : Bs).length ≤ 1073741824) := by show _ ≤ _; have := unhide Hl; rw [len_head]; simp; omega
  clear hO hb hbl
  go_wp2_with (first
    | (at_builtin; refine wpList_append_bytes rfl _ _ rfl w0.heap.size v1 _ (head id q i) [255] rfl (unhide HO1A) rfl (unhide HV) (unhide HBA).size (unhide Hl1) ?_
       intro v2 w2 hO hg _
       have hb := ownb_below (unhide HO1A) hg (unhide HBA) (unhide HBA).size
       have HO2 := hide hO
       have HB2 := hide hb
       have hw := ownb_below (OwnV.mono (unhide HO1W) (Nat.le_refl _)) hg (unhide HWA) (unhide HWA).size
       have c4 := ((unhide HK).below hw).c 4 _ rfl
       have HS2 := hide ((unhide HS).below hw)
       have Hl2 : Hid ((head id q i ++ [255]).length + seed.length ≤ 1073741824) := by show _ ≤ _; have := unhide Hl; rw [List.length_append, len_head]; simp; omega
       clear hO hg hb hw)
    | (at_builtin; refine wpList_append_bytes rfl _ _ rfl w0.heap.size v2 xs (head id q i ++ [255]) seed rfl (unhide HO2) rfl (unhide HS2) (unhide HB2).size (unhide Hl2) ?_
       intro v3 w3 hO hg _
       have HO3 := hide hO
       have HB3 := hide (ownb_below (unhide HO2) hg (unhide HB2) (unhide HB2).size)
       clear hO hg c4))
  refine ((unhide HC).sum w3 v3 _ (unhide HO3).bytes (by have := unhide Hl; rw [List.length_append, List.length_append, len_head]; simp; omega)).mono ?_
  rintro e w4 ⟨v4, rfl, hO, hb⟩
  have HO4 := hide (hO.mono (unhide HB3).size)
  have HB4 := hide ((unhide HB3).trans (hb.mono (unhide HB3).size))
  clear hO hb
  go_wp2
  go_ret
  exact ⟨_, rfl, unhide HO4, unhide HB4⟩
end Go.Proofs.YtlhjifdahagkaaaDoor
