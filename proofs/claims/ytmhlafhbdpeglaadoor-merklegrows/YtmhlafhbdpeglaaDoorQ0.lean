/-
  Slices of values of one cell each, of any kind, over any program: that a value holds these; that it lies in new memory; what an append and a make come to; rows in a block of their own. No program is named here.
  Plain words of layer 16: how a list is cut, the hashes of lists, paths and bridges, and what they come to; H: the hash. No program is named here.
-/
import Derived.WalkKit
import Derived.WalkSpells
import Derived.WalkLawsBesides
import Derived.Below
import Derived.Deep.MidRow
import Derived.Maps.RangeWalk
import Derived.Laws.AppendOwn
import Derived.Laws.AppendOwnNone
import Derived.Laws.MakeOwn
namespace Go.Proofs.YtmhlafhbdpeglaaDoor
open Go.RowKit
theorem hide {p : Prop} (h : p) : Hid p := h
theorem unhide {p : Prop} (h : Hid p) : p := h
theorem range_grown {a b : World} {g ba bo : Nat} {cs : List Value} (h : a.rangeAt ba bo cs) (hg : a.grownBy b (some g)) (hne : ba ≠ g) : b.rangeAt ba bo cs := fun j v hv =>
  hg.cell (h j v hv) (by simpa using hne)
theorem grown_setCell {a b : World} {row : Option Nat} (h : a.grownBy b row) (x : Addr) (v : Value) (hg : row = some x.block) : a.grownBy (b.setCell x v) row :=
  ⟨h.os, h.tape, h.output, by rw [World.size_setCell]; exact h.size, fun i hi hne => by rw [heap_setCell_other _ _ _ _ (fun e => hne (by rw [hg, e]))]; exact h.block i hi hne⟩
theorem grown_below {a b c : World} {row : Option Nat} (h : a.grownBy b row) (hb : Below b.heap.size b c) : a.grownBy c row :=
  ⟨hb.os.trans h.os, hb.tape.trans h.tape, hb.output.trans h.output, Nat.le_trans h.size hb.size, fun i hi hne => (hb.block i (Nat.lt_of_lt_of_le hi h.size)).trans (h.block i hi hne)⟩
theorem grown_trans {a b c : World} {row : Option Nat} (h : a.grownBy b row) (k : b.grownBy c row) : a.grownBy c row :=
  ⟨k.os.trans h.os, k.tape.trans h.tape, k.output.trans h.output, Nat.le_trans h.size k.size, fun i hi hne => (k.block i (Nat.lt_of_lt_of_le hi h.size) hne).trans (h.block i hi hne)⟩
theorem _root_.Go.World.grownBy.drew {a b : World} {row : Option Nat} (h : a.grownBy b row) : a.grownBy b.drew row := ⟨h.os, h.tape, h.output, h.size, h.block⟩
/-- A type of slices whose elements have one cell each: t the slices', e the elements', z their zero, by their bytes. -/
structure Elem (P : Program) (t e : TypeId) (z : Value) (bytes : Nat) : Prop where
  under : P.underlying t = some (.slice e)
  info : ∃ i, P.info? e = some i ∧ i.zero = some z ∧ i.size = 1 ∧ i.bytes = bytes
  one : z.cells.size = 1
  small : bytes ≤ 64
/-- The value is a slice that holds cs. -/
def ValsAt (w : World) (x : Value) (cs : List Value) : Prop :=
  ∃ sp c, x = .slice sp cs.length c ∧ cs.length ≤ c ∧ (sp = none → c = 0) ∧ (cs ≠ [] → ∃ b o, sp = some ⟨b, o, none⟩ ∧ w.rangeAt b o cs)
/-- It lies from block B on. -/
def Fresh (B : Nat) (x : Value) : Prop := ∀ k, x.ownBlock = some k → B ≤ k
/-- A row of the call's own. -/
def OwnV (e : TypeId) (w : World) (base : Nat) (v : Value) (cs : List Value) : Prop := w.ownsRow base e 1 v cs.length cs
theorem vals_nil (w : World) : ValsAt w (.slice none 0 0) [] := ⟨none, 0, rfl, Nat.le_refl _, fun _ => rfl, fun h => absurd rfl h⟩
theorem ValsAt.grown {a b : World} {g : Nat} {x : Value} {cs : List Value} (h : ValsAt a x cs) (hg : a.grownBy b (some g)) (hne : x.ownBlock ≠ some g) : ValsAt b x cs := by
  obtain ⟨sp, c, rfl, h1, h2, h3⟩ := h
  refine ⟨sp, c, rfl, h1, h2, fun hl => ?_⟩
  obtain ⟨bb, o, rfl, hr⟩ := h3 hl
  exact ⟨bb, o, rfl, range_grown hr hg (by simpa [Value.ownBlock] using hne)⟩
theorem ValsAt.below {a b : World} {x : Value} {cs : List Value} (h : ValsAt a x cs) (hb : Below a.heap.size a b) : ValsAt b x cs := by
  obtain ⟨sp, c, rfl, h1, h2, h3⟩ := h
  refine ⟨sp, c, rfl, h1, h2, fun hl => ?_⟩
  obtain ⟨bb, o, rfl, hr⟩ := h3 hl
  refine ⟨bb, o, rfl, fun j v hv => ?_⟩
  have h0 := hr j v hv
  rw [hb.cell (World.block_lt_of_cell? a _ h0)]; exact h0
theorem ValsAt.drew {a : World} {x : Value} {cs : List Value} (h : ValsAt a x cs) : ValsAt a.drew x cs := h.below (Below.refl _ _).drew
theorem ValsAt.cell {w : World} {x : Value} {cs : List Value} (h : ValsAt w x cs) (hl : cs ≠ []) : ∃ b o c, x = .slice (some ⟨b, o, none⟩) cs.length c ∧ cs.length ≤ c ∧ b < w.heap.size ∧ ∀ j, j < cs.length → w.cell? ⟨b, o + j, none⟩ = some (cs.getD j undef) := by
  obtain ⟨sp, c, rfl, h1, _, h3⟩ := h
  obtain ⟨b, o, rfl, hr⟩ := h3 hl
  have key : ∀ j, j < cs.length → w.cell? ⟨b, o + j, none⟩ = some (cs.getD j undef) := fun j hj => hr j _ (by simp [List.getD_eq_getElem?_getD, hj])
  have hp : 0 < cs.length := Nat.pos_of_ne_zero fun e => hl (List.eq_nil_of_length_eq_zero e)
  exact ⟨b, o, c, rfl, h1, World.block_lt_of_cell? w _ (key 0 hp), key⟩
theorem ValsAt.form {w : World} {x : Value} {cs : List Value} (h : ValsAt w x cs) : ∃ sp c, x = .slice sp cs.length c := by
  obtain ⟨sp, c, e, _⟩ := h
  exact ⟨sp, c, e⟩
theorem ValsAt.old {w : World} {x : Value} {cs : List Value} (h : ValsAt w x cs) (hl : cs ≠ []) (k : Nat) (hk : x.ownBlock = some k) : k < w.heap.size := by
  obtain ⟨b, o, c, rfl, _, hb, _⟩ := h.cell hl
  simp [Value.ownBlock] at hk
  omega
theorem OwnV.vals {e : TypeId} {w : World} {base : Nat} {v : Value} {cs : List Value} (h : OwnV e w base v cs) : ValsAt w v cs := by
  obtain ⟨_, h⟩ := h
  rcases h with ⟨rfl, hn⟩ | ⟨g, cap, cur, rfl, hb, hg, hn, hc, hz, ht⟩
  · have : cs = [] := List.eq_nil_of_length_eq_zero hn
    subst this
    exact vals_nil w
  · refine ⟨some ⟨g, 0, none⟩, cap, rfl, hn, fun h => (by cases h), fun _ => ⟨g, 0, rfl, fun j v hv => ?_⟩⟩
    rw [cell_of_row w g _ cur e (0, 0) hg, Nat.zero_add]
    rw [← ht, List.getElem?_take] at hv
    split at hv
    · simpa using hv
    · cases hv
theorem OwnV.fresh {e : TypeId} {w : World} {base : Nat} {v : Value} {cs : List Value} (h : OwnV e w base v cs) : Fresh base v := by
  obtain ⟨_, h⟩ := h
  intro k hk
  rcases h with ⟨rfl, hn⟩ | ⟨g, cap, cur, rfl, hb, _⟩
  · cases hk
  · simp [Value.ownBlock] at hk; omega
theorem own_nil (e : TypeId) (w : World) (base : Nat) : OwnV e w base (.slice none 0 0) [] := World.ownsRow_nil w base e 1
theorem OwnV.form {e : TypeId} {w : World} {base : Nat} {v : Value} {cs : List Value} (h : OwnV e w base v cs) : ∃ sp c, v = .slice sp cs.length c := h.vals.form
theorem OwnV.drew {e : TypeId} {w : World} {base : Nat} {v : Value} {cs : List Value} (h : OwnV e w base v cs) : OwnV e w.drew base v cs := h
theorem OwnV.mono {e : TypeId} {w : World} {B B' : Nat} {v : Value} {cs : List Value} (h : OwnV e w B v cs) (hB : B' ≤ B) : OwnV e w B' v cs := by
  obtain ⟨h1, h2⟩ := h
  refine ⟨h1, ?_⟩
  rcases h2 with h2 | ⟨g, cap, cur, hv, hb, r⟩
  · exact Or.inl h2
  · exact Or.inr ⟨g, cap, cur, hv, by omega, r⟩
theorem OwnV.below {e : TypeId} {a b : World} {B : Nat} {v : Value} {cs : List Value} (h : OwnV e a B v cs) (hb : Below a.heap.size a b) : OwnV e b B v cs := by
  obtain ⟨h1, h2⟩ := h
  refine ⟨h1, ?_⟩
  rcases h2 with h2 | ⟨n, cap, cur, hv, hn, hh, r⟩
  · exact Or.inl h2
  · exact Or.inr ⟨n, cap, cur, hv, hn, by rw [hb.block _ (Array.getElem?_eq_some_iff.1 hh).1]; exact hh, r⟩
theorem OwnV.alloc {e : TypeId} {w : World} {base : Nat} {v : Value} {cs : List Value} (h : OwnV e w base v cs) (o : Obj) : OwnV e (w.alloc o) base v cs := h.below ((Below.refl _ _).alloc (Nat.le_refl _) _)
theorem OwnV.kept {e : TypeId} {a b : World} {B : Nat} {v : Value} {cs : List Value} {row : Option Nat} (h : OwnV e a B v cs) (hg : a.grownBy b row) (hne : v.ownBlock = none ∨ v.ownBlock ≠ row) : OwnV e b B v cs := World.ownsRow.kept h hg hne
theorem OwnV.cellAt {e : TypeId} {w : World} {B : Nat} {v : Value} {cs : List Value} (h : OwnV e w B v cs) (hl : cs ≠ []) : ∃ b c, v = .slice (some ⟨b, 0, none⟩) cs.length c ∧ B ≤ b ∧ b < w.heap.size ∧ ∀ j, j < cs.length → w.cell? ⟨b, j, none⟩ = some (cs.getD j undef) := by
  have hv := h.vals
  obtain ⟨_, h2⟩ := h
  rcases h2 with ⟨_, hn⟩ | ⟨b, cap, cur, rfl, hb, hh, _⟩
  · exact absurd (List.eq_nil_of_length_eq_zero hn) hl
  · obtain ⟨b2, o2, c2, e2, _, hlt, hc⟩ := hv.cell hl
    simp only [Value.slice.injEq, Option.some.injEq, Addr.mk.injEq] at e2
    obtain ⟨⟨rfl, rfl, _⟩, _, rfl⟩ := e2
    exact ⟨b, cap, rfl, hb, hlt, fun j hj => by have := hc j hj; rwa [Nat.zero_add] at this⟩
theorem own_below {e : TypeId} {a b w0 : World} {base : Nat} {v : Value} {cs : List Value} (h : OwnV e a base v cs) (hg : a.grownBy b v.ownBlock) (hB : Below base w0 a) (hs : base ≤ a.heap.size) : Below base w0 b :=
  hB.grown hg hs (fun k hk => h.fresh k hk)
/-- Values in a block that has just been laid. -/
theorem vals_new (w : World) (cs : List Value) (t : TypeId) : ValsAt (w.alloc (.cells cs.toArray t)) (.slice (some ⟨w.heap.size, 0, none⟩) cs.length cs.length) cs :=
  ⟨_, _, rfl, Nat.le_refl _, fun h => (by cases h), fun _ => ⟨w.heap.size, 0, rfl, fun j v hv => by
    rw [cell_of_row _ _ _ _ t (0, 0) (heap_alloc_new w _), Nat.zero_add]; simpa using hv⟩⟩
section
variable {P : Program}
/-- append to a row of the call's own, with the block that it ends in. -/
theorem run_append_vals {t e : TypeId} {z : Value} {by_ : Nat} (E : Elem P t e z by_) (w : World) (base : Nat) (v y : Value) (cs ds : List Value) (hown : OwnV e w base v cs) (hy : ValsAt w y ds) (h1 : ∀ u ∈ ds, u.oneCell' = true) (hb : base ≤ w.heap.size) (hlen : cs.length + ds.length ≤ 1073741824) (ty : TypeId) :
    ∃ v' w', (Builtin.append_ #[t, t] ty #[v, y]).run P w = .ok v' w' ∧ OwnV e w' base v' (cs ++ ds) ∧ w.grownBy w' v.ownBlock ∧ (v'.ownBlock = v.ownBlock ∨ v'.ownBlock = some w.heap.size) := by
  obtain ⟨hu, ⟨i, hi, hz, hsz, hby⟩, hone, hsmall⟩ := E
  have hbb : (cs.length + ds.length) * i.bytes ≤ 140737488355328 := by
    rw [hby]
    have := Nat.mul_le_mul hlen hsmall
    omega
  obtain ⟨sp, c, rfl, hc1, hc2, hc3⟩ := hy
  cases sp with
  | none =>
    have hm : ds = [] := by
      rcases List.eq_nil_or_concat ds with h | ⟨r, u, rfl⟩
      · exact h
      · obtain ⟨b, o, e, _⟩ := hc3 (by simp); cases e
    subst hm
    obtain rfl := hc2 rfl
    have hr := run_append_owned_none (P := P) w base t ty e i 1 hu hi v cs.length cs hown
    exact ⟨v, w, hr, by rw [List.append_nil]; exact hown, World.grownBy.refl _ _, Or.inl rfl⟩
  | some ad =>
    have hn : ∀ j u, ds[j]? = some u → w.cell? (ad.add j) = some u := by
      intro j u hu
      have hne : ds ≠ [] := by rintro rfl; simp at hu
      obtain ⟨b, o, e, hr⟩ := hc3 hne
      cases e
      rw [Addr.add_mid]; exact hr j u hu
    obtain ⟨v', w', hr, h2, h3, _⟩ := run_append_own (P := P) w base t ty e i z 1 by_ hu hi hz hsz hby hone (by omega) v cs.length cs hown ad ds.length c ds (by simp) hn h1 (by simp only [maxLen]; omega) (by rw [← hby]; exact hbb) hb
    refine ⟨v', w', hr, ?_, h3, ?_⟩
    · show w'.ownsRow base e 1 v' (cs ++ ds).length (cs ++ ds)
      rw [List.length_append]; exact h2
    · have hown' := hown
      rcases hown'.2 with ⟨rfl, hl0⟩ | ⟨g, cap, cur, rfl, hbg, hg, hnc, hcm, hcs, htake⟩
      · by_cases hm : ds.length = 0
        · rcases h2.2 with ⟨rfl, _⟩ | ⟨g', cap', cur', rfl, _⟩
          · exact Or.inl rfl
          · exfalso
            have hm' : ds = [] := List.eq_nil_of_length_eq_zero hm
            subst hm'
            simp [Builtin.append_, run_underlying hu, Go.sizeOf, typeInfo, hi, Builtin.lenOf, Builtin.firstCells, loadCells, loadCellsFrom] at hr
        · have hr2 := run_append_nil (P := P) w t ty e i z hu hi hz ad ds.length c ds (by rw [hsz]; simp) hn (by omega) (by omega) (by rw [hby]; have := Nat.mul_le_mul (show ds.length ≤ 1073741824 by omega) hsmall; omega)
          rw [hr] at hr2
          have := (Result.ok.inj hr2).1
          subst this
          exact Or.inr rfl
      · by_cases hroom : cs.length + ds.length ≤ cap
        · have hr2 := run_append_room (P := P) w t ty e i hu hi g cs.length cap cur hg ad ds.length c ds (by rw [hsz]; simp) hn h1 hroom (by rw [hsz, hcs]; omega)
          rw [hr] at hr2
          have := (Result.ok.inj hr2).1
          subst this
          exact Or.inl rfl
        · have holds : ∀ j u, cs[j]? = some u → w.cell? ((⟨g, 0, none⟩ : Addr).add j) = some u := hown.cells (g := g) rfl
          have hr2 := run_append_grow (P := P) w t ty e i z hu hi hz ⟨g, 0, none⟩ cs.length cap cs (by rw [hsz]; simp) holds ad ds.length c ds (by rw [hsz]; simp) hn (by omega) (by omega) (growslice_fits (by omega) hbb)
          rw [hr] at hr2
          have := (Result.ok.inj hr2).1
          subst this
          exact Or.inr rfl
theorem wpList_append_vals {t e : TypeId} {z : Value} {by_ : Nat} (E : Elem P t e z by_) {w : World} {ops : Array Oper} {rest : List Oper} {o : Oper} {a : Act} {Q : Exit → Act → World → Prop} (hgd : o.guard = none) (s x : Operand)
    (ho : o.op = .call { callee := .builtin .append, args := #[s, x], argTypes := #[t, t] }) (base : Nat) (v y : Value) (cs ds : List Value) (hs : a.eval s = v) (hown : OwnV e w base v cs)
    (hx : a.eval x = y) (hy : ValsAt w y ds) (h1 : ∀ u ∈ ds, u.oneCell' = true) (hb : base ≤ w.heap.size) (hlen : cs.length + ds.length ≤ 1073741824)
    (h : ∀ v' w', OwnV e w' base v' (cs ++ ds) → w.grownBy w' v.ownBlock → (v'.ownBlock = v.ownBlock ∨ v'.ownBlock = some w.heap.size) → wpList P ops Q rest (a.put o.dst v') w') : wpList P ops Q (o :: rest) a w := by
  obtain ⟨v', w', hr, h2, h3, h4⟩ := run_append_vals E w base v y cs ds hown hy h1 hb hlen o.type
  refine wpList_plain hgd fun _ hK => ?_
  unfold Oper.wp execOp
  simp only [ho, resolve, invoke, builtin, Sem.run_bind, Sem.run_pure, Result.andThen_ok, List.map_toArray, List.map_cons, List.map_nil, hs, hx, hr]
  exact hK _ _ (h v' w' h2 h3 h4)
end
/-- Values at the front of a block of their own; behind them whatever there is. -/
def RowAt (e : TypeId) (w : World) (B : Nat) (rest cs : List Value) : Prop := w.heap[B]? = some (.cells (cs ++ rest).toArray e (0, 0))
theorem RowAt.cell {e : TypeId} {w : World} {B : Nat} {rest cs : List Value} (h : RowAt e w B rest cs) (i : Nat) (hi : i < cs.length) : w.cell? ⟨B, i, none⟩ = some (cs.getD i undef) := by
  rw [cell_of_row w B i _ e (0, 0) h, List.getElem?_toArray, List.getElem?_append_left hi]
  simp [List.getD_eq_getElem?_getD, hi]
theorem RowAt.frozen {e : TypeId} {w : World} {B : Nat} {rest cs : List Value} (h : RowAt e w B rest cs) (i : Nat) : w.frozen? ⟨B, i, none⟩ = false := frozen_of_row w B i _ e h
theorem RowAt.set {e : TypeId} {w : World} {B : Nat} {rest cs : List Value} (h : RowAt e w B rest cs) (i : Nat) (hi : i < cs.length) (u : Value) : RowAt e (w.setCell ⟨B, i, none⟩ u) B rest (cs.set i u) := by
  unfold RowAt
  rw [heap_setCell_same w B i _ e _ h, List.setIfInBounds_toArray, List.set_append_left i _ hi]
theorem RowAt.other {e : TypeId} {w : World} {B : Nat} {rest cs : List Value} (h : RowAt e w B rest cs) (a : Addr) (v : Value) (hne : B ≠ a.block) : RowAt e (w.setCell a v) B rest cs := by
  unfold RowAt
  rw [heap_setCell_other _ _ _ _ hne]; exact h
theorem RowAt.drew {e : TypeId} {w : World} {B : Nat} {rest cs : List Value} (h : RowAt e w B rest cs) : RowAt e w.drew B rest cs := h
theorem RowAt.lt {e : TypeId} {w : World} {B : Nat} {rest cs : List Value} (h : RowAt e w B rest cs) : B < w.heap.size := (Array.getElem?_eq_some_iff.1 h).1
theorem RowAt.below {e : TypeId} {a b : World} {B : Nat} {rest cs : List Value} (h : RowAt e a B rest cs) (hb : Below a.heap.size a b) : RowAt e b B rest cs := by
  unfold RowAt
  rw [hb.block B h.lt]; exact h
theorem RowAt.grown {e : TypeId} {a b : World} {B : Nat} {row : Option Nat} {rest cs : List Value} (h : RowAt e a B rest cs) (hg : a.grownBy b row) (hne : some B ≠ row) : RowAt e b B rest cs := by
  unfold RowAt
  rw [hg.block B h.lt hne]; exact h
theorem RowAt.own {e : TypeId} {w : World} {B base : Nat} {rest cs : List Value} (h : RowAt e w B rest cs) (hB : base ≤ B) (n cap : Nat) (hl : cs.length = n) (hc : n + rest.length = cap) (hm : cap ≤ maxLen) : OwnV e w base (.slice (some ⟨B, 0, none⟩) n cap) cs := by
  subst hl
  subst hc
  refine ⟨by simp, Or.inr ⟨B, cs.length + rest.length, _, rfl, hB, h, by omega, hm, by simp, ?_⟩⟩
  rw [List.toList_toArray, Nat.mul_one]
  exact List.take_left' rfl
theorem OwnV.row {e : TypeId} {w : World} {base : Nat} {v : Value} {cs : List Value} (h : OwnV e w base v cs) (hl : cs ≠ []) : ∃ B rest cap, v = .slice (some ⟨B, 0, none⟩) cs.length cap ∧ base ≤ B ∧ cs.length + rest.length = cap ∧ cap ≤ maxLen ∧ RowAt e w B rest cs := by
  obtain ⟨_, h2⟩ := h
  rcases h2 with ⟨_, hn⟩ | ⟨b, cap, cur, rfl, hb, hh, hn, hm, hs, ht⟩
  · exact absurd (List.eq_nil_of_length_eq_zero hn) hl
  · rw [Nat.mul_one] at hs ht
    have hlen : cur.toList.length = cap := hs
    obtain ⟨n, hn'⟩ : ∃ n, cs.length = n := ⟨_, rfl⟩
    have e : cur = (cs ++ cur.toList.drop n).toArray := by
      rw [← ht, hn', List.take_append_drop, Array.toArray_toList]
    refine ⟨b, cur.toList.drop n, cap, rfl, hb, ?_, hm, ?_⟩
    · rw [List.length_drop, hlen]; omega
    · unfold RowAt
      rw [← e]; exact hh
/-- A make of n values. -/
theorem made_vals {P : Program} {t e : TypeId} {z : Value} {by_ : Nat} (E : Elem P t e z by_) (hz1 : z.cells = #[z]) (w : World) (k1 k2 : IntKind) (n : Nat) (x y : Int) (hx : x = (n : Int)) (hy : y = (n : Int)) (hn : n ≤ 1073741824) :
    ∃ W, (Instr.makeSlice t (.int k1 x) (.int k2 y)).run P w = .ok (.slice (some ⟨w.heap.size, 0, none⟩) n n) W ∧ RowAt e W w.heap.size [] (List.replicate n z) ∧ Below w.heap.size w W := by
  subst hx
  subst hy
  obtain ⟨hu, ⟨i, hi, h0, hsz, hby⟩, _, hsmall⟩ := E
  refine ⟨w.alloc (.cells (List.replicate n z).toArray e), ?_, ?_, (Below.refl _ _).alloc (Nat.le_refl _) _⟩
  · have hbn : (i.bytes : Int) * (n : Int) ≤ 281474976710656 := by
      rw [hby, ← Int.natCast_mul]
      have := Nat.mul_le_mul hsmall hn
      omega
    have h := run_make (P := P) w t e i z hu hi h0 k1 k2 n n (by omega) (by omega) hbn (by omega)
    rw [h, hsz, hz1]
    have e1 : madeCells #[z] (((n : Int)).toNat * 1) = (List.replicate n z).toArray := by
      rw [Int.toNat_natCast, Nat.mul_one]
      apply Array.ext
      · simp [madeCells]
      · intro j h1 h2
        simp [madeCells, Nat.mod_one]
    rw [e1, Int.toNat_natCast]
  · unfold RowAt
    rw [List.append_nil]; exact heap_alloc_new _ _
end Go.Proofs.YtmhlafhbdpeglaaDoor
namespace Go.Proofs.YtmhlafhbdpeglaaDoor
abbrev Bs := List UInt8
/-- The greatest power of 2 below n, of 2 or more. -/
def cutP (n : Nat) : Nat := 2 ^ (n - 1).log2
theorem cut_pos (n : Nat) : 1 ≤ cutP n := Nat.pow_pos (by omega)
theorem cut_lt {n : Nat} (h : 2 ≤ n) : cutP n < n := by
  have := Nat.log2_self_le (n := n - 1) (by omega)
  unfold cutP; omega
theorem cut_ge {n : Nat} (h : 2 ≤ n) : n ≤ 2 * cutP n := by
  have := Nat.lt_log2_self (n := n - 1)
  unfold cutP
  rw [Nat.pow_succ] at this; omega
theorem cut_of {n j : Nat} (h1 : 2 ^ j < n) (h2 : n ≤ 2 * 2 ^ j) : cutP n = 2 ^ j := by
  have hp : 0 < 2 ^ j := Nat.pow_pos (by omega)
  unfold cutP
  congr 1
  have a := Nat.log2_self_le (n := n - 1) (by omega)
  have b := Nat.lt_log2_self (n := n - 1)
  have c : 2 ^ (n - 1).log2 < 2 ^ (j + 1) := by rw [Nat.pow_succ]; omega
  have d : 2 ^ j < 2 ^ ((n - 1).log2 + 1) := by omega
  have c' := (Nat.pow_lt_pow_iff_right (show 1 < 2 by omega)).1 c
  have d' := (Nat.pow_lt_pow_iff_right (show 1 < 2 by omega)).1 d
  omega
theorem cut_pow {n : Nat} : ∃ j, cutP n = 2 ^ j := ⟨_, rfl⟩
theorem cut_between {m n : Nat} (h2 : 2 ≤ n) (h : cutP n < m) (hm : m ≤ n) : cutP m = cutP n := cut_of (j := (n - 1).log2) h (by have := cut_ge h2; unfold cutP at this; omega)
/-- The hash of a leaf, and of two hashes. -/
def leafH (H : Bs → Bs) (d : Bs) : Bs := H (0 :: d)
def nodeH (H : Bs → Bs) (l r : Bs) : Bs := H (1 :: (l ++ r))
/-- The hash of the n leaves from f on. -/
def rootP (H : Bs → Bs) (g : Nat → Bs) (f n : Nat) : Bs :=
  if _h0 : n = 0 then H [] else if _h1 : n = 1 then g f else nodeH H (rootP H g f (cutP n)) (rootP H g (f + cutP n) (n - cutP n))
termination_by n
decreasing_by
  · exact cut_lt (by omega)
  · have := cut_pos n; omega
theorem root_zero (H : Bs → Bs) (g : Nat → Bs) (f : Nat) : rootP H g f 0 = H [] := by rw [rootP]; simp
theorem root_one (H : Bs → Bs) (g : Nat → Bs) (f : Nat) : rootP H g f 1 = g f := by rw [rootP]; simp
theorem root_more (H : Bs → Bs) (g : Nat → Bs) (f : Nat) {n : Nat} (h : 2 ≤ n) : rootP H g f n = nodeH H (rootP H g f (cutP n)) (rootP H g (f + cutP n) (n - cutP n)) := by
  rw [rootP, dif_neg (by omega), dif_neg (by omega)]
/-- Twice as many as a power of 2. -/
theorem root_twice (H : Bs → Bs) (g : Nat → Bs) (f j : Nat) : rootP H g f (2 ^ (j + 1)) = nodeH H (rootP H g f (2 ^ j)) (rootP H g (f + 2 ^ j) (2 ^ j)) := by
  have hp : 0 < 2 ^ j := Nat.pow_pos (by omega)
  have e : cutP (2 ^ (j + 1)) = 2 ^ j := cut_of (by rw [Nat.pow_succ]; omega) (by rw [Nat.pow_succ]; omega)
  rw [root_more H g f (by rw [Nat.pow_succ]; omega), e, show 2 ^ (j + 1) - 2 ^ j = 2 ^ j by rw [Nat.pow_succ]; omega]
theorem len_root {H : Bs → Bs} {g : Nat → Bs} (hH : ∀ l, (H l).length = 32) : ∀ (n f : Nat), (∀ i, f ≤ i → i < f + n → (g i).length = 32) → (rootP H g f n).length = 32 := by
  intro n
  induction n using Nat.strongRecOn with
  | ind n ih =>
    intro f hg
    rcases (by omega : n = 0 ∨ n = 1 ∨ 2 ≤ n) with rfl | rfl | h
    · rw [root_zero]; exact hH _
    · rw [root_one]; exact hg f (by omega) (by omega)
    · rw [root_more H g f h]; exact hH _
theorem root_congr {H : Bs → Bs} {g g' : Nat → Bs} : ∀ (n f : Nat), (∀ i, f ≤ i → i < f + n → g i = g' i) → rootP H g f n = rootP H g' f n := by
  intro n
  induction n using Nat.strongRecOn with
  | ind n ih =>
    intro f hg
    rcases (by omega : n = 0 ∨ n = 1 ∨ 2 ≤ n) with rfl | rfl | h
    · rw [root_zero, root_zero]
    · rw [root_one, root_one]; exact hg f (by omega) (by omega)
    · have h1 := cut_lt h
      have h2 := cut_pos n
      rw [root_more H g f h, root_more H g' f h, ih _ h1 f fun i a b => hg i a (by omega), ih _ (by omega) (f + cutP n) fun i a b => hg i (by omega) (by omega)]
/-- The path of the m-th of n leaves from f on. -/
def pathP (H : Bs → Bs) (g : Nat → Bs) (f m n : Nat) : List Bs :=
  if _h1 : n ≤ 1 then [] else if m < cutP n then pathP H g f m (cutP n) ++ [rootP H g (f + cutP n) (n - cutP n)] else pathP H g (f + cutP n) (m - cutP n) (n - cutP n) ++ [rootP H g f (cutP n)]
termination_by n
decreasing_by
  · exact cut_lt (by omega)
  · have := cut_pos n; omega
theorem path_one (H : Bs → Bs) (g : Nat → Bs) (f m : Nat) : pathP H g f m 1 = [] := by rw [pathP]; simp
theorem path_left (H : Bs → Bs) (g : Nat → Bs) (f : Nat) {m n : Nat} (h : 2 ≤ n) (hm : m < cutP n) : pathP H g f m n = pathP H g f m (cutP n) ++ [rootP H g (f + cutP n) (n - cutP n)] := by
  rw [pathP, dif_neg (by omega), if_pos hm]
theorem path_right (H : Bs → Bs) (g : Nat → Bs) (f : Nat) {m n : Nat} (h : 2 ≤ n) (hm : cutP n ≤ m) : pathP H g f m n = pathP H g (f + cutP n) (m - cutP n) (n - cutP n) ++ [rootP H g f (cutP n)] := by
  rw [pathP, dif_neg (by omega), if_neg (by omega)]
/-- The bridge from the first m of n leaves from f on; known: the hash of those is had. -/
def bridgeP (H : Bs → Bs) (g : Nat → Bs) (f m n : Nat) (known : Bool) : List Bs :=
  if _hm : m = n ∨ n ≤ 1 then (if known then [] else [rootP H g f n]) else if m ≤ cutP n then bridgeP H g f m (cutP n) known ++ [rootP H g (f + cutP n) (n - cutP n)] else bridgeP H g (f + cutP n) (m - cutP n) (n - cutP n) false ++ [rootP H g f (cutP n)]
termination_by n
decreasing_by
  · exact cut_lt (by omega)
  · have := cut_pos n; omega
theorem bridge_end (H : Bs → Bs) (g : Nat → Bs) (f n : Nat) (known : Bool) : bridgeP H g f n n known = if known then [] else [rootP H g f n] := by
  rw [bridgeP, dif_pos (Or.inl rfl)]
theorem bridge_left (H : Bs → Bs) (g : Nat → Bs) (f : Nat) {m n : Nat} (known : Bool) (h : 2 ≤ n) (hm : m ≤ cutP n) : bridgeP H g f m n known = bridgeP H g f m (cutP n) known ++ [rootP H g (f + cutP n) (n - cutP n)] := by
  have := cut_lt h
  rw [bridgeP, dif_neg (by omega), if_pos hm]
theorem bridge_right (H : Bs → Bs) (g : Nat → Bs) (f : Nat) {m n : Nat} (known : Bool) (h : 2 ≤ n) (hm : cutP n < m) (hn : m < n) : bridgeP H g f m n known = bridgeP H g (f + cutP n) (m - cutP n) (n - cutP n) false ++ [rootP H g f (cutP n)] := by
  rw [bridgeP, dif_neg (by omega), if_neg (by omega)]
theorem bridge_congr {H : Bs → Bs} {g g' : Nat → Bs} : ∀ (n f m : Nat) (known : Bool), m ≤ n → (∀ i, f ≤ i → i < f + n → g i = g' i) → bridgeP H g f m n known = bridgeP H g' f m n known := by
  intro n
  induction n using Nat.strongRecOn with
  | ind n ih =>
    intro f m known hmn hg
    by_cases he : m = n
    · subst he
      rw [bridge_end, bridge_end, root_congr m f hg]
    · by_cases h : 2 ≤ n
      · have h1 := cut_lt h
        have h2 := cut_pos n
        by_cases hm : m ≤ cutP n
        · rw [bridge_left H g f known h hm, bridge_left H g' f known h hm, ih _ h1 f m known hm fun i a b => hg i a (by omega), root_congr (n - cutP n) (f + cutP n) fun i a b => hg i (by omega) (by omega)]
        · rw [bridge_right H g f known h (by omega) (by omega), bridge_right H g' f known h (by omega) (by omega), ih _ (by omega) (f + cutP n) _ false (by omega) fun i a b => hg i (by omega) (by omega), root_congr (cutP n) f fun i a b => hg i a (by omega)]
      · rw [bridgeP, dif_pos (by omega), bridgeP, dif_pos (by omega), root_congr n f hg]
theorem path_congr {H : Bs → Bs} {g g' : Nat → Bs} : ∀ (n f m : Nat), (∀ i, f ≤ i → i < f + n → g i = g' i) → pathP H g f m n = pathP H g' f m n := by
  intro n
  induction n using Nat.strongRecOn with
  | ind n ih =>
    intro f m hg
    by_cases h : 2 ≤ n
    · have h1 := cut_lt h
      have h2 := cut_pos n
      by_cases hm : m < cutP n
      · rw [path_left H g f h hm, path_left H g' f h hm, ih _ h1 f m fun i a b => hg i a (by omega), root_congr (n - cutP n) (f + cutP n) fun i a b => hg i (by omega) (by omega)]
      · rw [path_right H g f h (by omega), path_right H g' f h (by omega), ih _ (by omega) (f + cutP n) _ fun i a b => hg i (by omega) (by omega), root_congr (cutP n) f fun i a b => hg i a (by omega)]
    · rw [pathP, dif_pos (by omega), pathP, dif_pos (by omega)]
/-- All have 32 bytes. -/
def All32 (l : List Bs) : Prop := ∀ b ∈ l, b.length = 32
def is32 (l : List Bs) : Bool := l.all fun b => b.length == 32
theorem is32_iff (l : List Bs) : is32 l = true ↔ All32 l := by unfold is32 All32; simp
theorem is32_take {l : List Bs} {i : Nat} (hi : i < l.length) (h : is32 (l.take i) = true) (hb : (l.getD i []).length = 32) : is32 (l.take (i + 1)) = true := by
  rw [is32_iff] at h ⊢
  intro b hm
  rw [List.take_succ_eq_append_getElem hi, List.mem_append, List.mem_singleton] at hm
  rcases hm with hm | rfl
  · exact h b hm
  · rw [List.getD_eq_getElem?_getD, List.getElem?_eq_getElem hi] at hb; exact hb
theorem not32_at {l : List Bs} {i : Nat} (hi : i < l.length) (hb : (l.getD i []).length ≠ 32) : is32 l = false := by
  rw [Bool.eq_false_iff]
  intro h
  rw [is32_iff] at h
  rw [List.getD_eq_getElem?_getD, List.getElem?_eq_getElem hi] at hb
  exact hb (h _ (List.getElem_mem hi))
theorem all32_append {a b : List Bs} (ha : All32 a) (hb : All32 b) : All32 (a ++ b) := fun x hx => by
  rcases List.mem_append.1 hx with h | h
  · exact ha x h
  · exact hb x h
theorem all32_one {b : Bs} (h : b.length = 32) : All32 [b] := fun x hx => by rw [List.mem_singleton.1 hx]; exact h
theorem path_32 {H : Bs → Bs} {g : Nat → Bs} (hH : ∀ l, (H l).length = 32) : ∀ (n f m : Nat), (∀ i, f ≤ i → i < f + n → (g i).length = 32) → All32 (pathP H g f m n) := by
  intro n
  induction n using Nat.strongRecOn with
  | ind n ih =>
    intro f m hg
    by_cases h : 2 ≤ n
    · have h1 := cut_lt h
      have h2 := cut_pos n
      by_cases hm : m < cutP n
      · rw [path_left H g f h hm]
        exact all32_append (ih _ h1 f m fun i a b => hg i a (by omega)) (all32_one (len_root hH _ _ fun i a b => hg i (by omega) (by omega)))
      · rw [path_right H g f h (by omega)]
        exact all32_append (ih _ (by omega) (f + cutP n) _ fun i a b => hg i (by omega) (by omega)) (all32_one (len_root hH _ _ fun i a b => hg i a (by omega)))
    · rw [pathP, dif_pos (by omega)]
      intro b hb; simp at hb
theorem bridge_32 {H : Bs → Bs} {g : Nat → Bs} (hH : ∀ l, (H l).length = 32) : ∀ (n f m : Nat) (known : Bool), m ≤ n → (∀ i, f ≤ i → i < f + n → (g i).length = 32) → All32 (bridgeP H g f m n known) := by
  intro n
  induction n using Nat.strongRecOn with
  | ind n ih =>
    intro f m known hmn hg
    by_cases he : m = n ∨ n ≤ 1
    · rw [bridgeP, dif_pos he]
      split
      · intro b hb; simp at hb
      · exact all32_one (len_root hH _ _ hg)
    · have h : 2 ≤ n := by omega
      have h1 := cut_lt h
      have h2 := cut_pos n
      by_cases hm : m ≤ cutP n
      · rw [bridge_left H g f known h hm]
        exact all32_append (ih _ h1 f m known hm fun i a b => hg i a (by omega)) (all32_one (len_root hH _ _ fun i a b => hg i (by omega) (by omega)))
      · rw [bridge_right H g f known h (by omega) (by omega)]
        exact all32_append (ih _ (by omega) (f + cutP n) _ false (by omega) fun i a b => hg i (by omega) (by omega)) (all32_one (len_root hH _ _ fun i a b => hg i a (by omega)))
/-- How many hashes at most: no more than there are halvings. -/
theorem path_len {H : Bs → Bs} {g : Nat → Bs} : ∀ (j n f m : Nat), n ≤ 2 ^ j → (pathP H g f m n).length ≤ j
  | 0, n, f, m, h => by
    rw [pathP, dif_pos (by simpa using h)]; simp
  | j + 1, n, f, m, h => by
    by_cases h2 : 2 ≤ n
    · have a := cut_ge h2
      have b := cut_lt h2
      have c : cutP n ≤ 2 ^ j := by
        unfold cutP at b ⊢
        have : 2 ^ (n - 1).log2 < 2 ^ (j + 1) := by omega
        exact Nat.pow_le_pow_right (by omega) (by have := (Nat.pow_lt_pow_iff_right (show 1 < 2 by omega)).1 this; omega)
      by_cases hm : m < cutP n
      · rw [path_left H g f h2 hm, List.length_append]
        have := path_len (H := H) (g := g) j (cutP n) f m c
        simpa using this
      · rw [path_right H g f h2 (by omega), List.length_append]
        have := path_len (H := H) (g := g) j (n - cutP n) (f + cutP n) (m - cutP n) (by omega)
        simpa using this
    · rw [pathP, dif_pos (by omega)]; simp
theorem bridge_len {H : Bs → Bs} {g : Nat → Bs} : ∀ (j n f m : Nat) (known : Bool), n ≤ 2 ^ j → (bridgeP H g f m n known).length ≤ j + 1
  | 0, n, f, m, known, h => by
    rw [bridgeP, dif_pos (Or.inr (by simpa using h))]
    split <;> simp
  | j + 1, n, f, m, known, h => by
    by_cases he : m = n ∨ n ≤ 1
    · rw [bridgeP, dif_pos he]
      split <;> simp
    · have h2 : 2 ≤ n := by omega
      have a := cut_ge h2
      have b := cut_lt h2
      have c : cutP n ≤ 2 ^ j := by
        unfold cutP at b ⊢
        have : 2 ^ (n - 1).log2 < 2 ^ (j + 1) := by omega
        exact Nat.pow_le_pow_right (by omega) (by have := (Nat.pow_lt_pow_iff_right (show 1 < 2 by omega)).1 this; omega)
      rw [bridgeP, dif_neg he]
      split
      · rw [List.length_append]
        have := bridge_len (H := H) (g := g) j (cutP n) f m known c
        simpa using this
      · rw [List.length_append]
        have := bridge_len (H := H) (g := g) j (n - cutP n) (f + cutP n) (m - cutP n) false (by omega)
        simpa using this
/-- What a path, its last hash first, comes to from the hash of the m-th of n leaves. -/
def climbP (H : Bs → Bs) (h : Bs) (m n : Nat) : List Bs → Option Bs
  | [] => if n = 1 then some h else none
  | last :: rest => if n = 1 then none else if m < cutP n then (climbP H h m (cutP n) rest).map fun x => nodeH H x last else (climbP H h (m - cutP n) (n - cutP n) rest).map fun x => nodeH H last x
/-- EVERY PATH COMES TO THE ROOT. -/
theorem path_climbs {H : Bs → Bs} {g : Nat → Bs} : ∀ (n f m : Nat), m < n → climbP H (g (f + m)) m n (pathP H g f m n).reverse = some (rootP H g f n) := by
  intro n
  induction n using Nat.strongRecOn with
  | ind n ih =>
    intro f m hmn
    by_cases h : 2 ≤ n
    · have h1 := cut_lt h
      have h2 := cut_pos n
      by_cases hm : m < cutP n
      · rw [path_left H g f h hm, List.reverse_append, List.reverse_singleton, List.singleton_append, climbP, if_neg (by omega), if_pos hm, ih _ h1 f m hm, root_more H g f h]
        rfl
      · rw [path_right H g f h (by omega), List.reverse_append, List.reverse_singleton, List.singleton_append, climbP, if_neg (by omega), if_neg hm]
        have := ih (n - cutP n) (by omega) (f + cutP n) (m - cutP n) (by omega)
        rw [show f + cutP n + (m - cutP n) = f + m by omega] at this
        rw [this, root_more H g f h]
        rfl
    · obtain rfl : n = 1 := by omega
      obtain rfl : m = 0 := by omega
      rw [path_one, root_one]
      rfl
/-- What a bridge, its last hash first, comes to: the hashes of the first m and of all n; known: the one of the first m, where it is had. -/
def bothP (H : Bs → Bs) (m n : Nat) : Option Bs → List Bs → Option (Bs × Bs)
  | known, [] => if m = n then known.map fun a => (a, a) else none
  | known, last :: rest => if m = n then (if known.isSome then none else if rest = [] then some (last, last) else none) else if m ≤ cutP n then (bothP H m (cutP n) known rest).map fun x => (x.1, nodeH H x.2 last) else (bothP H (m - cutP n) (n - cutP n) none rest).map fun x => (nodeH H last x.1, nodeH H last x.2)
/-- EVERY BRIDGE COMES TO BOTH HASHES. -/
theorem bridge_bears {H : Bs → Bs} {g : Nat → Bs} : ∀ (n f m : Nat) (known : Bool), 1 ≤ m → m ≤ n → bothP H m n (if known then some (rootP H g f m) else none) (bridgeP H g f m n known).reverse = some (rootP H g f m, rootP H g f n) := by
  intro n
  induction n using Nat.strongRecOn with
  | ind n ih =>
    intro f m known h1m hmn
    by_cases he : m = n
    · subst he
      rw [bridge_end]
      cases known <;> simp [bothP]
    · have h : 2 ≤ n := by omega
      have h1 := cut_lt h
      have h2 := cut_pos n
      by_cases hm : m ≤ cutP n
      · rw [bridge_left H g f known h hm, List.reverse_append, List.reverse_singleton, List.singleton_append, bothP, if_neg he, if_pos hm, ih _ h1 f m known h1m hm, root_more H g f h]
        rfl
      · rw [bridge_right H g f known h (by omega) (by omega), List.reverse_append, List.reverse_singleton, List.singleton_append, bothP, if_neg he, if_neg hm]
        have := ih (n - cutP n) (by omega) (f + cutP n) (m - cutP n) false (by omega) (by omega)
        rw [if_neg (by simp)] at this
        rw [this, root_more H g f h]
        have e : rootP H g f m = nodeH H (rootP H g f (cutP n)) (rootP H g (f + cutP n) (m - cutP n)) := by
          rw [root_more H g f (by omega), cut_between h (by omega) (by omega)]
        rw [e]
        rfl
/-- Is it a path? -/
def includedP (H : Bs → Bs) (leaf : Bs) (m n : Int) (path : List Bs) (root : Bs) : Prop := 0 ≤ m ∧ m < n ∧ All32 [leaf, root] ∧ All32 path ∧ climbP H leaf m.toNat n.toNat path.reverse = some root
/-- Is it a bridge? -/
def grownP (H : Bs → Bs) (m n : Int) (first second : Bs) (bridge : List Bs) : Prop := 0 ≤ m ∧ m ≤ n ∧ All32 [first, second] ∧ All32 bridge ∧ (if m = n then bridge = [] ∧ first = second else if m = 0 then bridge = [] ∧ first = H [] else bothP H m.toNat n.toNat (some first) bridge.reverse = some (first, second))
theorem len_climb {H : Bs → Bs} (hH : ∀ l, (H l).length = 32) : ∀ (p : List Bs) (h : Bs) (m n : Nat) (x : Bs), h.length = 32 → climbP H h m n p = some x → x.length = 32
  | [], h, m, n, x, hh, e => by
    unfold climbP at e
    split at e
    · cases e; exact hh
    · cases e
  | last :: rest, h, m, n, x, hh, e => by
    unfold climbP at e
    split at e
    · cases e
    · split at e
      · obtain ⟨y, _, rfl⟩ := Option.map_eq_some_iff.1 e; exact hH _
      · obtain ⟨y, _, rfl⟩ := Option.map_eq_some_iff.1 e; exact hH _
end Go.Proofs.YtmhlafhbdpeglaaDoor
