/-
  Slices of values of one cell each, of any kind, over any program: that a value holds these; that it lies in new memory; what an append and a make come to; rows in a block of their own. No program is named here.
  Plain words on a plate (layer 13): its sectors, the writes that aren't safe, what each call does.
  Slices of bytes; what a call that makes bytes gives.
  What the arguments' readings give the walks: bytes.
  Worlds that differ in some blocks alone; blocks of a call's own.
  What the calls of a plate promise: the record Plate.
-/
import Derived.WalkKit
import Derived.WalkSpells
import Derived.WalkLawsBesides
import Derived.Below
import Derived.Deep.MidRow
import Derived.Maps.RangeWalk
import Derived.Laws.AppendOwn
import Derived.Laws.AppendOwnNone
import Derived.Laws.MakeOwn
import Derived.Test.YtbjgknoipbekoaaGreatProg
import Derived.Deep.RegionHeld3
import Derived.BigRegion
import Derived.Deep.RegionWith
import Derived.Laws.BitsAllLaws
import Derived.Test.YtbjgknoipbekoaaGreatRows
import Derived.ProofKit
import Derived.OpenShut
import Derived.ChangeOld
import Derived.ChangeArms
import Derived.SizedLaws
import Derived.Deep.DeepHandedRow
import Derived.Deep.Grids
namespace Go.Proofs.YtbjgknoipbekoaaGreat
open Go.RowKit
theorem hide {p : Prop} (h : p) : Hid p := h
theorem unhide {p : Prop} (h : Hid p) : p := h
theorem range_grown {a b : World} {g ba bo : Nat} {cs : List Value} (h : a.rangeAt ba bo cs) (hg : a.grownBy b (some g)) (hne : ba ≠ g) : b.rangeAt ba bo cs := fun j v hv =>
  hg.cell (h j v hv) (by simpa using hne)
theorem grown_setCell {a b : World} {row : Option Nat} (h : a.grownBy b row) (x : Addr) (v : Value) (hg : row = some x.block) : a.grownBy (b.setCell x v) row :=
  ⟨h.os, h.tape, h.output, by rw [World.size_setCell]; exact h.size, fun i hi hne => by rw [heap_setCell_other _ _ _ _ (fun e => hne (by rw [hg, e]))]; exact h.block i hi hne⟩
theorem grown_trans {a b c : World} {row : Option Nat} (h : a.grownBy b row) (k : b.grownBy c row) : a.grownBy c row :=
  ⟨k.os.trans h.os, k.tape.trans h.tape, k.output.trans h.output, Nat.le_trans h.size k.size, fun i hi hne => (k.block i (Nat.lt_of_lt_of_le hi h.size) hne).trans (h.block i hi hne)⟩
theorem _root_.Go.World.grownBy.drew {a b : World} {row : Option Nat} (h : a.grownBy b row) : a.grownBy b.drew row := ⟨h.os, h.tape, h.output, h.size, h.block⟩
/-- A type of slices whose elements have one cell each: t the slices', e the elements', z their zero, by their bytes. -/
structure Elem (P : Program) (t e : TypeId) (z : Value) (bytes : Nat) : Prop where
  under : P.underlying t = some (.slice e)
  info : ∃ i, P.info? e = some i ∧ i.zero = some z ∧ i.size = 1 ∧ i.bytes = bytes
  one : z.cells.size = 1
  small : bytes ≤ 64
/-- The value is a slice that holds cs. -/
def ValsAt (w : World) (x : Value) (cs : List Value) : Prop :=
  ∃ sp c, x = .slice sp cs.length c ∧ cs.length ≤ c ∧ (sp = none → c = 0) ∧ (cs ≠ [] → ∃ b o, sp = some ⟨b, o, none⟩ ∧ w.rangeAt b o cs)
/-- It lies from block B on. -/
def Fresh (B : Nat) (x : Value) : Prop := ∀ k, x.ownBlock = some k → B ≤ k
/-- A row of the call's own. -/
def OwnV (e : TypeId) (w : World) (base : Nat) (v : Value) (cs : List Value) : Prop := w.ownsRow base e 1 v cs.length cs
theorem vals_nil (w : World) : ValsAt w (.slice none 0 0) [] := ⟨none, 0, rfl, Nat.le_refl _, fun _ => rfl, fun h => absurd rfl h⟩
theorem ValsAt.grown {a b : World} {g : Nat} {x : Value} {cs : List Value} (h : ValsAt a x cs) (hg : a.grownBy b (some g)) (hne : x.ownBlock ≠ some g) : ValsAt b x cs := by
  obtain ⟨sp, c, rfl, h1, h2, h3⟩ := h
  refine ⟨sp, c, rfl, h1, h2, fun hl => ?_⟩
  obtain ⟨bb, o, rfl, hr⟩ := h3 hl
  exact ⟨bb, o, rfl, range_grown hr hg (by simpa [Value.ownBlock] using hne)⟩
theorem ValsAt.below {a b : World} {x : Value} {cs : List Value} (h : ValsAt a x cs) (hb : Below a.heap.size a b) : ValsAt b x cs := by
  obtain ⟨sp, c, rfl, h1, h2, h3⟩ := h
  refine ⟨sp, c, rfl, h1, h2, fun hl => ?_⟩
  obtain ⟨bb, o, rfl, hr⟩ := h3 hl
  refine ⟨bb, o, rfl, fun j v hv => ?_⟩
  have h0 := hr j v hv
  rw [hb.cell (World.block_lt_of_cell? a _ h0)]; exact h0
theorem ValsAt.drew {a : World} {x : Value} {cs : List Value} (h : ValsAt a x cs) : ValsAt a.drew x cs := h.below (Below.refl _ _).drew
theorem ValsAt.cell {w : World} {x : Value} {cs : List Value} (h : ValsAt w x cs) (hl : cs ≠ []) : ∃ b o c, x = .slice (some ⟨b, o, none⟩) cs.length c ∧ cs.length ≤ c ∧ b < w.heap.size ∧ ∀ j, j < cs.length → w.cell? ⟨b, o + j, none⟩ = some (cs.getD j undef) := by
  obtain ⟨sp, c, rfl, h1, _, h3⟩ := h
  obtain ⟨b, o, rfl, hr⟩ := h3 hl
  have key : ∀ j, j < cs.length → w.cell? ⟨b, o + j, none⟩ = some (cs.getD j undef) := fun j hj => hr j _ (by simp [List.getD_eq_getElem?_getD, hj])
  have hp : 0 < cs.length := Nat.pos_of_ne_zero fun e => hl (List.eq_nil_of_length_eq_zero e)
  exact ⟨b, o, c, rfl, h1, World.block_lt_of_cell? w _ (key 0 hp), key⟩
theorem ValsAt.form {w : World} {x : Value} {cs : List Value} (h : ValsAt w x cs) : ∃ sp c, x = .slice sp cs.length c := by
  obtain ⟨sp, c, e, _⟩ := h
  exact ⟨sp, c, e⟩
theorem ValsAt.old {w : World} {x : Value} {cs : List Value} (h : ValsAt w x cs) (hl : cs ≠ []) (k : Nat) (hk : x.ownBlock = some k) : k < w.heap.size := by
  obtain ⟨b, o, c, rfl, _, hb, _⟩ := h.cell hl
  simp [Value.ownBlock] at hk
  omega
theorem OwnV.vals {e : TypeId} {w : World} {base : Nat} {v : Value} {cs : List Value} (h : OwnV e w base v cs) : ValsAt w v cs := by
  obtain ⟨_, h⟩ := h
  rcases h with ⟨rfl, hn⟩ | ⟨g, cap, cur, rfl, hb, hg, hn, hc, hz, ht⟩
  · have : cs = [] := List.eq_nil_of_length_eq_zero hn
    subst this
    exact vals_nil w
  · refine ⟨some ⟨g, 0, none⟩, cap, rfl, hn, fun h => (by cases h), fun _ => ⟨g, 0, rfl, fun j v hv => ?_⟩⟩
    rw [cell_of_row w g _ cur e (0, 0) hg, Nat.zero_add]
    rw [← ht, List.getElem?_take] at hv
    split at hv
    · simpa using hv
    · cases hv
theorem OwnV.fresh {e : TypeId} {w : World} {base : Nat} {v : Value} {cs : List Value} (h : OwnV e w base v cs) : Fresh base v := by
  obtain ⟨_, h⟩ := h
  intro k hk
  rcases h with ⟨rfl, hn⟩ | ⟨g, cap, cur, rfl, hb, _⟩
  · cases hk
  · simp [Value.ownBlock] at hk; omega
theorem own_nil (e : TypeId) (w : World) (base : Nat) : OwnV e w base (.slice none 0 0) [] := World.ownsRow_nil w base e 1
theorem OwnV.form {e : TypeId} {w : World} {base : Nat} {v : Value} {cs : List Value} (h : OwnV e w base v cs) : ∃ sp c, v = .slice sp cs.length c := h.vals.form
theorem OwnV.drew {e : TypeId} {w : World} {base : Nat} {v : Value} {cs : List Value} (h : OwnV e w base v cs) : OwnV e w.drew base v cs := h
theorem OwnV.mono {e : TypeId} {w : World} {B B' : Nat} {v : Value} {cs : List Value} (h : OwnV e w B v cs) (hB : B' ≤ B) : OwnV e w B' v cs := by
  obtain ⟨h1, h2⟩ := h
  refine ⟨h1, ?_⟩
  rcases h2 with h2 | ⟨g, cap, cur, hv, hb, r⟩
  · exact Or.inl h2
  · exact Or.inr ⟨g, cap, cur, hv, by omega, r⟩
theorem OwnV.below {e : TypeId} {a b : World} {B : Nat} {v : Value} {cs : List Value} (h : OwnV e a B v cs) (hb : Below a.heap.size a b) : OwnV e b B v cs := by
  obtain ⟨h1, h2⟩ := h
  refine ⟨h1, ?_⟩
  rcases h2 with h2 | ⟨n, cap, cur, hv, hn, hh, r⟩
  · exact Or.inl h2
  · exact Or.inr ⟨n, cap, cur, hv, hn, by rw [hb.block _ (Array.getElem?_eq_some_iff.1 hh).1]; exact hh, r⟩
theorem OwnV.alloc {e : TypeId} {w : World} {base : Nat} {v : Value} {cs : List Value} (h : OwnV e w base v cs) (o : Obj) : OwnV e (w.alloc o) base v cs := h.below ((Below.refl _ _).alloc (Nat.le_refl _) _)
theorem OwnV.kept {e : TypeId} {a b : World} {B : Nat} {v : Value} {cs : List Value} {row : Option Nat} (h : OwnV e a B v cs) (hg : a.grownBy b row) (hne : v.ownBlock = none ∨ v.ownBlock ≠ row) : OwnV e b B v cs := World.ownsRow.kept h hg hne
theorem OwnV.cellAt {e : TypeId} {w : World} {B : Nat} {v : Value} {cs : List Value} (h : OwnV e w B v cs) (hl : cs ≠ []) : ∃ b c, v = .slice (some ⟨b, 0, none⟩) cs.length c ∧ B ≤ b ∧ b < w.heap.size ∧ ∀ j, j < cs.length → w.cell? ⟨b, j, none⟩ = some (cs.getD j undef) := by
  have hv := h.vals
  obtain ⟨_, h2⟩ := h
  rcases h2 with ⟨_, hn⟩ | ⟨b, cap, cur, rfl, hb, hh, _⟩
  · exact absurd (List.eq_nil_of_length_eq_zero hn) hl
  · obtain ⟨b2, o2, c2, e2, _, hlt, hc⟩ := hv.cell hl
    simp only [Value.slice.injEq, Option.some.injEq, Addr.mk.injEq] at e2
    obtain ⟨⟨rfl, rfl, _⟩, _, rfl⟩ := e2
    exact ⟨b, cap, rfl, hb, hlt, fun j hj => by have := hc j hj; rwa [Nat.zero_add] at this⟩
theorem own_below {e : TypeId} {a b w0 : World} {base : Nat} {v : Value} {cs : List Value} (h : OwnV e a base v cs) (hg : a.grownBy b v.ownBlock) (hB : Below base w0 a) (hs : base ≤ a.heap.size) : Below base w0 b :=
  hB.grown hg hs (fun k hk => h.fresh k hk)
/-- Values in a block that has just been laid. -/
theorem vals_new (w : World) (cs : List Value) (t : TypeId) : ValsAt (w.alloc (.cells cs.toArray t)) (.slice (some ⟨w.heap.size, 0, none⟩) cs.length cs.length) cs :=
  ⟨_, _, rfl, Nat.le_refl _, fun h => (by cases h), fun _ => ⟨w.heap.size, 0, rfl, fun j v hv => by
    rw [cell_of_row _ _ _ _ t (0, 0) (heap_alloc_new w _), Nat.zero_add]; simpa using hv⟩⟩
section
variable {P : Program}
/-- append to a row of the call's own, with the block that it ends in. -/
theorem run_append_vals {t e : TypeId} {z : Value} {by_ : Nat} (E : Elem P t e z by_) (w : World) (base : Nat) (v y : Value) (cs ds : List Value) (hown : OwnV e w base v cs) (hy : ValsAt w y ds) (h1 : ∀ u ∈ ds, u.oneCell' = true) (hb : base ≤ w.heap.size) (hlen : cs.length + ds.length ≤ 1073741824) (ty : TypeId) :
    ∃ v' w', (Builtin.append_ #[t, t] ty #[v, y]).run P w = .ok v' w' ∧ OwnV e w' base v' (cs ++ ds) ∧ w.grownBy w' v.ownBlock ∧ (v'.ownBlock = v.ownBlock ∨ v'.ownBlock = some w.heap.size) := by
  obtain ⟨hu, ⟨i, hi, hz, hsz, hby⟩, hone, hsmall⟩ := E
  have hbb : (cs.length + ds.length) * i.bytes ≤ 140737488355328 := by
    rw [hby]
    have := Nat.mul_le_mul hlen hsmall
    omega
  obtain ⟨sp, c, rfl, hc1, hc2, hc3⟩ := hy
  cases sp with
  | none =>
    have hm : ds = [] := by
      rcases List.eq_nil_or_concat ds with h | ⟨r, u, rfl⟩
      · exact h
      · obtain ⟨b, o, e, _⟩ := hc3 (by simp); cases e
    subst hm
    obtain rfl := hc2 rfl
    have hr := run_append_owned_none (P := P) w base t ty e i 1 hu hi v cs.length cs hown
    exact ⟨v, w, hr, by rw [List.append_nil]; exact hown, World.grownBy.refl _ _, Or.inl rfl⟩
  | some ad =>
    have hn : ∀ j u, ds[j]? = some u → w.cell? (ad.add j) = some u := by
      intro j u hu
      have hne : ds ≠ [] := by rintro rfl; simp at hu
      obtain ⟨b, o, e, hr⟩ := hc3 hne
      cases e
      rw [Addr.add_mid]; exact hr j u hu
    obtain ⟨v', w', hr, h2, h3, _⟩ := run_append_own (P := P) w base t ty e i z 1 by_ hu hi hz hsz hby hone (by omega) v cs.length cs hown ad ds.length c ds (by simp) hn h1 (by simp only [maxLen]; omega) (by rw [← hby]; exact hbb) hb
    refine ⟨v', w', hr, ?_, h3, ?_⟩
    · show w'.ownsRow base e 1 v' (cs ++ ds).length (cs ++ ds)
      rw [List.length_append]; exact h2
    · have hown' := hown
      rcases hown'.2 with ⟨rfl, hl0⟩ | ⟨g, cap, cur, rfl, hbg, hg, hnc, hcm, hcs, htake⟩
      · by_cases hm : ds.length = 0
        · rcases h2.2 with ⟨rfl, _⟩ | ⟨g', cap', cur', rfl, _⟩
          · exact Or.inl rfl
          · exfalso
            have hm' : ds = [] := List.eq_nil_of_length_eq_zero hm
            subst hm'
            simp [Builtin.append_, run_underlying hu, Go.sizeOf, typeInfo, hi, Builtin.lenOf, Builtin.firstCells, loadCells, loadCellsFrom] at hr
        · have hr2 := run_append_nil (P := P) w t ty e i z hu hi hz ad ds.length c ds (by rw [hsz]; simp) hn (by omega) (by omega) (by rw [hby]; have := Nat.mul_le_mul (show ds.length ≤ 1073741824 by omega) hsmall; omega)
          rw [hr] at hr2
          have := (Result.ok.inj hr2).1
          subst this
          exact Or.inr rfl
      · by_cases hroom : cs.length + ds.length ≤ cap
        · have hr2 := run_append_room (P := P) w t ty e i hu hi g cs.length cap cur hg ad ds.length c ds (by rw [hsz]; simp) hn h1 hroom (by rw [hsz, hcs]; omega)
          rw [hr] at hr2
          have := (Result.ok.inj hr2).1
          subst this
          exact Or.inl rfl
        · have holds : ∀ j u, cs[j]? = some u → w.cell? ((⟨g, 0, none⟩ : Addr).add j) = some u := hown.cells (g := g) rfl
          have hr2 := run_append_grow (P := P) w t ty e i z hu hi hz ⟨g, 0, none⟩ cs.length cap cs (by rw [hsz]; simp) holds ad ds.length c ds (by rw [hsz]; simp) hn (by omega) (by omega) (growslice_fits (by omega) hbb)
          rw [hr] at hr2
          have := (Result.ok.inj hr2).1
          subst this
          exact Or.inr rfl
theorem wpList_append_vals {t e : TypeId} {z : Value} {by_ : Nat} (E : Elem P t e z by_) {w : World} {ops : Array Oper} {rest : List Oper} {o : Oper} {a : Act} {Q : Exit → Act → World → Prop} (hgd : o.guard = none) (s x : Operand)
    (ho : o.op = .call { callee := .builtin .append, args := #[s, x], argTypes := #[t, t] }) (base : Nat) (v y : Value) (cs ds : List Value) (hs : a.eval s = v) (hown : OwnV e w base v cs)
    (hx : a.eval x = y) (hy : ValsAt w y ds) (h1 : ∀ u ∈ ds, u.oneCell' = true) (hb : base ≤ w.heap.size) (hlen : cs.length + ds.length ≤ 1073741824)
    (h : ∀ v' w', OwnV e w' base v' (cs ++ ds) → w.grownBy w' v.ownBlock → (v'.ownBlock = v.ownBlock ∨ v'.ownBlock = some w.heap.size) → wpList P ops Q rest (a.put o.dst v') w') : wpList P ops Q (o :: rest) a w := by
  obtain ⟨v', w', hr, h2, h3, h4⟩ := run_append_vals E w base v y cs ds hown hy h1 hb hlen o.type
  refine wpList_plain hgd fun _ hK => ?_
  unfold Oper.wp execOp
  simp only [ho, resolve, invoke, builtin, Sem.run_bind, Sem.run_pure, Result.andThen_ok, List.map_toArray, List.map_cons, List.map_nil, hs, hx, hr]
  exact hK _ _ (h v' w' h2 h3 h4)
end
/-- Values at the front of a block of their own; behind them whatever there is. -/
def RowAt (e : TypeId) (w : World) (B : Nat) (rest cs : List Value) : Prop := w.heap[B]? = some (.cells (cs ++ rest).toArray e (0, 0))
theorem RowAt.cell {e : TypeId} {w : World} {B : Nat} {rest cs : List Value} (h : RowAt e w B rest cs) (i : Nat) (hi : i < cs.length) : w.cell? ⟨B, i, none⟩ = some (cs.getD i undef) := by
  rw [cell_of_row w B i _ e (0, 0) h, List.getElem?_toArray, List.getElem?_append_left hi]
  simp [List.getD_eq_getElem?_getD, hi]
theorem RowAt.frozen {e : TypeId} {w : World} {B : Nat} {rest cs : List Value} (h : RowAt e w B rest cs) (i : Nat) : w.frozen? ⟨B, i, none⟩ = false := frozen_of_row w B i _ e h
theorem RowAt.set {e : TypeId} {w : World} {B : Nat} {rest cs : List Value} (h : RowAt e w B rest cs) (i : Nat) (hi : i < cs.length) (u : Value) : RowAt e (w.setCell ⟨B, i, none⟩ u) B rest (cs.set i u) := by
  unfold RowAt
  rw [heap_setCell_same w B i _ e _ h, List.setIfInBounds_toArray, List.set_append_left i _ hi]
theorem RowAt.other {e : TypeId} {w : World} {B : Nat} {rest cs : List Value} (h : RowAt e w B rest cs) (a : Addr) (v : Value) (hne : B ≠ a.block) : RowAt e (w.setCell a v) B rest cs := by
  unfold RowAt
  rw [heap_setCell_other _ _ _ _ hne]; exact h
theorem RowAt.drew {e : TypeId} {w : World} {B : Nat} {rest cs : List Value} (h : RowAt e w B rest cs) : RowAt e w.drew B rest cs := h
theorem RowAt.lt {e : TypeId} {w : World} {B : Nat} {rest cs : List Value} (h : RowAt e w B rest cs) : B < w.heap.size := (Array.getElem?_eq_some_iff.1 h).1
theorem RowAt.below {e : TypeId} {a b : World} {B : Nat} {rest cs : List Value} (h : RowAt e a B rest cs) (hb : Below a.heap.size a b) : RowAt e b B rest cs := by
  unfold RowAt
  rw [hb.block B h.lt]; exact h
theorem RowAt.grown {e : TypeId} {a b : World} {B : Nat} {row : Option Nat} {rest cs : List Value} (h : RowAt e a B rest cs) (hg : a.grownBy b row) (hne : some B ≠ row) : RowAt e b B rest cs := by
  unfold RowAt
  rw [hg.block B h.lt hne]; exact h
theorem RowAt.own {e : TypeId} {w : World} {B base : Nat} {rest cs : List Value} (h : RowAt e w B rest cs) (hB : base ≤ B) (n cap : Nat) (hl : cs.length = n) (hc : n + rest.length = cap) (hm : cap ≤ maxLen) : OwnV e w base (.slice (some ⟨B, 0, none⟩) n cap) cs := by
  subst hl
  subst hc
  refine ⟨by simp, Or.inr ⟨B, cs.length + rest.length, _, rfl, hB, h, by omega, hm, by simp, ?_⟩⟩
  rw [List.toList_toArray, Nat.mul_one]
  exact List.take_left' rfl
theorem OwnV.row {e : TypeId} {w : World} {base : Nat} {v : Value} {cs : List Value} (h : OwnV e w base v cs) (hl : cs ≠ []) : ∃ B rest cap, v = .slice (some ⟨B, 0, none⟩) cs.length cap ∧ base ≤ B ∧ cs.length + rest.length = cap ∧ cap ≤ maxLen ∧ RowAt e w B rest cs := by
  obtain ⟨_, h2⟩ := h
  rcases h2 with ⟨_, hn⟩ | ⟨b, cap, cur, rfl, hb, hh, hn, hm, hs, ht⟩
  · exact absurd (List.eq_nil_of_length_eq_zero hn) hl
  · rw [Nat.mul_one] at hs ht
    have hlen : cur.toList.length = cap := hs
    obtain ⟨n, hn'⟩ : ∃ n, cs.length = n := ⟨_, rfl⟩
    have e : cur = (cs ++ cur.toList.drop n).toArray := by
      rw [← ht, hn', List.take_append_drop, Array.toArray_toList]
    refine ⟨b, cur.toList.drop n, cap, rfl, hb, ?_, hm, ?_⟩
    · rw [List.length_drop, hlen]; omega
    · unfold RowAt
      rw [← e]; exact hh
/-- A make of n values. -/
theorem made_vals {P : Program} {t e : TypeId} {z : Value} {by_ : Nat} (E : Elem P t e z by_) (hz1 : z.cells = #[z]) (w : World) (k1 k2 : IntKind) (n : Nat) (x y : Int) (hx : x = (n : Int)) (hy : y = (n : Int)) (hn : n ≤ 1073741824) :
    ∃ W, (Instr.makeSlice t (.int k1 x) (.int k2 y)).run P w = .ok (.slice (some ⟨w.heap.size, 0, none⟩) n n) W ∧ RowAt e W w.heap.size [] (List.replicate n z) ∧ Below w.heap.size w W := by
  subst hx
  subst hy
  obtain ⟨hu, ⟨i, hi, h0, hsz, hby⟩, _, hsmall⟩ := E
  refine ⟨w.alloc (.cells (List.replicate n z).toArray e), ?_, ?_, (Below.refl _ _).alloc (Nat.le_refl _) _⟩
  · have hbn : (i.bytes : Int) * (n : Int) ≤ 281474976710656 := by
      rw [hby, ← Int.natCast_mul]
      have := Nat.mul_le_mul hsmall hn
      omega
    have h := run_make (P := P) w t e i z hu hi h0 k1 k2 n n (by omega) (by omega) hbn (by omega)
    rw [h, hsz, hz1]
    have e1 : madeCells #[z] (((n : Int)).toNat * 1) = (List.replicate n z).toArray := by
      rw [Int.toNat_natCast, Nat.mul_one]
      apply Array.ext
      · simp [madeCells]
      · intro j h1 h2
        simp [madeCells, Nat.mod_one]
    rw [e1, Int.toNat_natCast]
  · unfold RowAt
    rw [List.append_nil]; exact heap_alloc_new _ _
end Go.Proofs.YtbjgknoipbekoaaGreat
namespace Go.Proofs.YtbjgknoipbekoaaGreat
abbrev Bs := List UInt8
structure PS where
  safe : List Bs
  loose : List (Nat × Bs)
  left : Int
  down : Bool
def zeros : Bs := List.replicate 64 0
def newS (n : Nat) : PS := ⟨List.replicate n zeros, [], -1, false⟩
/-- A write or a sync is about to be done. -/
def tickS (s : PS) : PS := ⟨s.safe, s.loose, if 0 < s.left then s.left - 1 else s.left, if s.left = 0 then true else s.down⟩
def rightAt (s : PS) (a : Int) : Bool := decide (0 ≤ a) && decide (a < s.safe.length)
def writeE (s : PS) (a : Int) (b : Bs) : Int := if s.down then 50 else if !(rightAt s a && decide (b.length = 64)) then 51 else if (tickS s).down then 50 else 0
def writeS (s : PS) (a : Int) (b : Bs) : PS := if s.down then s else if !(rightAt s a && decide (b.length = 64)) then s else if (tickS s).down then tickS s else ⟨(tickS s).safe, (tickS s).loose ++ [(a.toNat, b)], (tickS s).left, (tickS s).down⟩
def applyL (sf : List Bs) (l : List (Nat × Bs)) : List Bs := l.foldl (fun sf x => sf.set x.1 x.2) sf
def readE (s : PS) (a : Int) : Int := if s.down then 50 else if !rightAt s a then 51 else 0
def readB (s : PS) (a : Int) : Bs := if s.down then [] else if !rightAt s a then [] else (applyL s.safe s.loose).getD a.toNat []
def syncE (s : PS) : Int := if s.down || (tickS s).down then 50 else 0
def syncS (s : PS) : PS := if s.down then s else if (tickS s).down then tickS s else ⟨applyL s.safe s.loose, [], (tickS s).left, (tickS s).down⟩
def armS (s : PS) (n : Int) : PS := ⟨s.safe, s.loose, max n (-1), s.down⟩
def keptL : List (Nat × Bs) → List Bool → List (Nat × Bs)
  | x :: l, k :: ks => if k then x :: keptL l ks else keptL l ks
  | _, _ => []
def reviveS (s : PS) (keep : List Bool) : PS := ⟨applyL s.safe (keptL s.loose keep), [], -1, false⟩
/-- What is always so. -/
structure PS.Ok (s : PS) : Prop where
  few : s.safe.length ≤ 16384
  safe : ∀ b ∈ s.safe, b.length = 64
  loose : ∀ x ∈ s.loose, x.1 < s.safe.length ∧ x.2.length = 64
  left : -1 ≤ s.left
  most : s.left ≤ 9223372036854775807
theorem zeros_len : zeros.length = 64 := List.length_replicate
theorem ok_new {n : Nat} (h : n ≤ 16384) : (newS n).Ok := by
  refine ⟨?_, ?_, ?_, ?_, ?_⟩
  · show (List.replicate n zeros).length ≤ _; rw [List.length_replicate]; exact h
  · intro b hb; have := List.eq_of_mem_replicate hb; subst this; exact zeros_len
  · intro x hx; cases hx
  · show (-1 : Int) ≤ -1; omega
  · show (-1 : Int) ≤ _; omega
theorem PS.Ok.tick {s : PS} (h : s.Ok) : (tickS s).Ok := by
  refine ⟨h.few, h.safe, h.loose, ?_, ?_⟩ <;> (have h1 := h.left; have h2 := h.most; unfold tickS; dsimp only; split <;> omega)
theorem apply_len (sf : List Bs) (l : List (Nat × Bs)) : (applyL sf l).length = sf.length := by
  unfold applyL
  induction l generalizing sf with
  | nil => rfl
  | cons x l ih => rw [List.foldl_cons, ih, List.length_set]
theorem apply_all {sf : List Bs} {l : List (Nat × Bs)} (h1 : ∀ b ∈ sf, b.length = 64) (h2 : ∀ x ∈ l, x.2.length = 64) : ∀ b ∈ applyL sf l, b.length = 64 := by
  unfold applyL
  induction l generalizing sf with
  | nil => exact h1
  | cons x l ih =>
    rw [List.foldl_cons]
    refine ih (fun b hb => ?_) (fun y hy => h2 y (List.mem_cons_of_mem _ hy))
    rcases List.mem_or_eq_of_mem_set hb with h | h
    · exact h1 b h
    · subst h; exact h2 x List.mem_cons_self
theorem apply_app (sf : List Bs) (l m : List (Nat × Bs)) : applyL sf (l ++ m) = applyL (applyL sf l) m := by unfold applyL; rw [List.foldl_append]
theorem apply_one (sf : List Bs) (x : Nat × Bs) : applyL sf [x] = sf.set x.1 x.2 := rfl
theorem kept_mem : ∀ {l : List (Nat × Bs)} {ks : List Bool} {x : Nat × Bs}, x ∈ keptL l ks → x ∈ l
  | [], [], x, h => by simp [keptL] at h
  | [], _ :: _, x, h => by simp [keptL] at h
  | _ :: _, [], x, h => by simp [keptL] at h
  | y :: l, k :: ks, x, h => by
    unfold keptL at h
    split at h
    · rcases List.mem_cons.1 h with h | h
      · subst h; exact List.mem_cons_self
      · exact List.mem_cons_of_mem _ (kept_mem h)
    · exact List.mem_cons_of_mem _ (kept_mem h)
theorem PS.Ok.write {s : PS} (h : s.Ok) (a : Int) (b : Bs) : (writeS s a b).Ok := by
  unfold writeS
  split
  · exact h
  · split
    · exact h
    · rename_i h1 h2
      split
      · exact h.tick
      · have ht := h.tick
        refine ⟨ht.few, ht.safe, fun x hx => ?_, ht.left, ht.most⟩
        rcases List.mem_append.1 hx with hx | hx
        · exact ht.loose x hx
        · simp only [List.mem_singleton] at hx
          subst hx
          simp only [rightAt, Bool.not_eq_true', Bool.not_eq_false, Bool.and_eq_true, decide_eq_true_eq] at h2
          refine ⟨?_, h2.2⟩
          show a.toNat < s.safe.length
          omega
theorem PS.Ok.applied {s : PS} (h : s.Ok) {l : List (Nat × Bs)} (hl : ∀ x ∈ l, x ∈ s.loose) {L : Int} (h1 : -1 ≤ L) (h2 : L ≤ 9223372036854775807) (d : Bool) : (⟨applyL s.safe l, [], L, d⟩ : PS).Ok := by
  refine ⟨?_, apply_all h.safe fun x hx => (h.loose x (hl x hx)).2, fun x hx => (by cases hx), h1, h2⟩
  show (applyL _ _).length ≤ _
  rw [apply_len]; exact h.few
theorem PS.Ok.sync {s : PS} (h : s.Ok) : (syncS s).Ok := by
  unfold syncS
  split
  · exact h
  · split
    · exact h.tick
    · exact h.applied (fun x hx => hx) h.tick.left h.tick.most _
theorem PS.Ok.arm {s : PS} (h : s.Ok) {n : Int} (hn : n ≤ 9223372036854775807) : (armS s n).Ok := ⟨h.few, h.safe, h.loose, by show -1 ≤ max n (-1); omega, by show max n (-1) ≤ _; omega⟩
theorem PS.Ok.revive {s : PS} (h : s.Ok) (keep : List Bool) : (reviveS s keep).Ok := h.applied (fun x hx => kept_mem hx) (by omega) (by omega) _
end Go.Proofs.YtbjgknoipbekoaaGreat
namespace Go.Proofs.YtbjgknoipbekoaaGreat
open Go.RowKit
def bv (x : UInt8) : Value := .int .u8 (x.toNat : Int)
/-- The value is a slice of bytes that holds l. -/
def BytesAt (w : World) (x : Value) (l : Bs) : Prop := ValsAt w x (l.map bv)
/-- A row of bytes of the call's own. -/
def OwnB (w : World) (base : Nat) (v : Value) (l : Bs) : Prop := OwnV 5 w base v (l.map bv)
theorem BytesAt.below {a b : World} {x : Value} {l : Bs} (h : BytesAt a x l) (hb : Below a.heap.size a b) : BytesAt b x l := ValsAt.below h hb
theorem OwnB.bytes {w : World} {base : Nat} {v : Value} {l : Bs} (h : OwnB w base v l) : BytesAt w v l := OwnV.vals h
theorem OwnB.below {a b : World} {B : Nat} {v : Value} {l : Bs} (h : OwnB a B v l) (hb : Below a.heap.size a b) : OwnB b B v l := OwnV.below h hb
theorem OwnB.mono {w : World} {B B' : Nat} {v : Value} {l : Bs} (h : OwnB w B v l) (hB : B' ≤ B) : OwnB w B' v l := OwnV.mono h hB
theorem OwnB.form {w : World} {B : Nat} {v : Value} {l : Bs} (h : OwnB w B v l) : ∃ sp c, v = .slice sp l.length c := by
  obtain ⟨sp, c, e⟩ := OwnV.form h
  rw [List.length_map] at e
  exact ⟨sp, c, e⟩
theorem bytes_nil (w : World) : BytesAt w (.slice none 0 0) [] := vals_nil w
theorem ownb_nil (w : World) (base : Nat) : OwnB w base (.slice none 0 0) [] := own_nil 5 w base
theorem elem_of {t e : TypeId} {z : Value} {n : Nat} (hu : Tryz.prog.underlying t = some (.slice e)) (h : (Tryz.prog.info? e).map (fun i => (i.zero, i.size, i.bytes)) = some (some z, 1, n)) (h1 : z.cells.size = 1) (hn : n ≤ 64) : Elem Tryz.prog t e z n := by
  obtain ⟨i, hi, h2⟩ := Option.map_eq_some_iff.1 h
  simp only [Prod.mk.injEq] at h2
  exact ⟨hu, ⟨i, hi, h2.1, h2.2.1, h2.2.2⟩, h1, hn⟩
theorem Eb : Elem Tryz.prog 23 5 (.int .u8 0) 1 := elem_of Tryz.underlying23 (by kernel_rfl) rfl (by omega)
theorem one_bytes (l : Bs) : ∀ u ∈ l.map bv, u.oneCell' = true := fun u hu => by obtain ⟨x, _, rfl⟩ := List.mem_map.1 hu; rfl
theorem bytes_open {w : World} {x : Value} {l : Bs} (h : BytesAt w x l) : ∃ sp c, x = .slice sp l.length c ∧ l.length ≤ c ∧ (sp = none → c = 0) ∧ (l ≠ [] → ∃ b o, sp = some ⟨b, o, none⟩ ∧ b < w.heap.size ∧ ∀ k, k < l.length → w.cell? ⟨b, o + k, none⟩ = some (.int .u8 ((l.getD k 0).toNat : Int))) := by
  have h' := h
  obtain ⟨sp, c, rfl, h1, h2, _⟩ := h'
  rw [List.length_map] at h1
  refine ⟨sp, c, by rw [List.length_map], h1, h2, fun hl => ?_⟩
  obtain ⟨b, o, c2, e, _, hb, hc⟩ := ValsAt.cell h (by simpa using hl)
  simp only [Value.slice.injEq] at e
  obtain ⟨rfl, _, _⟩ := e
  refine ⟨b, o, rfl, hb, fun k hk => ?_⟩
  rw [hc k (by rw [List.length_map]; exact hk)]
  simp [bv, List.getD_eq_getElem?_getD, hk]
/-- append of bytes to a row of the call's own. -/
theorem wpList_append_bytes {w : World} {ops : Array Oper} {rest : List Oper} {o : Oper} {a : Act} {Q : Exit → Act → World → Prop} (hgd : o.guard = none) (s x : Operand)
    (ho : o.op = .call { callee := .builtin .append, args := #[s, x], argTypes := #[23, 23] }) (base : Nat) (v y : Value) (l m : Bs) (hs : a.eval s = v) (hown : OwnB w base v l)
    (hx : a.eval x = y) (hy : BytesAt w y m) (hb : base ≤ w.heap.size) (hlen : l.length + m.length ≤ 1073741824)
    (h : ∀ v' w', OwnB w' base v' (l ++ m) → w.grownBy w' v.ownBlock → (v'.ownBlock = v.ownBlock ∨ v'.ownBlock = some w.heap.size) → wpList Tryz.prog ops Q rest (a.put o.dst v') w') : wpList Tryz.prog ops Q (o :: rest) a w :=
  wpList_append_vals Eb hgd s x ho base v y (l.map bv) (m.map bv) hs hown hx hy (one_bytes m) hb (by simpa using hlen) fun v' w' h1 h2 h3 => h v' w' (by unfold OwnB; rw [List.map_append]; exact h1) h2 h3
/-- Bytes in a block that has just been laid. -/
theorem bytes_new (w : World) (l : Bs) : BytesAt (w.alloc (.cells (l.map bv).toArray 5)) (.slice (some ⟨w.heap.size, 0, none⟩) l.length l.length) l := by
  have := vals_new w (l.map bv) 5
  rwa [List.length_map] at this
theorem ownb_below {a b w0 : World} {base : Nat} {v : Value} {l : Bs} (h : OwnB a base v l) (hg : a.grownBy b v.ownBlock) (hB : Below base w0 a) (hs : base ≤ a.heap.size) : Below base w0 b := own_below h hg hB hs
/-- A row of bytes that was begun at the world wb, and lies there behind all that was there. -/
structure Row (wb w : World) (v : Value) (l : Bs) : Prop where
  own : OwnB w wb.heap.size v l
  b : Below wb.heap.size wb w
theorem Row.bytes {wb w : World} {v : Value} {l : Bs} (h : Row wb w v l) : BytesAt w v l := h.own.bytes
theorem Row.call {wb w w' : World} {v : Value} {l : Bs} (h : Row wb w v l) (hb : Below w.heap.size w w') : Row wb w' v l := ⟨h.own.below hb, h.b.trans (hb.mono h.b.size)⟩
theorem Row.lit {wb w : World} {v : Value} {l : Bs} (h : Row wb w v l) (o : Obj) : Row wb (w.alloc o) v l := h.call ((Below.refl _ _).alloc (Nat.le_refl _) _)
theorem Row.up {w0 wb w : World} {v : Value} {l : Bs} (h : Row wb w v l) (hb : Below w0.heap.size w0 wb) : Row w0 w v l := ⟨h.own.mono hb.size, hb.trans (h.b.mono hb.size)⟩
theorem wpList_append_row {wb w : World} {ops : Array Oper} {rest : List Oper} {o : Oper} {a : Act} {Q : Exit → Act → World → Prop} (hgd : o.guard = none) (s x : Operand)
    (ho : o.op = .call { callee := .builtin .append, args := #[s, x], argTypes := #[23, 23] }) (v y : Value) (l m : Bs) (hs : a.eval s = v) (hr : Row wb w v l)
    (hx : a.eval x = y) (hy : BytesAt w y m) (hlen : l.length + m.length ≤ 1073741824)
    (h : ∀ v' w', Row wb w' v' (l ++ m) → wpList Tryz.prog ops Q rest (a.put o.dst v') w') : wpList Tryz.prog ops Q (o :: rest) a w :=
  wpList_append_bytes hgd s x ho wb.heap.size v y l m hs hr.own hx hy hr.b.size hlen fun v' w' h1 h2 _ => h v' w' ⟨h1, ownb_below hr.own h2 hr.b hr.b.size⟩
/-- The row grew, and lies where it lay or in a block that was made then. -/
def Grew (w : World) (v : Value) (w' : World) (v' : Value) : Prop := w.grownBy w' v.ownBlock ∧ (v'.ownBlock = v.ownBlock ∨ v'.ownBlock = some w.heap.size)
/-- Another row's block is not this one. -/
def Apart (v u : Value) : Prop := ∀ k, v.ownBlock = some k → u.ownBlock ≠ some k
theorem Grew.kept {w w' : World} {v v' u : Value} {e : TypeId} {B : Nat} {cs : List Value} (h : Grew w v w' v') (ha : Apart v u) (hu : OwnV e w B u cs) : OwnV e w' B u cs ∧ Apart v' u := by
  refine ⟨hu.kept h.1 ?_, fun k hk hq => ?_⟩
  · cases hq : u.ownBlock with
    | none => exact Or.inl rfl
    | some k => exact Or.inr fun e => ha k e.symm hq
  · rcases h.2 with hb | hb
    · rw [hb] at hk; exact ha k hk hq
    · rw [hb] at hk
      have := (World.ownsRow.lt hu k hq).2
      simp only [Option.some.injEq] at hk
      omega
theorem wpList_append_grew {wb w : World} {ops : Array Oper} {rest : List Oper} {o : Oper} {a : Act} {Q : Exit → Act → World → Prop} (hgd : o.guard = none) (s x : Operand)
    (ho : o.op = .call { callee := .builtin .append, args := #[s, x], argTypes := #[23, 23] }) (v y : Value) (l m : Bs) (hs : a.eval s = v) (hr : Row wb w v l)
    (hx : a.eval x = y) (hy : BytesAt w y m) (hlen : l.length + m.length ≤ 1073741824)
    (h : ∀ v' w', Row wb w' v' (l ++ m) → Grew w v w' v' → wpList Tryz.prog ops Q rest (a.put o.dst v') w') : wpList Tryz.prog ops Q (o :: rest) a w :=
  wpList_append_bytes hgd s x ho wb.heap.size v y l m hs hr.own hx hy hr.b.size hlen fun v' w' h1 h2 h3 => h v' w' ⟨h1, ownb_below hr.own h2 hr.b hr.b.size⟩ ⟨h2, h3⟩
theorem Grew.bytes {w w' : World} {v v' y : Value} {l : Bs} (h : Grew w v w' v') (ha : Apart v y) (hy : BytesAt w y l) (hl : l ≠ []) : BytesAt w' y l ∧ Apart v' y := by
  have hne : l.map bv ≠ [] := by simpa using hl
  refine ⟨?_, fun k hk hq => ?_⟩
  · obtain ⟨b, o, c, rfl, hc, hb, hcell⟩ := ValsAt.cell hy hne
    refine ⟨_, _, rfl, hc, fun e => (by cases e), fun _ => ⟨b, o, rfl, fun j u hu => ?_⟩⟩
    have hj : j < (l.map bv).length := (List.getElem?_eq_some_iff.1 hu).1
    have h0 := hcell j hj
    have e : w'.cell? ⟨b, o + j, none⟩ = w.cell? ⟨b, o + j, none⟩ := World.cell?_of_block (h.1.block b hb fun e => by
      cases hv : v.ownBlock with
      | none => rw [hv] at e; cases e
      | some k => rw [hv] at e; simp only [Option.some.injEq] at e; exact ha k hv (by simp [Value.ownBlock, e]))
    rw [e, h0, ← hu, List.getD_eq_getElem?_getD, List.getElem?_eq_getElem hj]
    rfl
  · rcases h.2 with hb | hb
    · rw [hb] at hk; exact ha k hk hq
    · rw [hb] at hk
      have := ValsAt.old hy hne k hq
      simp only [Option.some.injEq] at hk
      omega
/-- The same as a step of a region that draws. -/
theorem step_append_row {wb w : World} {ops : Array Oper} {o : Oper} {a : Act} {K : Act → World → Prop} {Q : Exit → Act → World → Prop} {E : Prop} (hgd : o.guard = none) (s x : Operand)
    (ho : o.op = .call { callee := .builtin .append, args := #[s, x], argTypes := #[23, 23] }) (v y : Value) (l m : Bs) (hs : a.eval s = v) (hr : Row wb w v l)
    (hx : a.eval x = y) (hy : BytesAt w y m) (hlen : l.length + m.length ≤ 1073741824)
    (h : ∀ v' w', Row wb w' v' (l ++ m) → Grew w v w' v' → K (a.put o.dst v') w') : if Region.wanted o (yielded ops a.tmps) = true then Oper.wp Tryz.prog o a w K Q else E := by
  have hw : Region.wanted o (yielded ops a.tmps) = true := by simp [Region.wanted, hgd]
  rw [if_pos hw]
  obtain ⟨v', w', hrun, h2, h3, h4⟩ := run_append_vals Eb w wb.heap.size v y (l.map bv) (m.map bv) hr.own hy (one_bytes m) hr.b.size (by simpa using hlen) o.type
  unfold Oper.wp execOp
  simp only [ho, resolve, invoke, builtin, Sem.run_bind, Sem.run_pure, Result.andThen_ok, List.map_toArray, List.map_cons, List.map_nil, hs, hx, hrun]
  exact h v' w' ⟨by unfold OwnB; rw [List.map_append]; exact h2, ownb_below hr.own h3 hr.b hr.b.size⟩ ⟨h3, h4⟩
/-- The call gives these bytes, in new memory. -/
def GivesB (w : World) (f : FuncId) (args : Array Value) (l : Bs) : Prop :=
  Calls Tryz.prog f args w fun e w' => ∃ v, e = .returned v ∧ Row w w' v l
end Go.Proofs.YtbjgknoipbekoaaGreat
namespace Go.Proofs.YtbjgknoipbekoaaGreat
open Go.ChangeShapes Go.WideShapes Go.ChangeAt Go.RowKit
theorem own : ownKnob Tryz.prog.godebug = none := by kernel_rfl
theorem laidOut : laidOutB Tryz.prog = true := by kernel_rfl
theorem ib_ofInt (z : Int) (h : (Lit.int .u8 z).wf = true) : ((UInt8.ofNat z.toNat).toNat : Int) = z := by
  have hb := bounds_u8 h
  rw [UInt8.toNat_ofNat']
  omega
/-- WHAT A READING OF A SLICE OF BYTES GIVES. -/
theorem bytes_arg {H : Type} {enc : TypeId × Value → H} {W : World} {a : Option Addr} {len cap : Nat} {fuel : Nat} {x : DataW H × List MemPlace}
    (hf : DataW.trod enc Tryz.prog W 0 (fun _ => true) true fuel 23 (Value.slice a len cap).cells.toList = some x) : ∃ l : Bs, BytesAt W (.slice a len cap) l := by
  rcases open_ints Tryz.underlying23 Tryz.underlying5 (by kernel_rfl) hf with ⟨hcs, _⟩ | ⟨y, l, c, zs, hcs, _, hl, hm, hz, _, hcell, hwz⟩
  · simp [Value.cells] at hcs
    obtain ⟨rfl, rfl, rfl⟩ := hcs
    exact ⟨[], vals_nil _⟩
  · simp [Value.cells] at hcs
    obtain ⟨rfl, rfl, rfl⟩ := hcs
    have hz' : zs.length = cap := by simpa using hz
    have hll : ((zs.take len).map fun z => UInt8.ofNat z.toNat).length = len := by simp; omega
    have hlv : (((zs.take len).map fun z => UInt8.ofNat z.toNat).map bv).length = len := by rw [List.length_map, hll]
    refine ⟨(zs.take len).map fun z => UInt8.ofNat z.toNat, some y, cap, by rw [hlv], by rw [hlv]; exact hl, fun h => (by cases h), fun hne => ?_⟩
    have hpos : 0 < len := by
      rcases Nat.eq_zero_or_pos len with h | h
      · subst h; simp at hne
      · exact h
    have c0 := hcell 0 (by omega)
    obtain ⟨b, o, s⟩ := y
    have hs : s = none := by
      cases s with
      | none => rfl
      | some k => simp [Addr.add, World.cell?] at c0; split at c0 <;> simp at c0
    subst hs
    refine ⟨b, o, rfl, fun j v hv => ?_⟩
    have hj : j < len := by
      have := (List.getElem?_eq_some_iff.1 hv).1
      rw [hlv] at this; exact this
    have hc := hcell j (by omega)
    rw [Addr.add_mid] at hc
    rw [hc]
    rw [List.getElem?_map, List.getElem?_map, List.getElem?_take, if_pos hj] at hv
    have hjz : j < zs.length := by omega
    rw [List.getElem?_eq_getElem hjz] at hv
    simp only [Option.map_some, Option.some.injEq] at hv
    rw [← hv]
    unfold bv
    rw [ib_ofInt _ (hwz _ (List.getElem_mem hjz)), List.getD_eq_getElem?_getD, List.getElem?_eq_getElem hjz]
    rfl
end Go.Proofs.YtbjgknoipbekoaaGreat
namespace Go.Proofs.YtbjgknoipbekoaaGreat
open Go.RowKit
/-- All blocks but those of S are as they were. -/
structure Aside (S : Nat → Prop) (w w' : World) : Prop where
  os : w'.os = w.os
  tape : w'.tape = w.tape
  output : w'.output = w.output
  size : w.heap.size ≤ w'.heap.size
  block : ∀ k, k < w.heap.size → ¬ S k → w'.heap[k]? = w.heap[k]?
abbrev Set_ := Nat → Prop
def none_ : Set_ := fun _ => False
theorem Aside.refl (S : Set_) (w : World) : Aside S w w := ⟨rfl, rfl, rfl, Nat.le_refl _, fun _ _ _ => rfl⟩
theorem Aside.mono {S T : Set_} {a b : World} (h : Aside S a b) (hs : ∀ k, k < a.heap.size → S k → T k) : Aside T a b := ⟨h.os, h.tape, h.output, h.size, fun k hk hn => h.block k hk fun hS => hn (hs k hk hS)⟩
theorem Aside.trans {S T : Set_} {a b c : World} (h : Aside S a b) (k : Aside T b c) (hT : ∀ i, i < a.heap.size → T i → S i) : Aside S a c :=
  ⟨k.os.trans h.os, k.tape.trans h.tape, k.output.trans h.output, Nat.le_trans h.size k.size, fun i hi hn => (k.block i (Nat.lt_of_lt_of_le hi h.size) fun hc => hn (hT i hi hc)).trans (h.block i hi hn)⟩
theorem Aside.drew {S : Set_} {a b : World} (h : Aside S a b) : Aside S a b.drew := ⟨h.os, h.tape, h.output, h.size, h.block⟩
theorem Aside.of_below {S : Set_} {a b : World} (h : Below a.heap.size a b) : Aside S a b := ⟨h.os, h.tape, h.output, h.size, fun k hk _ => h.block k hk⟩
theorem Aside.of_grown {S : Set_} {a b : World} {row : Option Nat} (h : a.grownBy b row) (hr : ∀ k, row = some k → S k) : Aside S a b := ⟨h.os, h.tape, h.output, h.size, fun k hk hn => h.block k hk fun e => hn (hr k e.symm)⟩
theorem Aside.below {S : Set_} {a b : World} {B : Nat} (h : Aside S a b) (hB : B ≤ a.heap.size) (hs : ∀ k, S k → B ≤ k) : Below B a b := ⟨h.os, h.tape, h.output, h.size, fun k hk => h.block k (by omega) fun hS => by have := hs k hS; omega⟩
theorem Aside.alloc {S : Set_} {a b : World} (h : Aside S a b) (o : Obj) : Aside S a (b.alloc o) := h.trans (T := S) (Aside.of_below ((Below.refl _ _).alloc (Nat.le_refl _) _)) (fun _ _ h => h)
theorem Aside.setCell {S : Set_} {a b : World} (h : Aside S a b) (x : Addr) (v : Value) (hx : a.heap.size ≤ x.block ∨ S x.block) : Aside S a (b.setCell x v) := by
  refine ⟨h.os, h.tape, h.output, by rw [World.size_setCell]; exact h.size, fun k hk hn => ?_⟩
  have hne : k ≠ x.block := by
    intro e
    rcases hx with hx | hx
    · omega
    · exact hn (e ▸ hx)
  rw [heap_setCell_other _ _ _ _ hne]
  exact h.block k hk hn
theorem ValsAt.aside {S : Set_} {a b : World} {x : Value} {cs : List Value} (h : ValsAt a x cs) (hb : Aside S a b) (hx : ∀ k, x.ownBlock = some k → ¬ S k) : ValsAt b x cs := by
  obtain ⟨sp, c, rfl, h1, h2, h3⟩ := h
  refine ⟨sp, c, rfl, h1, h2, fun hl => ?_⟩
  obtain ⟨bb, o, rfl, hr⟩ := h3 hl
  refine ⟨bb, o, rfl, fun j v hv => ?_⟩
  have h0 := hr j v hv
  rw [World.cell?_of_block (hb.block bb (World.block_lt_of_cell? a _ h0) (hx bb (by simp [Value.ownBlock])))]; exact h0
theorem ValsAt.beside {S : Set_} {a b : World} {x : Value} {cs : List Value} (h : ValsAt a x cs) (hb : Aside S a b) (hx : cs ≠ [] → ∀ k, x.ownBlock = some k → ¬ S k) : ValsAt b x cs := by
  by_cases hne : cs = []
  · obtain ⟨sp, c, rfl, h1, h2, _⟩ := h
    exact ⟨sp, c, rfl, h1, h2, fun hl => absurd hne hl⟩
  · exact h.aside hb (hx hne)
theorem BytesAt.aside {S : Set_} {a b : World} {x : Value} {l : Bs} (h : BytesAt a x l) (hb : Aside S a b) (hx : ∀ k, x.ownBlock = some k → ¬ S k) : BytesAt b x l := ValsAt.aside h hb hx
theorem OwnV.aside {S : Set_} {e : TypeId} {a b : World} {B : Nat} {v : Value} {cs : List Value} (h : OwnV e a B v cs) (hb : Aside S a b) (hx : ∀ k, v.ownBlock = some k → ¬ S k) : OwnV e b B v cs := by
  obtain ⟨h1, h2⟩ := h
  refine ⟨h1, ?_⟩
  rcases h2 with h2 | ⟨n, cap, cur, hv, hn, hh, r⟩
  · exact Or.inl h2
  · exact Or.inr ⟨n, cap, cur, hv, hn, by rw [hb.block _ (Array.getElem?_eq_some_iff.1 hh).1 (hx n (by rw [hv]; rfl))]; exact hh, r⟩
theorem cell_aside {S : Set_} {a b : World} {A k : Nat} {v : Value} (h : a.cell? ⟨A, k, none⟩ = some v) (hb : Aside S a b) (hA : ¬ S A) : b.cell? ⟨A, k, none⟩ = some v := by
  rw [World.cell?_of_block (hb.block A (World.block_lt_of_cell? a _ h) hA)]; exact h
end Go.Proofs.YtbjgknoipbekoaaGreat
namespace Go.Proofs.YtbjgknoipbekoaaGreat
open Go.RowKit
/-- A row of bytes of the call's own, in a block of whatever type. -/
def OwnA (w : World) (base : Nat) (v : Value) (l : Bs) : Prop := ∃ e, OwnV e w base v (l.map bv)
theorem OwnB.any {w : World} {base : Nat} {v : Value} {l : Bs} (h : OwnB w base v l) : OwnA w base v l := ⟨5, h⟩
theorem OwnA.bytes {w : World} {base : Nat} {v : Value} {l : Bs} (h : OwnA w base v l) : BytesAt w v l := by obtain ⟨e, h⟩ := h; exact OwnV.vals h
theorem OwnA.below {a b : World} {B : Nat} {v : Value} {l : Bs} (h : OwnA a B v l) (hb : Below a.heap.size a b) : OwnA b B v l := by obtain ⟨e, h⟩ := h; exact ⟨e, OwnV.below h hb⟩
theorem OwnA.mono {w : World} {B B' : Nat} {v : Value} {l : Bs} (h : OwnA w B v l) (hB : B' ≤ B) : OwnA w B' v l := by obtain ⟨e, h⟩ := h; exact ⟨e, OwnV.mono h hB⟩
theorem OwnA.form {w : World} {B : Nat} {v : Value} {l : Bs} (h : OwnA w B v l) : ∃ sp c, v = .slice sp l.length c := by
  obtain ⟨e, h⟩ := h
  obtain ⟨sp, c, e⟩ := OwnV.form h
  rw [List.length_map] at e
  exact ⟨sp, c, e⟩
/-- A plate in memory: S the blocks that its calls may write, R those that they only read. -/
structure Plate (PAt : Set_ → Set_ → World → Value → PS → Prop) : Prop where
  ptr : ∀ {S R w p s}, PAt S R w p s → ∃ a, p = .pointer (some a)
  ok : ∀ {S R w p s}, PAt S R w p s → s.Ok
  old : ∀ {S R w p s}, PAt S R w p s → ∀ k, S k ∨ R k → k < w.heap.size
  apart : ∀ {S R w p s}, PAt S R w p s → ∀ k, S k → ¬ R k
  kept : ∀ {S R T w w' p s}, PAt S R w p s → Aside T w w' → (∀ k, T k → ¬ S k ∧ ¬ R k) → PAt S R w' p s
  new_yes : ∀ (w : World) (n : Nat), 8 ≤ n → n ≤ 16384 → Calls Tryz.prog 9 #[.int .i64 (n : Int)] w fun e w' => ∃ p, e = .returned p ∧ ∃ S R, PAt S R w' p (newS n) ∧ (∀ k, S k ∨ R k → w.heap.size ≤ k) ∧ Below w.heap.size w w'
  new_no : ∀ (w : World) (n : Int), n < 8 ∨ 16384 < n → Calls Tryz.prog 9 #[.int .i64 n] w fun e w' => e = .returned (.pointer none) ∧ Below w.heap.size w w'
  sectors : ∀ {S R w p s}, PAt S R w p s → Calls Tryz.prog 99 #[p] w fun e w' => e = .returned (.int .i64 (s.safe.length : Int)) ∧ Below w.heap.size w w'
  loose : ∀ {S R w p s}, PAt S R w p s → Calls Tryz.prog 22 #[p] w fun e w' => e = .returned (.int .i64 (s.loose.length : Int)) ∧ Below w.heap.size w w'
  write : ∀ {S R w p s} (a : Int) (x : Value) (b : Bs), PAt S R w p s → BytesAt w x b → (b ≠ [] → ∀ k, x.ownBlock = some k → ¬ S k) → b.length ≤ 1000000 → s.loose.length ≤ 100000 → -9223372036854775808 ≤ a → a ≤ 9223372036854775807 →
    Calls Tryz.prog 93 #[p, .int .i64 a, x] w fun e w' => e = .returned (.int .i64 (writeE s a b)) ∧ ∃ S' R', PAt S' R' w' p (writeS s a b) ∧ (∀ k, S' k → S k ∨ w.heap.size ≤ k) ∧ (∀ k, R' k → R k ∨ w.heap.size ≤ k) ∧ Aside S w w'
  read : ∀ {S R w p s} (a : Int), PAt S R w p s → s.loose.length ≤ 100000 → -9223372036854775808 ≤ a → a ≤ 9223372036854775807 →
    Calls Tryz.prog 28 #[p, .int .i64 a] w fun e w' => ∃ v, e = .returned (.tuple #[v, .int .i64 (readE s a)]) ∧ OwnA w' w.heap.size v (readB s a) ∧ Below w.heap.size w w'
  sync : ∀ {S R w p s}, PAt S R w p s → s.loose.length ≤ 100000 →
    Calls Tryz.prog 94 #[p] w fun e w' => e = .returned (.int .i64 (syncE s)) ∧ ∃ S' R', PAt S' R' w' p (syncS s) ∧ (∀ k, S' k → S k ∨ w.heap.size ≤ k) ∧ (∀ k, R' k → R k ∨ w.heap.size ≤ k) ∧ Aside S w w'
  arm : ∀ {S R w p s} (n : Int), PAt S R w p s → -9223372036854775808 ≤ n → n ≤ 9223372036854775807 →
    Calls Tryz.prog 23 #[p, .int .i64 n] w fun e w' => e = .returned (.tuple #[]) ∧ ∃ S' R', PAt S' R' w' p (armS s n) ∧ (∀ k, S' k → S k ∨ w.heap.size ≤ k) ∧ (∀ k, R' k → R k ∨ w.heap.size ≤ k) ∧ Aside S w w'
  revive : ∀ {S R w p s} (x : Value) (keep : List Bool), PAt S R w p s → ValsAt w x (keep.map .bool) → (keep ≠ [] → ∀ k, x.ownBlock = some k → ¬ S k) → s.loose.length ≤ 100000 →
    Calls Tryz.prog 24 #[p, x] w fun e w' => e = .returned (.tuple #[]) ∧ ∃ S' R', PAt S' R' w' p (reviveS s keep) ∧ (∀ k, S' k → S k ∨ w.heap.size ≤ k) ∧ (∀ k, R' k → R k ∨ w.heap.size ≤ k) ∧ Aside S w w'
end Go.Proofs.YtbjgknoipbekoaaGreat
