/-
  Slices of numbers in memory: that a value holds these numbers; that it lies in new memory; what an append and a make of such slices come to.
-/
import Derived.Test.YtfjolaekenmefabRows
import Derived.WalkKit
import Derived.WalkSpells
import Derived.WalkLawsBesides
import Derived.Below
import Derived.Deep.MidRow
import Derived.Maps.RangeWalk
import Derived.Laws.AppendOwn
import Derived.Laws.AppendOwnNone
namespace Go.Proofs.Ytfjolaekenmefab
open Go.RowKit
theorem hide {p : Prop} (h : p) : Hid p := h
theorem unhide {p : Prop} (h : Hid p) : p := h
/-- A number as a value. -/
def nv (x : Int) : Value := .int .i64 x
theorem range_grown {a b : World} {g ba bo : Nat} {cs : List Value} (h : a.rangeAt ba bo cs) (hg : a.grownBy b (some g)) (hne : ba ≠ g) : b.rangeAt ba bo cs := fun j v hv =>
  hg.cell (h j v hv) (by simpa using hne)
theorem grown_setCell {a b : World} {row : Option Nat} (h : a.grownBy b row) (x : Addr) (v : Value) (hg : row = some x.block) : a.grownBy (b.setCell x v) row :=
  ⟨h.os, h.tape, h.output, by rw [World.size_setCell]; exact h.size, fun i hi hne => by rw [heap_setCell_other _ _ _ _ (fun e => hne (by rw [hg, e]))]; exact h.block i hi hne⟩
theorem grown_below {a b c : World} {row : Option Nat} (h : a.grownBy b row) (hb : Below b.heap.size b c) : a.grownBy c row :=
  ⟨hb.os.trans h.os, hb.tape.trans h.tape, hb.output.trans h.output, Nat.le_trans h.size hb.size, fun i hi hne => (hb.block i (Nat.lt_of_lt_of_le hi h.size)).trans (h.block i hi hne)⟩
theorem _root_.Go.World.grownBy.drew {a b : World} {row : Option Nat} (h : a.grownBy b row) : a.grownBy b.drew row := ⟨h.os, h.tape, h.output, h.size, h.block⟩
/-- The value is a slice of numbers that holds l. -/
def IntsAt (w : World) (x : Value) (l : List Int) : Prop :=
  ∃ sp c, x = .slice sp l.length c ∧ l.length ≤ c ∧ (sp = none → c = 0) ∧ (l ≠ [] → ∃ b o, sp = some ⟨b, o, none⟩ ∧ w.rangeAt b o (l.map nv))
/-- It lies from block B on. -/
def Fresh (B : Nat) (x : Value) : Prop := ∀ k, x.ownBlock = some k → B ≤ k
/-- A row of numbers of the call's own. -/
def OwnI (w : World) (base : Nat) (v : Value) (l : List Int) : Prop := w.ownsRow base 3 1 v l.length (l.map nv)
theorem IntsAt.grown {a b : World} {g : Nat} {x : Value} {l : List Int} (h : IntsAt a x l) (hg : a.grownBy b (some g)) (hne : x.ownBlock ≠ some g) : IntsAt b x l := by
  obtain ⟨sp, c, rfl, h1, h2, h3⟩ := h
  refine ⟨sp, c, rfl, h1, h2, fun hl => ?_⟩
  obtain ⟨bb, o, rfl, hr⟩ := h3 hl
  exact ⟨bb, o, rfl, range_grown hr hg (by simpa [Value.ownBlock] using hne)⟩
theorem IntsAt.below {a b : World} {x : Value} {l : List Int} (h : IntsAt a x l) (hb : Below a.heap.size a b) : IntsAt b x l := by
  obtain ⟨sp, c, rfl, h1, h2, h3⟩ := h
  refine ⟨sp, c, rfl, h1, h2, fun hl => ?_⟩
  obtain ⟨bb, o, rfl, hr⟩ := h3 hl
  refine ⟨bb, o, rfl, fun j v hv => ?_⟩
  have h0 := hr j v hv
  rw [hb.cell (World.block_lt_of_cell? a _ h0)]; exact h0
theorem IntsAt.drew {a : World} {x : Value} {l : List Int} (h : IntsAt a x l) : IntsAt a.drew x l := h.below (Below.refl _ _).drew
theorem OwnI.bytes {w : World} {base : Nat} {v : Value} {l : List Int} (h : OwnI w base v l) : IntsAt w v l := by
  obtain ⟨_, h⟩ := h
  rcases h with ⟨rfl, hn⟩ | ⟨g, cap, cur, rfl, hb, hg, hn, hc, hz, ht⟩
  · have : l = [] := List.eq_nil_of_length_eq_zero hn
    subst this
    exact ⟨none, 0, rfl, Nat.le_refl _, fun _ => rfl, fun h => absurd rfl h⟩
  · refine ⟨some ⟨g, 0, none⟩, cap, rfl, hn, fun h => (by cases h), fun _ => ⟨g, 0, rfl, fun j v hv => ?_⟩⟩
    rw [cell_of_row w g _ cur 3 (0, 0) hg, Nat.zero_add]
    rw [← ht, List.getElem?_take] at hv
    split at hv
    · simpa using hv
    · cases hv
theorem OwnI.fresh {w : World} {base : Nat} {v : Value} {l : List Int} (h : OwnI w base v l) : Fresh base v := by
  obtain ⟨_, h⟩ := h
  intro k hk
  rcases h with ⟨rfl, hn⟩ | ⟨g, cap, cur, rfl, hb, _⟩
  · cases hk
  · simp [Value.ownBlock] at hk; omega
theorem info3 : ∃ i, Try.prog.info? 3 = some i ∧ i.zero = some (.int .i64 0) ∧ i.size = 1 ∧ i.bytes = 8 := by
  have h : (Try.prog.info? 3).map (fun i => (i.zero, i.size, i.bytes)) = some (some (.int .i64 0), 1, 8) := by kernel_rfl
  obtain ⟨i, h1, h2⟩ := Option.map_eq_some_iff.1 h
  simp only [Prod.mk.injEq] at h2
  exact ⟨i, h1, h2.1, h2.2.1, h2.2.2⟩
theorem one_ints (l : List Int) : ∀ u ∈ l.map nv, u.oneCell' = true := fun u hu => by obtain ⟨x, _, rfl⟩ := List.mem_map.1 hu; rfl
/-- append to a row of the call's own, of numbers that lie anywhere. -/
theorem wpList_append_bytes {w : World} {ops : Array Oper} {rest : List Oper} {o : Oper} {a : Act} {Q : Exit → Act → World → Prop} (hgd : o.guard = none) (s x : Operand)
    (ho : o.op = .call { callee := .builtin .append, args := #[s, x], argTypes := #[22, 22] }) (base : Nat) (v y : Value) (l m : List Int) (hs : a.eval s = v) (hown : OwnI w base v l)
    (hx : a.eval x = y) (hy : IntsAt w y m) (hb : base ≤ w.heap.size) (hlen : l.length + m.length ≤ 1073741824)
    (h : ∀ v' w', OwnI w' base v' (l ++ m) → w.grownBy w' v.ownBlock → wpList Try.prog ops Q rest (a.put o.dst v') w') : wpList Try.prog ops Q (o :: rest) a w := by
  obtain ⟨i, hi, hz, hsz, hby⟩ := info3
  obtain ⟨sp, c, rfl, hc1, hc2, hc3⟩ := hy
  cases sp with
  | none =>
    have hm : m = [] := by
      rcases List.eq_nil_or_concat m with h | ⟨r, u, rfl⟩
      · exact h
      · obtain ⟨b, o, e, _⟩ := hc3 (by simp); cases e
    subst hm
    obtain rfl := hc2 rfl
    refine wpList_append_own_none hgd s x 22 ho base 3 i 1 Try.underlying22 hi v l.length (l.map nv) hs hown hx ?_
    exact h v w (by rw [List.append_nil]; exact hown) (World.grownBy.refl _ _)
  | some ad =>
    refine wpList_append_own w hgd s x 22 ho base 3 i (.int .i64 0) 1 8 Try.underlying22 hi hz hsz hby rfl (by omega) v l.length (l.map nv) hs hown ad m.length c (m.map nv) hx (by simp) ?_ (one_ints m) (by simp only [maxLen]; omega) (by omega) hb ?_
    · intro j u hu
      have hne : m ≠ [] := by rintro rfl; simp at hu
      obtain ⟨b, o, e, hr⟩ := hc3 hne
      cases e
      rw [Addr.add_mid]; exact hr j u hu
    · intro v' w' h1 h2 _
      refine h v' w' ?_ h2
      show w'.ownsRow base 3 1 v' (l ++ m).length ((l ++ m).map nv)
      rw [List.length_append, List.map_append]; exact h1
theorem Fresh.grown {a b : World} {base : Nat} {v : Value} {l : List Int} {w0 : World} (h : OwnI a base v l) (hg : a.grownBy b v.ownBlock) (hB : Below base w0 a) (hs : base ≤ a.heap.size) : Below base w0 b :=
  hB.grown hg hs (fun k hk => h.fresh k hk)
theorem OwnI.alloc {w : World} {base : Nat} {v : Value} {l : List Int} (h : OwnI w base v l) (o : Obj) : OwnI (w.alloc o) base v l := by
  obtain ⟨h1, h2⟩ := h
  refine ⟨h1, ?_⟩
  rcases h2 with h2 | ⟨g, cap, cur, hv, hb, hg, r⟩
  · exact Or.inl h2
  · exact Or.inr ⟨g, cap, cur, hv, hb, by rw [heap_alloc_old _ _ (Array.getElem?_eq_some_iff.1 hg).1]; exact hg, r⟩
/-- Numbers in a block that has just been laid. -/
theorem ints_new (w : World) (l : List Int) (t : TypeId) (_hl : l ≠ []) : IntsAt (w.alloc (.cells (l.map nv).toArray t)) (.slice (some ⟨w.heap.size, 0, none⟩) l.length l.length) l :=
  ⟨_, _, rfl, Nat.le_refl _, fun h => (by cases h), fun _ => ⟨w.heap.size, 0, rfl, fun j v hv => by
    rw [cell_of_row _ _ _ _ t (0, 0) (heap_alloc_new w _), Nat.zero_add]; simpa using hv⟩⟩
theorem OwnI.drew {w : World} {base : Nat} {v : Value} {l : List Int} (h : OwnI w base v l) : OwnI w.drew base v l := h
theorem OwnI.kept {a b : World} {B : Nat} {v : Value} {l : List Int} {row : Option Nat} (h : OwnI a B v l) (hg : a.grownBy b row) (hne : v.ownBlock = none ∨ v.ownBlock ≠ row) : OwnI b B v l := by
  obtain ⟨h1, h2⟩ := h
  refine ⟨h1, ?_⟩
  rcases h2 with h2 | ⟨n, cap, cur, hv, hb, hh, r⟩
  · exact Or.inl h2
  · refine Or.inr ⟨n, cap, cur, hv, hb, ?_, r⟩
    rw [hg.block _ (Array.getElem?_eq_some_iff.1 hh).1 (by subst hv; rcases hne with h | h; · cases h
                                                           · exact h)]
    exact hh
theorem OwnI.below {a b : World} {B : Nat} {v : Value} {l : List Int} (h : OwnI a B v l) (hb : Below a.heap.size a b) : OwnI b B v l := by
  obtain ⟨h1, h2⟩ := h
  refine ⟨h1, ?_⟩
  rcases h2 with h2 | ⟨n, cap, cur, hv, hn, hh, r⟩
  · exact Or.inl h2
  · exact Or.inr ⟨n, cap, cur, hv, hn, by rw [hb.block _ (Array.getElem?_eq_some_iff.1 hh).1]; exact hh, r⟩
theorem IntsAt.old {w : World} {x : Value} {l : List Int} (h : IntsAt w x l) (hl : l ≠ []) (k : Nat) (hk : x.ownBlock = some k) : k < w.heap.size := by
  obtain ⟨sp, c, rfl, _, _, h3⟩ := h
  obtain ⟨b, o, rfl, hr⟩ := h3 hl
  simp [Value.ownBlock] at hk
  subst hk
  obtain ⟨u, r, rfl⟩ : ∃ u r, l = u :: r := by cases l with | nil => exact absurd rfl hl | cons u r => exact ⟨u, r, rfl⟩
  exact World.block_lt_of_cell? w _ (hr 0 (nv u) rfl)
theorem OwnI.mono {w : World} {B B' : Nat} {v : Value} {l : List Int} (h : OwnI w B v l) (hB : B' ≤ B) : OwnI w B' v l := by
  obtain ⟨h1, h2⟩ := h
  refine ⟨h1, ?_⟩
  rcases h2 with h2 | ⟨g, cap, cur, hv, hb, r⟩
  · exact Or.inl h2
  · exact Or.inr ⟨g, cap, cur, hv, by omega, r⟩
theorem OwnI.form {w : World} {B : Nat} {v : Value} {l : List Int} (h : OwnI w B v l) : ∃ sp c, v = .slice sp l.length c := by
  obtain ⟨sp, c, e, _⟩ := h.bytes
  exact ⟨sp, c, e⟩
theorem OwnI.grown {a b : World} {B g : Nat} {v : Value} {l : List Int} (h : OwnI a B v l) (hg : a.grownBy b (some g)) (hB : g < B) : OwnI b B v l := by
  obtain ⟨h1, h2⟩ := h
  refine ⟨h1, ?_⟩
  rcases h2 with h2 | ⟨n, cap, cur, hv, hb, hh, r⟩
  · exact Or.inl h2
  · exact Or.inr ⟨n, cap, cur, hv, hb, by rw [hg.block _ (Array.getElem?_eq_some_iff.1 hh).1 (by simp; omega)]; exact hh, r⟩
theorem IntsAt.cell {w : World} {x : Value} {l : List Int} (h : IntsAt w x l) (hl : l ≠ []) : ∃ b o c, x = .slice (some ⟨b, o, none⟩) l.length c ∧ l.length ≤ c ∧ ∀ j, j < l.length → w.cell? ⟨b, o + j, none⟩ = some (.int .i64 (l.getD j 0)) := by
  obtain ⟨sp, c, rfl, h1, _, h3⟩ := h
  obtain ⟨b, o, rfl, hr⟩ := h3 hl
  exact ⟨b, o, c, rfl, h1, fun j hj => hr j _ (by simp [nv, List.getD_eq_getElem?_getD, hj])⟩
theorem ints_nil (w : World) : IntsAt w (.slice none 0 0) [] := ⟨none, 0, rfl, Nat.le_refl _, fun _ => rfl, fun h => absurd rfl h⟩
theorem run_append_where (w : World) (base : Nat) (v y : Value) (l m : List Int) (hown : OwnI w base v l) (hy : IntsAt w y m) (hb : base ≤ w.heap.size) (hlen : l.length + m.length ≤ 1073741824) (ty : TypeId) :
    ∃ v' w', (Builtin.append_ #[22, 22] ty #[v, y]).run Try.prog w = .ok v' w' ∧ OwnI w' base v' (l ++ m) ∧ w.grownBy w' v.ownBlock ∧ (v'.ownBlock = v.ownBlock ∨ v'.ownBlock = some w.heap.size) := by
  obtain ⟨i, hi, hz, hsz, hby⟩ := info3
  obtain ⟨sp, c, rfl, hc1, hc2, hc3⟩ := hy
  cases sp with
  | none =>
    have hm : m = [] := by
      rcases List.eq_nil_or_concat m with h | ⟨r, u, rfl⟩
      · exact h
      · obtain ⟨b, o, e, _⟩ := hc3 (by simp); cases e
    subst hm
    obtain rfl := hc2 rfl
    have hr := run_append_owned_none (P := Try.prog) w base 22 ty 3 i 1 Try.underlying22 hi v l.length (l.map nv) hown
    exact ⟨v, w, hr, by rw [List.append_nil]; exact hown, World.grownBy.refl _ _, Or.inl rfl⟩
  | some ad =>
    have hn : ∀ j u, (m.map nv)[j]? = some u → w.cell? (ad.add j) = some u := by
      intro j u hu
      have hne : m ≠ [] := by rintro rfl; simp at hu
      obtain ⟨b, o, e, hr⟩ := hc3 hne
      cases e
      rw [Addr.add_mid]; exact hr j u hu
    obtain ⟨v', w', hr, h1, h2, _⟩ := run_append_own (P := Try.prog) w base 22 ty 3 i (.int .i64 0) 1 8 Try.underlying22 hi hz hsz hby rfl (by omega) v l.length (l.map nv) hown ad m.length c (m.map nv) (by simp) hn (one_ints m) (by simp only [maxLen]; omega) (by omega) hb
    refine ⟨v', w', hr, ?_, h2, ?_⟩
    · show w'.ownsRow base 3 1 v' (l ++ m).length ((l ++ m).map nv)
      rw [List.length_append, List.map_append]; exact h1
    · have hown' := hown
      rcases hown'.2 with ⟨rfl, hl0⟩ | ⟨g, cap, cur, rfl, hbg, hg, hnc, hcm, hcs, htake⟩
      · by_cases hm : m.length = 0
        · rcases h1.2 with ⟨rfl, _⟩ | ⟨g', cap', cur', rfl, _⟩
          · exact Or.inl rfl
          · exfalso
            have hm' : m = [] := List.eq_nil_of_length_eq_zero hm
            subst hm'
            simp [Builtin.append_, run_underlying Try.underlying22, sizeOf, typeInfo, hi, Builtin.lenOf, Builtin.firstCells, loadCells, loadCellsFrom] at hr
        · have hr2 := run_append_nil (P := Try.prog) w 22 ty 3 i (.int .i64 0) Try.underlying22 hi hz ad m.length c (m.map nv) (by rw [hsz]; simp) hn (by omega) (by omega) (by rw [hby]; omega)
          rw [hr] at hr2
          have := (Result.ok.inj hr2).1
          subst this
          exact Or.inr rfl
      · by_cases hroom : l.length + m.length ≤ cap
        · have hr2 := run_append_room (P := Try.prog) w 22 ty 3 i Try.underlying22 hi g l.length cap cur hg ad m.length c (m.map nv) (by rw [hsz]; simp) hn (one_ints m) hroom (by rw [hsz, hcs, List.length_map]; omega)
          rw [hr] at hr2
          have := (Result.ok.inj hr2).1
          subst this
          exact Or.inl rfl
        · have holds : ∀ j u, (l.map nv)[j]? = some u → w.cell? ((⟨g, 0, none⟩ : Addr).add j) = some u := hown.cells (g := g) rfl
          have hr2 := run_append_grow (P := Try.prog) w 22 ty 3 i (.int .i64 0) Try.underlying22 hi hz ⟨g, 0, none⟩ l.length cap (l.map nv) (by rw [hsz]; simp) holds ad m.length c (m.map nv) (by rw [hsz]; simp) hn (by omega) (by omega) (growslice_fits (by omega) (by rw [hby]; omega))
          rw [hr] at hr2
          have := (Result.ok.inj hr2).1
          subst this
          exact Or.inr rfl
theorem wpList_append_where {w : World} {ops : Array Oper} {rest : List Oper} {o : Oper} {a : Act} {Q : Exit → Act → World → Prop} (hgd : o.guard = none) (s x : Operand)
    (ho : o.op = .call { callee := .builtin .append, args := #[s, x], argTypes := #[22, 22] }) (base : Nat) (v y : Value) (l m : List Int) (hs : a.eval s = v) (hown : OwnI w base v l)
    (hx : a.eval x = y) (hy : IntsAt w y m) (hb : base ≤ w.heap.size) (hlen : l.length + m.length ≤ 1073741824)
    (h : ∀ v' w', OwnI w' base v' (l ++ m) → w.grownBy w' v.ownBlock → (v'.ownBlock = v.ownBlock ∨ v'.ownBlock = some w.heap.size) → wpList Try.prog ops Q rest (a.put o.dst v') w') : wpList Try.prog ops Q (o :: rest) a w := by
  obtain ⟨v', w', hr, h1, h2, h3⟩ := run_append_where w base v y l m hown hy hb hlen o.type
  refine wpList_plain hgd fun _ hK => ?_
  unfold Oper.wp execOp
  simp only [ho, resolve, invoke, builtin, Sem.run_bind, Sem.run_pure, Result.andThen_ok, List.map_toArray, List.map_cons, List.map_nil, hs, hx, hr]
  exact hK _ _ (h v' w' h1 h2 h3)
end Go.Proofs.Ytfjolaekenmefab
