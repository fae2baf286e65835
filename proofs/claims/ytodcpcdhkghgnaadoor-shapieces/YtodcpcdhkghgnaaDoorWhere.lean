/-
  An append to a row of the call's own, with where the row lies behind it: in its own block, or in a new one.
-/
import Derived.Test.YtodcpcdhkghgnaaDoorRefMac
namespace Go.Proofs.YtodcpcdhkghgnaaDoor
open Go.RowKit
theorem run_append_where (w : World) (base : Nat) (v y : Value) (l m : List UInt8) (hown : OwnB w base v l) (hy : BytesAt w y m) (hb : base ≤ w.heap.size) (hlen : l.length + m.length ≤ 1073741824) (ty : TypeId) :
    ∃ v' w', (Builtin.append_ #[22, 22] ty #[v, y]).run Tryd.prog w = .ok v' w' ∧ OwnB w' base v' (l ++ m) ∧ w.grownBy w' v.ownBlock ∧ (v'.ownBlock = v.ownBlock ∨ v'.ownBlock = some w.heap.size) := by
  obtain ⟨i, hi, hz, hsz, hby⟩ := info5
  obtain ⟨sp, c, rfl, hc1, hc2, hc3⟩ := hy
  cases sp with
  | none =>
    have hm : m = [] := by
      rcases List.eq_nil_or_concat m with h | ⟨r, u, rfl⟩
      · exact h
      · obtain ⟨b, o, e, _⟩ := hc3 (by simp); cases e
    subst hm
    obtain rfl := hc2 rfl
    have hr := run_append_owned_none (P := Tryd.prog) w base 22 ty 5 i 1 Tryd.underlying22 hi v l.length (l.map bv) hown
    exact ⟨v, w, hr, by rw [List.append_nil]; exact hown, World.grownBy.refl _ _, Or.inl rfl⟩
  | some ad =>
    have hn : ∀ j u, (m.map bv)[j]? = some u → w.cell? (ad.add j) = some u := by
      intro j u hu
      have hne : m ≠ [] := by rintro rfl; simp at hu
      obtain ⟨b, o, e, hr⟩ := hc3 hne
      cases e
      rw [Addr.add_mid]; exact hr j u hu
    obtain ⟨v', w', hr, h1, h2, _⟩ := run_append_own (P := Tryd.prog) w base 22 ty 5 i (.int .u8 0) 1 1 Tryd.underlying22 hi hz hsz hby rfl (by omega) v l.length (l.map bv) hown ad m.length c (m.map bv) (by simp) hn (one_bytes m) (by simp only [maxLen]; omega) (by omega) hb
    refine ⟨v', w', hr, ?_, h2, ?_⟩
    · show w'.ownsRow base 5 1 v' (l ++ m).length ((l ++ m).map bv)
      rw [List.length_append, List.map_append]; exact h1
    · have hown' := hown
      rcases hown'.2 with ⟨rfl, hl0⟩ | ⟨g, cap, cur, rfl, hbg, hg, hnc, hcm, hcs, htake⟩
      · by_cases hm : m.length = 0
        · rcases h1.2 with ⟨rfl, _⟩ | ⟨g', cap', cur', rfl, _⟩
          · exact Or.inl rfl
          · exfalso
            have hm' : m = [] := List.eq_nil_of_length_eq_zero hm
            subst hm'
            simp [Builtin.append_, run_underlying Tryd.underlying22, sizeOf, typeInfo, hi, Builtin.lenOf, Builtin.firstCells, loadCells, loadCellsFrom] at hr
        · have hr2 := run_append_nil (P := Tryd.prog) w 22 ty 5 i (.int .u8 0) Tryd.underlying22 hi hz ad m.length c (m.map bv) (by rw [hsz]; simp) hn (by omega) (by omega) (by rw [hby]; omega)
          rw [hr] at hr2
          have := (Result.ok.inj hr2).1
          subst this
          exact Or.inr rfl
      · by_cases hroom : l.length + m.length ≤ cap
        · have hr2 := run_append_room (P := Tryd.prog) w 22 ty 5 i Tryd.underlying22 hi g l.length cap cur hg ad m.length c (m.map bv) (by rw [hsz]; simp) hn (one_bytes m) hroom (by rw [hsz, hcs, List.length_map]; omega)
          rw [hr] at hr2
          have := (Result.ok.inj hr2).1
          subst this
          exact Or.inl rfl
        · have holds : ∀ j u, (l.map bv)[j]? = some u → w.cell? ((⟨g, 0, none⟩ : Addr).add j) = some u := hown.cells (g := g) rfl
          have hr2 := run_append_grow (P := Tryd.prog) w 22 ty 5 i (.int .u8 0) Tryd.underlying22 hi hz ⟨g, 0, none⟩ l.length cap (l.map bv) (by rw [hsz]; simp) holds ad m.length c (m.map bv) (by rw [hsz]; simp) hn (by omega) (by omega) (growslice_fits (by omega) (by rw [hby]; omega))
          rw [hr] at hr2
          have := (Result.ok.inj hr2).1
          subst this
          exact Or.inr rfl
theorem wpList_append_where {w : World} {ops : Array Oper} {rest : List Oper} {o : Oper} {a : Act} {Q : Exit → Act → World → Prop} (hgd : o.guard = none) (s x : Operand)
    (ho : o.op = .call { callee := .builtin .append, args := #[s, x], argTypes := #[22, 22] }) (base : Nat) (v y : Value) (l m : List UInt8) (hs : a.eval s = v) (hown : OwnB w base v l)
    (hx : a.eval x = y) (hy : BytesAt w y m) (hb : base ≤ w.heap.size) (hlen : l.length + m.length ≤ 1073741824)
    (h : ∀ v' w', OwnB w' base v' (l ++ m) → w.grownBy w' v.ownBlock → (v'.ownBlock = v.ownBlock ∨ v'.ownBlock = some w.heap.size) → wpList Tryd.prog ops Q rest (a.put o.dst v') w') : wpList Tryd.prog ops Q (o :: rest) a w := by
  obtain ⟨v', w', hr, h1, h2, h3⟩ := run_append_where w base v y l m hown hy hb hlen o.type
  refine wpList_plain hgd fun _ hK => ?_
  unfold Oper.wp execOp
  simp only [ho, resolve, invoke, builtin, Sem.run_bind, Sem.run_pure, Result.andThen_ok, List.map_toArray, List.map_cons, List.map_nil, hs, hx, hr]
  exact hK _ _ (h v' w' h1 h2 h3)
end Go.Proofs.YtodcpcdhkghgnaaDoor
