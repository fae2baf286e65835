/-
  Rows of values of m cells each, over any program: append of one.
-/
import Derived.Test.YtbblhogdfdpipaaAs17
namespace Go.Proofs.Ytbblhogdfdpipaa
open Go.RowKit
/-- Cells one behind the other. -/
def CellsAt (w : World) (g o : Nat) (cs : List Value) : Prop := ∀ (j : Nat) (u : Value), cs[j]? = some u → w.cell? ⟨g, o + j, none⟩ = some u
section
variable {P : Program}
/-- A type of slices whose elements have m cells, of by_ bytes. -/
structure ElemN (P : Program) (t e : TypeId) (z : Value) (m by_ : Nat) : Prop where
  under : P.underlying t = some (.slice e)
  info : ∃ i, P.info? e = some i ∧ i.zero = some z ∧ i.size = m ∧ i.bytes = by_
  cells : z.cells.size = m
  mpos : 0 < m
  pos : 0 < by_
  small : by_ ≤ 1024
/-- A row of values of the call's own. -/
def OwnN (e : TypeId) (m : Nat) (w : World) (base : Nat) (v : Value) (n : Nat) (xs : List Value) : Prop := w.ownsRow base e m v n xs
theorem run_append_one {t e : TypeId} {z : Value} {m by_ : Nat} (E : ElemN P t e z m by_) (w : World) (base : Nat) (v : Value) (n : Nat) (xs ds : List Value) (hown : OwnN e m w base v n xs) (ga go c : Nat) (hds : ds.length = m) (hy : CellsAt w ga go ds) (h1 : ∀ u ∈ ds, u.oneCell' = true) (hb : base ≤ w.heap.size) (hlen : n ≤ 1073741824) (ty : TypeId) :
    ∃ v' w', (Builtin.append_ #[t, t] ty #[v, .slice (some ⟨ga, go, none⟩) 1 c]).run P w = .ok v' w' ∧ OwnN e m w' base v' (n + 1) (xs ++ ds) ∧ w.grownBy w' v.ownBlock ∧ (v'.ownBlock = v.ownBlock ∨ v'.ownBlock = some w.heap.size) := by
  obtain ⟨hu, ⟨i, hi, hz, hsz, hby⟩, hfive, hmpos, hpos, hsm⟩ := E
  have hbb : (n + 1) * i.bytes ≤ 140737488355328 := by
    rw [hby]
    have := Nat.mul_le_mul (show n + 1 ≤ 1073741825 by omega) hsm
    omega
  have hn : ∀ j u, ds[j]? = some u → w.cell? ((⟨ga, go, none⟩ : Addr).add j) = some u := by
    intro j u hu
    rw [Addr.add_mid]; exact hy j u hu
  have hl5 : ds.length = 1 * m := by omega
  obtain ⟨v', w', hr, h2, h3, _⟩ := run_append_own (P := P) w base t ty e i z m by_ hu hi hz hsz hby hfive (by omega) v n xs hown ⟨ga, go, none⟩ 1 c ds hl5 hn h1 (by simp only [maxLen]; omega) (by rw [← hby]; exact hbb) hb
  refine ⟨v', w', hr, h2, h3, ?_⟩
  have hl5i : ds.length = 1 * i.size := by rw [hsz]; omega
  have hown' := hown
  rcases hown'.2 with ⟨rfl, rfl⟩ | ⟨g, cap, cur, rfl, hbg, hg, hnc, hcm, hcs, htake⟩
  · have hr2 := run_append_nil (P := P) w t ty e i z hu hi hz ⟨ga, go, none⟩ 1 c ds hl5i hn (by omega) (by omega) (by rw [hby]; omega)
    rw [hr] at hr2
    have := (Result.ok.inj hr2).1
    subst this
    exact Or.inr rfl
  · by_cases hroom : n + 1 ≤ cap
    · have hr2 := run_append_room (P := P) w t ty e i hu hi g n cap cur hg ⟨ga, go, none⟩ 1 c ds hl5i hn h1 hroom (by rw [hsz, hcs, hl5, ← Nat.add_mul]; exact Nat.mul_le_mul_right _ hroom)
      rw [hr] at hr2
      have := (Result.ok.inj hr2).1
      subst this
      exact Or.inl rfl
    · have holds : ∀ j u, xs[j]? = some u → w.cell? ((⟨g, 0, none⟩ : Addr).add j) = some u := World.ownsRow.cells hown (g := g) rfl
      have hr2 := run_append_grow (P := P) w t ty e i z hu hi hz ⟨g, 0, none⟩ n cap xs (by rw [hsz]; exact hown.1) holds ⟨ga, go, none⟩ 1 c ds hl5i hn (by omega) (by omega) (growslice_fits (by omega) hbb)
      rw [hr] at hr2
      have := (Result.ok.inj hr2).1
      subst this
      exact Or.inr rfl
/-- As a step of a region that draws. -/
theorem step_append_one {t e : TypeId} {z : Value} {m by_ : Nat} (E : ElemN P t e z m by_) {w : World} {ops : Array Oper} {o : Oper} {a : Act} {K : Act → World → Prop} {Q : Exit → Act → World → Prop} {F : Prop} (hgd : o.guard = none) (s x : Operand)
    (ho : o.op = .call { callee := .builtin .append, args := #[s, x], argTypes := #[t, t] }) (base : Nat) (v : Value) (n : Nat) (xs ds : List Value) (hs : a.eval s = v) (hown : OwnN e m w base v n xs) (ga go c : Nat)
    (hx : a.eval x = .slice (some ⟨ga, go, none⟩) 1 c) (hds : ds.length = m) (hy : CellsAt w ga go ds) (h1 : ∀ u ∈ ds, u.oneCell' = true) (hb : base ≤ w.heap.size) (hlen : n ≤ 1073741824)
    (h : ∀ v' w', OwnN e m w' base v' (n + 1) (xs ++ ds) → w.grownBy w' v.ownBlock → (v'.ownBlock = v.ownBlock ∨ v'.ownBlock = some w.heap.size) → K (a.put o.dst v') w') : if Region.wanted o (yielded ops a.tmps) = true then Oper.wp P o a w K Q else F := by
  have hw : Region.wanted o (yielded ops a.tmps) = true := by simp [Region.wanted, hgd]
  rw [if_pos hw]
  obtain ⟨v', w', hrun, h2, h3, h4⟩ := run_append_one E w base v n xs ds hown ga go c hds hy h1 hb hlen o.type
  unfold Oper.wp execOp
  simp only [ho, resolve, invoke, builtin, Sem.run_bind, Sem.run_pure, Result.andThen_ok, List.map_toArray, List.map_cons, List.map_nil, hs, hx, hrun]
  exact h v' w' h2 h3 h4
end
theorem ownn_nil (e : TypeId) (m : Nat) (w : World) (base : Nat) : OwnN e m w base (.slice none 0 0) 0 [] := World.ownsRow_nil w base e m
theorem OwnN.form {e : TypeId} {m : Nat} {w : World} {base : Nat} {v : Value} {n : Nat} {xs : List Value} (h : OwnN e m w base v n xs) : ∃ sp c, v = .slice sp n c ∧ n ≤ c ∧ (sp = none → c = 0) := by
  rcases h.2 with ⟨rfl, rfl⟩ | ⟨g, cap, cur, rfl, _, _, hn, _⟩
  · exact ⟨none, 0, rfl, Nat.le_refl _, fun _ => rfl⟩
  · exact ⟨_, cap, rfl, hn, fun e => by cases e⟩
/-- Such a row lies in a block. -/
theorem OwnN.at {e : TypeId} {m : Nat} {w : World} {base : Nat} {v : Value} {n : Nat} {xs : List Value} (h : OwnN e m w base v n xs) (hn : 0 < n) : ∃ g c, v = .slice (some ⟨g, 0, none⟩) n c ∧ base ≤ g ∧ g < w.heap.size ∧ n ≤ c ∧ CellsAt w g 0 xs := by
  rcases h.2 with ⟨rfl, rfl⟩ | ⟨g, cap, cur, rfl, hb, hg, hnc, _⟩
  · omega
  · refine ⟨g, cap, rfl, hb, (Array.getElem?_eq_some_iff.1 hg).1, hnc, fun j u hu => ?_⟩
    have := World.ownsRow.cells h (g := g) rfl j u hu
    rw [Addr.add_mid] at this
    exact this
theorem OwnN.below {e : TypeId} {m : Nat} {a b : World} {B : Nat} {v : Value} {n : Nat} {xs : List Value} (h : OwnN e m a B v n xs) (hb : Below a.heap.size a b) : OwnN e m b B v n xs := by
  refine ⟨h.1, ?_⟩
  rcases h.2 with h2 | ⟨g, cap, cur, hv, hB, hg, r⟩
  · exact Or.inl h2
  · exact Or.inr ⟨g, cap, cur, hv, hB, by rw [hb.block g (Array.getElem?_eq_some_iff.1 hg).1]; exact hg, r⟩
theorem OwnN.aside {S : Set_} {e : TypeId} {m : Nat} {a b : World} {B : Nat} {v : Value} {n : Nat} {xs : List Value} (h : OwnN e m a B v n xs) (hb : Aside S a b) (hx : ∀ k, v.ownBlock = some k → ¬ S k) : OwnN e m b B v n xs := by
  refine ⟨h.1, ?_⟩
  rcases h.2 with h2 | ⟨g, cap, cur, hv, hB, hgg, r⟩
  · exact Or.inl h2
  · exact Or.inr ⟨g, cap, cur, hv, hB, by rw [hb.block g (Array.getElem?_eq_some_iff.1 hgg).1 (hx g (by rw [hv]; rfl))]; exact hgg, r⟩
theorem OwnN.kept {e : TypeId} {m : Nat} {a b : World} {B : Nat} {v : Value} {n : Nat} {xs : List Value} {row : Option Nat} (h : OwnN e m a B v n xs) (hg : a.grownBy b row) (hne : ∀ g, v.ownBlock = some g → row ≠ some g) : OwnN e m b B v n xs := by
  refine ⟨h.1, ?_⟩
  rcases h.2 with h2 | ⟨g, cap, cur, hv, hB, hgg, r⟩
  · exact Or.inl h2
  · exact Or.inr ⟨g, cap, cur, hv, hB, by rw [hg.block g (Array.getElem?_eq_some_iff.1 hgg).1 (fun er => hne g (by rw [hv]; rfl) er.symm)]; exact hgg, r⟩
theorem OwnN.lt {e : TypeId} {m : Nat} {w : World} {B : Nat} {v : Value} {n : Nat} {xs : List Value} (h : OwnN e m w B v n xs) : ∀ k, v.ownBlock = some k → B ≤ k ∧ k < w.heap.size := World.ownsRow.lt h
theorem elemN_of {t e : TypeId} {z : Value} {m n : Nat} (hu : Try.prog.underlying t = some (.slice e)) (h : (Try.prog.info? e).map (fun i => (i.zero, i.size, i.bytes)) = some (some z, m, n)) (h1 : z.cells.size = m) (hm : 0 < m) (h0 : 0 < n) (hn : n ≤ 1024) : ElemN Try.prog t e z m n := by
  obtain ⟨i, hi, h2⟩ := Option.map_eq_some_iff.1 h
  simp only [Prod.mk.injEq] at h2
  exact ⟨hu, ⟨i, hi, h2.1, h2.2.1, h2.2.2⟩, h1, hm, h0, hn⟩
end Go.Proofs.Ytbblhogdfdpipaa
