/-
  Rows of values of m cells each, over any program: append of one.
  Rows of cells in a block of their own: read, written over.
  Maps of sectors in memory, as functions; what the operations do to them.
  The landed plate: its content's put.
  The landed plate in memory; its small functions, step and New, walked.
  The landed plate's New and Read, walked.
-/
import Derived.Test.YtfpndphfibfdiabQ2
import Derived.MapKept
import Derived.ChangeKeysEq
import Derived.Maps.OwnSet
import Derived.Great.BuildSlice
import Derived.Deep.Cut
import Derived.Laws.CopyOwn
namespace Go.Proofs.Ytfpndphfibfdiab
open Go.RowKit
/-- Cells one behind the other. -/
def CellsAt (w : World) (g o : Nat) (cs : List Value) : Prop := ∀ (j : Nat) (u : Value), cs[j]? = some u → w.cell? ⟨g, o + j, none⟩ = some u
section
variable {P : Program}
/-- A type of slices whose elements have m cells, of by_ bytes. -/
structure ElemN (P : Program) (t e : TypeId) (z : Value) (m by_ : Nat) : Prop where
  under : P.underlying t = some (.slice e)
  info : ∃ i, P.info? e = some i ∧ i.zero = some z ∧ i.size = m ∧ i.bytes = by_
  cells : z.cells.size = m
  mpos : 0 < m
  pos : 0 < by_
  small : by_ ≤ 1024
/-- A row of values of the call's own. -/
def OwnN (e : TypeId) (m : Nat) (w : World) (base : Nat) (v : Value) (n : Nat) (xs : List Value) : Prop := w.ownsRow base e m v n xs
theorem run_append_one {t e : TypeId} {z : Value} {m by_ : Nat} (E : ElemN P t e z m by_) (w : World) (base : Nat) (v : Value) (n : Nat) (xs ds : List Value) (hown : OwnN e m w base v n xs) (ga go c : Nat) (hds : ds.length = m) (hy : CellsAt w ga go ds) (h1 : ∀ u ∈ ds, u.oneCell' = true) (hb : base ≤ w.heap.size) (hlen : n ≤ 1073741824) (ty : TypeId) :
    ∃ v' w', (Builtin.append_ #[t, t] ty #[v, .slice (some ⟨ga, go, none⟩) 1 c]).run P w = .ok v' w' ∧ OwnN e m w' base v' (n + 1) (xs ++ ds) ∧ w.grownBy w' v.ownBlock ∧ (v'.ownBlock = v.ownBlock ∨ v'.ownBlock = some w.heap.size) := by
  obtain ⟨hu, ⟨i, hi, hz, hsz, hby⟩, hfive, hmpos, hpos, hsm⟩ := E
  have hbb : (n + 1) * i.bytes ≤ 140737488355328 := by
    rw [hby]
    have := Nat.mul_le_mul (show n + 1 ≤ 1073741825 by omega) hsm
    omega
  have hn : ∀ j u, ds[j]? = some u → w.cell? ((⟨ga, go, none⟩ : Addr).add j) = some u := by
    intro j u hu
    rw [Addr.add_mid]; exact hy j u hu
  have hl5 : ds.length = 1 * m := by omega
  obtain ⟨v', w', hr, h2, h3, _⟩ := run_append_own (P := P) w base t ty e i z m by_ hu hi hz hsz hby hfive (by omega) v n xs hown ⟨ga, go, none⟩ 1 c ds hl5 hn h1 (by simp only [maxLen]; omega) (by rw [← hby]; exact hbb) hb
  refine ⟨v', w', hr, h2, h3, ?_⟩
  have hl5i : ds.length = 1 * i.size := by rw [hsz]; omega
  have hown' := hown
  rcases hown'.2 with ⟨rfl, rfl⟩ | ⟨g, cap, cur, rfl, hbg, hg, hnc, hcm, hcs, htake⟩
  · have hr2 := run_append_nil (P := P) w t ty e i z hu hi hz ⟨ga, go, none⟩ 1 c ds hl5i hn (by omega) (by omega) (by rw [hby]; omega)
    rw [hr] at hr2
    have := (Result.ok.inj hr2).1
    subst this
    exact Or.inr rfl
  · by_cases hroom : n + 1 ≤ cap
    · have hr2 := run_append_room (P := P) w t ty e i hu hi g n cap cur hg ⟨ga, go, none⟩ 1 c ds hl5i hn h1 hroom (by rw [hsz, hcs, hl5, ← Nat.add_mul]; exact Nat.mul_le_mul_right _ hroom)
      rw [hr] at hr2
      have := (Result.ok.inj hr2).1
      subst this
      exact Or.inl rfl
    · have holds : ∀ j u, xs[j]? = some u → w.cell? ((⟨g, 0, none⟩ : Addr).add j) = some u := World.ownsRow.cells hown (g := g) rfl
      have hr2 := run_append_grow (P := P) w t ty e i z hu hi hz ⟨g, 0, none⟩ n cap xs (by rw [hsz]; exact hown.1) holds ⟨ga, go, none⟩ 1 c ds hl5i hn (by omega) (by omega) (growslice_fits (by omega) hbb)
      rw [hr] at hr2
      have := (Result.ok.inj hr2).1
      subst this
      exact Or.inr rfl
/-- As a step of a region that draws. -/
theorem step_append_one {t e : TypeId} {z : Value} {m by_ : Nat} (E : ElemN P t e z m by_) {w : World} {ops : Array Oper} {o : Oper} {a : Act} {K : Act → World → Prop} {Q : Exit → Act → World → Prop} {F : Prop} (hgd : o.guard = none) (s x : Operand)
    (ho : o.op = .call { callee := .builtin .append, args := #[s, x], argTypes := #[t, t] }) (base : Nat) (v : Value) (n : Nat) (xs ds : List Value) (hs : a.eval s = v) (hown : OwnN e m w base v n xs) (ga go c : Nat)
    (hx : a.eval x = .slice (some ⟨ga, go, none⟩) 1 c) (hds : ds.length = m) (hy : CellsAt w ga go ds) (h1 : ∀ u ∈ ds, u.oneCell' = true) (hb : base ≤ w.heap.size) (hlen : n ≤ 1073741824)
    (h : ∀ v' w', OwnN e m w' base v' (n + 1) (xs ++ ds) → w.grownBy w' v.ownBlock → (v'.ownBlock = v.ownBlock ∨ v'.ownBlock = some w.heap.size) → K (a.put o.dst v') w') : if Region.wanted o (yielded ops a.tmps) = true then Oper.wp P o a w K Q else F := by
  have hw : Region.wanted o (yielded ops a.tmps) = true := by simp [Region.wanted, hgd]
  rw [if_pos hw]
  obtain ⟨v', w', hrun, h2, h3, h4⟩ := run_append_one E w base v n xs ds hown ga go c hds hy h1 hb hlen o.type
  unfold Oper.wp execOp
  simp only [ho, resolve, invoke, builtin, Sem.run_bind, Sem.run_pure, Result.andThen_ok, List.map_toArray, List.map_cons, List.map_nil, hs, hx, hrun]
  exact h v' w' h2 h3 h4
end
theorem ownn_nil (e : TypeId) (m : Nat) (w : World) (base : Nat) : OwnN e m w base (.slice none 0 0) 0 [] := World.ownsRow_nil w base e m
theorem OwnN.form {e : TypeId} {m : Nat} {w : World} {base : Nat} {v : Value} {n : Nat} {xs : List Value} (h : OwnN e m w base v n xs) : ∃ sp c, v = .slice sp n c ∧ n ≤ c ∧ (sp = none → c = 0) := by
  rcases h.2 with ⟨rfl, rfl⟩ | ⟨g, cap, cur, rfl, _, _, hn, _⟩
  · exact ⟨none, 0, rfl, Nat.le_refl _, fun _ => rfl⟩
  · exact ⟨_, cap, rfl, hn, fun e => by cases e⟩
/-- Such a row lies in a block. -/
theorem OwnN.at {e : TypeId} {m : Nat} {w : World} {base : Nat} {v : Value} {n : Nat} {xs : List Value} (h : OwnN e m w base v n xs) (hn : 0 < n) : ∃ g c, v = .slice (some ⟨g, 0, none⟩) n c ∧ base ≤ g ∧ g < w.heap.size ∧ n ≤ c ∧ CellsAt w g 0 xs := by
  rcases h.2 with ⟨rfl, rfl⟩ | ⟨g, cap, cur, rfl, hb, hg, hnc, _⟩
  · omega
  · refine ⟨g, cap, rfl, hb, (Array.getElem?_eq_some_iff.1 hg).1, hnc, fun j u hu => ?_⟩
    have := World.ownsRow.cells h (g := g) rfl j u hu
    rw [Addr.add_mid] at this
    exact this
theorem OwnN.below {e : TypeId} {m : Nat} {a b : World} {B : Nat} {v : Value} {n : Nat} {xs : List Value} (h : OwnN e m a B v n xs) (hb : Below a.heap.size a b) : OwnN e m b B v n xs := by
  refine ⟨h.1, ?_⟩
  rcases h.2 with h2 | ⟨g, cap, cur, hv, hB, hg, r⟩
  · exact Or.inl h2
  · exact Or.inr ⟨g, cap, cur, hv, hB, by rw [hb.block g (Array.getElem?_eq_some_iff.1 hg).1]; exact hg, r⟩
theorem OwnN.aside {S : Set_} {e : TypeId} {m : Nat} {a b : World} {B : Nat} {v : Value} {n : Nat} {xs : List Value} (h : OwnN e m a B v n xs) (hb : Aside S a b) (hx : ∀ k, v.ownBlock = some k → ¬ S k) : OwnN e m b B v n xs := by
  refine ⟨h.1, ?_⟩
  rcases h.2 with h2 | ⟨g, cap, cur, hv, hB, hgg, r⟩
  · exact Or.inl h2
  · exact Or.inr ⟨g, cap, cur, hv, hB, by rw [hb.block g (Array.getElem?_eq_some_iff.1 hgg).1 (hx g (by rw [hv]; rfl))]; exact hgg, r⟩
theorem OwnN.kept {e : TypeId} {m : Nat} {a b : World} {B : Nat} {v : Value} {n : Nat} {xs : List Value} {row : Option Nat} (h : OwnN e m a B v n xs) (hg : a.grownBy b row) (hne : ∀ g, v.ownBlock = some g → row ≠ some g) : OwnN e m b B v n xs := by
  refine ⟨h.1, ?_⟩
  rcases h.2 with h2 | ⟨g, cap, cur, hv, hB, hgg, r⟩
  · exact Or.inl h2
  · exact Or.inr ⟨g, cap, cur, hv, hB, by rw [hg.block g (Array.getElem?_eq_some_iff.1 hgg).1 (fun er => hne g (by rw [hv]; rfl) er.symm)]; exact hgg, r⟩
theorem OwnN.lt {e : TypeId} {m : Nat} {w : World} {B : Nat} {v : Value} {n : Nat} {xs : List Value} (h : OwnN e m w B v n xs) : ∀ k, v.ownBlock = some k → B ≤ k ∧ k < w.heap.size := World.ownsRow.lt h
theorem elemN_of {t e : TypeId} {z : Value} {m n : Nat} (hu : Try.prog.underlying t = some (.slice e)) (h : (Try.prog.info? e).map (fun i => (i.zero, i.size, i.bytes)) = some (some z, m, n)) (h1 : z.cells.size = m) (hm : 0 < m) (h0 : 0 < n) (hn : n ≤ 1024) : ElemN Try.prog t e z m n := by
  obtain ⟨i, hi, h2⟩ := Option.map_eq_some_iff.1 h
  simp only [Prod.mk.injEq] at h2
  exact ⟨hu, ⟨i, hi, h2.1, h2.2.1, h2.2.2⟩, h1, hm, h0, hn⟩
end Go.Proofs.Ytfpndphfibfdiab
namespace Go.Proofs.Ytfpndphfibfdiab
open Go.RowKit
theorem row_put {w : World} {R : Nat} {cs : List Value} {T : TypeId} (h : w.heap[R]? = some (.cells cs.toArray T (0, 0))) (k : Nat) (hk : k < cs.length) (v : Value) : (w.setCell ⟨R, k, none⟩ v).heap[R]? = some (.cells (cs.set k v).toArray T (0, 0)) := by
  have h1 : RowAt T w R [] cs := by unfold RowAt; rw [List.append_nil]; exact h
  have h2 := h1.set k hk v
  unfold RowAt at h2
  rwa [List.append_nil] at h2
theorem row_cell {w : World} {R : Nat} {cs : List Value} {T : TypeId} (h : w.heap[R]? = some (.cells cs.toArray T (0, 0))) (k : Nat) (v : Value) (hv : cs[k]? = some v) : w.cell? ⟨R, k, none⟩ = some v := by
  rw [cell_of_row w R k _ T (0, 0) h, List.getElem?_toArray]; exact hv
theorem row_frozen {w : World} {R : Nat} {cs : List Value} {T : TypeId} (h : w.heap[R]? = some (.cells cs.toArray T (0, 0))) (k : Nat) : w.frozen? ⟨R, k, none⟩ = false := frozen_of_row w R k _ T h
theorem five_row {w : World} {R : Nat} {a b c d e : Value} {T : TypeId} (h : w.heap[R]? = some (.cells [a, b, c, d, e].toArray T (0, 0))) : w.cell? ⟨R, 0, none⟩ = some a ∧ w.cell? ⟨R, 1, none⟩ = some b ∧ w.cell? ⟨R, 2, none⟩ = some c ∧ w.cell? ⟨R, 3, none⟩ = some d ∧ w.cell? ⟨R, 4, none⟩ = some e :=
  ⟨row_cell h 0 _ rfl, row_cell h 1 _ rfl, row_cell h 2 _ rfl, row_cell h 3 _ rfl, row_cell h 4 _ rfl⟩
theorem setCell_grown {w : World} (R k : Nat) (v : Value) : w.grownBy (w.setCell ⟨R, k, none⟩ v) (some R) := grown_setCell (World.grownBy.refl _ _) _ _ rfl
end Go.Proofs.Ytfpndphfibfdiab
namespace Go.Proofs.Ytfpndphfibfdiab
open Go.RowKit Go.MapKept
/-- A sector's value. -/
def sv (b : Bs) : Value := .agg (b.map bv).toArray
/-- Block B holds a map whose elements, noughts where there is none, are those of f. -/
def MAt (w : World) (B : Nat) (f : Nat → Bs) : Prop := ∃ es clock, w.heap[B]? = some (.map es clock) ∧ Stamped es clock ∧ (∀ e ∈ es.toList, ∃ k : Nat, e.key = .int .i64 (k : Int) ∧ e.val = sv (f k) ∧ (f k).length = 64) ∧ (∀ k : Nat, (∀ e ∈ es.toList, e.key ≠ .int .i64 (k : Int)) → f k = zeros)
def upd (f : Nat → Bs) (k : Nat) (b : Bs) : Nat → Bs := fun j => if j = k then b else f j
theorem key_inj {a b : Nat} (h : Value.int .i64 (a : Int) = .int .i64 (b : Int)) : a = b := by simp only [Value.int.injEq, true_and] at h; omega
theorem MAt.keys {es : Array MapEntry} {f : Nat → Bs} (h : ∀ e ∈ es.toList, ∃ k : Nat, e.key = .int .i64 (k : Int) ∧ e.val = sv (f k) ∧ (f k).length = 64) : ∀ e ∈ es.toList, IsKey (.int .i64) e.key := by
  intro e he
  obtain ⟨k, hk, _⟩ := h e he
  rw [hk]; rfl
theorem MAt.made (w : World) : MAt (w.alloc (.map #[] 0)) w.heap.size (fun _ => zeros) := ⟨#[], 0, (heap_alloc w _).1, stamped_empty 0, fun e he => by simp at he, fun _ _ => rfl⟩
theorem MAt.aside {S : Set_} {w w' : World} {B : Nat} {f : Nat → Bs} (h : MAt w B f) (hb : Aside S w w') (hB : ¬ S B) : MAt w' B f := by
  obtain ⟨es, c, h1, h2⟩ := h
  exact ⟨es, c, by rw [hb.block B (Array.getElem?_eq_some_iff.1 h1).1 hB]; exact h1, h2⟩
theorem MAt.below {w w' : World} {B : Nat} {f : Nat → Bs} (h : MAt w B f) (hb : Below w.heap.size w w') : MAt w' B f := h.aside (S := none_) (Aside.of_below hb) fun h => h
theorem MAt.lt {w : World} {B : Nat} {f : Nat → Bs} (h : MAt w B f) : B < w.heap.size := by
  obtain ⟨es, c, h1, _⟩ := h
  exact (Array.getElem?_eq_some_iff.1 h1).1
theorem MAt.len {w : World} {B : Nat} {f : Nat → Bs} (h : MAt w B f) (k : Nat) : (f k).length = 64 := by
  obtain ⟨es, c, _, _, h3, h4⟩ := h
  by_cases hn : ∀ e ∈ es.toList, e.key ≠ .int .i64 (k : Int)
  · rw [h4 k hn]; exact zeros_len
  · have ⟨e, he⟩ := Classical.not_forall.1 hn
    have ⟨h1, h2⟩ := Classical.not_imp.1 he
    have h2' := Classical.not_not.1 h2
    obtain ⟨j, hj, _, hl⟩ := h3 e h1
    rw [h2'] at hj
    rw [key_inj hj]; exact hl
theorem MAt.congr {w : World} {B : Nat} {f g : Nat → Bs} (h : MAt w B f) (e : ∀ k, f k = g k) : MAt w B g := by
  obtain rfl : f = g := funext e
  exact h
theorem zero_sector (w : World) : (zeroValue 65).run Try.prog w = .ok (sv zeros) w := by kernel_rfl
/-- m[k]. -/
theorem MAt.look {w : World} {B : Nat} {f : Nat → Bs} (h : MAt w B f) (k : Nat) : (Instr.lookup 34 (.map (some B)) (.int .i64 (k : Int)) false).run Try.prog w = .ok (sv (f k)) w := by
  obtain ⟨es, c, h1, h2, h3, h4⟩ := h
  have hk : IsKey (.int .i64) (.int .i64 (k : Int)) := rfl
  rcases findNow_spec hk es.toList 0 (MAt.keys h3) with ⟨g1, g2⟩ | ⟨j, e, g1, g2, g3⟩
  · rw [h4 k g2]
    simp [Instr.lookup, run_underlying Try.underlying34, MapKept.run_getObj_map h1, run_checkKey Try.underlying3 hk, run_findKey Try.underlying3 g1, Result.andThen]
    rfl
  · obtain ⟨i, hi, hv, _⟩ := h3 e (List.mem_of_getElem? g2)
    rw [hi] at g3
    have := key_inj g3
    subst this
    simp [Instr.lookup, run_underlying Try.underlying34, MapKept.run_getObj_map h1, run_checkKey Try.underlying3 hk, run_findKey Try.underlying3 g1, Result.andThen, hv]
/-- m[k] = v. -/
theorem MAt.update {w : World} {B : Nat} {f : Nat → Bs} (h : MAt w B f) (k : Nat) (b : Bs) (hb : b.length = 64) : ∃ w', (Instr.mapUpdate 34 (.map (some B)) (.int .i64 (k : Int)) (sv b)).run Try.prog w = .ok () w' ∧ MAt w' B (upd f k b) ∧ w.grownBy w' (some B) := by
  obtain ⟨es, c, h1, h2, h3, h4⟩ := h
  have hk : IsKey (.int .i64) (.int .i64 (k : Int)) := rfl
  rcases findNow_spec hk es.toList 0 (MAt.keys h3) with ⟨g1, g2⟩ | ⟨j, e, g1, g2, g3⟩
  · refine ⟨{ w with heap := w.heap.setIfInBounds B (.map (es.push ⟨.int .i64 (k : Int), sv b, c⟩) (c + 1)) }, ?_, ⟨_, _, (heap_set h1).1, stamped_push h2 g2, ?_, ?_⟩, ⟨rfl, rfl, rfl, by simp, fun i _ hi => (heap_set h1).2 i fun e => hi (by rw [e])⟩⟩
    · simp [Instr.mapUpdate, run_underlying Try.underlying34, MapKept.run_getObj_map h1, run_checkKey Try.underlying3 hk, run_findKey Try.underlying3 g1, MapKept.run_setObj_map _ h1, Result.andThen]
    · intro x hx
      simp only [Array.toList_push, List.mem_append, List.mem_singleton] at hx
      rcases hx with hx | rfl
      · obtain ⟨i, hi, hv, hl⟩ := h3 x hx
        have hne : i ≠ k := fun e => g2 x hx (by rw [hi, e])
        exact ⟨i, hi, by unfold upd; rw [if_neg hne]; exact hv, by unfold upd; rw [if_neg hne]; exact hl⟩
      · exact ⟨k, rfl, by unfold upd; rw [if_pos rfl], by unfold upd; rw [if_pos rfl]; exact hb⟩
    · intro i hi
      have hne : i ≠ k := fun e => hi ⟨.int .i64 (k : Int), sv b, c⟩ (by simp) (by rw [e])
      unfold upd
      rw [if_neg hne]
      exact h4 i fun x hx => hi x (by simp [hx])
  · have hj : es[j]? = some e := by simpa using g2
    have hlist : (es.modify j (fun e' => { e' with key := .int .i64 (k : Int), val := sv b })).toList = es.toList.set j { e with key := .int .i64 (k : Int), val := sv b } := by
      rw [Array.toList_modify, ChangeMaps.modify_eq_set _ _ _ _ g2]
    have hn : es.toList.Pairwise (fun x y => x.key ≠ y.key) := ((stamped_iff es c).1 h2).2.2
    have who : ∀ x ∈ es.toList.set j { e with key := .int .i64 (k : Int), val := sv b }, x = { e with key := .int .i64 (k : Int), val := sv b } ∨ (x ∈ es.toList ∧ x.key ≠ .int .i64 (k : Int)) := by
      intro x hx
      obtain ⟨i, hi, ex⟩ := List.getElem_of_mem hx
      rw [List.getElem_set] at ex
      split at ex
      · exact Or.inl ex.symm
      · rename_i hne
        have hi' : i < es.toList.length := by simpa using hi
        have hjl : j < es.toList.length := (List.getElem?_eq_some_iff.1 g2).1
        have ej : es.toList[j] = e := (List.getElem?_eq_some_iff.1 g2).2
        refine Or.inr ⟨ex ▸ List.getElem_mem hi', ?_⟩
        rw [← g3]
        rcases Nat.lt_or_gt_of_ne hne with hlt | hlt
        · have := List.pairwise_iff_getElem.1 hn j i hjl hi' hlt
          rw [ej, ex] at this
          exact this.symm
        · have := List.pairwise_iff_getElem.1 hn i j hi' hjl hlt
          rw [ej, ex] at this
          exact this
    refine ⟨{ w with heap := w.heap.setIfInBounds B (.map (es.modify j (fun e' => { e' with key := .int .i64 (k : Int), val := sv b })) c) }, ?_, ⟨_, _, (heap_set h1).1, stamped_modify h2 _ _ (fun _ _ => rfl) (fun e' _ he' => by rw [hj] at he'; cases he'; exact g3.symm), ?_, ?_⟩, ⟨rfl, rfl, rfl, by simp, fun i _ hi => (heap_set h1).2 i fun e => hi (by rw [e])⟩⟩
    · simp [Instr.mapUpdate, run_underlying Try.underlying34, MapKept.run_getObj_map h1, run_checkKey Try.underlying3 hk, run_findKey Try.underlying3 g1, hj, g3, run_keyThatStays hk, MapKept.run_setObj_map _ h1, Result.andThen]
    · intro x hx
      rw [hlist] at hx
      rcases who x hx with rfl | ⟨hx', hne'⟩
      · exact ⟨k, rfl, by unfold upd; rw [if_pos rfl], by unfold upd; rw [if_pos rfl]; exact hb⟩
      · obtain ⟨i, hi, hv, hl⟩ := h3 x hx'
        have hne : i ≠ k := fun e => hne' (by rw [hi, e])
        exact ⟨i, hi, by unfold upd; rw [if_neg hne]; exact hv, by unfold upd; rw [if_neg hne]; exact hl⟩
    · intro i hi
      have hne : i ≠ k := fun e1 => hi { e with key := .int .i64 (k : Int), val := sv b } (by rw [hlist]; exact List.mem_iff_getElem.2 ⟨j, by simpa using (List.getElem?_eq_some_iff.1 g2).1, by simp⟩) (by rw [e1])
      unfold upd
      rw [if_neg hne]
      refine h4 i fun x hx e2 => ?_
      have hx2 : x ∈ (es.modify j (fun e' => { e' with key := .int .i64 (k : Int), val := sv b })).toList ∨ x = e := by
        rw [hlist]
        obtain ⟨m, hm, ex⟩ := List.getElem_of_mem hx
        by_cases hmj : m = j
        · subst hmj
          right
          rw [← ex]; exact (List.getElem?_eq_some_iff.1 g2).2
        · left
          exact List.mem_iff_getElem.2 ⟨m, by simpa using hm, by rw [List.getElem_set_ne (by omega)]; exact ex⟩
      rcases hx2 with h | rfl
      · exact hi x h e2
      · rw [g3] at e2
        exact hne (key_inj e2).symm
/-- delete(m, k). -/
theorem MAt.drop {w : World} {B : Nat} {f : Nat → Bs} (h : MAt w B f) (k : Nat) (ty : TypeId) : ∃ w', (Builtin.delete_ #[34, 3] ty #[.map (some B), .int .i64 (k : Int)]).run Try.prog w = .ok (.tuple #[]) w' ∧ MAt w' B (upd f k zeros) ∧ w.grownBy w' (some B) := by
  obtain ⟨es, c, h1, h2, h3, h4⟩ := h
  have hk : IsKey (.int .i64) (.int .i64 (k : Int)) := rfl
  rcases findNow_spec hk es.toList 0 (MAt.keys h3) with ⟨g1, g2⟩ | ⟨j, e, g1, g2, g3⟩
  · refine ⟨{ w with heap := w.heap.setIfInBounds B (.map es c) }, ?_, ⟨_, _, (heap_set h1).1, h2, ?_, ?_⟩, ⟨rfl, rfl, rfl, by simp, fun i _ hi => (heap_set h1).2 i fun e => hi (by rw [e])⟩⟩
    · simp [Builtin.delete_, run_underlying Try.underlying34, MapKept.run_getObj_map h1, run_checkKey Try.underlying3 hk, run_findKey Try.underlying3 g1, MapKept.run_setObj_map _ h1, Result.andThen]
    · intro x hx
      obtain ⟨i, hi, hv, hl⟩ := h3 x hx
      have hne : i ≠ k := fun e => g2 x hx (by rw [hi, e])
      exact ⟨i, hi, by unfold upd; rw [if_neg hne]; exact hv, by unfold upd; rw [if_neg hne]; exact hl⟩
    · intro i hi
      unfold upd
      split
      · rfl
      · exact h4 i hi
  · have hjl : j < es.toList.length := (List.getElem?_eq_some_iff.1 g2).1
    have hjs : j < es.size := by simpa using hjl
    have ej : es.toList[j] = e := (List.getElem?_eq_some_iff.1 g2).2
    have hsub : (es.eraseIdxIfInBounds j).toList = es.toList.eraseIdx j := by
      unfold Array.eraseIdxIfInBounds
      rw [dif_pos hjs]
      simp
    have hn : es.toList.Pairwise (fun x y => x.key ≠ y.key) := ((stamped_iff es c).1 h2).2.2
    refine ⟨{ w with heap := w.heap.setIfInBounds B (.map (es.eraseIdxIfInBounds j) c) }, ?_, ⟨_, _, (heap_set h1).1, stamped_erase h2 j, ?_, ?_⟩, ⟨rfl, rfl, rfl, by simp, fun i _ hi => (heap_set h1).2 i fun e => hi (by rw [e])⟩⟩
    · simp [Builtin.delete_, run_underlying Try.underlying34, MapKept.run_getObj_map h1, run_checkKey Try.underlying3 hk, run_findKey Try.underlying3 g1, MapKept.run_setObj_map _ h1, Result.andThen]
    · intro x hx
      rw [hsub] at hx
      obtain ⟨m, hmj, hm⟩ := List.mem_eraseIdx_iff_getElem?.1 hx
      have hml : m < es.toList.length := (List.getElem?_eq_some_iff.1 hm).1
      have em : es.toList[m] = x := (List.getElem?_eq_some_iff.1 hm).2
      have hkey : x.key ≠ e.key := by
        rcases Nat.lt_or_gt_of_ne hmj with hlt | hlt
        · have := List.pairwise_iff_getElem.1 hn m j hml hjl hlt
          rw [ej, em] at this
          exact this
        · have := List.pairwise_iff_getElem.1 hn j m hjl hml hlt
          rw [ej, em] at this
          exact this.symm
      obtain ⟨i, hi, hv, hl⟩ := h3 x (List.mem_of_getElem? hm)
      have hne : i ≠ k := fun e1 => hkey (by rw [hi, e1, g3])
      exact ⟨i, hi, by unfold upd; rw [if_neg hne]; exact hv, by unfold upd; rw [if_neg hne]; exact hl⟩
    · intro i hi
      unfold upd
      split
      · rfl
      · rename_i hne
        refine h4 i fun x hx e2 => ?_
        obtain ⟨m, hm, ex⟩ := List.getElem_of_mem hx
        by_cases hmj : m = j
        · subst hmj
          rw [ej] at ex
          subst ex
          rw [g3] at e2
          exact hne (key_inj e2).symm
        · exact hi x (by rw [hsub]; exact List.mem_eraseIdx_iff_getElem?.2 ⟨m, hmj, by rw [List.getElem?_eq_getElem hm, ex]⟩) e2
/-- Two sectors held against each other. -/
theorem items_eq (w : World) (d : Nat) (a b : Bs) : ∀ (is : List Nat), (∀ i ∈ is, i < a.length ∧ i < b.length) → (Op.eqItems (d + 1) 5 1 (a.map bv).toArray (b.map bv).toArray is).run Try.prog w = .ok (is.all fun i => a.getD i 0 == b.getD i 0) w
  | [], _ => by simp [Op.eqItems]
  | i :: is, h => by
    obtain ⟨ha, hb⟩ := h i List.mem_cons_self
    have ih := items_eq w d a b is fun j hj => h j (List.mem_cons_of_mem _ hj)
    have hp : ∀ (l : Bs), i < l.length → (part 5 (l.map bv).toArray (i * 1)).run Try.prog w = .ok (bv (l.getD i 0)) w := by
      intro l hl
      have hu : (isAgg 5).run Try.prog w = .ok false w := by kernel_rfl
      simp [part, Sem.run_bind, hu, List.getD_eq_getElem?_getD, hl]
    rw [Op.eqItems]
    simp only [Sem.run_bind, hp a ha, hp b hb, Result.andThen_ok, bv, run_equalIn_int w d 5 .u8 .u8 _ _ Try.underlying5, List.all_cons]
    have e : (((a.getD i 0).toNat : Int) == ((b.getD i 0).toNat : Int)) = (a.getD i 0 == b.getD i 0) := by
      rw [Bool.eq_iff_iff]
      simp only [beq_iff_eq]
      constructor
      · intro h; exact UInt8.toNat_inj.1 (by omega)
      · intro h; rw [h]
    rw [e]
    cases hc : (a.getD i 0 == b.getD i 0)
    · simp
    · simpa using ih
theorem sector_eq (w : World) (a b : Bs) (ha : a.length = 64) (hb : b.length = 64) : (Op.equal 65 (sv a) (sv b)).run Try.prog w = .ok (decide (a = b)) w := by
  obtain ⟨i, hi, _⟩ := Option.map_eq_some_iff.1 (show (Try.prog.info? 5).map (fun i => i.size) = some 1 by kernel_rfl)
  have hc : Try.prog.cellsOf 5 = 1 := by kernel_rfl
  unfold Op.equal sv
  rw [show Op.maxDepth = 9999 + 1 from rfl, run_equalIn_array w 9999 _ _ Try.underlying65 hi, hc, items_eq w 9998 a b (List.range 64) (fun i hi => by have := List.mem_range.1 hi; omega)]
  congr 1
  rw [Bool.eq_iff_iff, List.all_eq_true, decide_eq_true_iff]
  constructor
  · intro h
    apply List.ext_getElem (by omega)
    intro i h1 h2
    have := h i (List.mem_range.2 (by omega))
    simpa [List.getD_eq_getElem?_getD, h1, h2] using this
  · intro h i _
    simp [h]
end Go.Proofs.Ytfpndphfibfdiab
namespace Go.Proofs.Ytfpndphfibfdiab
open Go.RowKit
theorem size_sector : (Try.prog.info? 65).map (·.size) = some 64 := by kernel_rfl
theorem built_sector : Try.prog.built 65 [] = some (zeros.map bv).toArray := by kernel_rfl
theorem Aside.grown {S : Set_} {a b c : World} {B : Nat} (h : Aside S a b) (hg : b.grownBy c (some B)) (hB : a.heap.size ≤ B ∨ S B) : Aside S a c :=
  ⟨hg.os.trans h.os, hg.tape.trans h.tape, hg.output.trans h.output, Nat.le_trans h.size hg.size, fun k hk hn => (hg.block k (Nat.lt_of_lt_of_le hk h.size) fun e => by
    rcases hB with hB | hB
    · have := Option.some.inj e; omega
    · exact hn (Option.some.inj e ▸ hB)).trans (h.block k hk hn)⟩
theorem sector_lit (w : World) (b : Bs) (hb : b.length = 64) : (Op.equalIn 10000 65 (.agg (b.map bv).toArray) (.agg (Value.int IntKind.u8 0 :: Value.int IntKind.u8 0 :: Value.int IntKind.u8 0 :: Value.int IntKind.u8 0 :: Value.int IntKind.u8 0 :: Value.int IntKind.u8 0 :: Value.int IntKind.u8 0 :: Value.int IntKind.u8 0 :: Value.int IntKind.u8 0 :: Value.int IntKind.u8 0 :: Value.int IntKind.u8 0 :: Value.int IntKind.u8 0 :: Value.int IntKind.u8 0 :: Value.int IntKind.u8 0 :: Value.int IntKind.u8 0 :: Value.int IntKind.u8 0 :: Value.int IntKind.u8 0 :: Value.int IntKind.u8 0 :: Value.int IntKind.u8 0 :: Value.int IntKind.u8 0 :: Value.int IntKind.u8 0 :: Value.int IntKind.u8 0 :: Value.int IntKind.u8 0 :: Value.int IntKind.u8 0 :: Value.int IntKind.u8 0 :: Value.int IntKind.u8 0 :: Value.int IntKind.u8 0 :: Value.int IntKind.u8 0 :: Value.int IntKind.u8 0 :: Value.int IntKind.u8 0 :: Value.int IntKind.u8 0 :: Value.int IntKind.u8 0 :: Value.int IntKind.u8 0 :: Value.int IntKind.u8 0 :: Value.int IntKind.u8 0 :: Value.int IntKind.u8 0 :: Value.int IntKind.u8 0 :: Value.int IntKind.u8 0 :: Value.int IntKind.u8 0 :: Value.int IntKind.u8 0 :: Value.int IntKind.u8 0 :: Value.int IntKind.u8 0 :: Value.int IntKind.u8 0 :: Value.int IntKind.u8 0 :: Value.int IntKind.u8 0 :: Value.int IntKind.u8 0 :: Value.int IntKind.u8 0 :: Value.int IntKind.u8 0 :: Value.int IntKind.u8 0 :: Value.int IntKind.u8 0 :: Value.int IntKind.u8 0 :: Value.int IntKind.u8 0 :: Value.int IntKind.u8 0 :: Value.int IntKind.u8 0 :: Value.int IntKind.u8 0 :: Value.int IntKind.u8 0 :: Value.int IntKind.u8 0 :: Value.int IntKind.u8 0 :: Value.int IntKind.u8 0 :: Value.int IntKind.u8 0 :: Value.int IntKind.u8 0 :: Value.int IntKind.u8 0 :: Value.int IntKind.u8 0 :: Value.int IntKind.u8 0 :: []).toArray)).run Try.prog w = .ok (decide (b = zeros)) w := sector_eq w b zeros hb zeros_len
set_option maxRecDepth 100000 in
set_option maxHeartbeats 4000000 in
theorem put_c (w : World) (M : Nat) (f : Nat → Bs) (hm : MAt w M f) (k : Nat) (b : Bs) (hb : b.length = 64) :
    Calls Try.prog 33 #[.map (some M), .int .i64 (k : Int), sv b] w fun e w' => e = .returned (.tuple #[]) ∧ MAt w' M (upd f k b) ∧ Aside (fun j => j = M) w w' := by
  have hq := fun w => sector_lit w b hb
  have hX : (b.map bv).toArray.size = 64 := by simp [hb]
  have hm1 := hm.below ((Below.refl _ _).alloc (Nat.le_refl _) (.cells (b.map bv).toArray 65))
  have hA := heap_alloc_new w (.cells (b.map bv).toArray 65)
  have ha1 : Aside (fun j => j = M) w (w.alloc (.cells (b.map bv).toArray 65)) := Aside.of_below ((Below.refl _ _).alloc (Nat.le_refl _) _)
  obtain ⟨wd, hrd, hmd, hgd⟩ := hm1.drop k 0
  obtain ⟨wu, hru, hmu, hgu⟩ := hm1.update k b hb
  have HD := hide (ha1.grown hgd (Or.inr rfl))
  have HU := hide (ha1.grown hgu (Or.inr rfl))
  have HMD := hide hmd
  have HMU := hide hmu
  have HA1 := hide hA
  unfold sv at hru ⊢
  clear hmd hgd hmu hgu hm hm1 ha1 hA
  by_cases he : b = zeros
  · rw [decide_eq_true he] at hq
    subst he
    obtain ⟨X, hXX⟩ : ∃ x, (zeros.map bv).toArray = x := ⟨_, rfl⟩
    rw [hXX] at hq hX hrd HA1 ⊢
    obtain ⟨W, hW⟩ : ∃ x, w.alloc (.cells X 65) = x := ⟨_, rfl⟩
    rw [hW] at hrd HA1
    clear hru HU HMU hb hXX
    go_enter Try.func33, Try.ntmps33
    go_wp2_with (refine wpList_load_row rfl 65 _ rfl w.heap.size rfl 65 X (0, 0) _ (unhide HA1) Try.underlying65 rfl (by rw [hX]; exact size_sector) ?_)
    (try simp only [Exit.inBlock, Exit.then])
    refine bodyPost_ret (results_none rfl _ _ _) rfl ?_
    exact ⟨rfl, unhide HMD, unhide HD⟩
  · rw [decide_eq_false he] at hq
    obtain ⟨X, hXX⟩ : ∃ x, (b.map bv).toArray = x := ⟨_, rfl⟩
    rw [hXX] at hq hX hru HA1 ⊢
    obtain ⟨W, hW⟩ : ∃ x, w.alloc (.cells X 65) = x := ⟨_, rfl⟩
    rw [hW] at hru HA1
    clear hrd HD HMD hb he hXX
    go_enter Try.func33, Try.ntmps33
    go_wp2_with (refine wpList_load_row rfl 65 _ rfl w.heap.size rfl 65 X (0, 0) _ (unhide HA1) Try.underlying65 rfl (by rw [hX]; exact size_sector) ?_)
    (try simp only [Exit.inBlock, Exit.then])
    refine bodyPost_end (results_none rfl _ _ _) rfl ?_
    exact ⟨rfl, unhide HMU, unhide HU⟩
end Go.Proofs.Ytfpndphfibfdiab
namespace Go.Proofs.Ytfpndphfibfdiab
open Go.RowKit
/-- The cells of a row of writes. -/
def wcells (l : List (Nat × Bs)) : List Value := l.flatMap fun x => .int .i64 (x.1 : Int) :: x.2.map bv
theorem wcells_cons (x : Nat × Bs) (l : List (Nat × Bs)) : wcells (x :: l) = (.int .i64 (x.1 : Int) :: x.2.map bv) ++ wcells l := rfl
theorem wcells_app (l : List (Nat × Bs)) (x : Nat × Bs) : wcells (l ++ [x]) = wcells l ++ (.int .i64 (x.1 : Int) :: x.2.map bv) := by unfold wcells; simp
theorem wcells_len : ∀ {l : List (Nat × Bs)}, (∀ x ∈ l, x.2.length = 64) → (wcells l).length = l.length * 65
  | [], _ => rfl
  | x :: l, h => by
    have := wcells_len (l := l) fun y hy => h y (List.mem_cons_of_mem _ hy)
    have hx := h x List.mem_cons_self
    rw [wcells_cons, List.length_append, this, List.length_cons, List.length_cons, List.length_map, hx]
    omega
theorem wcells_at : ∀ {l : List (Nat × Bs)} {i : Nat} {x : Nat × Bs}, (∀ x ∈ l, x.2.length = 64) → l[i]? = some x → ∀ j < 65, (wcells l)[i * 65 + j]? = (.int .i64 (x.1 : Int) :: x.2.map bv : List Value)[j]?
  | [], i, x, _, h, _, _ => by simp at h
  | y :: l, 0, x, hl, h, j, hj => by
    simp only [List.getElem?_cons_zero, Option.some.injEq] at h
    subst h
    have hx := hl y List.mem_cons_self
    rw [wcells_cons, List.getElem?_append_left (by simp [hx]; omega)]
    simp
  | y :: l, i + 1, x, hl, h, j, hj => by
    have ih := wcells_at (l := l) (i := i) (x := x) (fun z hz => hl z (List.mem_cons_of_mem _ hz)) (by simpa using h) j hj
    have hx := hl y List.mem_cons_self
    rw [wcells_cons, List.getElem?_append_right (by simp [hx]; omega)]
    rw [show (i + 1) * 65 + j - (Value.int IntKind.i64 (y.1 : Int) :: y.2.map bv).length = i * 65 + j by simp [hx]; omega]
    exact ih
theorem wcells_one : ∀ (l : List (Nat × Bs)), ∀ u ∈ wcells l, u.oneCell' = true := by
  intro l u hu
  unfold wcells at hu
  obtain ⟨x, _, hx⟩ := List.mem_flatMap.1 hu
  rcases List.mem_cons.1 hx with rfl | h
  · rfl
  · obtain ⟨y, _, rfl⟩ := List.mem_map.1 h; rfl
/-- The parts of a plate. -/
structure PForm (B T M : Nat) (w : World) (lv : Value) (s : PS) : Prop where
  str : w.heap[B]? = some (.cells [.int .i64 (s.safe.length : Int), .map (some T), .map (some M), lv, .int .i64 s.left, .bool s.down].toArray 37 (0, 0))
  there : MAt w T fun k => (applyL s.safe s.loose).getD k zeros
  safe : MAt w M fun k => s.safe.getD k zeros
  own : OwnN 71 65 w 0 lv s.loose.length (wcells s.loose)
  bt : B ≠ T
  bm : B ≠ M
  tm : T ≠ M
  lB : lv.ownBlock ≠ some B
  lT : lv.ownBlock ≠ some T
  lM : lv.ownBlock ≠ some M
  ok : s.Ok
/-- A plate in memory: the blocks of S. -/
def PAt (S R : Set_) (w : World) (p : Value) (s : PS) : Prop := ∃ B T M lv, p = .pointer (some ⟨B, 0, none⟩) ∧ PForm B T M w lv s ∧ (∀ k, S k ↔ (k = B ∨ k = T ∨ k = M ∨ lv.ownBlock = some k)) ∧ ∀ k, ¬ R k
theorem heap_lt {w : World} {B : Nat} {o : Obj} (h : w.heap[B]? = some o) : B < w.heap.size := (Array.getElem?_eq_some_iff.1 h).1
theorem PForm.aside {B T M : Nat} {S : Set_} {w w' : World} {lv : Value} {s : PS} (h : PForm B T M w lv s) (hb : Aside S w w') (hs : ∀ k, S k → k ≠ B ∧ k ≠ T ∧ k ≠ M ∧ lv.ownBlock ≠ some k) : PForm B T M w' lv s :=
  ⟨by rw [hb.block B (heap_lt h.str) fun hS => (hs B hS).1 rfl]; exact h.str, h.there.aside hb fun hS => (hs T hS).2.1 rfl, h.safe.aside hb fun hS => (hs M hS).2.2.1 rfl, h.own.aside hb fun k hk hS => (hs k hS).2.2.2 hk, h.bt, h.bm, h.tm, h.lB, h.lT, h.lM, h.ok⟩
theorem six_row {w : World} {R : Nat} {a b c d e f : Value} {T : TypeId} (h : w.heap[R]? = some (.cells [a, b, c, d, e, f].toArray T (0, 0))) : w.cell? ⟨R, 0, none⟩ = some a ∧ w.cell? ⟨R, 1, none⟩ = some b ∧ w.cell? ⟨R, 2, none⟩ = some c ∧ w.cell? ⟨R, 3, none⟩ = some d ∧ w.cell? ⟨R, 4, none⟩ = some e ∧ w.cell? ⟨R, 5, none⟩ = some f :=
  ⟨row_cell h 0 _ rfl, row_cell h 1 _ rfl, row_cell h 2 _ rfl, row_cell h 3 _ rfl, row_cell h 4 _ rfl, row_cell h 5 _ rfl⟩
set_option maxRecDepth 100000 in
theorem sectors_c {S R : Set_} {w : World} {p : Value} {s : PS} (h : PAt S R w p s) : Calls Try.prog 9 #[p] w fun e w' => e = .returned (.int .i64 (s.safe.length : Int)) ∧ Below w.heap.size w w' := by
  obtain ⟨B, T, M, lv, rfl, hf, _, _⟩ := h
  obtain ⟨k0, _⟩ := six_row hf.str
  obtain ⟨N, hN⟩ : ∃ x, s.safe.length = x := ⟨_, rfl⟩
  rw [hN] at k0 ⊢
  clear hf hN
  go_enter Try.func9, Try.ntmps9
  go_wp2
  go_ret
  exact ⟨rfl, Below.refl _ _⟩
set_option maxRecDepth 100000 in
theorem has_c (w : World) (B N : Nat) (a : Int) (k0 : w.cell? ⟨B, 0, none⟩ = some (.int .i64 (N : Int))) : Calls Try.prog 27 #[.pointer (some ⟨B, 0, none⟩), .int .i64 a] w fun e w' => e = .returned (.bool (decide (0 ≤ a) && decide (a < (N : Int)))) ∧ w' = w := by
  by_cases h1 : 0 ≤ a
  · have d1 : decide (0 ≤ a) = true := decide_eq_true h1
    by_cases h2 : a < (N : Int)
    · have d2 : decide (a < (N : Int)) = true := decide_eq_true h2
      rw [d1, d2]
      go_enter Try.func27, Try.ntmps27
      go_wp2
      go_ret
      exact ⟨rfl, rfl⟩
    · have d2 : decide (a < (N : Int)) = false := decide_eq_false h2
      rw [d1, d2]
      go_enter Try.func27, Try.ntmps27
      go_wp2
      go_ret
      exact ⟨rfl, rfl⟩
  · have d1 : decide (0 ≤ a) = false := decide_eq_false h1
    rw [d1, Bool.false_and]
    go_enter Try.func27, Try.ntmps27
    go_wp2
    go_ret
    exact ⟨rfl, rfl⟩
/-- step, of a plate that is down. -/
def downTo (left : Int) (down : Bool) : Bool := if left = 0 then true else down
def leftTo (left : Int) (down : Bool) : Int := if down then left else if 0 < left then left - 1 else left
set_option maxRecDepth 100000 in
theorem pstep_c (w : World) (B : Nat) (n t m l : Value) (left : Int) (down : Bool) (h : w.heap[B]? = some (.cells [n, t, m, l, .int .i64 left, .bool down].toArray 37 (0, 0))) (h0 : -1 ≤ left) (h1 : left ≤ 9223372036854775807) :
    Calls Try.prog 32 #[.pointer (some ⟨B, 0, none⟩)] w fun e w' => e = .returned (.bool (!(downTo left down))) ∧ w'.heap[B]? = some (.cells [n, t, m, l, .int .i64 (leftTo left down), .bool (downTo left down)].toArray 37 (0, 0)) ∧ w.grownBy w' (some B) := by
  obtain ⟨_, _, _, _, k4, k5⟩ := six_row h
  have z5 := row_frozen h 5
  cases down with
  | true =>
    have e1 : downTo left true = true := by unfold downTo; split <;> rfl
    have e2 : leftTo left true = left := rfl
    rw [e1, e2]
    have hw1 := row_put h 5 (by simp) (.bool true)
    have q5 := row_cell hw1 5 (.bool true) rfl
    have HG := hide (setCell_grown (w := w) B 5 (.bool true))
    have H1 := hide hw1
    obtain ⟨w1, ew⟩ : ∃ x, w.setCell ⟨B, 5, none⟩ (.bool true) = x := ⟨_, rfl⟩
    rw [ew] at q5 H1 HG
    clear hw1 h e1 e2
    go_enter Try.func32, Try.ntmps32
    go_wp2
    go_ret
    exact ⟨rfl, unhide H1, unhide HG⟩
  | false =>
    by_cases hl : left = 0
    · subst hl
      have e1 : downTo 0 false = true := rfl
      have e2 : leftTo 0 false = 0 := rfl
      rw [e1, e2]
      have hw1 := row_put h 5 (by simp) (.bool true)
      have q5 := row_cell hw1 5 (.bool true) rfl
      have HG := hide (setCell_grown (w := w) B 5 (.bool true))
      have H1 := hide hw1
      obtain ⟨w1, ew⟩ : ∃ x, w.setCell ⟨B, 5, none⟩ (.bool true) = x := ⟨_, rfl⟩
      rw [ew] at q5 H1 HG
      clear hw1 h e1 e2
      go_enter Try.func32, Try.ntmps32
      go_wp2
      go_ret
      exact ⟨rfl, unhide H1, unhide HG⟩
    · have e1 : downTo left false = false := by unfold downTo; rw [if_neg hl]
      have b1 : (left == 0) = false := by simpa using hl
      have hw1 := row_put h 5 (by simp) (.bool false)
      have q5 := row_cell hw1 5 (.bool false) rfl
      have q4 := row_cell hw1 4 (.int .i64 left) rfl
      have y4 := row_frozen hw1 4
      have hg1 := setCell_grown (w := w) B 5 (.bool false)
      obtain ⟨w1, ew⟩ : ∃ x, w.setCell ⟨B, 5, none⟩ (.bool false) = x := ⟨_, rfl⟩
      rw [ew] at q5 hw1 hg1 q4 y4
      rw [e1]
      by_cases hp : 0 < left
      · have e2 : leftTo left false = left - 1 := by unfold leftTo; rw [if_neg (by simp), if_pos hp]
        have d1 : decide (0 < left) = true := decide_eq_true hp
        have hwr : IntKind.i64.wrap (left - 1) = left - 1 := IntWalk.i64_in _ (by omega)
        have hw2 := row_put hw1 4 (by simp) (.int .i64 (left - 1))
        have r5 := row_cell hw2 5 (.bool false) rfl
        have HG := hide (grown_trans hg1 (setCell_grown (w := w1) B 4 (.int .i64 (left - 1))))
        have H1 := hide hw2
        obtain ⟨w2, ew2⟩ : ∃ x, w1.setCell ⟨B, 4, none⟩ (.int .i64 (left - 1)) = x := ⟨_, rfl⟩
        rw [ew2] at r5 H1 HG
        rw [e2]
        clear hw1 hw2 h e1 e2 hg1 hl
        go_enter Try.func32, Try.ntmps32
        go_wp2
        go_ret
        exact ⟨rfl, unhide H1, unhide HG⟩
      · have e2 : leftTo left false = left := by unfold leftTo; rw [if_neg (by simp), if_neg hp]
        have d1 : decide (0 < left) = false := decide_eq_false hp
        have HG := hide hg1
        have H1 := hide hw1
        rw [e2]
        clear hw1 h e1 e2 hg1 hl
        go_enter Try.func32, Try.ntmps32
        go_wp2
        go_ret
        exact ⟨rfl, unhide H1, unhide HG⟩
/-- Another head, all else as it was. -/
theorem PForm.head {B T M : Nat} {w w' : World} {lv : Value} {s : PS} (h : PForm B T M w lv s) (hg : w.grownBy w' (some B)) (L : Int) (d : Bool) (hok : (⟨s.safe, s.loose, L, d⟩ : PS).Ok)
    (hs : w'.heap[B]? = some (.cells [.int .i64 (s.safe.length : Int), .map (some T), .map (some M), lv, .int .i64 L, .bool d].toArray 37 (0, 0))) : PForm B T M w' lv ⟨s.safe, s.loose, L, d⟩ := by
  have hb : Aside (fun k => k = B) w w' := Aside.of_grown hg fun k hk => (Option.some.inj hk).symm
  exact ⟨hs, h.there.aside hb fun e => h.bt e.symm, h.safe.aside hb fun e => h.bm e.symm, h.own.aside hb fun k hk e => h.lB (e ▸ hk), h.bt, h.bm, h.tm, h.lB, h.lT, h.lM, hok⟩
end Go.Proofs.Ytfpndphfibfdiab
namespace Go.Proofs.Ytfpndphfibfdiab
open Go.RowKit
set_option maxRecDepth 100000 in
theorem new_no (w : World) (n : Int) (h : n < 8 ∨ 16384 < n) : Calls Try.prog 5 #[.int .i64 n] w fun e w' => e = .returned (.pointer none) ∧ Below w.heap.size w w' := by
  by_cases h1 : n < 8
  · have d1 : decide (n < 8) = true := decide_eq_true h1
    go_enter Try.func5, Try.ntmps5
    go_wp2
    go_ret
    exact ⟨rfl, Below.refl _ _⟩
  · have d1 : decide (n < 8) = false := decide_eq_false h1
    have h2 : 16384 < n := by omega
    have d2 : decide (16384 < n) = true := decide_eq_true h2
    go_enter Try.func5, Try.ntmps5
    go_wp2
    go_ret
    exact ⟨rfl, Below.refl _ _⟩
theorem getD_zeros (n k : Nat) : (List.replicate n zeros).getD k zeros = zeros := by
  rw [List.getD_eq_getElem?_getD, List.getElem?_replicate]
  split <;> rfl
set_option maxRecDepth 100000 in
set_option maxHeartbeats 4000000 in
theorem new_yes (w : World) (n : Nat) (h1 : 8 ≤ n) (h2 : n ≤ 16384) : Calls Try.prog 5 #[.int .i64 (n : Int)] w fun e w' => ∃ p, e = .returned p ∧ ∃ S R, PAt S R w' p (newS n) ∧ (∀ k, S k ∨ R k → w.heap.size ≤ k) ∧ Below w.heap.size w w' := by
  have d1 : decide ((n : Int) < 8) = false := decide_eq_false (by omega)
  have d2 : decide (16384 < (n : Int)) = false := decide_eq_false (by omega)
  have e1 : ¬ (n : Int) < 8 := by omega
  have e2 : ¬ 16384 < (n : Int) := by omega
  have hmm := @run_makeMap Try.prog
  have m1 := MAt.made w
  have s1 : (w.alloc (.map #[] 0)).heap.size = w.heap.size + 1 := by simp
  have b1 : Below w.heap.size w (w.alloc (.map #[] 0)) := (Below.refl _ _).alloc (Nat.le_refl _) _
  obtain ⟨w1, hw1⟩ : ∃ x, w.alloc (.map #[] 0) = x := ⟨_, rfl⟩
  rw [hw1] at m1 s1 b1
  have m2 := MAt.made w1
  have b2 : Below w1.heap.size w1 (w1.alloc (.map #[] 0)) := (Below.refl _ _).alloc (Nat.le_refl _) _
  have s2 : (w1.alloc (.map #[] 0)).heap.size = w.heap.size + 1 + 1 := by simp [s1]
  obtain ⟨w2, hw2⟩ : ∃ x, w1.alloc (.map #[] 0) = x := ⟨_, rfl⟩
  rw [hw2] at m2 s2 b2
  have hA := heap_alloc_new w2 (.cells [.int .i64 (n : Int), .map (some w.heap.size), .map (some (w.heap.size + 1)), .slice none 0 0, .int .i64 (-1), .bool false].toArray 37)
  have b3 : Below w2.heap.size w2 (w2.alloc (.cells [.int .i64 (n : Int), .map (some w.heap.size), .map (some (w.heap.size + 1)), .slice none 0 0, .int .i64 (-1), .bool false].toArray 37)) := (Below.refl _ _).alloc (Nat.le_refl _) _
  obtain ⟨w3, hw3⟩ : ∃ x, w2.alloc (.cells [.int .i64 (n : Int), .map (some w.heap.size), .map (some (w.heap.size + 1)), .slice none 0 0, .int .i64 (-1), .bool false].toArray 37) = x := ⟨_, rfl⟩
  rw [hw3] at hA b3
  have HW : Hid (∃ S R, PAt S R w3 (.pointer (some ⟨w2.heap.size, 0, none⟩)) (newS n) ∧ (∀ k, S k ∨ R k → w.heap.size ≤ k) ∧ Below w.heap.size w w3) := by
    rw [s1] at m2
    have hlen : (List.replicate n zeros).length = n := List.length_replicate
    refine ⟨fun k => k = w2.heap.size ∨ k = w.heap.size ∨ k = w.heap.size + 1 ∨ (Value.slice none 0 0).ownBlock = some k, none_, ⟨w2.heap.size, w.heap.size, w.heap.size + 1, .slice none 0 0, rfl, ⟨?_, ?_, ?_, ownn_nil _ _ _ _, by omega, by omega, by omega, by simp [Value.ownBlock], by simp [Value.ownBlock], by simp [Value.ownBlock], ok_new h2⟩, fun k => Iff.rfl, fun k h => h⟩, ?_, ?_⟩
    · show w3.heap[w2.heap.size]? = some (Obj.cells [.int .i64 ((List.replicate n zeros).length : Int), _, _, _, _, _].toArray _ _)
      rw [hlen]; exact hA
    · exact ((m1.below b2).below b3).congr fun k => (getD_zeros n k).symm
    · exact (m2.below b3).congr fun k => (getD_zeros n k).symm
    · rintro k ((h | h | h | h) | h)
      · omega
      · omega
      · omega
      · simp [Value.ownBlock] at h
      · exact h.elim
    · exact (b1.trans (b2.mono (by omega))).trans (b3.mono (by omega))
  rw [s2] at HW
  clear m1 m2 b1 b2 b3 hA h1
  go_enter Try.func5, Try.ntmps5
  go_wp2
  go_ret
  exact ⟨_, rfl, unhide HW⟩
theorem own_any {w : World} {O base : Nat} {b : Bs} {T : TypeId} (h : w.heap[O]? = some (.cells (b.map bv).toArray T (0, 0))) (hO : base ≤ O) (hb : b.length = 64) : OwnA w base (.slice (some ⟨O, 0, none⟩) 64 64) b :=
  ⟨T, by simp, Or.inr ⟨O, 64, (b.map bv).toArray, by simp [hb], hO, h, by simp [hb], by simp [maxLen], by simp [hb], by simp [hb, List.take_of_length_le]⟩⟩
set_option maxRecDepth 100000 in
set_option maxHeartbeats 4000000 in
theorem read_c {S R : Set_} {w : World} {p : Value} {s : PS} (a : Int) (h : PAt S R w p s) :
    Calls Try.prog 17 #[p, .int .i64 a] w fun e w' => ∃ v, e = .returned (.tuple #[v, .int .i64 (readE s a)]) ∧ OwnA w' w.heap.size v (readB s a) ∧ Below w.heap.size w w' := by
  obtain ⟨B, T, M, lv, rfl, hf, _, _⟩ := h
  obtain ⟨k0, k1, _, _, _, k5⟩ := six_row hf.str
  obtain ⟨N, hN⟩ : ∃ x, s.safe.length = x := ⟨_, rfl⟩
  rw [hN] at k0
  cases hd : s.down with
  | true =>
    rw [hd] at k5
    have e1 : readE s a = 50 := by unfold readE; rw [hd]; rfl
    have e2 : readB s a = [] := by unfold readB; rw [hd]; rfl
    rw [e1, e2]
    clear hf hd e1 e2 hN
    go_enter Try.func17, Try.ntmps17
    go_wp2
    go_ret2
    exact ⟨_, rfl, (ownb_nil _ _).any, Below.refl _ _⟩
  | false =>
    rw [hd] at k5
    have Hh := hide (has_c w B N a k0)
    have hra : rightAt s a = (decide (0 ≤ a) && decide (a < (N : Int))) := by unfold rightAt; rw [hN]
    cases hr : (decide (0 ≤ a) && decide (a < (N : Int))) with
    | false =>
      have e1 : readE s a = 51 := by unfold readE; rw [hd, hra, hr]; rfl
      have e2 : readB s a = [] := by unfold readB; rw [hd, hra, hr]; rfl
      rw [e1, e2]
      rw [hr] at Hh
      clear hf hd e1 e2 hN hra hr
      go_enter Try.func17, Try.ntmps17
      go_wp2_with fail
      refine (unhide Hh).mono ?_
      rintro e w1 ⟨rfl, rfl⟩
      go_wp2
      go_ret2
      exact ⟨_, rfl, (ownb_nil _ _).any, Below.refl _ _⟩
    | true =>
      have e1 : readE s a = 0 := by unfold readE; rw [hd, hra, hr]; rfl
      have e2 : readB s a = (applyL s.safe s.loose).getD a.toNat zeros := by
        unfold readB; rw [hd, hra, hr]
        simp only [Bool.false_eq_true, if_false, Bool.not_true]
        have hlt : a.toNat < (applyL s.safe s.loose).length := by
          rw [apply_len, hN]
          simp only [Bool.and_eq_true, decide_eq_true_eq] at hr
          omega
        rw [List.getD_eq_getElem?_getD, List.getD_eq_getElem?_getD, List.getElem?_eq_getElem hlt, Option.getD_some, Option.getD_some]
      obtain ⟨n, hn⟩ : ∃ n : Nat, a = (n : Int) := ⟨a.toNat, by simp only [Bool.and_eq_true, decide_eq_true_eq] at hr; omega⟩
      subst hn
      rw [Int.toNat_natCast] at e2
      have hlk := hf.there.look n
      have hbl := hf.there.len n
      rw [e1, e2]
      rw [hr] at Hh
      obtain ⟨b, hb⟩ : ∃ x, (applyL s.safe s.loose).getD n zeros = x := ⟨_, rfl⟩
      rw [hb] at hlk hbl ⊢
      unfold sv at hlk
      have hX : (b.map bv).toArray.size = 64 := by simp [hbl]
      have h1 := all_oneCell_toArray (one_bytes b)
      have Hend : Hid (∀ Z : Array Value, OwnA ((w.alloc (.cells Z 65)).setRow w.heap.size (b.map bv).toArray) w.heap.size (.slice (some ⟨w.heap.size, 0, none⟩) 64 64) b ∧ Below w.heap.size w ((w.alloc (.cells Z 65)).setRow w.heap.size (b.map bv).toArray)) := fun Z =>
        ⟨own_any (setRow_heap _ _ _ _ _ _ (heap_alloc_new w (.cells Z 65))) (Nat.le_refl _) hbl, below_setRow ((Below.refl _ _).alloc (Nat.le_refl _) _) (Nat.le_refl _) _⟩
      obtain ⟨X, hXX⟩ : ∃ x, (b.map bv).toArray = x := ⟨_, rfl⟩
      rw [hXX] at hlk hX h1 Hend
      clear hf hd e1 e2 hN hra hr hb hbl hXX
      go_enter Try.func17, Try.ntmps17
      go_wp2_with fail
      refine (unhide Hh).mono ?_
      rintro e w1 ⟨rfl, hw⟩
      have := hw.symm
      subst this
      clear Hh
      go_wp2_with (refine wpList_store_row rfl 65 _ _ rfl w.heap.size X rfl rfl 65 _ (heap_alloc_new _ _) (by rw [hX]; exact size_sector) (by rw [hX]; rfl) h1 ?_)
      go_ret2
      exact ⟨_, rfl, unhide Hend _⟩
end Go.Proofs.Ytfpndphfibfdiab
