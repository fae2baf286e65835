/-
  Values of layer 9 in memory: five cells each, their bytes and kids in slices.
-/
import Derived.Test.YtcofnockikninabGreatDoorByt
import Derived.Test.YtcofnockikninabGreatDoorDright
namespace Go.Proofs.YtcofnockikninabGreatDoor
open Go.RowKit
/-- The five cells of a value. -/
def dcells (c t : Int) (m : Bool) (xb xk : Value) : List Value := [.int .i64 c, .int .i64 t, .bool m, xb, xk]
/-- The five cells in memory from a place on. -/
def CellsAt (w : World) (b o : Nat) (cs : List Value) : Prop := ∀ j u, cs[j]? = some u → w.cell? ⟨b, o + j, none⟩ = some u
/-- A value lies in memory, in blocks of S alone (n: how deep at most). -/
def VAt : Nat → (Nat → Prop) → World → List Value → DV → Prop
  | 0, _, _, _, _ => False
  | n + 1, S, w, cs, v => ∃ xb sk ck, cs = dcells v.cls v.tag v.made xb (.slice sk v.kids.length ck) ∧ BytesAt w xb v.bytes ∧ (v.bytes ≠ [] → ∀ k, xb.ownBlock = some k → S k) ∧ (v.bytes.length ≤ 9223372036854775807 ∧ v.kids.length ≤ 9223372036854775807) ∧ v.kids.length ≤ ck ∧ (sk = none → ck = 0) ∧
      (v.kids ≠ [] → ∃ b o, sk = some ⟨b, o, none⟩ ∧ S b ∧ ∀ i k, v.kids[i]? = some k → ∃ ds, CellsAt w b (o + i * 5) ds ∧ VAt n S w ds k)
/-- A value, wherever it ends. -/
def ValAt (S : Nat → Prop) (w : World) (cs : List Value) (v : DV) : Prop := ∃ n, VAt n S w cs v
theorem CellsAt.below {a b : World} {B o : Nat} {cs : List Value} (h : CellsAt a B o cs) (hb : Below a.heap.size a b) : CellsAt b B o cs := fun j u hu => by
  have h1 := h j u hu
  have hlt : B < a.heap.size := World.block_lt_of_cell? a _ h1
  rw [hb.cell (p := ⟨B, o + j, none⟩) hlt]
  exact h1
theorem CellsAt.kept {a b : World} {B o : Nat} {row : Option Nat} {cs : List Value} (h : CellsAt a B o cs) (hg : a.grownBy b row) (hne : some B ≠ row) : CellsAt b B o cs := fun j u hu => by
  have h1 := h j u hu
  have hlt : B < a.heap.size := World.block_lt_of_cell? a _ h1
  rw [World.cell?_of_block (hg.block B hlt hne)]
  exact h1
theorem VAt.len {n : Nat} {S : Nat → Prop} {w : World} {cs : List Value} {v : DV} (h : VAt n S w cs v) : cs.length = 5 := by
  cases n with
  | zero => exact h.elim
  | succ n => obtain ⟨_, _, _, rfl, _⟩ := h; rfl
theorem VAt.below : ∀ {n : Nat} {S : Nat → Prop} {a b : World} {cs : List Value} {v : DV}, VAt n S a cs v → Below a.heap.size a b → VAt n S b cs v
  | 0, _, _, _, _, _, h, _ => h
  | n + 1, S, a, b, cs, v, h, hb => by
    obtain ⟨xb, sk, ck, e, h1, h2, h6, h3, h4, h5⟩ := h
    refine ⟨xb, sk, ck, e, h1.below hb, h2, h6, h3, h4, fun hk => ?_⟩
    obtain ⟨b', o, e2, hB, hi⟩ := h5 hk
    refine ⟨b', o, e2, hB, fun i k hik => ?_⟩
    obtain ⟨ds, hc, hv⟩ := hi i k hik
    exact ⟨ds, hc.below hb, VAt.below hv hb⟩
theorem VAt.mono : ∀ {n : Nat} {S S' : Nat → Prop} {a : World} {cs : List Value} {v : DV}, VAt n S a cs v → (∀ b, S b → b < a.heap.size → S' b) → VAt n S' a cs v
  | 0, _, _, _, _, _, h, _ => h
  | n + 1, S, S', a, cs, v, h, hs => by
    obtain ⟨xb, sk, ck, e, h1, h2, h6, h3, h4, h5⟩ := h
    refine ⟨xb, sk, ck, e, h1, fun hne k hk => hs k (h2 hne k hk) (ValsAt.old h1 (by simpa using hne) k hk), h6, h3, h4, fun hk => ?_⟩
    obtain ⟨b', o, e2, hB, hi⟩ := h5 hk
    have hlt : b' < a.heap.size := by
      obtain ⟨k0, hk0⟩ : ∃ k0, v.kids[0]? = some k0 := by cases hv : v.kids with | nil => exact absurd hv hk | cons k0 r => exact ⟨k0, rfl⟩
      obtain ⟨ds, hc, hv⟩ := hi 0 k0 hk0
      have hl := hv.len
      obtain ⟨u, hu⟩ : ∃ u, ds[0]? = some u := ⟨_, List.getElem?_eq_getElem (by omega)⟩
      exact World.block_lt_of_cell? a _ (hc 0 u hu)
    refine ⟨b', o, e2, hs b' hB hlt, fun i k hik => ?_⟩
    obtain ⟨ds, hc, hv⟩ := hi i k hik
    exact ⟨ds, hc, VAt.mono hv hs⟩
theorem VAt.more : ∀ {n m : Nat} {S : Nat → Prop} {a : World} {cs : List Value} {v : DV}, VAt n S a cs v → n ≤ m → VAt m S a cs v
  | 0, _, _, _, _, _, h, _ => h.elim
  | n + 1, 0, _, _, _, _, _, h => by omega
  | n + 1, m + 1, S, a, cs, v, h, hn => by
    obtain ⟨xb, sk, ck, e, h1, h2, h6, h3, h4, h5⟩ := h
    refine ⟨xb, sk, ck, e, h1, h2, h6, h3, h4, fun hk => ?_⟩
    obtain ⟨b', o, e2, hB, hi⟩ := h5 hk
    refine ⟨b', o, e2, hB, fun i k hik => ?_⟩
    obtain ⟨ds, hc, hv⟩ := hi i k hik
    exact ⟨ds, hc, VAt.more hv (by omega)⟩
/-- Writing into a block that is none of its own turns nothing of a value. -/
theorem VAt.kept : ∀ {n : Nat} {S : Nat → Prop} {row : Option Nat} {a b : World} {cs : List Value} {v : DV}, VAt n S a cs v → a.grownBy b row → (∀ g, row = some g → ¬ S g) → VAt n S b cs v
  | 0, _, _, _, _, _, _, h, _, _ => h
  | n + 1, S, row, a, b, cs, v, h, hg, hS => by
    obtain ⟨xb, sk, ck, e, h1, h2, h6, h3, h4, h5⟩ := h
    refine ⟨xb, sk, ck, e, ?_, h2, h6, h3, h4, fun hk => ?_⟩
    · by_cases hne : v.bytes = []
      · obtain ⟨sp, c, rfl, g1, g2, _⟩ := h1
        exact ⟨sp, c, rfl, g1, g2, fun hn => absurd (by rw [hne]; rfl) hn⟩
      · have hne2 : v.bytes.map bv ≠ [] := by simpa using hne
        obtain ⟨b0, o0, c0, e0, hc0, hb0, hcell⟩ := ValsAt.cell h1 hne2
        subst e0
        refine ⟨_, _, rfl, hc0, fun e => (by cases e), fun _ => ⟨b0, o0, rfl, fun j u hu => ?_⟩⟩
        have hj : j < (v.bytes.map bv).length := (List.getElem?_eq_some_iff.1 hu).1
        have hS0 : some b0 ≠ row := fun er => hS b0 er.symm (h2 hne b0 rfl)
        rw [World.cell?_of_block (hg.block b0 hb0 hS0), hcell j hj, ← hu, List.getD_eq_getElem?_getD, List.getElem?_eq_getElem hj]
        rfl
    · obtain ⟨b', o, e2, hB, hi⟩ := h5 hk
      refine ⟨b', o, e2, hB, fun i k hik => ?_⟩
      obtain ⟨ds, hc, hv⟩ := hi i k hik
      exact ⟨ds, hc.kept hg (fun er => hS b' er.symm hB), VAt.kept hv hg hS⟩
theorem ValAt.below {S : Nat → Prop} {a b : World} {cs : List Value} {v : DV} (h : ValAt S a cs v) (hb : Below a.heap.size a b) : ValAt S b cs v := by
  obtain ⟨n, h⟩ := h
  exact ⟨n, h.below hb⟩
theorem ValAt.mono {S S' : Nat → Prop} {a : World} {cs : List Value} {v : DV} (h : ValAt S a cs v) (hb : ∀ b, S b → b < a.heap.size → S' b) : ValAt S' a cs v := by
  obtain ⟨n, h⟩ := h
  exact ⟨n, h.mono hb⟩
theorem ValAt.kept {S : Nat → Prop} {row : Option Nat} {a b : World} {cs : List Value} {v : DV} (h : ValAt S a cs v) (hg : a.grownBy b row) (hS : ∀ g, row = some g → ¬ S g) : ValAt S b cs v := by
  obtain ⟨n, h⟩ := h
  exact ⟨n, h.kept hg hS⟩
/-- Five cells read one by one. -/
theorem CellsAt.five {w : World} {b o : Nat} {c t : Int} {m : Bool} {xb xk : Value} (h : CellsAt w b o (dcells c t m xb xk)) :
    w.cell? ⟨b, o, none⟩ = some (.int .i64 c) ∧ w.cell? ⟨b, o + 1, none⟩ = some (.int .i64 t) ∧ w.cell? ⟨b, o + 2, none⟩ = some (.bool m) ∧ w.cell? ⟨b, o + 3, none⟩ = some xb ∧ w.cell? ⟨b, o + 4, none⟩ = some xk :=
  ⟨h 0 _ rfl, h 1 _ rfl, h 2 _ rfl, h 3 _ rfl, h 4 _ rfl⟩
theorem VAt.form {n : Nat} {S : Nat → Prop} {w : World} {cs : List Value} {v : DV} (h : VAt n S w cs v) : ∃ s1 c1 s2 c2, cs = dcells v.cls v.tag v.made (.slice s1 v.bytes.length c1) (.slice s2 v.kids.length c2) := by
  cases n with
  | zero => exact h.elim
  | succ n =>
    obtain ⟨xb, s2, c2, rfl, hx, _⟩ := h
    obtain ⟨s1, c1, rfl, _⟩ := bytes_open hx
    exact ⟨s1, c1, s2, c2, rfl⟩
theorem CellsAt.five0 {w : World} {b : Nat} {c t : Int} {m : Bool} {xb xk : Value} (h : CellsAt w b 0 (dcells c t m xb xk)) :
    w.cell? ⟨b, 0, none⟩ = some (.int .i64 c) ∧ w.cell? ⟨b, 1, none⟩ = some (.int .i64 t) ∧ w.cell? ⟨b, 2, none⟩ = some (.bool m) ∧ w.cell? ⟨b, 3, none⟩ = some xb ∧ w.cell? ⟨b, 4, none⟩ = some xk :=
  ⟨h 0 _ rfl, h 1 _ rfl, h 2 _ rfl, h 3 _ rfl, h 4 _ rfl⟩
/-- A value that has just been laid. -/
theorem cells_new (w : World) (cs : List Value) (t : TypeId) : CellsAt (w.alloc (.cells cs.toArray t)) w.heap.size 0 cs := fun j u hu => by
  rw [cell_of_row _ _ _ _ t (0, 0) (heap_alloc_new w _), Nat.zero_add, List.getElem?_toArray]
  exact hu
mutual
/-- How many values there are, and bytes. -/
def weight : DV → Nat
  | .mk _ _ _ b ks => 1 + b.length + weights ks
def weights : List DV → Nat
  | [] => 0
  | v :: l => weight v + weights l
end
theorem weight_kid : ∀ {ks : List DV} {i : Nat} {k : DV}, ks[i]? = some k → weight k ≤ weights ks
  | [], i, k, h => by simp at h
  | v :: l, 0, k, h => by simp at h; subst h; simp [weights]
  | v :: l, i + 1, k, h => by
    have := weight_kid (ks := l) (i := i) (k := k) (by simpa using h)
    simp only [weights]
    omega
theorem weights_len : ∀ ks : List DV, ks.length ≤ weights ks
  | [] => by simp
  | v :: l => by
    have := weights_len l
    have h1 : 1 ≤ weight v := by cases v; simp only [weight]; omega
    simp only [weights, List.length_cons]
    omega
theorem weights_take : ∀ (ks : List DV) (i : Nat) (k : DV), ks[i]? = some k → weights (ks.take (i + 1)) = weights (ks.take i) + weight k
  | [], i, k, h => by simp at h
  | v :: l, 0, k, h => by simp at h; subst h; simp [weights]
  | v :: l, i + 1, k, h => by
    have := weights_take l i k (by simpa using h)
    simp only [List.take_succ_cons, weights]
    omega
end Go.Proofs.YtcofnockikninabGreatDoor
