/-
  A thing is being told: what stands in memory meanwhile.
-/
import Derived.Test.YtbblhogdfdpipaaFf17
namespace Go.Proofs.Ytbblhogdfdpipaa
open Go.RowKit Go.MapKept
section
variable {α : Type}
/-- A thing in block e is being told to the readers of R; iterator r; R' are those that it has come to. -/
structure Tel (K : FK α) (X : Set_) (w wr : World) (P bm ee r : Nat) (Q C : Nat → Nat) (R R' : Rs α) (x : α) (es : Array MapEntry) (clock : Nat) (seen : Array Nat) : Prop where
  fc : FeedC K X wr P bm Q C R'
  rng : RngI wr bm r es clock seen
  told : Told es seen R R' x
  it : wr.cell? ⟨ee, 0, none⟩ = some (K.val x)
  aside : Aside X w wr
  xe : X ee
  xr : ¬ X r
  wr_ : w.heap.size ≤ r
  ies : IEs es fun k => (rd R k).map fun _ => pt (Q k.toNat)
variable {K : FK α}
theorem Tel.step (Pl : Plain K) {X : Set_} {w wr w2 : World} {P bm ee r : Nat} {Q C : Nat → Nat} {R R' : Rs α} {x : α} {es : Array MapEntry} {clock : Nat} {seen : Array Nat} (t : Tel K X w wr P bm ee r Q C R R' x es clock seen) {e : MapEntry} (he : e ∈ es.toList) (hs : seen.contains e.born = false)
    (hR2 : RngI w2 bm r es clock (seen.push e.born)) (hA2 : Aside (fun k => k = r) wr w2) :
    ∃ n b, e.key = ki n ∧ e.val = pt (Q n.toNat) ∧ rd R n = some b ∧ BoxAt K X w2 (Q n.toNat) (C n.toNat) b ∧ w2.cell? ⟨ee, 0, none⟩ = some (K.val x) ∧
      ∀ w3, BoxAt K X w3 (Q n.toNat) (C n.toNat) (b.put x) → Aside (two_ (Q n.toNat) (C n.toNat)) w2 w3 → Tel K X w w3 P bm ee r Q C R (setR R' n (some (b.put x))) x es clock (seen.push e.born) := by
  have hst := t.rng.st
  obtain ⟨n, hk, hf⟩ := t.ies.each e he
  have hr' := t.told.at_ e he n hk
  rw [hs] at hr'
  simp only [Bool.false_eq_true, if_false] at hr'
  cases hrn : rd R n with
  | none => rw [hrn] at hf; cases hf
  | some b =>
    rw [hrn] at hf hr'
    have hv : e.val = pt (Q n.toNat) := by
      rw [Option.map_some] at hf
      exact (Option.some.inj hf).symm
    have hS : ∀ k, k = r → ¬ X k := fun k e hx => t.xr (e ▸ hx)
    have fc2 := t.fc.aside hA2 hS
    have it2 : w2.cell? ⟨ee, 0, none⟩ = some (K.val x) := cell_aside t.it hA2 fun e1 => hS ee e1 t.xe
    have hb2 := fc2.box n b hr'
    refine ⟨n, b, hk, hv, hrn, hb2, it2, fun w3 hb3 ha3 => ?_⟩
    have hap := fc2.apart hb2
    have a23 : Aside X w w3 := by
      have a2 : Aside X w w2 := ⟨hA2.os.trans t.aside.os, hA2.tape.trans t.aside.tape, hA2.output.trans t.aside.output, Nat.le_trans t.aside.size hA2.size, fun k hk hn => (hA2.block k (Nat.lt_of_lt_of_le hk t.aside.size) (fun e1 => by have := t.wr_; have e2 : k = r := e1; omega)).trans (t.aside.block k hk hn)⟩
      refine a2.trans (ha3.mono (T := X) ?_) fun _ _ h => h
      rintro k _ (rfl | rfl)
      · exact hb2.xq
      · exact hb2.xc
    have hrx : r ≠ Q n.toNat ∧ r ≠ C n.toNat := ⟨fun e1 => t.xr (e1 ▸ hb2.xq), fun e1 => t.xr (e1 ▸ hb2.xc)⟩
    refine ⟨?_, ?_, (t.told.more hst he hs hk hr').1, ?_, a23, t.xe, t.xr, t.wr_, t.ies⟩
    · exact fc2.turned Pl hr' ha3 hb3 (len_set _ _) (live_some hr') (fun m => rd_set hr' _ m)
    · exact hR2.kept ha3 (fun h => h.elim hap.2.2.1 hap.2.2.2) (fun h => h.elim hrx.1 hrx.2)
    · exact cell_aside it2 ha3 fun h => hb2.loose Pl ee _ h it2 x rfl
/-- It begins. -/
theorem Tel.start {X : Set_} {w w1 : World} {P bm ee r : Nat} {Q C : Nat → Nat} {R : Rs α} {x : α} {es : Array MapEntry} {clock : Nat} (h : FeedC K X w P bm Q C R) (hE : IEs es fun k => (rd R k).map fun _ => pt (Q k.toNat)) (hR : RngI w1 bm r es clock #[]) (hb : Below w.heap.size w w1) (hee : ee = w.heap.size) (hr : r = w.heap.size + 1)
    (hs : w.heap.size + 2 ≤ w1.heap.size) (hc : w1.cell? ⟨ee, 0, none⟩ = some (K.val x)) : Tel K (fun k => X k ∨ k = ee) w w1 P bm ee r Q C R R x es clock #[] := by
  refine ⟨(h.below hb).mono (fun k hk => Or.inl hk) (fun k hk => ?_), hR, Told.start x hE fun k hk => ?_, hc, Aside.of_below hb, Or.inr rfl, fun hx => ?_, by omega, hE⟩
  · rcases hk with hk | rfl
    · have := h.old k hk; omega
    · omega
  · cases hrd : rd R k with
    | none => rfl
    | some b => rw [hrd] at hk; cases hk
  · rcases hx with hx | hx
    · have := h.old r hx; omega
    · omega
/-- It ends. -/
theorem Tel.done {X : Set_} {w wr : World} {P bm ee r : Nat} {Q C : Nat → Nat} {R R' : Rs α} {x : α} {es : Array MapEntry} {clock : Nat} {seen : Array Nat} (t : Tel K (fun k => X k ∨ k = ee) w wr P bm ee r Q C R R' x es clock seen) (hs : ∀ e ∈ es.toList, seen.contains e.born = true) (hee : ee = w.heap.size) : Turned K X w wr (pt P) (tellR R x) := by
  have := t.told.done hs
  refine ⟨_, ⟨P, bm, Q, C, rfl, this ▸ t.fc⟩, t.aside.mono fun k hk h => ?_, fun k hk => ?_⟩
  · rcases h with h | h
    · exact h
    · omega
  · rcases hk with hk | hk
    · exact Or.inl hk
    · exact Or.inr (by omega)
end
end Go.Proofs.Ytbblhogdfdpipaa
