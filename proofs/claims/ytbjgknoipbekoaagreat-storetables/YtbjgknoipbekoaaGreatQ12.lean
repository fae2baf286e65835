/-
  What an Append leaves (the landed wal): put together.
-/
import Derived.Test.YtbjgknoipbekoaaGreatQ11
namespace Go.Proofs.YtbjgknoipbekoaaGreat
open Go.RowKit
/-- What the record asks of an append's end. -/
def AppEnd (PAt : Set_ → Set_ → World → Value → PS → Prop) (S R S2 R2 : Set_) (w w' : World) (l p : Value) (s' : PS) (L' : LS) : Prop :=
  ∃ S' R' S2' R2', PAt S' R' w' p s' ∧ LAt S2' R2' w' l p L' ∧ (∀ k, S' k ∨ S2' k → (S k ∨ S2 k) ∨ w.heap.size ≤ k) ∧ (∀ k, R' k → R k ∨ w.heap.size ≤ k) ∧ (∀ k, R2' k → R2 k ∨ w.heap.size ≤ k) ∧ (∀ k, S2' k → ¬ S' k ∧ ¬ R' k) ∧ (∀ k, S' k → ¬ R2' k) ∧ Aside (fun k => S k ∨ S2 k) w w'
section
variable {PAt : Set_ → Set_ → World → Value → PS → Prop} (HP : Plate PAt)
variable {S R S2 R2 S' R' : Set_} {w w1 w2 : World} {B : Nat} {p v : Value} {vs : List Value} {s s' : PS} {L : LS}
/-- A log and its plate ahead of an append, in one. -/
structure AppI (PAt : Set_ → Set_ → World → Value → PS → Prop) (S R S2 R2 : Set_) (w : World) (B : Nat) (p v : Value) (vs : List Value) (s : PS) (L : LS) : Prop where
  pl : PAt S R w p s
  f : LForm B w p v vs L
  s2 : ∀ k, S2 k ↔ (k = B ∨ v.ownBlock = some k)
  r2 : ∀ k, R2 k ↔ ∃ u ∈ vs, u.ownBlock = some k
  sepP : ∀ k, S2 k → ¬ S k ∧ ¬ R k
  sepL : ∀ k, S k → ¬ R2 k
include HP in
/-- Nothing turned but what is new. -/
theorem AppI.same (h : AppI PAt S R S2 R2 w B p v vs s L) (hb : Below w.heap.size w w1) : AppEnd PAt S R S2 R2 w w1 (.pointer (some ⟨B, 0, none⟩)) p s L :=
  ⟨S, R, S2, R2, HP.kept h.pl (T := none_) (Aside.of_below hb) fun _ h => h.elim, lat_kept ⟨B, v, vs, rfl, h.f, h.s2, h.r2⟩ (T := none_) (Aside.of_below hb) fun _ h => h.elim, fun _ hk => Or.inl hk, fun _ hk => Or.inl hk, fun _ hk => Or.inl hk, h.sepP, h.sepL, Aside.of_below hb⟩
theorem AppI.notS (h : AppI PAt S R S2 R2 w B p v vs s L) : ¬ S B ∧ ¬ R B := h.sepP B ((h.s2 B).2 (Or.inl rfl))
include HP in
/-- Behind the plate's calls: what was there of the log is as it was. -/
theorem AppI.wrote (h : AppI PAt S R S2 R2 w B p v vs s L) (hb1 : Below w.heap.size w w1) (hS : ∀ k, S' k → S k ∨ w1.heap.size ≤ k) (hR : ∀ k, R' k → R k ∨ w1.heap.size ≤ k) (hA : Aside S w1 w2) :
    LForm B w2 p v vs L ∧ Aside S w w2 ∧ (∀ k, S' k → S k ∨ w.heap.size ≤ k) ∧ (∀ k, R' k → R k ∨ w.heap.size ≤ k) ∧ (∀ k, k < w.heap.size → S2 k → ¬ S' k ∧ ¬ R' k) ∧ ∀ k, k < w.heap.size → R2 k → ¬ S' k := by
  have hs1 := hb1.size
  have hA2 : Aside S w w2 := (Aside.of_below hb1).trans hA fun _ _ h => h
  have hold := HP.old h.pl
  refine ⟨h.f.aside hA2 h.notS.1 (fun k hk hS => (h.sepP k ((h.s2 k).2 (Or.inr hk))).1 hS) (fun u hu k hk hS => h.sepL k hS ((h.r2 k).2 ⟨u, hu, hk⟩)), hA2, fun k hk => ?_, fun k hk => ?_, fun k hk h2 => ⟨fun h3 => ?_, fun h3 => ?_⟩, fun k hk h2 h3 => ?_⟩
  · exact (hS k hk).elim Or.inl fun h => Or.inr (by omega)
  · exact (hR k hk).elim Or.inl fun h => Or.inr (by omega)
  · rcases hS k h3 with h4 | h4
    · exact (h.sepP k h2).1 h4
    · omega
  · rcases hR k h3 with h4 | h4
    · exact (h.sepP k h2).2 h4
    · omega
  · rcases hS k h3 with h4 | h4
    · exact h.sepL k h4 h2
    · omega
theorem LForm.blocks (h : LForm B w p v vs L) : B < w.heap.size ∧ (∀ k, v.ownBlock = some k → k < w.heap.size) ∧ ∀ u ∈ vs, ∀ k, u.ownBlock = some k → k < w.heap.size :=
  ⟨(Array.getElem?_eq_some_iff.1 h.str).1, fun k hk => (h.recs.lt.1 k hk).2, fun u hu k hk => (h.recs.lt.2 u hu k hk).2⟩
include HP in
/-- The plate told an error: the log is shut. -/
theorem AppI.err (h : AppI PAt S R S2 R2 w B p v vs s L) (hb1 : Below w.heap.size w w1) (hp2 : PAt S' R' w2 p s') (hS : ∀ k, S' k → S k ∨ w1.heap.size ≤ k) (hR : ∀ k, R' k → R k ∨ w1.heap.size ≤ k) (hA : Aside S w1 w2) :
    AppEnd PAt S R S2 R2 w (w2.setCell ⟨B, 6, none⟩ (.bool true)) (.pointer (some ⟨B, 0, none⟩)) p s' ⟨L.start, L.size, L.gen, L.opening, L.rs, true⟩ := by
  obtain ⟨hf2, hA2, hS', hR', hd, hd2⟩ := h.wrote HP hb1 hS hR hA
  obtain ⟨lB, lv, lu⟩ := h.f.blocks
  have g3 : w2.grownBy (w2.setCell ⟨B, 6, none⟩ (.bool true)) (some B) := setCell_grown B 6 _
  have str3 := row_put hf2.str 6 (by simp [logC]) (.bool true)
  obtain ⟨w3, hw3⟩ : ∃ y, w2.setCell ⟨B, 6, none⟩ (.bool true) = y := ⟨_, rfl⟩
  rw [hw3] at g3 str3 ⊢
  have A3 : Aside (fun k => k = B) w2 w3 := Aside.of_grown g3 fun k hk => (Option.some.inj hk).symm
  have hBs : S2 B := (h.s2 B).2 (Or.inl rfl)
  refine ⟨S', R', S2, R2, HP.kept hp2 A3 fun k hk => ?_, ⟨B, v, vs, rfl, ⟨?_, hf2.recs.aside A3 (fun k hk e => by subst e; exact hf2.apart hk) (fun u hu k hk e => by subst e; exact hf2.each u hu hk), hf2.apart, hf2.each, hf2.used, hf2.fit⟩, h.s2, h.r2⟩, fun k hk => ?_, hR', fun k hk => Or.inl hk, fun k hk => ?_, fun k hk h2 => ?_, ?_⟩
  · subst hk; exact ⟨fun h3 => (hd k lB hBs).1 h3, fun h3 => (hd k lB hBs).2 h3⟩
  · rw [str3]; rfl
  · rcases hk with hk | hk
    · exact (hS' k hk).elim (fun h => Or.inl (Or.inl h)) Or.inr
    · exact Or.inl (Or.inr hk)
  · rcases (h.s2 k).1 hk with e | e
    · exact hd k (e ▸ lB) hk
    · exact hd k (lv k e) hk
  · obtain ⟨u, hu, e⟩ := (h.r2 k).1 h2
    exact hd2 k (lu u hu k e) h2 hk
  · refine (hA2.mono fun k _ h => Or.inl h).trans (T := fun k => k = B) A3 fun k _ e => ?_
    rw [e]
    exact Or.inr hBs
include HP in
/-- The plate took it: the record stands in the log. -/
theorem AppI.ok {w4 w5 : World} {c v' : Value} {b : Bs} {T : TypeId} (h : AppI PAt S R S2 R2 w B p v vs s L) (hb1 : Below w.heap.size w w1) (hp2 : PAt S' R' w2 p s') (hS : ∀ k, S' k → S k ∨ w1.heap.size ≤ k) (hR : ∀ k, R' k → R k ∨ w1.heap.size ≤ k) (hA : Aside S w1 w2)
    (hfit : usedR L.rs + needs b.length ≤ L.size) (hsh : L.shut = false) (hb4 : Below w2.heap.size (w2.setCell ⟨B, 1, none⟩ (.int .i64 ((L.start + usedR L.rs + needs b.length : Nat) : Int))) w4) (hc : OwnA w4 w2.heap.size c b)
    (ho : OwnV 23 w5 0 v' (vs ++ [c])) (hg : (w4.alloc (.cells #[c] T)).grownBy w5 v.ownBlock) (hor : v'.ownBlock = v.ownBlock ∨ v'.ownBlock = some (w4.alloc (.cells #[c] T)).heap.size) :
    w5.cell? ⟨B, 5, none⟩ = some v ∧ w5.frozen? ⟨B, 5, none⟩ = false ∧ AppEnd PAt S R S2 R2 w (w5.setCell ⟨B, 5, none⟩ v') (.pointer (some ⟨B, 0, none⟩)) p s' ⟨L.start, L.size, L.gen, L.opening, L.rs ++ [(b, L.opening)], false⟩ := by
  obtain ⟨hf2, hA2, hS', hR', hd, hd2⟩ := h.wrote HP hb1 hS hR hA
  obtain ⟨lB, lv, lu⟩ := h.f.blocks
  have g3 : w2.grownBy (w2.setCell ⟨B, 1, none⟩ (.int .i64 ((L.start + usedR L.rs + needs b.length : Nat) : Int))) (some B) := setCell_grown B 1 _
  have str3 := row_put hf2.str 1 (by simp [logC]) (.int .i64 ((L.start + usedR L.rs + needs b.length : Nat) : Int))
  obtain ⟨w3, hw3⟩ : ∃ y, w2.setCell ⟨B, 1, none⟩ (.int .i64 ((L.start + usedR L.rs + needs b.length : Nat) : Int)) = y := ⟨_, rfl⟩
  have hs3 : w3.heap.size = w2.heap.size := by rw [← hw3]; simp
  rw [hw3] at g3 str3 hb4
  have hw2 := hA2.size
  have hw4 := hb4.size
  have A3 : Aside (fun k => k = B) w2 w3 := Aside.of_grown g3 fun k hk => (Option.some.inj hk).symm
  have hBs : S2 B := (h.s2 B).2 (Or.inl rfl)
  have rec3 : GrowF 0 w3 v vs (L.rs.map (·.1)) := hf2.recs.aside A3 (fun k hk e => by subst e; exact hf2.apart hk) (fun u hu k hk e => by subst e; exact hf2.each u hu hk)
  rw [← hs3] at hb4 hc
  obtain ⟨rec5, _⟩ := rec3.next (Nat.zero_le _) hc hb4 ho hg hor
  have hal : (w4.alloc (.cells #[c] T)).heap.size = w4.heap.size + 1 := by simp
  have hb34 : Below w3.heap.size w3 (w4.alloc (.cells #[c] T)) := hb4.alloc hb4.size _
  have A5 : Aside (fun k => v.ownBlock = some k) (w4.alloc (.cells #[c] T)) w5 := Aside.of_grown hg fun k hk => hk
  have A35 : Aside (fun k => v.ownBlock = some k) w3 w5 := (Aside.of_below hb34).trans A5 fun _ _ h => h
  have str5 : w5.heap[B]? = w3.heap[B]? := A35.block B (by omega) hf2.apart
  rw [← str5] at str3
  have g6 : w5.grownBy (w5.setCell ⟨B, 5, none⟩ v') (some B) := setCell_grown B 5 _
  have str6 := row_put str3 5 (by simp [logC]) v'
  have c5 : w5.cell? ⟨B, 5, none⟩ = some v := row_cell str3 5 _ rfl
  have z5 := row_frozen str3 5
  refine ⟨c5, z5, ?_⟩
  obtain ⟨w6, hw6⟩ : ∃ y, w5.setCell ⟨B, 5, none⟩ v' = y := ⟨_, rfl⟩
  rw [hw6] at g6 str6 ⊢
  have A6 : Aside (fun k => k = B) w5 w6 := Aside.of_grown g6 fun k hk => (Option.some.inj hk).symm
  have hcl := hc.lt
  have hs5 : w3.heap.size ≤ w5.heap.size := A35.size
  have hvn : ∀ k, v'.ownBlock = some k → v.ownBlock = some k ∨ w3.heap.size ≤ k := fun k hk => by
    rcases hor with e | e
    · exact Or.inl (e ▸ hk)
    · rw [e] at hk; have := Option.some.inj hk; exact Or.inr (by omega)
  have hv'B : v'.ownBlock ≠ some B := fun e => by
    rcases hvn B e with e1 | e1
    · exact hf2.apart e1
    · omega
  have huB : ∀ u ∈ vs ++ [c], u.ownBlock ≠ some B := fun u hu e => by
    rcases List.mem_append.1 hu with h1 | h1
    · exact hf2.each u h1 e
    · rw [List.mem_singleton] at h1; subst h1; have := (hcl B e).1; omega
  have A26 : Aside (fun k => k = B ∨ v.ownBlock = some k) w2 w6 := ((A3.mono fun _ _ h => Or.inl h).trans (T := fun k => k = B ∨ v.ownBlock = some k) (A35.mono fun _ _ h => Or.inr h) fun _ _ h => h).trans (T := fun k => k = B ∨ v.ownBlock = some k) (A6.mono fun _ _ h => Or.inl h) fun _ _ h => h
  have hold2 := HP.old hp2
  refine ⟨S', R', fun k => k = B ∨ v'.ownBlock = some k, fun k => ∃ u ∈ vs ++ [c], u.ownBlock = some k, HP.kept hp2 A26 fun k hk => ?_, ⟨B, v', vs ++ [c], rfl, ⟨?_, ?_, hv'B, huB, ?_, hf2.fit⟩, fun k => Iff.rfl, fun k => Iff.rfl⟩, fun k hk => ?_, hR', fun k hk => ?_, fun k hk => ?_, fun k hk => ?_, ?_⟩
  · rcases hk with e | e
    · subst e; exact hd k lB hBs
    · exact hd k (lv k e) ((h.s2 k).2 (Or.inr e))
  · rw [str6]
    unfold logC
    simp only [used_snoc]
    rw [show L.start + (usedR L.rs + needs b.length) = L.start + usedR L.rs + needs b.length by omega, hsh]
    rfl
  · rw [List.map_append]
    exact rec5.aside A6 (fun k hk e => by subst e; exact hv'B hk) fun u hu k hk e => by subst e; exact huB u hu hk
  · show usedR (L.rs ++ [(b, L.opening)]) ≤ L.size
    rw [used_snoc]; exact hfit
  · rcases hk with hk | hk | hk
    · exact (hS' k hk).elim (fun h => Or.inl (Or.inl h)) Or.inr
    · rw [hk]; exact Or.inl (Or.inr hBs)
    · rcases hvn k hk with e | e
      · exact Or.inl (Or.inr ((h.s2 k).2 (Or.inr e)))
      · exact Or.inr (by omega)
  · obtain ⟨u, hu, e⟩ := hk
    rcases List.mem_append.1 hu with h1 | h1
    · exact Or.inl ((h.r2 k).2 ⟨u, h1, e⟩)
    · rw [List.mem_singleton] at h1; subst h1; have := (hcl k e).1; exact Or.inr (by omega)
  · rcases hk with e | e
    · subst e; exact hd k lB hBs
    · rcases hvn k e with e1 | e1
      · exact hd k (lv k e1) ((h.s2 k).2 (Or.inr e1))
      · exact ⟨fun h3 => by have := hold2 k (Or.inl h3); omega, fun h3 => by have := hold2 k (Or.inr h3); omega⟩
  · rintro ⟨u, hu, e⟩
    rcases List.mem_append.1 hu with h1 | h1
    · exact hd2 k (lu u h1 k e) ((h.r2 k).2 ⟨u, h1, e⟩) hk
    · rw [List.mem_singleton] at h1; subst h1; have := (hcl k e).1; have := hold2 k (Or.inl hk); omega
  · refine (hA2.mono fun k _ h => Or.inl h).trans (T := fun k => k = B ∨ v.ownBlock = some k) A26 fun k _ e => ?_
    exact Or.inr ((h.s2 k).2 e)
end
end Go.Proofs.YtbjgknoipbekoaaGreat
