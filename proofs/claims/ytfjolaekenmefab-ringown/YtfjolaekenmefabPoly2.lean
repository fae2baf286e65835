/-
  More plain words on polynomials: the points as the document reckons them; a polynomial times a power of X; sums, differences and products by their values. No program is named here.
-/
import Derived.Test.YtfjolaekenmefabPoly
namespace Go.Proofs.Ytfjolaekenmefab
theorem hor_append (p : Int) (m n : Nat) (f : Nat → Int) : hor p f (m + n) = hor p f m + p ^ m * hor p (fun t => f (t + m)) n := by
  induction n with
  | zero => simp [hor]
  | succ n ih =>
    rw [← Nat.add_assoc, hor_last, ih, hor_last, Int.pow_add, Nat.add_comm n m]
    generalize hor p f m = A
    generalize hor p (fun t => f (t + m)) n = B
    grind
theorem hor_neg (p : Int) (n : Nat) (f : Nat → Int) : hor p (fun t => -f t) n = -hor p f n := by
  induction n with
  | zero => rfl
  | succ n ih => rw [hor_last, hor_last, ih]; grind
theorem hor_sub (p : Int) (n : Nat) (f g : Nat → Int) : hor p (fun t => f t - g t) n = hor p f n - hor p g n := by
  induction n with
  | zero => rfl
  | succ n ih => rw [hor_last, hor_last, hor_last, ih]; grind
/-- The number k (below 256) with its eight bits in the other order. -/
def flipN (k : Nat) : Nat := (List.range 8).foldl (fun r j => 2 * r + k / 2 ^ j % 2) 0
theorem point_dec : ∀ s, s < 256 → 1753 ^ (2 * flipN s + 1) % 8380417 = ptN s := by decide +kernel
theorem pt_first : ptN 0 = 1753 ∧ ptN 1 = 8380417 - 1753 := by decide +kernel
/-- Two lists of numbers, place by place. -/
theorem ev_congr {l m : List Int} (p : Int) (h : ∀ t, t < 256 → Eqv (coef l t) (coef m t)) : Eqv (ev p l) (ev p m) := hor_congr (Eqv.refl p) _ _ _ h
theorem ev_of {l : List Int} (p : Int) (f : Nat → Int) (h : ∀ t, t < 256 → Eqv (coef l t) (f t)) : Eqv (ev p l) (hor p f 256) := hor_congr (Eqv.refl p) _ _ _ h
theorem ev_add {l a b : List Int} (p : Int) (h : ∀ t, t < 256 → Eqv (coef l t) (coef a t + coef b t)) : Eqv (ev p l) (ev p a + ev p b) := by
  have := ev_of p _ h
  rwa [hor_add] at this
theorem ev_sub {l a b : List Int} (p : Int) (h : ∀ t, t < 256 → Eqv (coef l t) (coef a t - coef b t)) : Eqv (ev p l) (ev p a - ev p b) := by
  have := ev_of p _ h
  rwa [hor_sub] at this
theorem coef_set (l : List Int) (k : Nat) (v : Int) (hk : k < l.length) (t : Nat) : coef (l.set k v) t = if t = k then v else coef l t := by
  unfold coef
  rw [List.getD_eq_getElem?_getD, List.getD_eq_getElem?_getD, List.getElem?_set]
  split
  · rename_i e
    subst e
    rw [if_pos rfl]; rfl
  · rename_i e
    rw [if_neg (fun h => e h.symm)]
/-- One number is another. -/
theorem ev_set (p : Int) (l : List Int) (k : Nat) (v : Int) (hk : k < l.length) (hl : l.length = 256) : ev p (l.set k v) = ev p l + p ^ k * (v - coef l k) := by
  unfold ev
  rw [hor_upd p 256 (coef l) (coef (l.set k v)) k (by omega) (fun t _ hne => by rw [coef_set l k v hk, if_neg hne]), coef_set l k v hk, if_pos rfl]
theorem ev_zero (p : Int) (l : List Int) (h : ∀ t, coef l t = 0) : ev p l = 0 := by
  unfold ev
  rw [hor_ext p 256 (coef l) (fun _ => 0 * 0) (fun t _ => by rw [h]; rfl), hor_scale]
  simp
theorem coef_zeros (n t : Nat) : coef (List.replicate n 0) t = 0 := by
  unfold coef
  rw [List.getD_eq_getElem?_getD, List.getElem?_replicate]
  split <;> rfl
theorem poly_zeros : Poly (List.replicate 256 0) := ⟨List.length_replicate, fun x hx => by rw [List.eq_of_mem_replicate hx]; decide⟩
/-- X to the power k. -/
theorem ev_power (p : Int) (k : Nat) (hk : k < 256) : ev p ((List.replicate 256 0).set k 1) = p ^ k := by
  rw [ev_set p _ k 1 (by rw [List.length_replicate]; exact hk) List.length_replicate, ev_zero p _ (coef_zeros 256), coef_zeros]
  grind
theorem poly_set {l : List Int} (h : Poly l) (k : Nat) (v : Int) (h0 : 0 ≤ v) (h1 : v < 8380417) : Poly (l.set k v) :=
  ⟨by rw [List.length_set]; exact h.1, fun x hx => by
    rcases List.mem_or_eq_of_mem_set hx with h' | rfl
    · exact h.2 _ h'
    · exact ⟨h0, h1⟩⟩
theorem poly_power (k : Nat) : Poly ((List.replicate 256 0).set k 1) := poly_set poly_zeros k 1 (by decide) (by decide)
/-- TIMES X^k: turned by k places, what comes to the front has the other sign. -/
theorem ev_shift {s : Nat} (hs : s < 256) (a c : List Int) (k : Nat) (hk : k < 256) (h1 : ∀ t, t < 256 - k → Eqv (coef c (t + k)) (coef a t)) (h2 : ∀ t, t < k → Eqv (coef c t) (-coef a (t + (256 - k)))) :
    Eqv (ev (pt s) c) (ev (pt s) a * pt s ^ k) := by
  have hh := pt_half hs
  generalize pt s = p at hh ⊢
  have e1 : ev p c = hor p (coef c) k + p ^ k * hor p (fun t => coef c (t + k)) (256 - k) := by
    unfold ev; rw [← hor_append, show k + (256 - k) = 256 by omega]
  have e2 : ev p a = hor p (coef a) (256 - k) + p ^ (256 - k) * hor p (fun t => coef a (t + (256 - k))) k := by
    unfold ev; rw [← hor_append, show 256 - k + k = 256 by omega]
  have c1 : Eqv (hor p (coef c) k) (-hor p (fun t => coef a (t + (256 - k))) k) := by
    rw [← hor_neg]; exact hor_congr (Eqv.refl p) _ _ _ h2
  have c2 : Eqv (hor p (fun t => coef c (t + k)) (256 - k)) (hor p (coef a) (256 - k)) := hor_congr (Eqv.refl p) _ _ _ h1
  have hp : p ^ (256 - k) * p ^ k = p ^ 256 := by rw [← Int.pow_add, show 256 - k + k = 256 by omega]
  rw [e1, e2]
  generalize hor p (coef c) k = C1 at *
  generalize hor p (fun t => coef c (t + k)) (256 - k) = C2 at *
  generalize hor p (coef a) (256 - k) = A1 at *
  generalize hor p (fun t => coef a (t + (256 - k))) k = A2 at *
  have d1 : Eqv (C1 + p ^ k * C2) (-A2 + p ^ k * A1) := c1.add ((Eqv.refl _).mul c2)
  have d2 : (A1 + p ^ (256 - k) * A2) * p ^ k = p ^ k * A1 + p ^ 256 * A2 := by rw [← hp]; grind
  rw [d2]
  refine d1.trans ?_
  have d3 : Eqv (p ^ k * A1 + p ^ 256 * A2) (p ^ k * A1 + -1 * A2) := (Eqv.refl _).add (hh.mul (Eqv.refl A2))
  refine Eqv.trans ?_ d3.symm
  exact ⟨0, by grind⟩
end Go.Proofs.Ytfjolaekenmefab
