/-
  Plain words on the transform by butterflies, there and back: what a level holds, what one group turns. No program is named here.
-/
import Derived.Test.YtfjolaekenmefabMulp
namespace Go.Proofs.Ytfjolaekenmefab
/-- The power of 1753 by which the group i is parted. -/
def rootN (i : Nat) : Nat := 1753 ^ flipN i % 8380417
theorem rootN_lt (i : Nat) : rootN i < 8380417 := Nat.mod_lt _ (by omega)
theorem rootN_zero : rootN 0 = 1 := by decide +kernel
theorem root_node_dec : ∀ m, m < 8 → ∀ s, s < 2 ^ m → rootN (2 ^ m + s) = rhoN (m + 1) (2 * s) := by decide +kernel
theorem root_mirror_dec : ∀ m, m < 8 → ∀ s, s < 2 ^ m → rhoN (m + 1) (2 * s) * rootN (2 ^ (m + 1) - 1 - s) % 8380417 = 8380416 := by decide +kernel
theorem root_next_dec : ∀ k, k < 8 → ∀ u, u < 2 ^ k → rootN (u * 2 ^ (8 - k)) * (1753 ^ 2 ^ k % 8380417) % 8380417 = rootN (u * 2 ^ (8 - k) + 2 ^ (7 - k)) := by decide +kernel
theorem power_next_dec : ∀ k, k < 8 → (1753 ^ 2 ^ k % 8380417) * (1753 ^ 2 ^ k % 8380417) % 8380417 = 1753 ^ 2 ^ (k + 1) % 8380417 := by decide +kernel
theorem mirror {m : Nat} (hm : m < 8) {s : Nat} (hs : s < 2 ^ m) : Eqv (rho (m + 1) (2 * s) * (rootN (2 ^ (m + 1) - 1 - s) : Int)) (-1) := by
  have h := root_mirror_dec m hm s hs
  refine eqv_iff.2 ?_
  unfold rho
  have e : (rhoN (m + 1) (2 * s) : Int) * (rootN (2 ^ (m + 1) - 1 - s) : Int) = ((rhoN (m + 1) (2 * s) * rootN (2 ^ (m + 1) - 1 - s) : Nat) : Int) := by simp
  rw [e]
  omega
/-- What stands at the place t of the level m. -/
def lev (b : Nat → Int) (m t : Nat) : Int := node b m (t / 2 ^ (8 - m)) (t % 2 ^ (8 - m))
theorem lev_root (b : Nat → Int) (t : Nat) (ht : t < 256) : lev b 0 t = b t := by
  unfold lev
  rw [node_root]
  congr 1
  exact Nat.mod_eq_of_lt ht
theorem lev_leaf (b : Nat → Int) (t : Nat) : lev b 8 t = hor (pt t) b 256 := by
  unfold lev
  rw [show 2 ^ (8 - 8) = 1 from rfl, Nat.div_one, Nat.mod_one, node_leaf]
/-- The half of a group of the level m. -/
theorem half_pos (m : Nat) : 0 < 2 ^ (7 - m) := Nat.pow_pos (by omega)
theorem whole_eq {m : Nat} (hm : m < 8) : 2 ^ (8 - m) = 2 * 2 ^ (7 - m) := by rw [show 8 - m = 7 - m + 1 by omega, Nat.pow_succ]; omega
theorem div_at {h s j : Nat} (hj : j < h) : (s * h + j) / h = s ∧ (s * h + j) % h = j := by
  have h0 : 0 < h := by omega
  constructor
  · rw [Nat.add_comm, Nat.add_mul_div_right _ _ h0, Nat.div_eq_of_lt hj]; omega
  · rw [Nat.add_comm, Nat.add_mul_mod_self_right, Nat.mod_eq_of_lt hj]
/-- The two halves of a group, one level down. -/
theorem lev_low (b : Nat → Int) {m : Nat} (hm : m < 8) {s j : Nat} (hs : s < 2 ^ m) (hj : j < 2 ^ (7 - m)) :
    Eqv (lev b (m + 1) (s * 2 ^ (8 - m) + j)) (lev b m (s * 2 ^ (8 - m) + j) + rho (m + 1) (2 * s) * lev b m (s * 2 ^ (8 - m) + j + 2 ^ (7 - m))) := by
  have hw := whole_eq hm
  unfold lev
  rw [show 8 - (m + 1) = 7 - m by omega, (div_at (h := 2 ^ (8 - m)) (s := s) (j := j) (by omega)).1, (div_at (h := 2 ^ (8 - m)) (s := s) (j := j) (by omega)).2,
    Nat.add_assoc, (div_at (h := 2 ^ (8 - m)) (s := s) (j := j + 2 ^ (7 - m)) (by omega)).1, (div_at (h := 2 ^ (8 - m)) (s := s) (j := j + 2 ^ (7 - m)) (by omega)).2, hw,
    show s * (2 * 2 ^ (7 - m)) = 2 * s * 2 ^ (7 - m) by rw [Nat.mul_comm 2 s, Nat.mul_assoc], (div_at hj).1, (div_at hj).2]
  have h := node_step b hm (s := 2 * s) (by rw [Nat.pow_succ]; omega) j
  rwa [show 2 * s / 2 = s by omega] at h
theorem lev_high (b : Nat → Int) {m : Nat} (hm : m < 8) {s j : Nat} (hs : s < 2 ^ m) (hj : j < 2 ^ (7 - m)) :
    Eqv (lev b (m + 1) (s * 2 ^ (8 - m) + j + 2 ^ (7 - m))) (lev b m (s * 2 ^ (8 - m) + j) - rho (m + 1) (2 * s) * lev b m (s * 2 ^ (8 - m) + j + 2 ^ (7 - m))) := by
  have hw := whole_eq hm
  unfold lev
  rw [show 8 - (m + 1) = 7 - m by omega, (div_at (h := 2 ^ (8 - m)) (s := s) (j := j) (by omega)).1, (div_at (h := 2 ^ (8 - m)) (s := s) (j := j) (by omega)).2,
    Nat.add_assoc, (div_at (h := 2 ^ (8 - m)) (s := s) (j := j + 2 ^ (7 - m)) (by omega)).1, (div_at (h := 2 ^ (8 - m)) (s := s) (j := j + 2 ^ (7 - m)) (by omega)).2, hw,
    show s * (2 * 2 ^ (7 - m)) + (j + 2 ^ (7 - m)) = (2 * s + 1) * 2 ^ (7 - m) + j by rw [Nat.add_mul, Nat.mul_comm 2 s, Nat.mul_assoc]; omega, (div_at hj).1, (div_at hj).2]
  have h := node_step b hm (s := 2 * s + 1) (by rw [Nat.pow_succ]; omega) j
  rw [show (2 * s + 1) / 2 = s by omega] at h
  refine h.trans ?_
  have n := (Eqv.refl (node b m s j)).add ((rho_neg hm hs).mul (Eqv.refl (node b m s (j + 2 ^ (7 - m)))))
  rw [Int.neg_mul] at n
  exact n
/-- What a group is turned into: p its place, h its half, r its root. -/
structure PartOf (p h : Nat) (r : Int) (l l' : List Int) : Prop where
  poly : Poly l'
  low : ∀ j, j < h → Eqv (coef l' (p + j)) (coef l (p + j) + r * coef l (p + j + h))
  high : ∀ j, j < h → Eqv (coef l' (p + j + h)) (coef l (p + j) - r * coef l (p + j + h))
  rest : ∀ t, t < p ∨ p + 2 * h ≤ t → coef l' t = coef l t
structure JoinOf (p h : Nat) (r : Int) (l l' : List Int) : Prop where
  poly : Poly l'
  low : ∀ j, j < h → Eqv (coef l' (p + j)) (coef l (p + j) + coef l (p + j + h))
  high : ∀ j, j < h → Eqv (coef l' (p + j + h)) ((coef l (p + j + h) - coef l (p + j)) * r)
  rest : ∀ t, t < p ∨ p + 2 * h ≤ t → coef l' t = coef l t
/-- What stands when the groups ahead of s of the level m are parted. -/
structure Mid (a : List Int) (m s : Nat) (l : List Int) : Prop where
  poly : Poly l
  done : ∀ t, t < s * 2 ^ (8 - m) → t < 256 → Eqv (coef l t) (lev (coef a) (m + 1) t)
  left : ∀ t, s * 2 ^ (8 - m) ≤ t → t < 256 → Eqv (coef l t) (lev (coef a) m t)
theorem pow_mul {m : Nat} (hm : m ≤ 8) : 2 ^ m * 2 ^ (8 - m) = 256 := by rw [← Nat.pow_add, show m + (8 - m) = 8 by omega]
theorem place_le {m s : Nat} (hm : m ≤ 8) (hs : s < 2 ^ m) : s * 2 ^ (8 - m) + 2 ^ (8 - m) ≤ 256 := by
  have := Nat.mul_le_mul_right (2 ^ (8 - m)) (show s + 1 ≤ 2 ^ m from hs)
  rw [pow_mul hm, Nat.add_mul] at this
  omega
theorem mid_start {a : List Int} (ha : Poly a) : Mid a 0 0 a := ⟨ha, fun t ht => by omega, fun t _ h => by rw [lev_root _ _ h]; exact Eqv.refl _⟩
theorem Mid.step {a l l' : List Int} {m s : Nat} (hm : m < 8) (hs : s < 2 ^ m) (h : Mid a m s l) (hp : PartOf (s * 2 ^ (8 - m)) (2 ^ (7 - m)) (rootN (2 ^ m + s) : Int) l l') : Mid a m (s + 1) l' := by
  have hr : (rootN (2 ^ m + s) : Int) = rho (m + 1) (2 * s) := by unfold rho; rw [root_node_dec m hm s hs]
  rw [hr] at hp
  have hw := whole_eq hm
  have hpl := place_le (Nat.le_of_lt hm) hs
  refine ⟨hp.poly, fun t ht h256 => ?_, fun t ht h256 => ?_⟩
  · rw [Nat.add_mul, Nat.one_mul] at ht
    rcases Nat.lt_or_ge t (s * 2 ^ (8 - m)) with h1 | h1
    · rw [hp.rest t (Or.inl h1)]; exact h.done t h1 h256
    · rcases Nat.lt_or_ge t (s * 2 ^ (8 - m) + 2 ^ (7 - m)) with h2 | h2
      · obtain ⟨j, rfl⟩ : ∃ j, t = s * 2 ^ (8 - m) + j := ⟨t - s * 2 ^ (8 - m), by omega⟩
        have hj : j < 2 ^ (7 - m) := by omega
        refine (hp.low j hj).trans (Eqv.trans ?_ (lev_low (coef a) hm hs hj).symm)
        exact (h.left _ (by omega) (by omega)).add ((Eqv.refl _).mul (h.left _ (by omega) (by omega)))
      · obtain ⟨j, rfl⟩ : ∃ j, t = s * 2 ^ (8 - m) + j + 2 ^ (7 - m) := ⟨t - s * 2 ^ (8 - m) - 2 ^ (7 - m), by omega⟩
        have hj : j < 2 ^ (7 - m) := by omega
        refine (hp.high j hj).trans (Eqv.trans ?_ (lev_high (coef a) hm hs hj).symm)
        exact (h.left _ (by omega) (by omega)).sub ((Eqv.refl _).mul (h.left _ (by omega) (by omega)))
  · rw [Nat.add_mul, Nat.one_mul] at ht
    rw [hp.rest t (Or.inr (by omega))]; exact h.left t (by omega) h256
theorem Mid.next {a l : List Int} {m : Nat} (hm : m < 8) (h : Mid a m (2 ^ m) l) : Mid a (m + 1) 0 l :=
  ⟨h.poly, fun t ht => by omega, fun t _ h256 => h.done t (by rw [pow_mul (Nat.le_of_lt hm)]; exact h256) h256⟩
theorem Mid.there {a l : List Int} (h : Mid a 8 0 l) : IsThere a l := ⟨h.poly, fun s hs => by
  have := h.left s (by omega) hs
  rwa [lev_leaf] at this⟩
/-- BACK: what stands tells what had these values. -/
structure Up (a : List Int) (m : Nat) (l : List Int) : Prop where
  poly : Poly l
  tells : ∀ (b : Nat → Int) (c : Int), (∀ t, t < 256 → Eqv (lev b m t) (c * coef l t)) → ∀ s, s < 256 → Eqv (lev b 8 s) (c * 2 ^ (8 - m) * coef a s)
theorem up_start {a : List Int} (ha : Poly a) : Up a 8 a := ⟨ha, fun b c h s hs => by
  refine (h s hs).trans ?_
  rw [show (2 : Int) ^ (8 - 8) = 1 from rfl, Int.mul_one]; exact Eqv.refl _⟩
/-- The groups ahead of s of the level m are joined. -/
structure UpMid (a old : List Int) (m s : Nat) (l : List Int) : Prop where
  was : Up a (m + 1) old
  poly : Poly l
  low : ∀ u, u < s → ∀ j, j < 2 ^ (7 - m) → Eqv (coef l (u * 2 ^ (8 - m) + j)) (coef old (u * 2 ^ (8 - m) + j) + coef old (u * 2 ^ (8 - m) + j + 2 ^ (7 - m)))
  high : ∀ u, u < s → ∀ j, j < 2 ^ (7 - m) → Eqv (coef l (u * 2 ^ (8 - m) + j + 2 ^ (7 - m))) ((coef old (u * 2 ^ (8 - m) + j + 2 ^ (7 - m)) - coef old (u * 2 ^ (8 - m) + j)) * (rootN (2 ^ (m + 1) - 1 - u) : Int))
  left : ∀ t, s * 2 ^ (8 - m) ≤ t → coef l t = coef old t
theorem upMid_start {a l : List Int} {m : Nat} (h : Up a (m + 1) l) : UpMid a l m 0 l := ⟨h, h.poly, fun u hu => by omega, fun u hu => by omega, fun _ _ => rfl⟩
theorem UpMid.step {a old l l' : List Int} {m s : Nat} (hm : m < 8) (h : UpMid a old m s l) (hp : JoinOf (s * 2 ^ (8 - m)) (2 ^ (7 - m)) (rootN (2 ^ (m + 1) - 1 - s) : Int) l l') : UpMid a old m (s + 1) l' := by
  have hw := whole_eq hm
  have before : ∀ u, u < s → u * 2 ^ (8 - m) + 2 ^ (8 - m) ≤ s * 2 ^ (8 - m) := fun u hu => by
    have := Nat.mul_le_mul_right (2 ^ (8 - m)) (show u + 1 ≤ s from hu)
    rw [Nat.add_mul] at this
    omega
  refine ⟨h.was, hp.poly, fun u hu j hj => ?_, fun u hu j hj => ?_, fun t ht => ?_⟩
  · rcases Nat.lt_or_ge u s with h1 | h1
    · have := before u h1
      rw [hp.rest _ (Or.inl (by omega))]; exact h.low u h1 j hj
    · obtain rfl : u = s := by omega
      refine (hp.low j hj).trans ?_
      rw [h.left _ (by omega), h.left _ (by omega)]; exact Eqv.refl _
  · rcases Nat.lt_or_ge u s with h1 | h1
    · have := before u h1
      rw [hp.rest _ (Or.inl (by omega))]; exact h.high u h1 j hj
    · obtain rfl : u = s := by omega
      refine (hp.high j hj).trans ?_
      rw [h.left _ (by omega), h.left _ (by omega)]; exact Eqv.refl _
  · rw [Nat.add_mul, Nat.one_mul] at ht
    rw [hp.rest t (Or.inr (by omega))]; exact h.left t (by omega)
theorem UpMid.next {a old l : List Int} {m : Nat} (hm : m < 8) (h : UpMid a old m (2 ^ m) l) : Up a m l := ⟨h.poly, fun b c hb s hs => by
  have hw := whole_eq hm
  have key : ∀ t, t < 256 → Eqv (lev b (m + 1) t) (c * 2 * coef old t) := fun t ht => by
    obtain ⟨u, i, hu, hi, rfl⟩ : ∃ u i, u < 2 ^ m ∧ i < 2 ^ (8 - m) ∧ t = u * 2 ^ (8 - m) + i := by
      have hp : 0 < 2 ^ (8 - m) := Nat.pow_pos (by omega)
      refine ⟨t / 2 ^ (8 - m), t % 2 ^ (8 - m), ?_, Nat.mod_lt _ hp, ?_⟩
      · rw [Nat.div_lt_iff_lt_mul hp, pow_mul (Nat.le_of_lt hm)]; exact ht
      · have := Nat.div_add_mod t (2 ^ (8 - m)); rw [Nat.mul_comm] at this; omega
    have hpl := place_le (Nat.le_of_lt hm) hu
    have mi := mirror hm hu
    rcases Nat.lt_or_ge i (2 ^ (7 - m)) with h1 | h1
    · have e1 := lev_low b hm hu h1
      have e2 := (hb (u * 2 ^ (8 - m) + i) (by omega)).trans ((Eqv.refl c).mul (h.low u hu i h1))
      have e3 := (hb (u * 2 ^ (8 - m) + i + 2 ^ (7 - m)) (by omega)).trans ((Eqv.refl c).mul (h.high u hu i h1))
      refine e1.trans ((e2.add ((Eqv.refl _).mul e3)).trans ?_)
      generalize coef old (u * 2 ^ (8 - m) + i) = X at *
      generalize coef old (u * 2 ^ (8 - m) + i + 2 ^ (7 - m)) = Y at *
      generalize rho (m + 1) (2 * u) = R at *
      generalize (rootN (2 ^ (m + 1) - 1 - u) : Int) = M at *
      have e4 : c * (X + Y) + R * (c * ((Y - X) * M)) = c * (X + Y) + (R * M) * (c * (Y - X)) := by grind
      rw [e4]
      refine ((Eqv.refl _).add (mi.mul (Eqv.refl _))).trans ⟨0, by grind⟩
    · obtain ⟨j, rfl⟩ : ∃ j, i = j + 2 ^ (7 - m) := ⟨i - 2 ^ (7 - m), by omega⟩
      have hj : j < 2 ^ (7 - m) := by omega
      rw [← Nat.add_assoc] at ht ⊢
      have e1 := lev_high b hm hu hj
      have e2 := (hb (u * 2 ^ (8 - m) + j) (by omega)).trans ((Eqv.refl c).mul (h.low u hu j hj))
      have e3 := (hb (u * 2 ^ (8 - m) + j + 2 ^ (7 - m)) (by omega)).trans ((Eqv.refl c).mul (h.high u hu j hj))
      refine e1.trans ((e2.sub ((Eqv.refl _).mul e3)).trans ?_)
      generalize coef old (u * 2 ^ (8 - m) + j) = X at *
      generalize coef old (u * 2 ^ (8 - m) + j + 2 ^ (7 - m)) = Y at *
      generalize rho (m + 1) (2 * u) = R at *
      generalize (rootN (2 ^ (m + 1) - 1 - u) : Int) = M at *
      have e4 : c * (X + Y) - R * (c * ((Y - X) * M)) = c * (X + Y) - (R * M) * (c * (Y - X)) := by grind
      rw [e4]
      refine ((Eqv.refl _).sub (mi.mul (Eqv.refl _))).trans ⟨0, by grind⟩
  refine (h.was.tells b (c * 2) key s hs).trans ?_
  have e5 : (2 : Int) ^ (8 - m) = 2 * 2 ^ (8 - (m + 1)) := by rw [show 8 - m = 8 - (m + 1) + 1 by omega, Int.pow_succ]; omega
  rw [e5, Int.mul_assoc c 2]; exact Eqv.refl _⟩
/-- A 256th of each. -/
theorem Up.back {a l out : List Int} (h : Up a 0 l) (hp : Poly out) (ho : ∀ t, t < 256 → Eqv (coef out t) (coef l t * 8347681)) (ha : Poly a) : Poly out ∧ IsThere out a := by
  refine ⟨hp, ha, fun s hs => ?_⟩
  have h1 := h.tells (coef l) 1 (fun t ht => by rw [lev_root _ _ ht, Int.one_mul]; exact Eqv.refl _) s hs
  rw [lev_leaf, Int.one_mul] at h1
  have h2 : Eqv (ev (pt s) out) (8347681 * hor (pt s) (coef l) 256) := by
    rw [← hor_scale]
    refine ev_of _ _ fun t ht => (ho t ht).trans ?_
    rw [Int.mul_comm]; exact Eqv.refl _
  refine Eqv.symm (h2.trans (((Eqv.refl _).mul h1).trans ?_))
  generalize coef a s = x
  exact ⟨255 * x, by rw [show (2 : Int) ^ (8 - 0) = 256 from rfl]; grind⟩
end Go.Proofs.Ytfjolaekenmefab
