/-
  Plain words on polynomials modulo q = 8380417, where X^256 is -1: their values at the points, the tree of the factors of X^256 + 1, that the values tell the polynomial. No program is named here.
-/
import Derived.WalkKit
namespace Go.Proofs.Ytfjolaekenmefab
/-- The same modulo q. -/
def Eqv (x y : Int) : Prop := ∃ k : Int, x = y + 8380417 * k
theorem Eqv.refl (x : Int) : Eqv x x := ⟨0, by omega⟩
theorem Eqv.symm {x y : Int} (h : Eqv x y) : Eqv y x := by obtain ⟨k, h⟩ := h; exact ⟨-k, by omega⟩
theorem Eqv.trans {x y z : Int} (h : Eqv x y) (k : Eqv y z) : Eqv x z := by obtain ⟨a, h⟩ := h; obtain ⟨b, k⟩ := k; exact ⟨a + b, by omega⟩
theorem Eqv.add {a b c d : Int} (h : Eqv a b) (k : Eqv c d) : Eqv (a + c) (b + d) := by obtain ⟨x, h⟩ := h; obtain ⟨y, k⟩ := k; exact ⟨x + y, by omega⟩
theorem Eqv.sub {a b c d : Int} (h : Eqv a b) (k : Eqv c d) : Eqv (a - c) (b - d) := by obtain ⟨x, h⟩ := h; obtain ⟨y, k⟩ := k; exact ⟨x - y, by omega⟩
theorem Eqv.neg {a b : Int} (h : Eqv a b) : Eqv (-a) (-b) := by obtain ⟨x, h⟩ := h; exact ⟨-x, by omega⟩
theorem Eqv.mul {a b c d : Int} (h : Eqv a b) (k : Eqv c d) : Eqv (a * c) (b * d) := by
  obtain ⟨x, rfl⟩ := h
  obtain ⟨y, rfl⟩ := k
  exact ⟨b * y + x * d + 8380417 * x * y, by grind⟩
theorem Eqv.pow {a b : Int} (h : Eqv a b) (n : Nat) : Eqv (a ^ n) (b ^ n) := by
  induction n with
  | zero => rw [Int.pow_zero, Int.pow_zero]; exact Eqv.refl _
  | succ n ih => rw [Int.pow_succ, Int.pow_succ]; exact ih.mul h
theorem eqv_emod (x : Int) : Eqv (x % 8380417) x := ⟨-(x / 8380417), by have := Int.mul_ediv_add_emod x 8380417; omega⟩
theorem eqv_iff {x y : Int} : Eqv x y ↔ x % 8380417 = y % 8380417 := by
  constructor
  · rintro ⟨k, rfl⟩; omega
  · intro h; exact ⟨x / 8380417 - y / 8380417, by omega⟩
theorem Eqv.eq {x y : Int} (h : Eqv x y) (hx0 : 0 ≤ x) (hx : x < 8380417) (hy0 : 0 ≤ y) (hy : y < 8380417) : x = y := by
  have := eqv_iff.1 h
  omega
instance : Trans Eqv Eqv Eqv := ⟨Eqv.trans⟩
/-- f 0 + f 1 p + .. (n terms). -/
def hor (p : Int) (f : Nat → Int) : Nat → Int
  | 0 => 0
  | n + 1 => f 0 + p * hor p (fun t => f (t + 1)) n
theorem hor_congr {p p' : Int} (hp : Eqv p p') : ∀ (n : Nat) (f g : Nat → Int), (∀ t, t < n → Eqv (f t) (g t)) → Eqv (hor p f n) (hor p' g n)
  | 0, _, _, _ => Eqv.refl _
  | n + 1, f, g, h => (h 0 (by omega)).add (hp.mul (hor_congr hp n _ _ fun t ht => h (t + 1) (by omega)))
theorem hor_split (p : Int) : ∀ (n : Nat) (f : Nat → Int), hor p f (2 * n) = hor (p * p) (fun t => f (2 * t)) n + p * hor (p * p) (fun t => f (2 * t + 1)) n
  | 0, _ => by simp [hor]
  | n + 1, f => by
    rw [show 2 * (n + 1) = 2 * n + 1 + 1 from rfl, hor, hor, hor_split p n, hor, hor]
    have e1 : (fun t => f (2 * t + 1 + 1)) = fun t => f (2 * (t + 1)) := rfl
    have e2 : (fun t => f (2 * t + 1 + 1 + 1)) = fun t => f (2 * (t + 1) + 1) := rfl
    rw [e1, e2]
    generalize hor (p * p) (fun t => f (2 * (t + 1))) n = A
    generalize hor (p * p) (fun t => f (2 * (t + 1) + 1)) n = B
    simp only [Nat.mul_zero, Nat.zero_add]
    grind
theorem hor_last (p : Int) : ∀ (n : Nat) (f : Nat → Int), hor p f (n + 1) = hor p f n + p ^ n * f n
  | 0, f => by simp [hor]
  | n + 1, f => by
    rw [hor, hor_last p n, hor, Int.pow_succ]
    generalize hor p (fun t => f (t + 1)) n = A
    grind
/-- One number is another. -/
theorem hor_upd (p : Int) (n : Nat) (f g : Nat → Int) (k : Nat) (hk : k < n) (h : ∀ t, t < n → t ≠ k → g t = f t) : hor p g n = hor p f n + p ^ k * (g k - f k) := by
  induction n with
  | zero => omega
  | succ n ih =>
    rw [hor_last, hor_last]
    rcases Nat.lt_or_ge k n with hlt | hge
    · rw [ih hlt (fun t ht hne => h t (by omega) hne), h n (by omega) (by omega)]
      generalize hor p f n = A
      grind
    · obtain rfl : k = n := by omega
      have e : hor p g k = hor p f k := by
        clear ih
        have : ∀ m, m ≤ k → hor p g m = hor p f m := fun m => by
          induction m with
          | zero => intro _; rfl
          | succ m ih => intro hm; rw [hor_last, hor_last, ih (by omega), h m (by omega) (by omega)]
        exact this k (Nat.le_refl _)
      rw [e]
      generalize hor p f k = A
      grind
theorem hor_ext (p : Int) (n : Nat) (f g : Nat → Int) (h : ∀ t, t < n → f t = g t) : hor p f n = hor p g n := by
  induction n with
  | zero => rfl
  | succ n ih => rw [hor_last, hor_last, ih (fun t ht => h t (by omega)), h n (by omega)]
theorem hor_add (p : Int) (n : Nat) (f g : Nat → Int) : hor p (fun t => f t + g t) n = hor p f n + hor p g n := by
  induction n with
  | zero => rfl
  | succ n ih => rw [hor_last, hor_last, hor_last, ih]; grind
theorem hor_scale (p c : Int) (n : Nat) (f : Nat → Int) : hor p (fun t => c * f t) n = c * hor p f n := by
  induction n with
  | zero => simp [hor]
  | succ n ih => rw [hor_last, hor_last, ih]; grind
/-- The exponent of the node s of the level m: its factor is X^(256 / 2^m) - 1753^(expo m s). -/
def expo : Nat → Nat → Nat
  | 0, _ => 256
  | m + 1, s => expo m (s / 2) / 2 + 256 * (s % 2)
def rhoN (m s : Nat) : Nat := 1753 ^ expo m s % 8380417
def rho (m s : Nat) : Int := (rhoN m s : Int)
/-- The point number s. -/
def ptN (s : Nat) : Nat := rhoN 8 s
def pt (s : Nat) : Int := (ptN s : Int)
theorem rho_sq_dec : ∀ m, m < 8 → ∀ s, s < 2 ^ (m + 1) → rhoN (m + 1) s * rhoN (m + 1) s % 8380417 = rhoN m (s / 2) := by decide +kernel
theorem rho_neg_dec : ∀ m, m < 8 → ∀ s, s < 2 ^ m → (rhoN (m + 1) (2 * s) + rhoN (m + 1) (2 * s + 1)) % 8380417 = 0 := by decide +kernel
def rhoInv (m s : Nat) : Nat := 1753 ^ (1024 - expo m s) % 8380417
theorem rho_inv_dec : ∀ m, m < 9 → ∀ s, s < 2 ^ m → rhoN m s * rhoInv m s % 8380417 = 1 := by decide +kernel
theorem pt_half_dec : ∀ s, s < 256 → ptN s ^ 256 % 8380417 = 8380416 := by decide +kernel
theorem rho_lt (m s : Nat) : rhoN m s < 8380417 := Nat.mod_lt _ (by omega)
theorem rho_sq {m : Nat} (hm : m < 8) {s : Nat} (hs : s < 2 ^ (m + 1)) : Eqv (rho (m + 1) s * rho (m + 1) s) (rho m (s / 2)) := by
  have h := rho_sq_dec m hm s hs
  refine eqv_iff.2 ?_
  unfold rho
  rw [← h]
  omega
theorem rho_neg {m : Nat} (hm : m < 8) {s : Nat} (hs : s < 2 ^ m) : Eqv (rho (m + 1) (2 * s + 1)) (-rho (m + 1) (2 * s)) := by
  have h := rho_neg_dec m hm s hs
  refine eqv_iff.2 ?_
  unfold rho
  omega
theorem rho_inv {m : Nat} (hm : m < 9) {s : Nat} (hs : s < 2 ^ m) : Eqv (rho m s * (rhoInv m s : Int)) 1 := by
  have h := rho_inv_dec m hm s hs
  refine eqv_iff.2 ?_
  unfold rho
  omega
theorem pt_half {s : Nat} (hs : s < 256) : Eqv (pt s ^ 256) (-1) := by
  have h := pt_half_dec s hs
  refine eqv_iff.2 ?_
  unfold pt
  have e : ((ptN s : Nat) : Int) ^ 256 = ((ptN s ^ 256 : Nat) : Int) := by simp
  rw [e]
  generalize ptN s ^ 256 = x at h
  omega
/-- What stands at the place j of the node s of the level m: the remainder by the node's factor. -/
def node (a : Nat → Int) (m s j : Nat) : Int := hor (rho m s) (fun t => a (j + t * 2 ^ (8 - m))) (2 ^ m)
theorem node_root (a : Nat → Int) (s j : Nat) : node a 0 s j = a j := by simp [node, hor]
theorem node_leaf (a : Nat → Int) (s : Nat) : node a 8 s 0 = hor (pt s) a 256 := by
  unfold node
  exact hor_ext _ _ _ _ fun t _ => by simp
/-- One level down. -/
theorem node_step (a : Nat → Int) {m : Nat} (hm : m < 8) {s : Nat} (hs : s < 2 ^ (m + 1)) (j : Nat) :
    Eqv (node a (m + 1) s j) (node a m (s / 2) j + rho (m + 1) s * node a m (s / 2) (j + 2 ^ (7 - m))) := by
  unfold node
  have e2 : 2 ^ (8 - m) = 2 * 2 ^ (7 - m) := by rw [show 8 - m = 7 - m + 1 by omega, Nat.pow_succ]; omega
  rw [show 8 - (m + 1) = 7 - m by omega, show 2 ^ (m + 1) = 2 * 2 ^ m by rw [Nat.pow_succ]; omega, hor_split, e2]
  refine Eqv.add (hor_congr (rho_sq hm hs) _ _ _ fun t _ => ?_) (Eqv.mul (Eqv.refl _) (hor_congr (rho_sq hm hs) _ _ _ fun t _ => ?_))
  · have e : j + 2 * t * 2 ^ (7 - m) = j + t * (2 * 2 ^ (7 - m)) := by grind
    rw [e]; exact Eqv.refl _
  · have e : j + (2 * t + 1) * 2 ^ (7 - m) = j + 2 ^ (7 - m) + t * (2 * 2 ^ (7 - m)) := by grind
    rw [e]; exact Eqv.refl _
theorem halves {X R Y U V : Int} (h1 : Eqv (X + R * Y) U) (h2 : Eqv (X - R * Y) V) : Eqv (2 * X) (U + V) ∧ Eqv (2 * (R * Y)) (U - V) := by
  obtain ⟨k, hk⟩ := h1
  obtain ⟨l, hl⟩ := h2
  exact ⟨⟨k + l, by omega⟩, ⟨k - l, by omega⟩⟩
theorem unit2 {X Y : Int} (h : Eqv (2 * X) (2 * Y)) : Eqv X Y := by
  obtain ⟨k, hk⟩ := h
  have hK : 8380417 * k = 2 * X - 2 * Y := by rw [hk, Int.add_comm, Int.add_sub_cancel]
  refine ⟨4190209 * k - (X - Y), ?_⟩
  have e : 8380417 * (4190209 * k - (X - Y)) = 4190209 * (8380417 * k) - 8380417 * (X - Y) := by grind
  rw [e, hK]
  grind
theorem unitR {R I X Y : Int} (hI : Eqv (R * I) 1) (h : Eqv (R * X) (R * Y)) : Eqv X Y := by
  obtain ⟨k, hk⟩ := hI
  obtain ⟨l, hl⟩ := h
  exact ⟨I * l - k * (X - Y), by grind⟩
/-- THE VALUES AT THE POINTS TELL THE POLYNOMIAL. -/
theorem node_inj (a b : Nat → Int) : ∀ n, n ≤ 8 → (∀ s, s < 256 → Eqv (node a 8 s 0) (node b 8 s 0)) → ∀ s, s < 2 ^ (8 - n) → ∀ j, j < 2 ^ n → Eqv (node a (8 - n) s j) (node b (8 - n) s j)
  | 0, _, h, s, hs, j, hj => by
    obtain rfl : j = 0 := by simpa using hj
    exact h s hs
  | n + 1, hn, h, s, hs, j, hj => by
    have ih := node_inj a b n (by omega) h
    have hm : 8 - (n + 1) < 8 := by omega
    have e : 8 - (n + 1) + 1 = 8 - n := by omega
    generalize hmm : 8 - (n + 1) = m at hm e hs ⊢
    rw [← e] at ih
    have e7 : 7 - m = n := by omega
    have h2 : 2 ^ (m + 1) = 2 * 2 ^ m := by rw [Nat.pow_succ]; omega
    have key : ∀ i, i < 2 ^ n → Eqv (node a m s i) (node b m s i) ∧ Eqv (node a m s (i + 2 ^ n)) (node b m s (i + 2 ^ n)) := fun i hi => by
      have s0 : 2 * s < 2 ^ (m + 1) := by omega
      have s1 : 2 * s + 1 < 2 ^ (m + 1) := by omega
      have a0 := node_step a hm s0 i
      have b0 := node_step b hm s0 i
      have a1 := node_step a hm s1 i
      have b1 := node_step b hm s1 i
      rw [show 2 * s / 2 = s by omega, e7] at a0 b0
      rw [show (2 * s + 1) / 2 = s by omega, e7] at a1 b1
      have i0 := ih (2 * s) s0 i hi
      have i1 := ih (2 * s + 1) s1 i hi
      have rn := rho_neg hm hs
      have ri := rho_inv (show m + 1 < 9 by omega) s0
      generalize node a m s i = X at *
      generalize node a m s (i + 2 ^ n) = Y at *
      generalize node b m s i = X' at *
      generalize node b m s (i + 2 ^ n) = Y' at *
      generalize rho (m + 1) (2 * s) = R at *
      generalize rho (m + 1) (2 * s + 1) = R' at *
      have c0 : Eqv (X + R * Y) (X' + R * Y') := (a0.symm.trans i0).trans b0
      have c1 : Eqv (X - R * Y) (X' - R * Y') := by
        have c : Eqv (X + R' * Y) (X' + R' * Y') := (a1.symm.trans i1).trans b1
        have d : Eqv (X + -R * Y) (X' + -R * Y') := (((Eqv.refl X).add (rn.symm.mul (Eqv.refl Y))).trans c).trans ((Eqv.refl X').add (rn.mul (Eqv.refl Y')))
        rw [Int.neg_mul, Int.neg_mul] at d
        exact d
      obtain ⟨p1, p2⟩ := halves c0 c1
      refine ⟨unit2 (p1.trans ⟨0, by omega⟩), unitR ri (unit2 (p2.trans ⟨0, by omega⟩))⟩
    rcases Nat.lt_or_ge j (2 ^ n) with hlt | hge
    · exact (key j hlt).1
    · have h3 : 2 ^ (n + 1) = 2 * 2 ^ n := by rw [Nat.pow_succ]; omega
      have := (key (j - 2 ^ n) (by omega)).2
      rwa [show j - 2 ^ n + 2 ^ n = j by omega] at this
/-- A polynomial's numbers. -/
def coef (l : List Int) (k : Nat) : Int := l.getD k 0
def Poly (l : List Int) : Prop := l.length = 256 ∧ ∀ x ∈ l, 0 ≤ x ∧ x < 8380417
/-- Its value at p. -/
def ev (p : Int) (l : List Int) : Int := hor p (coef l) 256
theorem Poly.bound {l : List Int} (h : Poly l) (k : Nat) : 0 ≤ coef l k ∧ coef l k < 8380417 := by
  unfold coef
  rw [List.getD_eq_getElem?_getD]
  rcases Nat.lt_or_ge k l.length with hk | hk
  · rw [List.getElem?_eq_getElem hk]; exact h.2 _ (List.getElem_mem hk)
  · rw [List.getElem?_eq_none hk]; decide
theorem poly_unique {l m : List Int} (hl : Poly l) (hm : Poly m) (h : ∀ s, s < 256 → Eqv (ev (pt s) l) (ev (pt s) m)) : l = m := by
  have hn := node_inj (coef l) (coef m) 8 (Nat.le_refl _) (fun s hs => by rw [node_leaf, node_leaf]; exact h s hs)
  apply List.ext_getElem (by rw [hl.1, hm.1])
  intro k h1 h2
  have hk := hn 0 (by decide) k (by rw [hl.1] at h1; exact h1)
  rw [show 8 - 8 = 0 from rfl, node_root, node_root] at hk
  have e := hk.eq (hl.bound k).1 (hl.bound k).2 (hm.bound k).1 (hm.bound k).2
  simpa [coef, List.getD_eq_getElem?_getD, h1, h2] using e
end Go.Proofs.Ytfjolaekenmefab
