/-
  Plain words on the product term by term: its value at a point is the product of the values. No program is named here.
-/
import Derived.Test.YtfjolaekenmefabPoly2
namespace Go.Proofs.Ytfjolaekenmefab
/-- What stands when the terms ahead of (i, j) are in: at each point the part of the product. -/
def Part (a b out : List Int) (i j : Nat) : Prop := Poly out ∧ ∀ s, s < 256 → Eqv (ev (pt s) out) (hor (pt s) (coef a) i * ev (pt s) b + pt s ^ i * coef a i * hor (pt s) (coef b) j)
theorem part_start (a b : List Int) : Part a b (List.replicate 256 0) 0 0 := ⟨poly_zeros, fun s _ => by
  rw [ev_zero _ _ (coef_zeros 256)]
  simp only [hor, Int.zero_mul, Int.mul_zero, Int.add_zero]
  exact Eqv.refl _⟩
/-- A row is full. -/
theorem part_row {a b out : List Int} {i : Nat} (h : Part a b out i 256) : Part a b out (i + 1) 0 := ⟨h.1, fun s hs => by
  refine (h.2 s hs).trans ?_
  have e := hor_last (pt s) i (coef a)
  have e0 : hor (pt s) (coef b) 0 = 0 := rfl
  have e1 : ev (pt s) b = hor (pt s) (coef b) 256 := rfl
  rw [e, e0, e1, Int.mul_zero, Int.add_zero]
  generalize hor (pt s) (coef b) 256 = B
  generalize hor (pt s) (coef a) i = A
  generalize pt s ^ i = I
  exact ⟨0, by grind⟩⟩
/-- A row whose number is 0 adds nothing. -/
theorem part_skip {a b out : List Int} {i : Nat} (h : Part a b out i 0) (h0 : coef a i = 0) : Part a b out (i + 1) 0 := ⟨h.1, fun s hs => by
  refine (h.2 s hs).trans ?_
  have e := hor_last (pt s) i (coef a)
  have e0 : hor (pt s) (coef b) 0 = 0 := rfl
  rw [e, e0, h0]
  exact ⟨0, by grind⟩⟩
/-- One term: it comes to the place i + j. -/
theorem part_low {a b out : List Int} {i j : Nat} (h : Part a b out i j) (hij : i + j < 256) (v : Int) (h0 : 0 ≤ v) (h1 : v < 8380417) (hv : Eqv v (coef out (i + j) + coef a i * coef b j)) : Part a b (out.set (i + j) v) i (j + 1) := ⟨poly_set h.1 _ _ h0 h1, fun s hs => by
  rw [ev_set _ _ _ _ (by rw [h.1.1]; exact hij) h.1.1, hor_last (pt s) j (coef b)]
  have e := (h.2 s hs).add ((Eqv.refl (pt s ^ (i + j))).mul (hv.sub (Eqv.refl (coef out (i + j)))))
  refine e.trans ?_
  rw [Int.pow_add]
  generalize hor (pt s) (coef a) i * ev (pt s) b = A
  generalize hor (pt s) (coef b) j = B
  generalize pt s ^ i = I
  generalize pt s ^ j = J
  exact ⟨0, by grind⟩⟩
/-- One term: it comes to the place i + j - 256, with the other sign. -/
theorem part_high {a b out : List Int} {i j : Nat} (h : Part a b out i j) (hij : 256 ≤ i + j) (hlt : i + j < 512) (v : Int) (h0 : 0 ≤ v) (h1 : v < 8380417) (hv : Eqv v (coef out (i + j - 256) - coef a i * coef b j)) : Part a b (out.set (i + j - 256) v) i (j + 1) := ⟨poly_set h.1 _ _ h0 h1, fun s hs => by
  rw [ev_set _ _ _ _ (by rw [h.1.1]; omega) h.1.1, hor_last (pt s) j (coef b)]
  have e := (h.2 s hs).add ((Eqv.refl (pt s ^ (i + j - 256))).mul (hv.sub (Eqv.refl (coef out (i + j - 256)))))
  refine e.trans ?_
  have hp : pt s ^ i * pt s ^ j = pt s ^ 256 * pt s ^ (i + j - 256) := by rw [← Int.pow_add, ← Int.pow_add, show 256 + (i + j - 256) = i + j by omega]
  have hh := pt_half hs
  generalize pt s ^ (i + j - 256) = P at *
  generalize hor (pt s) (coef a) i * ev (pt s) b = A at *
  generalize hor (pt s) (coef b) j = B at *
  generalize pt s ^ 256 = H at *
  generalize pt s ^ i = I at *
  generalize pt s ^ j = J at *
  obtain ⟨k, rfl⟩ := hh
  exact ⟨-(k * P * coef a i * coef b j), by grind⟩⟩
/-- THE PRODUCT: its value at each point is the product of the values. -/
def IsMul (a b out : List Int) : Prop := Poly out ∧ ∀ s, s < 256 → Eqv (ev (pt s) out) (ev (pt s) a * ev (pt s) b)
theorem part_done {a b out : List Int} (h : Part a b out 256 0) : IsMul a b out := ⟨h.1, fun s hs => by
  refine (h.2 s hs).trans ?_
  rw [hor, Int.mul_zero, Int.add_zero]
  exact Eqv.refl _⟩
theorem isMul_unique {a b x y : List Int} (hx : IsMul a b x) (hy : IsMul a b y) : x = y := poly_unique hx.1 hy.1 fun s hs => (hx.2 s hs).trans (hy.2 s hs).symm
theorem isMul_comm {a b x y : List Int} (hx : IsMul a b x) (hy : IsMul b a y) : x = y := poly_unique hx.1 hy.1 fun s hs => (hx.2 s hs).trans ((by rw [Int.mul_comm]; exact Eqv.refl _ : Eqv _ _).trans (hy.2 s hs).symm)
theorem isMul_assoc {a b c ab bc x y : List Int} (h1 : IsMul a b ab) (h2 : IsMul b c bc) (hx : IsMul ab c x) (hy : IsMul a bc y) : x = y := poly_unique hx.1 hy.1 fun s hs => by
  refine (hx.2 s hs).trans (((h1.2 s hs).mul (Eqv.refl _)).trans ?_)
  refine Eqv.trans ?_ (hy.2 s hs).symm
  refine Eqv.trans ?_ ((Eqv.refl _).mul (h2.2 s hs).symm)
  rw [Int.mul_assoc]; exact Eqv.refl _
/-- THE SUM, THE DIFFERENCE, place by place. -/
def IsAdd (a b out : List Int) : Prop := Poly out ∧ ∀ t, t < 256 → Eqv (coef out t) (coef a t + coef b t)
def IsSub (a b out : List Int) : Prop := Poly out ∧ ∀ t, t < 256 → Eqv (coef out t) (coef a t - coef b t)
theorem poly_ext {x y : List Int} (hx : Poly x) (hy : Poly y) (h : ∀ t, t < 256 → Eqv (coef x t) (coef y t)) : x = y := by
  apply List.ext_getElem (by rw [hx.1, hy.1])
  intro k h1 h2
  have e := (h k (by rw [← hx.1]; exact h1)).eq (hx.bound k).1 (hx.bound k).2 (hy.bound k).1 (hy.bound k).2
  simpa [coef, List.getD_eq_getElem?_getD, h1, h2] using e
theorem isAdd_unique {a b x y : List Int} (hx : IsAdd a b x) (hy : IsAdd a b y) : x = y := poly_ext hx.1 hy.1 fun t ht => (hx.2 t ht).trans (hy.2 t ht).symm
theorem isSub_unique {a b x y : List Int} (hx : IsSub a b x) (hy : IsSub a b y) : x = y := poly_ext hx.1 hy.1 fun t ht => (hx.2 t ht).trans (hy.2 t ht).symm
theorem isMul_add {a b c s z ab ac w : List Int} (h1 : IsAdd b c s) (h2 : IsMul a s z) (h3 : IsMul a b ab) (h4 : IsMul a c ac) (h5 : IsAdd ab ac w) : z = w := poly_unique h2.1 h5.1 fun i hi => by
  refine (h2.2 i hi).trans (((Eqv.refl _).mul (ev_add _ h1.2)).trans ?_)
  refine Eqv.trans ?_ (ev_add _ h5.2).symm
  refine Eqv.trans ?_ ((h3.2 i hi).add (h4.2 i hi)).symm
  rw [Int.mul_add]; exact Eqv.refl _
theorem isMul_one {a x : List Int} (ha : Poly a) (h : IsMul a ((List.replicate 256 0).set 0 1) x) : x = a := poly_unique h.1 ha fun s hs => by
  refine (h.2 s hs).trans ?_
  rw [ev_power _ 0 (by omega), Int.pow_zero, Int.mul_one]; exact Eqv.refl _
theorem isMul_zero {a x : List Int} (h : IsMul a (List.replicate 256 0) x) : x = List.replicate 256 0 := poly_unique h.1 poly_zeros fun s hs => by
  refine (h.2 s hs).trans ?_
  rw [ev_zero _ _ (coef_zeros 256), Int.mul_zero]; exact Eqv.refl _
theorem isAdd_zero {a x : List Int} (ha : Poly a) (h : IsAdd a (List.replicate 256 0) x) : x = a := poly_ext h.1 ha fun t ht => by
  refine (h.2 t ht).trans ?_
  rw [coef_zeros, Int.add_zero]; exact Eqv.refl _
theorem isSub_self {a x : List Int} (h : IsSub a a x) : x = List.replicate 256 0 := poly_ext h.1 poly_zeros fun t ht => by
  refine (h.2 t ht).trans ?_
  rw [coef_zeros, Int.sub_self]; exact Eqv.refl _
theorem isSub_add {a b t u : List Int} (ha : Poly a) (h1 : IsAdd a b t) (h2 : IsSub t b u) : u = a := poly_ext h2.1 ha fun i hi => by
  refine (h2.2 i hi).trans (((h1.2 i hi).sub (Eqv.refl _)).trans ?_)
  rw [Int.add_sub_cancel]; exact Eqv.refl _
/-- THE TRANSFORM: the values at the points. -/
def IsThere (a t : List Int) : Prop := Poly t ∧ ∀ s, s < 256 → Eqv (coef t s) (ev (pt s) a)
theorem isThere_unique {a x y : List Int} (hx : IsThere a x) (hy : IsThere a y) : x = y := poly_ext hx.1 hy.1 fun t ht => (hx.2 t ht).trans (hy.2 t ht).symm
theorem isThere_inj {a b t : List Int} (ha : Poly a) (hb : Poly b) (h1 : IsThere a t) (h2 : IsThere b t) : a = b := poly_unique ha hb fun s hs => (h1.2 s hs).symm.trans (h2.2 s hs)
/-- The products modulo q of the numbers at the same places. -/
def IsPoint (a b out : List Int) : Prop := Poly out ∧ ∀ t, t < 256 → Eqv (coef out t) (coef a t * coef b t)
/-- The transform of a product is the product of the transforms. -/
theorem isThere_mul {a b ab t ta tb u : List Int} (h1 : IsMul a b ab) (h2 : IsThere ab t) (h3 : IsThere a ta) (h4 : IsThere b tb) (h5 : IsPoint ta tb u) : t = u := poly_ext h2.1 h5.1 fun s hs => by
  refine (h2.2 s hs).trans ((h1.2 s hs).trans ?_)
  refine Eqv.trans ?_ (h5.2 s hs).symm
  exact (h3.2 s hs).symm.mul (h4.2 s hs).symm
/-- A product that was reckoned by the transforms is the product. -/
theorem isMul_of_there {a b x t ta tb : List Int} (hx : Poly x) (h2 : IsThere x t) (h3 : IsThere a ta) (h4 : IsThere b tb) (h5 : IsPoint ta tb t) : IsMul a b x := ⟨hx, fun s hs => by
  refine (h2.2 s hs).symm.trans ((h5.2 s hs).trans ?_)
  exact (h3.2 s hs).mul (h4.2 s hs)⟩
end Go.Proofs.Ytfjolaekenmefab
