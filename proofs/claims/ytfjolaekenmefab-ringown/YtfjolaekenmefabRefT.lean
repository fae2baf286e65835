/-
  The walks of the reference's points, its transform, Center and Norm.
-/
import Derived.Test.YtfjolaekenmefabRefM
namespace Go.Proofs.Ytfjolaekenmefab
open Go.RowKit
theorem hor_down (p : Int) (a : List Int) (m : Nat) (hm : m < 256) : hor p (fun t => coef a (t + m)) (256 - m) = coef a m + p * hor p (fun t => coef a (t + (m + 1))) (256 - (m + 1)) := by
  rw [show 256 - m = 256 - (m + 1) + 1 by omega, hor]
  have e : (fun t => coef a (t + 1 + m)) = fun t => coef a (t + (m + 1)) := by funext t; rw [show t + 1 + m = t + (m + 1) by omega]
  rw [e, Nat.zero_add]
theorem mulp_bound {x y z : Int} (hx0 : 0 ≤ x) (hx : x < 8380417) (hy0 : 0 ≤ y) (hy : y < 8380417) (hz0 : 0 ≤ z) (hz : z < 8380417) : 0 ≤ x * y + z ∧ x * y + z ≤ 70231380713472 := by
  have := prod_bound hx0 hx hy0 hy
  omega
theorem pt_bound (s : Nat) : 0 ≤ pt s ∧ pt s < 8380417 := by
  have := rho_lt 8 s
  unfold pt ptN
  omega
/-- The number around 0. -/
def center (n : Int) : Int := if 4190208 < n.tmod 8380417 then n.tmod 8380417 - 8380417 else if n.tmod 8380417 < -4190208 then n.tmod 8380417 + 8380417 else n.tmod 8380417
theorem tmod_bound (n : Int) : -8380417 < n.tmod 8380417 ∧ n.tmod 8380417 < 8380417 := by
  have h1 := Int.tmod_lt_of_pos n (show (0 : Int) < 8380417 by omega)
  have h2 := Int.lt_tmod_of_pos n (show (0 : Int) < 8380417 by omega)
  omega
theorem tmod_eqv (n : Int) : Eqv (n.tmod 8380417) n := ⟨-(n.tdiv 8380417), by have := Int.mul_tdiv_add_tmod n 8380417; omega⟩
theorem center_bound (n : Int) : -4190208 ≤ center n ∧ center n ≤ 4190208 := by
  have := tmod_bound n
  unfold center
  split
  · omega
  · split <;> omega
theorem center_eqv (n : Int) : Eqv (center n) n := by
  refine Eqv.trans ?_ (tmod_eqv n)
  unfold center
  split
  · exact ⟨-1, by omega⟩
  · split
    · exact ⟨1, by omega⟩
    · exact Eqv.refl _
theorem center_unique {n x : Int} (h : Eqv x n) (h0 : -4190208 ≤ x) (h1 : x ≤ 4190208) : x = center n := by
  obtain ⟨k, hk⟩ := h.trans (center_eqv n).symm
  have := center_bound n
  omega
end Go.Proofs.Ytfjolaekenmefab
