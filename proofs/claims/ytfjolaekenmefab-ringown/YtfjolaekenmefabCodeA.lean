/-
  The walks of the program's small functions: times, Valid, Center, Norm.
-/
import Derived.Test.YtfjolaekenmefabTold
namespace Go.Proofs.Ytfjolaekenmefab
open Go.RowKit
theorem prod2_bound {x y : Int} (hx0 : 0 ≤ x) (hx : x < 16760834) (hy0 : 0 ≤ y) (hy : y < 8380417) : 0 ≤ x * y ∧ x * y ≤ 1125899906842624 := by
  constructor
  · exact Int.mul_nonneg hx0 hy0
  · have := Int.mul_le_mul (show x ≤ 16760833 by omega) (show y ≤ 8380416 by omega) hy0 (by omega)
    omega
set_option maxRecDepth 100000 in
theorem times_any (x y : Int) (hx0 : 0 ≤ x) (hx : x < 16760834) (hy0 : 0 ≤ y) (hy : y < 8380417) (w : World) :
    Calls Try.prog 22 #[.int .i64 x, .int .i64 y] w fun e w' => e = .returned (.int .i64 (x * y % 8380417)) ∧ w' = w := by
  have pb := prod2_bound hx0 hx hy0 hy
  generalize hq : x * y = q at pb ⊢
  obtain ⟨p0, p1⟩ := pb
  have w1 : IntKind.i64.wrap q = q := IntWalk.i64_in _ (by omega)
  have w2 : q.tmod 8380417 = q % 8380417 := Int.tmod_eq_emod_of_nonneg p0
  go_enter Try.func22, Try.ntmps22
  go_wp2
  go_ret
  exact ⟨rfl, rfl⟩
set_option maxRecDepth 100000 in
set_option maxHeartbeats 1000000 in
theorem rvalid_any (w : World) (x : Value) (l : List Int) (hx : IntsAt w x l) (hl : l.length ≤ 4611686018427387904) :
    Calls Try.prog 18 #[x] w fun e w' => e = .returned (.bool (validB l)) ∧ w' = w := by
  obtain ⟨sp, c, rfl, hc1, hc2, hc3⟩ := hx
  have Hc := hide hc3
  clear hc3 hc2
  go_enter Try.func18, Try.ntmps18
  go_wp2
  go_loopw [7] (fun i wr => ∃ k : Nat, k ≤ l.length ∧ i = .int .i64 (k : Int) ∧ Hid (w = wr) ∧ Hid (∀ t, t < k → 0 ≤ coef l t ∧ coef l t < 8380417)) (fun i _ => l.length - (intOf i).toNat)
  case atStart => exact ⟨0, by omega, rfl, rfl, fun t ht => by omega⟩
  case round =>
    obtain ⟨k, hk, rfl, hw, hb⟩ := hrel
    have hw' := unhide hw
    clear hw
    subst hw'
    have kb : (l.length : Int) ≤ 4611686018427387904 := by omega
    by_cases hlt : k < l.length
    · obtain ⟨b, o, rfl, hr⟩ := unhide Hc (by intro e; rw [e] at hlt; simp at hlt)
      have ck : w.cell? ⟨b, o + k, none⟩ = some (.int .i64 (coef l k)) := hr k _ (by simp [nv, coef, List.getD_eq_getElem?_getD, hlt])
      have k0 : (0 : Int) ≤ (k : Int) := by omega
      have k1 : (k : Int) < (l.length : Int) := by omega
      clear hr
      by_cases h0 : coef l k < 0
      · have hv : validB l = false := not_poly k (by omega)
        have Hv := hide hv
        clear hv hb
        generalize coef l k = z at ck h0
        go_wp2
        go_ret
        exact ⟨by rw [unhide Hv]; rfl, rfl⟩
      · by_cases h1 : 8380417 ≤ coef l k
        · have hv : validB l = false := not_poly k (by omega)
          have Hv := hide hv
          clear hv hb
          generalize coef l k = z at ck h0 h1
          have d0 : decide (z < 0) = false := by simp; omega
          go_wp2
          go_ret
          exact ⟨by rw [unhide Hv]; rfl, rfl⟩
        · have Hn : Hid (∀ t, t < k + 1 → 0 ≤ coef l t ∧ coef l t < 8380417) := fun t ht => by
            rcases Nat.lt_or_ge t k with h | h
            · exact unhide hb t h
            · obtain rfl : t = k := by omega
              omega
          clear hb
          generalize coef l k = z at ck h0 h1
          have d0 : decide (z < 0) = false := by simp; omega
          have d1 : decide (8380417 ≤ z) = false := by simp; omega
          go_wp2
          go_roundw
          case rel =>
            first
              | exact ⟨k + 1, by omega, by go_num, trivial, Hn⟩
              | exact ⟨k + 1, by omega, by go_num, rfl, Hn⟩
              | ((repeat apply Exists.intro); exact ⟨⟨k + 1, by omega, by go_num, trivial, Hn⟩, rfl⟩)
              | ((repeat apply Exists.intro); exact ⟨⟨k + 1, by omega, by go_num, rfl, Hn⟩, rfl⟩)
          case measure => simp [intOf]; omega
    · obtain rfl : k = l.length := by omega
      by_cases hn : l.length = 256
      · have Hv := hide ((validB_iff l).2 (poly_of_coef hn (by have := unhide hb; rwa [hn] at this)))
        have d : ((l.length : Int) == 256) = true := by simp; omega
        clear hb
        go_wp2
        go_ret
        exact ⟨by rw [unhide Hv]; rfl, rfl⟩
      · have hv : validB l = false := by unfold validB; simp [hn]
        have d : ((l.length : Int) == 256) = false := by simp; omega
        have Hv := hide hv
        clear hv hb
        go_wp2
        go_ret
        exact ⟨by rw [unhide Hv]; rfl, rfl⟩
set_option maxRecDepth 100000 in
set_option maxHeartbeats 1000000 in
theorem rcenter_any (n : Int) (w : World) : Calls Try.prog 13 #[.int .i64 n] w fun e w' => e = .returned (.int .i64 (center n)) ∧ w' = w := by
  have hb := tmod_bound n
  have hc : center n = if 4190208 < n.tmod 8380417 then n.tmod 8380417 - 8380417 else if n.tmod 8380417 < -4190208 then n.tmod 8380417 + 8380417 else n.tmod 8380417 := rfl
  generalize hm : n.tmod 8380417 = m at hb hc
  obtain ⟨m0, m1⟩ := hb
  have Hc := hide hc
  clear hc
  by_cases h1 : 4190208 < m
  · have Hv : Hid (m - 8380417 = center n) := by show _ = _; rw [unhide Hc, if_pos h1]
    clear Hc
    go_enter Try.func13, Try.ntmps13
    go_wp2
    go_ret
    exact ⟨by rw [← unhide Hv]; rfl, rfl⟩
  · have d1 : decide (4190208 < m) = false := by simp; omega
    by_cases h2 : m < -4190208
    · have Hv : Hid (m + 8380417 = center n) := by show _ = _; rw [unhide Hc, if_neg h1, if_pos h2]
      clear Hc
      go_enter Try.func13, Try.ntmps13
      go_wp2
      go_ret
      exact ⟨by rw [← unhide Hv]; rfl, rfl⟩
    · have d2 : decide (m < -4190208) = false := by simp; omega
      have Hv : Hid (m = center n) := by show _ = _; rw [unhide Hc, if_neg h1, if_neg h2]
      clear Hc
      go_enter Try.func13, Try.ntmps13
      go_wp2
      go_ret
      exact ⟨by rw [← unhide Hv]; rfl, rfl⟩
end Go.Proofs.Ytfjolaekenmefab
