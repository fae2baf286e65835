/-
  The walks of the reference's Power, Decompose, Hint and Use, of cut, and of Center.
-/
import Derived.Test.YthciafobknaipaaProg
import Derived.Test.YthciafobknaipaaVals
import Derived.Test.YthciafobknaipaaCut
namespace Go.Proofs.Ythciafobknaipaa
open Go.RowKit
theorem cut_any (b : Bool) (w : World) : Calls Try.prog 10 #[.bool b] w fun e w' => e = .returned (.int .i64 (if b = true then 95232 else 261888)) ∧ w' = w := by
  cases b
  · go_enter Try.func10, Try.ntmps10
    go_wp2
    go_ret
    exact ⟨rfl, rfl⟩
  · go_enter Try.func10, Try.ntmps10
    go_wp2
    go_ret
    exact ⟨rfl, rfl⟩
theorem cuts_of (b : Bool) : Cuts (if b = true then 95232 else 261888) := by cases b <;> simp [Cuts]
set_option maxRecDepth 100000 in
theorem refPower_any (r : Int) (h0 : 0 ≤ r) (h1 : r < 8380417) (w : World) : Calls Try.prog 12 #[.int .i64 r] w fun e w' => e = .returned (.tuple #[.int .i64 (pow1 r), .int .i64 (pow0 r)]) ∧ w' = w := by
  have t1 : r.tmod 8192 = r % 8192 := Int.tmod_eq_emod_of_nonneg h0
  have hp1 : pow1 r = (r - pow0 r) / 8192 := rfl
  have hp0 : pow0 r = if 4096 < r % 8192 then r % 8192 - 8192 else r % 8192 := rfl
  have b0 : 0 ≤ r % 8192 := by omega
  have b1 : r % 8192 < 8192 := by omega
  have b2 : r % 8192 ≤ r := by omega
  generalize r % 8192 = X at t1 hp0 b0 b1 b2
  have H1 := hide hp1
  have H0 := hide hp0
  clear hp1 hp0
  by_cases hx : 4096 < X
  · have t2 : (r - (X - 8192)).tdiv 8192 = (r - (X - 8192)) / 8192 := Int.tdiv_eq_ediv_of_nonneg (by omega)
    have w1 : IntKind.i64.wrap (r - (X - 8192)) = r - (X - 8192) := IntWalk.i64_in _ (by omega)
    go_enter Try.func12, Try.ntmps12
    go_wp2
    go_ret2
    exact ⟨by rw [unhide H1, unhide H0, if_pos hx]; rfl, rfl⟩
  · have d : decide (4096 < X) = false := by simp; omega
    have t2 : (r - X).tdiv 8192 = (r - X) / 8192 := Int.tdiv_eq_ediv_of_nonneg (by omega)
    have w1 : IntKind.i64.wrap (r - X) = r - X := IntWalk.i64_in _ (by omega)
    go_enter Try.func12, Try.ntmps12
    go_wp2
    go_ret2
    exact ⟨by rw [unhide H1, unhide H0, if_neg (by omega)]; rfl, rfl⟩
set_option maxRecDepth 100000 in
set_option maxHeartbeats 1000000 in
theorem refDec95232 (r : Int) (h0 : 0 ≤ r) (h1 : r < 8380417) (w : World) : Calls Try.prog 14 #[.int .i64 r, .int .i64 95232] w fun e w' => e = .returned (.tuple #[.int .i64 (dec1 r 95232), .int .i64 (dec0 r 95232)]) ∧ w' = w := by
  have t1 : r.tmod 190464 = r % 190464 := Int.tmod_eq_emod_of_nonneg h0
  have hd1 : dec1 r 95232 = if r - low r 95232 = 8380416 then 0 else (r - low r 95232) / 190464 := rfl
  have hd0 : dec0 r 95232 = if r - low r 95232 = 8380416 then low r 95232 - 1 else low r 95232 := rfl
  have hl : low r 95232 = if 95232 < r % 190464 then r % 190464 - 190464 else r % 190464 := rfl
  have b0 : 0 ≤ r % 190464 := by omega
  have b1 : r % 190464 < 190464 := by omega
  have b2 : r % 190464 ≤ r := by omega
  generalize r % 190464 = X at t1 hl b0 b1 b2
  by_cases hx : 95232 < X
  · rw [if_pos hx] at hl
    rw [hl] at hd1 hd0
    clear hl
    have w1 : IntKind.i64.wrap (r - (X - 190464)) = r - (X - 190464) := IntWalk.i64_in _ (by omega)
    have t2 : (r - (X - 190464)).tdiv 190464 = (r - (X - 190464)) / 190464 := Int.tdiv_eq_ediv_of_nonneg (by omega)
    by_cases hq : r - (X - 190464) = 8380416
    · rw [if_pos hq] at hd1 hd0
      have d : ((r - (X - 190464)) == 8380416) = true := by simp [hq]
      have H1 := hide hd1
      have H0 := hide hd0
      clear hd1 hd0 hq
      go_enter Try.func14, Try.ntmps14
      go_wp2
      go_ret2
      exact ⟨by rw [unhide H1, unhide H0]; rfl, rfl⟩
    · rw [if_neg hq] at hd1 hd0
      have d : ((r - (X - 190464)) == 8380416) = false := by simp [hq]
      have H1 := hide hd1
      have H0 := hide hd0
      clear hd1 hd0
      go_enter Try.func14, Try.ntmps14
      go_wp2
      go_ret2
      exact ⟨by rw [unhide H1, unhide H0]; rfl, rfl⟩
  · rw [if_neg hx] at hl
    rw [hl] at hd1 hd0
    clear hl
    have dd : decide (95232 < X) = false := by simp; omega
    have w1 : IntKind.i64.wrap (r - X) = r - X := IntWalk.i64_in _ (by omega)
    have t2 : (r - X).tdiv 190464 = (r - X) / 190464 := Int.tdiv_eq_ediv_of_nonneg (by omega)
    by_cases hq : r - X = 8380416
    · rw [if_pos hq] at hd1 hd0
      have d : ((r - X) == 8380416) = true := by simp [hq]
      have H1 := hide hd1
      have H0 := hide hd0
      clear hd1 hd0 hq
      go_enter Try.func14, Try.ntmps14
      go_wp2
      go_ret2
      exact ⟨by rw [unhide H1, unhide H0]; rfl, rfl⟩
    · rw [if_neg hq] at hd1 hd0
      have d : ((r - X) == 8380416) = false := by simp [hq]
      have H1 := hide hd1
      have H0 := hide hd0
      clear hd1 hd0
      go_enter Try.func14, Try.ntmps14
      go_wp2
      go_ret2
      exact ⟨by rw [unhide H1, unhide H0]; rfl, rfl⟩
set_option maxRecDepth 100000 in
set_option maxHeartbeats 1000000 in
theorem refDec261888 (r : Int) (h0 : 0 ≤ r) (h1 : r < 8380417) (w : World) : Calls Try.prog 14 #[.int .i64 r, .int .i64 261888] w fun e w' => e = .returned (.tuple #[.int .i64 (dec1 r 261888), .int .i64 (dec0 r 261888)]) ∧ w' = w := by
  have t1 : r.tmod 523776 = r % 523776 := Int.tmod_eq_emod_of_nonneg h0
  have hd1 : dec1 r 261888 = if r - low r 261888 = 8380416 then 0 else (r - low r 261888) / 523776 := rfl
  have hd0 : dec0 r 261888 = if r - low r 261888 = 8380416 then low r 261888 - 1 else low r 261888 := rfl
  have hl : low r 261888 = if 261888 < r % 523776 then r % 523776 - 523776 else r % 523776 := rfl
  have b0 : 0 ≤ r % 523776 := by omega
  have b1 : r % 523776 < 523776 := by omega
  have b2 : r % 523776 ≤ r := by omega
  generalize r % 523776 = X at t1 hl b0 b1 b2
  by_cases hx : 261888 < X
  · rw [if_pos hx] at hl
    rw [hl] at hd1 hd0
    clear hl
    have w1 : IntKind.i64.wrap (r - (X - 523776)) = r - (X - 523776) := IntWalk.i64_in _ (by omega)
    have t2 : (r - (X - 523776)).tdiv 523776 = (r - (X - 523776)) / 523776 := Int.tdiv_eq_ediv_of_nonneg (by omega)
    by_cases hq : r - (X - 523776) = 8380416
    · rw [if_pos hq] at hd1 hd0
      have d : ((r - (X - 523776)) == 8380416) = true := by simp [hq]
      have H1 := hide hd1
      have H0 := hide hd0
      clear hd1 hd0 hq
      go_enter Try.func14, Try.ntmps14
      go_wp2
      go_ret2
      exact ⟨by rw [unhide H1, unhide H0]; rfl, rfl⟩
    · rw [if_neg hq] at hd1 hd0
      have d : ((r - (X - 523776)) == 8380416) = false := by simp [hq]
      have H1 := hide hd1
      have H0 := hide hd0
      clear hd1 hd0
      go_enter Try.func14, Try.ntmps14
      go_wp2
      go_ret2
      exact ⟨by rw [unhide H1, unhide H0]; rfl, rfl⟩
  · rw [if_neg hx] at hl
    rw [hl] at hd1 hd0
    clear hl
    have dd : decide (261888 < X) = false := by simp; omega
    have w1 : IntKind.i64.wrap (r - X) = r - X := IntWalk.i64_in _ (by omega)
    have t2 : (r - X).tdiv 523776 = (r - X) / 523776 := Int.tdiv_eq_ediv_of_nonneg (by omega)
    by_cases hq : r - X = 8380416
    · rw [if_pos hq] at hd1 hd0
      have d : ((r - X) == 8380416) = true := by simp [hq]
      have H1 := hide hd1
      have H0 := hide hd0
      clear hd1 hd0 hq
      go_enter Try.func14, Try.ntmps14
      go_wp2
      go_ret2
      exact ⟨by rw [unhide H1, unhide H0]; rfl, rfl⟩
    · rw [if_neg hq] at hd1 hd0
      have d : ((r - X) == 8380416) = false := by simp [hq]
      have H1 := hide hd1
      have H0 := hide hd0
      clear hd1 hd0
      go_enter Try.func14, Try.ntmps14
      go_wp2
      go_ret2
      exact ⟨by rw [unhide H1, unhide H0]; rfl, rfl⟩
theorem refDec_any (g : Int) (hg : Cuts g) (r : Int) (h0 : 0 ≤ r) (h1 : r < 8380417) (w : World) : Calls Try.prog 14 #[.int .i64 r, .int .i64 g] w fun e w' => e = .returned (.tuple #[.int .i64 (dec1 r g), .int .i64 (dec0 r g)]) ∧ w' = w := by
  rcases hg with rfl | rfl
  · exact refDec95232 r h0 h1 w
  · exact refDec261888 r h0 h1 w
set_option maxRecDepth 100000 in
theorem refHint_any (g : Int) (hg : Cuts g) (z r : Int) (z0 : 0 ≤ z) (z1 : z < 8380417) (h0 : 0 ≤ r) (h1 : r < 8380417) (w : World) : Calls Try.prog 16 #[.int .i64 z, .int .i64 r, .int .i64 g] w fun e w' => e = .returned (.bool (hintB z r g)) ∧ w' = w := by
  have t1 : (r + z).tmod 8380417 = (r + z) % 8380417 := Int.tmod_eq_emod_of_nonneg (by omega)
  have hh : hintB z r g = (dec1 r g != dec1 ((r + z) % 8380417) g) := rfl
  have Hh := hide hh
  have Hg := hide hg
  clear hh hg
  go_enter Try.func16, Try.ntmps16
  go_wp2_with fail
  refine (refDec_any g (unhide Hg) r h0 h1 w).mono ?_
  rintro e w1 ⟨rfl, rfl⟩
  go_wp2_with fail
  refine (refDec_any g (unhide Hg) ((r + z) % 8380417) (by omega) (by omega) w1).mono ?_
  rintro e w1 ⟨rfl, rfl⟩
  go_wp2
  go_ret
  exact ⟨by rw [unhide Hh]; rfl, rfl⟩
set_option maxRecDepth 100000 in
set_option maxHeartbeats 1000000 in
theorem refUse_any (g : Int) (hg : Cuts g) (h : Bool) (r : Int) (h0 : 0 ≤ r) (h1 : r < 8380417) (w : World) : Calls Try.prog 18 #[.bool h, .int .i64 r, .int .i64 g] w fun e w' => e = .returned (.int .i64 (useOf h r g)) ∧ w' = w := by
  obtain ⟨m, hm, hgm⟩ : ∃ m, 8380416 / (2 * g) = m ∧ ((g = 95232 ∧ m = 44) ∨ (g = 261888 ∧ m = 16)) := by
    rcases hg with rfl | rfl
    · exact ⟨44, rfl, Or.inl ⟨rfl, rfl⟩⟩
    · exact ⟨16, rfl, Or.inr ⟨rfl, rfl⟩⟩
  have hu : useOf h r g = if h = true then (if 0 < dec0 r g then (dec1 r g + 1) % m else (dec1 r g + m - 1) % m) else dec1 r g := by unfold useOf; rw [hm]
  have hb := dec_back hg h0 h1
  have Hd := hide (refDec_any g hg r h0 h1)
  have b1 := hb.2.2.2.1
  have b2 := hb.2.2.2.2
  clear hb hm hg
  generalize dec1 r g = a at hu Hd b1 b2
  generalize dec0 r g = x at hu Hd
  have HU := hide hu
  clear hu
  rcases hgm with ⟨rfl, rfl⟩ | ⟨rfl, rfl⟩
  · have q : (8380416 : Int).tdiv 190464 = 44 := by decide
    have t1 : (a + 1).tmod 44 = (a + 1) % 44 := Int.tmod_eq_emod_of_nonneg (by omega)
    have t2 : (a + 44 - 1).tmod 44 = (a + 44 - 1) % 44 := Int.tmod_eq_emod_of_nonneg (by omega)
    cases h
    · go_enter Try.func18, Try.ntmps18
      go_wp2_with fail
      refine (unhide Hd w).mono ?_
      rintro e w1 ⟨rfl, rfl⟩
      go_wp2
      go_ret
      exact ⟨by rw [unhide HU]; rfl, rfl⟩
    · by_cases hx : 0 < x
      · go_enter Try.func18, Try.ntmps18
        go_wp2_with fail
        refine (unhide Hd w).mono ?_
        rintro e w1 ⟨rfl, rfl⟩
        go_wp2
        go_ret
        exact ⟨by rw [unhide HU, if_pos trivial, if_pos hx]; rfl, rfl⟩
      · have d : decide (0 < x) = false := by simp; omega
        go_enter Try.func18, Try.ntmps18
        go_wp2_with fail
        refine (unhide Hd w).mono ?_
        rintro e w1 ⟨rfl, rfl⟩
        go_wp2
        go_ret
        exact ⟨by rw [unhide HU, if_pos trivial, if_neg (by omega)]; rfl, rfl⟩
  · have q : (8380416 : Int).tdiv 523776 = 16 := by decide
    have t1 : (a + 1).tmod 16 = (a + 1) % 16 := Int.tmod_eq_emod_of_nonneg (by omega)
    have t2 : (a + 16 - 1).tmod 16 = (a + 16 - 1) % 16 := Int.tmod_eq_emod_of_nonneg (by omega)
    cases h
    · go_enter Try.func18, Try.ntmps18
      go_wp2_with fail
      refine (unhide Hd w).mono ?_
      rintro e w1 ⟨rfl, rfl⟩
      go_wp2
      go_ret
      exact ⟨by rw [unhide HU]; rfl, rfl⟩
    · by_cases hx : 0 < x
      · go_enter Try.func18, Try.ntmps18
        go_wp2_with fail
        refine (unhide Hd w).mono ?_
        rintro e w1 ⟨rfl, rfl⟩
        go_wp2
        go_ret
        exact ⟨by rw [unhide HU, if_pos trivial, if_pos hx]; rfl, rfl⟩
      · have d : decide (0 < x) = false := by simp; omega
        go_enter Try.func18, Try.ntmps18
        go_wp2_with fail
        refine (unhide Hd w).mono ?_
        rintro e w1 ⟨rfl, rfl⟩
        go_wp2
        go_ret
        exact ⟨by rw [unhide HU, if_pos trivial, if_neg (by omega)]; rfl, rfl⟩
/-- The number around 0. -/
def center (n : Int) : Int := if 4190208 < n.tmod 8380417 then n.tmod 8380417 - 8380417 else if n.tmod 8380417 < -4190208 then n.tmod 8380417 + 8380417 else n.tmod 8380417
theorem tmod_bound (n : Int) : -8380417 < n.tmod 8380417 ∧ n.tmod 8380417 < 8380417 := by
  have h1 := Int.tmod_lt_of_pos n (show (0 : Int) < 8380417 by omega)
  have h2 := Int.lt_tmod_of_pos n (show (0 : Int) < 8380417 by omega)
  omega
theorem center_of {z : Int} (z0 : 0 ≤ z) (z1 : z < 8380417) : center z = z ∨ center z = z - 8380417 := by
  have : z.tmod 8380417 = z := by rw [Int.tmod_eq_emod_of_nonneg z0]; omega
  unfold center
  rw [this]
  split
  · exact Or.inr rfl
  · rw [if_neg (by omega)]; exact Or.inl rfl
set_option maxRecDepth 100000 in
set_option maxHeartbeats 1000000 in
theorem center_any (n : Int) (w : World) : Calls Try.prog 19 #[.int .i64 n] w fun e w' => e = .returned (.int .i64 (center n)) ∧ w' = w := by
  have hb := tmod_bound n
  have hc : center n = if 4190208 < n.tmod 8380417 then n.tmod 8380417 - 8380417 else if n.tmod 8380417 < -4190208 then n.tmod 8380417 + 8380417 else n.tmod 8380417 := rfl
  generalize hm : n.tmod 8380417 = m at hb hc
  obtain ⟨m0, m1⟩ := hb
  have Hc := hide hc
  clear hc
  by_cases h1 : 4190208 < m
  · have d2 : decide (m - 8380417 < -4190208) = false := by simp; omega
    have Hv : Hid (m - 8380417 = center n) := by show _ = _; rw [unhide Hc, if_pos h1]
    clear Hc
    go_enter Try.func19, Try.ntmps19
    go_wp2
    go_ret
    exact ⟨by rw [← unhide Hv]; rfl, rfl⟩
  · have d1 : decide (4190208 < m) = false := by simp; omega
    by_cases h2 : m < -4190208
    · have Hv : Hid (m + 8380417 = center n) := by show _ = _; rw [unhide Hc, if_neg h1, if_pos h2]
      clear Hc
      go_enter Try.func19, Try.ntmps19
      go_wp2
      go_ret
      exact ⟨by rw [← unhide Hv]; rfl, rfl⟩
    · have d2 : decide (m < -4190208) = false := by simp; omega
      have Hv : Hid (m = center n) := by show _ = _; rw [unhide Hc, if_neg h1, if_neg h2]
      clear Hc
      go_enter Try.func19, Try.ntmps19
      go_wp2
      go_ret
      exact ⟨by rw [← unhide Hv]; rfl, rfl⟩
end Go.Proofs.Ythciafobknaipaa
