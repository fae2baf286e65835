/-
  The walks of the landed code: around, known, Power, Decompose.
-/
import Derived.Test.YthciafobknaipabTold
namespace Go.Proofs.Ythciafobknaipab
open Go.RowKit
set_option maxRecDepth 100000 in
theorem around8192 (r : Int) (h0 : 0 ≤ r) (w : World) : Calls Try.prog 16 #[.int .i64 r, .int .i64 8192] w fun e w' => e = .returned (.int .i64 (if 4096 < r % 8192 then r % 8192 - 8192 else r % 8192)) ∧ w' = w := by
  have t1 : r.tmod 8192 = r % 8192 := Int.tmod_eq_emod_of_nonneg h0
  have t0 : (8192 : Int).tdiv 2 = 4096 := by decide
  have b0 : 0 ≤ r % 8192 := by omega
  have b1 : r % 8192 < 8192 := by omega
  generalize r % 8192 = X at t1 b0 b1
  by_cases hx : 4096 < X
  · have d : decide (4096 < X) = true := by simp; omega
    rw [if_pos hx]
    go_enter Try.func16, Try.ntmps16
    go_wp2
    go_ret
    exact ⟨rfl, rfl⟩
  · have d : decide (4096 < X) = false := by simp; omega
    rw [if_neg hx]
    go_enter Try.func16, Try.ntmps16
    go_wp2
    go_ret
    exact ⟨rfl, rfl⟩
set_option maxRecDepth 100000 in
theorem around190464 (r : Int) (h0 : 0 ≤ r) (w : World) : Calls Try.prog 16 #[.int .i64 r, .int .i64 190464] w fun e w' => e = .returned (.int .i64 (if 95232 < r % 190464 then r % 190464 - 190464 else r % 190464)) ∧ w' = w := by
  have t1 : r.tmod 190464 = r % 190464 := Int.tmod_eq_emod_of_nonneg h0
  have t0 : (190464 : Int).tdiv 2 = 95232 := by decide
  have b0 : 0 ≤ r % 190464 := by omega
  have b1 : r % 190464 < 190464 := by omega
  generalize r % 190464 = X at t1 b0 b1
  by_cases hx : 95232 < X
  · have d : decide (95232 < X) = true := by simp; omega
    rw [if_pos hx]
    go_enter Try.func16, Try.ntmps16
    go_wp2
    go_ret
    exact ⟨rfl, rfl⟩
  · have d : decide (95232 < X) = false := by simp; omega
    rw [if_neg hx]
    go_enter Try.func16, Try.ntmps16
    go_wp2
    go_ret
    exact ⟨rfl, rfl⟩
set_option maxRecDepth 100000 in
theorem around523776 (r : Int) (h0 : 0 ≤ r) (w : World) : Calls Try.prog 16 #[.int .i64 r, .int .i64 523776] w fun e w' => e = .returned (.int .i64 (if 261888 < r % 523776 then r % 523776 - 523776 else r % 523776)) ∧ w' = w := by
  have t1 : r.tmod 523776 = r % 523776 := Int.tmod_eq_emod_of_nonneg h0
  have t0 : (523776 : Int).tdiv 2 = 261888 := by decide
  have b0 : 0 ≤ r % 523776 := by omega
  have b1 : r % 523776 < 523776 := by omega
  generalize r % 523776 = X at t1 b0 b1
  by_cases hx : 261888 < X
  · have d : decide (261888 < X) = true := by simp; omega
    rw [if_pos hx]
    go_enter Try.func16, Try.ntmps16
    go_wp2
    go_ret
    exact ⟨rfl, rfl⟩
  · have d : decide (261888 < X) = false := by simp; omega
    rw [if_neg hx]
    go_enter Try.func16, Try.ntmps16
    go_wp2
    go_ret
    exact ⟨rfl, rfl⟩
theorem known95232 (w : World) : Calls Try.prog 17 #[.int .i64 95232] w fun e w' => e = .returned (.bool true) ∧ w' = w := by
  go_enter Try.func17, Try.ntmps17
  go_wp2
  go_ret
  exact ⟨rfl, rfl⟩
theorem known261888 (w : World) : Calls Try.prog 17 #[.int .i64 261888] w fun e w' => e = .returned (.bool true) ∧ w' = w := by
  go_enter Try.func17, Try.ntmps17
  go_wp2
  go_ret
  exact ⟨rfl, rfl⟩
set_option maxRecDepth 100000 in
theorem power_any (r : Int) (h0 : 0 ≤ r) (h1 : r < 8380417) (w : World) : Calls Try.prog 10 #[.int .i64 r] w fun e w' => e = .returned (.tuple #[.int .i64 (pow1 r), .int .i64 (pow0 r)]) ∧ w' = w := by
  have H0 := hide (show (if 4096 < r % 8192 then r % 8192 - 8192 else r % 8192) = pow0 r from rfl)
  have H1 := hide (show pow1 r = (r - pow0 r) / 8192 from rfl)
  have hb := pow_back h0 h1
  have t2 : (r - pow0 r).tdiv 8192 = (r - pow0 r) / 8192 := Int.tdiv_eq_ediv_of_nonneg (by omega)
  have w1 : IntKind.i64.wrap (r - pow0 r) = r - pow0 r := IntWalk.i64_in _ (by omega)
  have Ha := hide (around8192 r h0)
  obtain ⟨_, p0, p1, q0, q1⟩ := hb
  rw [unhide H1] at q0 q1
  obtain ⟨P, hP⟩ : ∃ P, pow0 r = P := ⟨_, rfl⟩
  have HP := hide hP
  rw [hP] at H0 H1 t2 w1 p0 p1 q0 q1
  clear hP
  go_enter Try.func10, Try.ntmps10
  go_wp2_with fail
  refine (unhide Ha w).mono ?_
  rw [unhide H0]
  rintro e w' ⟨rfl, rfl⟩
  go_wp2
  go_ret2
  exact ⟨by rw [unhide H1, unhide HP]; rfl, rfl⟩
set_option maxRecDepth 100000 in
set_option maxHeartbeats 1000000 in
theorem dec95232 (r : Int) (h0 : 0 ≤ r) (h1 : r < 8380417) (w : World) : Calls Try.prog 11 #[.int .i64 r, .int .i64 95232] w fun e w' => e = .returned (.tuple #[.int .i64 (dec1 r 95232), .int .i64 (dec0 r 95232)]) ∧ w' = w := by
  have H0 := hide (show (if 95232 < r % 190464 then r % 190464 - 190464 else r % 190464) = low r 95232 from rfl)
  have hd1 : dec1 r 95232 = if r - low r 95232 = 8380416 then 0 else (r - low r 95232) / 190464 := rfl
  have hd0 : dec0 r 95232 = if r - low r 95232 = 8380416 then low r 95232 - 1 else low r 95232 := rfl
  have hl : low r 95232 ≤ r ∧ -95232 ≤ low r 95232 ∧ low r 95232 ≤ 95232 := by unfold low; split <;> omega
  have Ha := hide (around190464 r h0)
  have Hk := hide known95232
  have w1 : IntKind.i64.wrap (r - low r 95232) = r - low r 95232 := IntWalk.i64_in _ (by omega)
  have t2 : (r - low r 95232).tdiv 190464 = (r - low r 95232) / 190464 := Int.tdiv_eq_ediv_of_nonneg (by omega)
  obtain ⟨X, hX⟩ : ∃ X, low r 95232 = X := ⟨_, rfl⟩
  rw [hX] at hd1 hd0 hl w1 t2
  rw [show low r 95232 = X from hX] at H0
  clear hX
  by_cases hq : r - X = 8380416
  · rw [if_pos hq] at hd1 hd0
    have d : ((r - X) == 8380416) = true := by simp [hq]
    have H1 := hide hd1
    have H2 := hide hd0
    clear hd1 hd0 hq
    go_enter Try.func11, Try.ntmps11
    go_wp2_with fail
    refine (unhide Hk w).mono ?_
    rintro e w' ⟨rfl, rfl⟩
    go_wp2_with fail
    refine (unhide Ha w').mono ?_
    rw [unhide H0]
    rintro e w2 ⟨rfl, rfl⟩
    go_wp2
    go_ret2
    exact ⟨by rw [unhide H1, unhide H2]; rfl, rfl⟩
  · rw [if_neg hq] at hd1 hd0
    have d : ((r - X) == 8380416) = false := by simp [hq]
    have H1 := hide hd1
    have H2 := hide hd0
    clear hd1 hd0
    go_enter Try.func11, Try.ntmps11
    go_wp2_with fail
    refine (unhide Hk w).mono ?_
    rintro e w' ⟨rfl, rfl⟩
    go_wp2_with fail
    refine (unhide Ha w').mono ?_
    rw [unhide H0]
    rintro e w2 ⟨rfl, rfl⟩
    go_wp2
    go_ret2
    exact ⟨by rw [unhide H1, unhide H2]; rfl, rfl⟩
set_option maxRecDepth 100000 in
set_option maxHeartbeats 1000000 in
theorem dec261888 (r : Int) (h0 : 0 ≤ r) (h1 : r < 8380417) (w : World) : Calls Try.prog 11 #[.int .i64 r, .int .i64 261888] w fun e w' => e = .returned (.tuple #[.int .i64 (dec1 r 261888), .int .i64 (dec0 r 261888)]) ∧ w' = w := by
  have H0 := hide (show (if 261888 < r % 523776 then r % 523776 - 523776 else r % 523776) = low r 261888 from rfl)
  have hd1 : dec1 r 261888 = if r - low r 261888 = 8380416 then 0 else (r - low r 261888) / 523776 := rfl
  have hd0 : dec0 r 261888 = if r - low r 261888 = 8380416 then low r 261888 - 1 else low r 261888 := rfl
  have hl : low r 261888 ≤ r ∧ -261888 ≤ low r 261888 ∧ low r 261888 ≤ 261888 := by unfold low; split <;> omega
  have Ha := hide (around523776 r h0)
  have Hk := hide known261888
  have w1 : IntKind.i64.wrap (r - low r 261888) = r - low r 261888 := IntWalk.i64_in _ (by omega)
  have t2 : (r - low r 261888).tdiv 523776 = (r - low r 261888) / 523776 := Int.tdiv_eq_ediv_of_nonneg (by omega)
  obtain ⟨X, hX⟩ : ∃ X, low r 261888 = X := ⟨_, rfl⟩
  rw [hX] at hd1 hd0 hl w1 t2
  rw [show low r 261888 = X from hX] at H0
  clear hX
  by_cases hq : r - X = 8380416
  · rw [if_pos hq] at hd1 hd0
    have d : ((r - X) == 8380416) = true := by simp [hq]
    have H1 := hide hd1
    have H2 := hide hd0
    clear hd1 hd0 hq
    go_enter Try.func11, Try.ntmps11
    go_wp2_with fail
    refine (unhide Hk w).mono ?_
    rintro e w' ⟨rfl, rfl⟩
    go_wp2_with fail
    refine (unhide Ha w').mono ?_
    rw [unhide H0]
    rintro e w2 ⟨rfl, rfl⟩
    go_wp2
    go_ret2
    exact ⟨by rw [unhide H1, unhide H2]; rfl, rfl⟩
  · rw [if_neg hq] at hd1 hd0
    have d : ((r - X) == 8380416) = false := by simp [hq]
    have H1 := hide hd1
    have H2 := hide hd0
    clear hd1 hd0
    go_enter Try.func11, Try.ntmps11
    go_wp2_with fail
    refine (unhide Hk w).mono ?_
    rintro e w' ⟨rfl, rfl⟩
    go_wp2_with fail
    refine (unhide Ha w').mono ?_
    rw [unhide H0]
    rintro e w2 ⟨rfl, rfl⟩
    go_wp2
    go_ret2
    exact ⟨by rw [unhide H1, unhide H2]; rfl, rfl⟩
theorem dec_any (g : Int) (hg : Cuts g) (r : Int) (h0 : 0 ≤ r) (h1 : r < 8380417) (w : World) : Calls Try.prog 11 #[.int .i64 r, .int .i64 g] w fun e w' => e = .returned (.tuple #[.int .i64 (dec1 r g), .int .i64 (dec0 r g)]) ∧ w' = w := by
  rcases hg with rfl | rfl
  · exact dec95232 r h0 h1 w
  · exact dec261888 r h0 h1 w
theorem known_any (g : Int) (hg : Cuts g) (w : World) : Calls Try.prog 17 #[.int .i64 g] w fun e w' => e = .returned (.bool true) ∧ w' = w := by
  rcases hg with rfl | rfl
  · exact known95232 w
  · exact known261888 w
end Go.Proofs.Ythciafobknaipab
