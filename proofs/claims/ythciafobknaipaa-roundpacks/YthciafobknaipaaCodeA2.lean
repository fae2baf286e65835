/-
  The walks of the landed code: Hint, Use.
-/
import Derived.Test.YthciafobknaipaaCodeA
namespace Go.Proofs.Ythciafobknaipaa
open Go.RowKit
set_option maxRecDepth 100000 in
theorem hint_any (g : Int) (hg : Cuts g) (z r : Int) (z0 : 0 ≤ z) (z1 : z < 8380417) (h0 : 0 ≤ r) (h1 : r < 8380417) (w : World) : Calls Try.prog 15 #[.int .i64 z, .int .i64 r, .int .i64 g] w fun e w' => e = .returned (.bool (hintB z r g)) ∧ w' = w := by
  have t1 : (r + z).tmod 8380417 = (r + z) % 8380417 := Int.tmod_eq_emod_of_nonneg (by omega)
  have hh : hintB z r g = (dec1 r g != dec1 ((r + z) % 8380417) g) := rfl
  have Hh := hide hh
  have Hg := hide hg
  clear hh hg
  go_enter Try.func15, Try.ntmps15
  go_wp2_with fail
  refine (dec_any g (unhide Hg) r h0 h1 w).mono ?_
  rintro e w1 ⟨rfl, rfl⟩
  go_wp2_with fail
  refine (dec_any g (unhide Hg) ((r + z) % 8380417) (by omega) (by omega) w1).mono ?_
  rintro e w1 ⟨rfl, rfl⟩
  go_wp2
  go_ret
  exact ⟨by rw [unhide Hh]; rfl, rfl⟩
set_option maxRecDepth 100000 in
set_option maxHeartbeats 1000000 in
theorem use95232 (h : Bool) (r : Int) (h0 : 0 ≤ r) (h1 : r < 8380417) (w : World) : Calls Try.prog 17 #[.bool h, .int .i64 r, .int .i64 95232] w fun e w' => e = .returned (.int .i64 (useOf h r 95232)) ∧ w' = w := by
  have hu : useOf h r 95232 = if h = true then (if 0 < dec0 r 95232 then (dec1 r 95232 + 1) % 44 else (dec1 r 95232 + 44 - 1) % 44) else dec1 r 95232 := rfl
  have hb := dec_back (g := 95232) (Or.inl rfl) h0 h1
  have Hd := hide (dec95232 r h0 h1)
  have Hk := hide known95232
  have Hu := hide hu
  obtain ⟨_, _, _, a0, a1⟩ := hb
  clear hu
  generalize dec1 r 95232 = A at *
  generalize dec0 r 95232 = B at *
  have t1 : (A + 1).tmod 44 = (A + 1) % 44 := Int.tmod_eq_emod_of_nonneg (by omega)
  have t2 : (A - 1 + 44).tmod 44 = (A + 44 - 1) % 44 := by rw [Int.tmod_eq_emod_of_nonneg (by omega), show A - 1 + 44 = A + 44 - 1 by omega]
  cases h with
  | false =>
    go_enter Try.func17, Try.ntmps17
    go_wp2_with fail
    refine (unhide Hd w).mono ?_
    rintro e w1 ⟨rfl, rfl⟩
    go_wp2
    go_ret
    exact ⟨by rw [unhide Hu]; rfl, rfl⟩
  | true =>
    by_cases hB : 0 < B
    · have d : decide (0 < B) = true := by simp; omega
      go_enter Try.func17, Try.ntmps17
      go_wp2_with fail
      refine (unhide Hd w).mono ?_
      rintro e w1 ⟨rfl, rfl⟩
      go_wp2_with fail
      refine (unhide Hk w1).mono ?_
      rintro e w2 ⟨rfl, rfl⟩
      go_wp2
      go_ret
      exact ⟨by rw [unhide Hu, if_pos trivial, if_pos hB]; rfl, rfl⟩
    · have d : decide (0 < B) = false := by simp; omega
      go_enter Try.func17, Try.ntmps17
      go_wp2_with fail
      refine (unhide Hd w).mono ?_
      rintro e w1 ⟨rfl, rfl⟩
      go_wp2_with fail
      refine (unhide Hk w1).mono ?_
      rintro e w2 ⟨rfl, rfl⟩
      go_wp2
      go_ret
      exact ⟨by rw [unhide Hu, if_pos trivial, if_neg (by omega)]; rfl, rfl⟩
set_option maxRecDepth 100000 in
set_option maxHeartbeats 1000000 in
theorem use261888 (h : Bool) (r : Int) (h0 : 0 ≤ r) (h1 : r < 8380417) (w : World) : Calls Try.prog 17 #[.bool h, .int .i64 r, .int .i64 261888] w fun e w' => e = .returned (.int .i64 (useOf h r 261888)) ∧ w' = w := by
  have hu : useOf h r 261888 = if h = true then (if 0 < dec0 r 261888 then (dec1 r 261888 + 1) % 16 else (dec1 r 261888 + 16 - 1) % 16) else dec1 r 261888 := rfl
  have hb := dec_back (g := 261888) (Or.inr rfl) h0 h1
  have Hd := hide (dec261888 r h0 h1)
  have Hk := hide known261888
  have Hu := hide hu
  obtain ⟨_, _, _, a0, a1⟩ := hb
  clear hu
  generalize dec1 r 261888 = A at *
  generalize dec0 r 261888 = B at *
  have t1 : (A + 1).tmod 16 = (A + 1) % 16 := Int.tmod_eq_emod_of_nonneg (by omega)
  have t2 : (A - 1 + 16).tmod 16 = (A + 16 - 1) % 16 := by rw [Int.tmod_eq_emod_of_nonneg (by omega), show A - 1 + 16 = A + 16 - 1 by omega]
  cases h with
  | false =>
    go_enter Try.func17, Try.ntmps17
    go_wp2_with fail
    refine (unhide Hd w).mono ?_
    rintro e w1 ⟨rfl, rfl⟩
    go_wp2
    go_ret
    exact ⟨by rw [unhide Hu]; rfl, rfl⟩
  | true =>
    by_cases hB : 0 < B
    · have d : decide (0 < B) = true := by simp; omega
      go_enter Try.func17, Try.ntmps17
      go_wp2_with fail
      refine (unhide Hd w).mono ?_
      rintro e w1 ⟨rfl, rfl⟩
      go_wp2_with fail
      refine (unhide Hk w1).mono ?_
      rintro e w2 ⟨rfl, rfl⟩
      go_wp2
      go_ret
      exact ⟨by rw [unhide Hu, if_pos trivial, if_pos hB]; rfl, rfl⟩
    · have d : decide (0 < B) = false := by simp; omega
      go_enter Try.func17, Try.ntmps17
      go_wp2_with fail
      refine (unhide Hd w).mono ?_
      rintro e w1 ⟨rfl, rfl⟩
      go_wp2_with fail
      refine (unhide Hk w1).mono ?_
      rintro e w2 ⟨rfl, rfl⟩
      go_wp2
      go_ret
      exact ⟨by rw [unhide Hu, if_pos trivial, if_neg (by omega)]; rfl, rfl⟩
theorem use_any (g : Int) (hg : Cuts g) (h : Bool) (r : Int) (h0 : 0 ≤ r) (h1 : r < 8380417) (w : World) : Calls Try.prog 17 #[.bool h, .int .i64 r, .int .i64 g] w fun e w' => e = .returned (.int .i64 (useOf h r g)) ∧ w' = w := by
  rcases hg with rfl | rfl
  · exact use95232 h r h0 h1 w
  · exact use261888 h r h0 h1 w
end Go.Proofs.Ythciafobknaipaa
