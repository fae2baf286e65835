/-
  The walks of the landed isLevels, isHeight, heightOfKind and Key.first.
-/
import Derived.Test.YtlhjifdahagkaaaDoorM11
import Derived.Test.YtlhjifdahagkaaaDoorM04
namespace Go.Proofs.YtlhjifdahagkaaaDoor
open Go.RowKit
theorem wbits_yes (w : World) (hW : WidAt w) (wd : Nat) (hw : IsW wd) : Calls Tryd.prog 45 #[.int .i64 (wd : Int)] w fun e w' => e = .returned (.tuple #[.agg #[.int .i64 (wd : Int), .int .i64 (tyW wd : Int), .int .i64 (pW wd : Int), .int .i64 (lsW wd : Int)], .bool true]) ∧ Below w.heap.size w w' := by
  rcases hw with rfl | rfl | rfl | rfl
  · exact wbits_0 w hW
  · exact wbits_1 w hW
  · exact wbits_2 w hW
  · exact wbits_3 w hW
theorem wbits_no (w : World) (hW : WidAt w) (x : Int) (h : ¬ (x = 1 ∨ x = 2 ∨ x = 4 ∨ x = 8)) : Calls Tryd.prog 45 #[.int .i64 x] w fun e w' => e = .returned (.tuple #[.agg #[.int .i64 0, .int .i64 0, .int .i64 0, .int .i64 0], .bool false]) ∧ Below w.heap.size w w' :=
  wbits_4 w hW x (by simp; omega) (by simp; omega) (by simp; omega) (by simp; omega)
theorem wkind_yes (w : World) (hW : WidAt w) (v wd : Nat) (hv : wOf v = wd) (hw : 0 < wd) : IsW wd ∧ Calls Tryd.prog 79 #[.int .i64 (v : Int)] w fun e w' => e = .returned (.tuple #[.agg #[.int .i64 (wd : Int), .int .i64 (tyW wd : Int), .int .i64 (pW wd : Int), .int .i64 (lsW wd : Int)], .bool true]) ∧ Below w.heap.size w w' := by
  subst hv
  by_cases h1 : v = 1
  · subst h1; exact ⟨Or.inl rfl, wkind_0 w hW⟩
  by_cases h2 : v = 2
  · subst h2; exact ⟨Or.inr (Or.inl rfl), wkind_1 w hW⟩
  by_cases h3 : v = 3
  · subst h3; exact ⟨Or.inr (Or.inr (Or.inl rfl)), wkind_2 w hW⟩
  by_cases h4 : v = 4
  · subst h4; exact ⟨Or.inr (Or.inr (Or.inr rfl)), wkind_3 w hW⟩
  exfalso
  simp [wOf, wTo] at hw
  repeat' split at hw
  all_goals omega
theorem wkind_no (w : World) (hW : WidAt w) (v : Nat) (hv : wOf v = 0) : Calls Tryd.prog 79 #[.int .i64 (v : Int)] w fun e w' => e = .returned (.tuple #[.agg #[.int .i64 0, .int .i64 0, .int .i64 0, .int .i64 0], .bool false]) ∧ Below w.heap.size w w' := by
  have h1 : v ≠ 1 := by rintro rfl; exact absurd hv (by decide)
  have h2 : v ≠ 2 := by rintro rfl; exact absurd hv (by decide)
  have h3 : v ≠ 3 := by rintro rfl; exact absurd hv (by decide)
  have h4 : v ≠ 4 := by rintro rfl; exact absurd hv (by decide)
  exact wkind_4 w hW (v : Int) (by simp; omega) (by simp; omega) (by simp; omega) (by simp; omega)
set_option maxRecDepth 100000 in
theorem islev_yes (w : World) (x : Int) (h1 : 1 ≤ x) (h2 : x ≤ 3) : Calls Tryd.prog 46 #[.int .i64 x] w fun e w' => e = .returned (.bool true) ∧ w' = w := by
  go_enter Tryd.func46, Tryd.ntmps46
  go_wp2
  go_ret
  exact ⟨rfl, rfl⟩
set_option maxRecDepth 100000 in
theorem islev_no (w : World) (x : Int) (h : ¬ (1 ≤ x ∧ x ≤ 3)) : Calls Tryd.prog 46 #[.int .i64 x] w fun e w' => e = .returned (.bool false) ∧ w' = w := by
  by_cases h1 : 1 ≤ x
  · have d2 : decide (x ≤ 3) = false := by simp; omega
    clear h
    go_enter Tryd.func46, Tryd.ntmps46
    go_wp2
    go_ret
    exact ⟨rfl, rfl⟩
  · have d1 : decide (1 ≤ x) = false := by simp; omega
    clear h h1
    go_enter Tryd.func46, Tryd.ntmps46
    go_wp2
    go_ret
    exact ⟨rfl, rfl⟩
set_option maxRecDepth 100000 in
theorem ishei_yes (w : World) (x : Int) (h1 : 1 ≤ x) (h2 : x ≤ 6) : Calls Tryd.prog 47 #[.int .i64 x] w fun e w' => e = .returned (.bool true) ∧ w' = w := by
  go_enter Tryd.func47, Tryd.ntmps47
  go_wp2
  go_ret
  exact ⟨rfl, rfl⟩
set_option maxRecDepth 100000 in
theorem ishei_no (w : World) (x : Int) (h : ¬ (1 ≤ x ∧ x ≤ 6)) : Calls Tryd.prog 47 #[.int .i64 x] w fun e w' => e = .returned (.bool false) ∧ w' = w := by
  by_cases h1 : 1 ≤ x
  · have d2 : decide (x ≤ 6) = false := by simp; omega
    clear h
    go_enter Tryd.func47, Tryd.ntmps47
    go_wp2
    go_ret
    exact ⟨rfl, rfl⟩
  · have d1 : decide (1 ≤ x) = false := by simp; omega
    clear h h1
    go_enter Tryd.func47, Tryd.ntmps47
    go_wp2
    go_ret
    exact ⟨rfl, rfl⟩
set_option maxRecDepth 100000 in
set_option maxHeartbeats 2000000 in
theorem hkind_1 (w : World)  : Calls Tryd.prog 80 #[.int .i64 3758096385] w fun e w' => e = .returned (.tuple #[.int .i64 1, .bool true]) ∧ w' = w := by
  go_enter Tryd.func80, Tryd.ntmps80
  go_wp2
  go_loop [4] (fun ii => ∃ k : Nat, 1 ≤ k ∧ k ≤ 1 ∧ ii = .int .i64 (k : Int)) (fun ii => 8 - (intOf ii).toNat)
  case atStart => exact ⟨1, by omega, by omega, rfl⟩
  case round =>
    obtain ⟨k, hk1, hk, rfl⟩ := hrel
    obtain rfl : k = 1 := by omega
    · go_wp2_with (first | (go_at_call 47; refine (ishei_yes _ _ (by omega) (by omega)).mono ?_; rintro e w' ⟨rfl, rfl⟩) | (go_at_call 53; refine (kind_c 1 (by omega) _).mono ?_; rw [show tyH 1 = 3758096385 from rfl]; rintro e w' ⟨rfl, rfl⟩))
      go_ret2
      exact ⟨rfl, rfl⟩
set_option maxRecDepth 100000 in
set_option maxHeartbeats 2000000 in
theorem hkind_2 (w : World)  : Calls Tryd.prog 80 #[.int .i64 3758096386] w fun e w' => e = .returned (.tuple #[.int .i64 2, .bool true]) ∧ w' = w := by
  go_enter Tryd.func80, Tryd.ntmps80
  go_wp2
  go_loop [4] (fun ii => ∃ k : Nat, 1 ≤ k ∧ k ≤ 2 ∧ ii = .int .i64 (k : Int)) (fun ii => 8 - (intOf ii).toNat)
  case atStart => exact ⟨1, by omega, by omega, rfl⟩
  case round =>
    obtain ⟨k, hk1, hk, rfl⟩ := hrel
    obtain rfl | rfl : k = 1 ∨ k = 2 := by omega
    · go_wp2_with (first | (go_at_call 47; refine (ishei_yes _ _ (by omega) (by omega)).mono ?_; rintro e w' ⟨rfl, rfl⟩) | (go_at_call 53; refine (kind_c 1 (by omega) _).mono ?_; rw [show tyH 1 = 3758096385 from rfl]; rintro e w' ⟨rfl, rfl⟩))
      go_round
      case rel => exact ⟨2, by omega, by omega, by go_num⟩
      case measure => simp [intOf]
    · go_wp2_with (first | (go_at_call 47; refine (ishei_yes _ _ (by omega) (by omega)).mono ?_; rintro e w' ⟨rfl, rfl⟩) | (go_at_call 53; refine (kind_c 2 (by omega) _).mono ?_; rw [show tyH 2 = 3758096386 from rfl]; rintro e w' ⟨rfl, rfl⟩))
      go_ret2
      exact ⟨rfl, rfl⟩
set_option maxRecDepth 100000 in
set_option maxHeartbeats 2000000 in
theorem hkind_3 (w : World)  : Calls Tryd.prog 80 #[.int .i64 3758096387] w fun e w' => e = .returned (.tuple #[.int .i64 3, .bool true]) ∧ w' = w := by
  go_enter Tryd.func80, Tryd.ntmps80
  go_wp2
  go_loop [4] (fun ii => ∃ k : Nat, 1 ≤ k ∧ k ≤ 3 ∧ ii = .int .i64 (k : Int)) (fun ii => 8 - (intOf ii).toNat)
  case atStart => exact ⟨1, by omega, by omega, rfl⟩
  case round =>
    obtain ⟨k, hk1, hk, rfl⟩ := hrel
    obtain rfl | rfl | rfl : k = 1 ∨ k = 2 ∨ k = 3 := by omega
    · go_wp2_with (first | (go_at_call 47; refine (ishei_yes _ _ (by omega) (by omega)).mono ?_; rintro e w' ⟨rfl, rfl⟩) | (go_at_call 53; refine (kind_c 1 (by omega) _).mono ?_; rw [show tyH 1 = 3758096385 from rfl]; rintro e w' ⟨rfl, rfl⟩))
      go_round
      case rel => exact ⟨2, by omega, by omega, by go_num⟩
      case measure => simp [intOf]
    · go_wp2_with (first | (go_at_call 47; refine (ishei_yes _ _ (by omega) (by omega)).mono ?_; rintro e w' ⟨rfl, rfl⟩) | (go_at_call 53; refine (kind_c 2 (by omega) _).mono ?_; rw [show tyH 2 = 3758096386 from rfl]; rintro e w' ⟨rfl, rfl⟩))
      go_round
      case rel => exact ⟨3, by omega, by omega, by go_num⟩
      case measure => simp [intOf]
    · go_wp2_with (first | (go_at_call 47; refine (ishei_yes _ _ (by omega) (by omega)).mono ?_; rintro e w' ⟨rfl, rfl⟩) | (go_at_call 53; refine (kind_c 3 (by omega) _).mono ?_; rw [show tyH 3 = 3758096387 from rfl]; rintro e w' ⟨rfl, rfl⟩))
      go_ret2
      exact ⟨rfl, rfl⟩
set_option maxRecDepth 100000 in
set_option maxHeartbeats 2000000 in
theorem hkind_4 (w : World)  : Calls Tryd.prog 80 #[.int .i64 3758096388] w fun e w' => e = .returned (.tuple #[.int .i64 4, .bool true]) ∧ w' = w := by
  go_enter Tryd.func80, Tryd.ntmps80
  go_wp2
  go_loop [4] (fun ii => ∃ k : Nat, 1 ≤ k ∧ k ≤ 4 ∧ ii = .int .i64 (k : Int)) (fun ii => 8 - (intOf ii).toNat)
  case atStart => exact ⟨1, by omega, by omega, rfl⟩
  case round =>
    obtain ⟨k, hk1, hk, rfl⟩ := hrel
    obtain rfl | rfl | rfl | rfl : k = 1 ∨ k = 2 ∨ k = 3 ∨ k = 4 := by omega
    · go_wp2_with (first | (go_at_call 47; refine (ishei_yes _ _ (by omega) (by omega)).mono ?_; rintro e w' ⟨rfl, rfl⟩) | (go_at_call 53; refine (kind_c 1 (by omega) _).mono ?_; rw [show tyH 1 = 3758096385 from rfl]; rintro e w' ⟨rfl, rfl⟩))
      go_round
      case rel => exact ⟨2, by omega, by omega, by go_num⟩
      case measure => simp [intOf]
    · go_wp2_with (first | (go_at_call 47; refine (ishei_yes _ _ (by omega) (by omega)).mono ?_; rintro e w' ⟨rfl, rfl⟩) | (go_at_call 53; refine (kind_c 2 (by omega) _).mono ?_; rw [show tyH 2 = 3758096386 from rfl]; rintro e w' ⟨rfl, rfl⟩))
      go_round
      case rel => exact ⟨3, by omega, by omega, by go_num⟩
      case measure => simp [intOf]
    · go_wp2_with (first | (go_at_call 47; refine (ishei_yes _ _ (by omega) (by omega)).mono ?_; rintro e w' ⟨rfl, rfl⟩) | (go_at_call 53; refine (kind_c 3 (by omega) _).mono ?_; rw [show tyH 3 = 3758096387 from rfl]; rintro e w' ⟨rfl, rfl⟩))
      go_round
      case rel => exact ⟨4, by omega, by omega, by go_num⟩
      case measure => simp [intOf]
    · go_wp2_with (first | (go_at_call 47; refine (ishei_yes _ _ (by omega) (by omega)).mono ?_; rintro e w' ⟨rfl, rfl⟩) | (go_at_call 53; refine (kind_c 4 (by omega) _).mono ?_; rw [show tyH 4 = 3758096388 from rfl]; rintro e w' ⟨rfl, rfl⟩))
      go_ret2
      exact ⟨rfl, rfl⟩
set_option maxRecDepth 100000 in
set_option maxHeartbeats 2000000 in
theorem hkind_5 (w : World)  : Calls Tryd.prog 80 #[.int .i64 5] w fun e w' => e = .returned (.tuple #[.int .i64 5, .bool true]) ∧ w' = w := by
  go_enter Tryd.func80, Tryd.ntmps80
  go_wp2
  go_loop [4] (fun ii => ∃ k : Nat, 1 ≤ k ∧ k ≤ 5 ∧ ii = .int .i64 (k : Int)) (fun ii => 8 - (intOf ii).toNat)
  case atStart => exact ⟨1, by omega, by omega, rfl⟩
  case round =>
    obtain ⟨k, hk1, hk, rfl⟩ := hrel
    obtain rfl | rfl | rfl | rfl | rfl : k = 1 ∨ k = 2 ∨ k = 3 ∨ k = 4 ∨ k = 5 := by omega
    · go_wp2_with (first | (go_at_call 47; refine (ishei_yes _ _ (by omega) (by omega)).mono ?_; rintro e w' ⟨rfl, rfl⟩) | (go_at_call 53; refine (kind_c 1 (by omega) _).mono ?_; rw [show tyH 1 = 3758096385 from rfl]; rintro e w' ⟨rfl, rfl⟩))
      go_round
      case rel => exact ⟨2, by omega, by omega, by go_num⟩
      case measure => simp [intOf]
    · go_wp2_with (first | (go_at_call 47; refine (ishei_yes _ _ (by omega) (by omega)).mono ?_; rintro e w' ⟨rfl, rfl⟩) | (go_at_call 53; refine (kind_c 2 (by omega) _).mono ?_; rw [show tyH 2 = 3758096386 from rfl]; rintro e w' ⟨rfl, rfl⟩))
      go_round
      case rel => exact ⟨3, by omega, by omega, by go_num⟩
      case measure => simp [intOf]
    · go_wp2_with (first | (go_at_call 47; refine (ishei_yes _ _ (by omega) (by omega)).mono ?_; rintro e w' ⟨rfl, rfl⟩) | (go_at_call 53; refine (kind_c 3 (by omega) _).mono ?_; rw [show tyH 3 = 3758096387 from rfl]; rintro e w' ⟨rfl, rfl⟩))
      go_round
      case rel => exact ⟨4, by omega, by omega, by go_num⟩
      case measure => simp [intOf]
    · go_wp2_with (first | (go_at_call 47; refine (ishei_yes _ _ (by omega) (by omega)).mono ?_; rintro e w' ⟨rfl, rfl⟩) | (go_at_call 53; refine (kind_c 4 (by omega) _).mono ?_; rw [show tyH 4 = 3758096388 from rfl]; rintro e w' ⟨rfl, rfl⟩))
      go_round
      case rel => exact ⟨5, by omega, by omega, by go_num⟩
      case measure => simp [intOf]
    · go_wp2_with (first | (go_at_call 47; refine (ishei_yes _ _ (by omega) (by omega)).mono ?_; rintro e w' ⟨rfl, rfl⟩) | (go_at_call 53; refine (kind_c 5 (by omega) _).mono ?_; rw [show tyH 5 = 5 from rfl]; rintro e w' ⟨rfl, rfl⟩))
      go_ret2
      exact ⟨rfl, rfl⟩
set_option maxRecDepth 100000 in
set_option maxHeartbeats 2000000 in
theorem hkind_6 (w : World)  : Calls Tryd.prog 80 #[.int .i64 3758096390] w fun e w' => e = .returned (.tuple #[.int .i64 6, .bool true]) ∧ w' = w := by
  go_enter Tryd.func80, Tryd.ntmps80
  go_wp2
  go_loop [4] (fun ii => ∃ k : Nat, 1 ≤ k ∧ k ≤ 6 ∧ ii = .int .i64 (k : Int)) (fun ii => 8 - (intOf ii).toNat)
  case atStart => exact ⟨1, by omega, by omega, rfl⟩
  case round =>
    obtain ⟨k, hk1, hk, rfl⟩ := hrel
    obtain rfl | rfl | rfl | rfl | rfl | rfl : k = 1 ∨ k = 2 ∨ k = 3 ∨ k = 4 ∨ k = 5 ∨ k = 6 := by omega
    · go_wp2_with (first | (go_at_call 47; refine (ishei_yes _ _ (by omega) (by omega)).mono ?_; rintro e w' ⟨rfl, rfl⟩) | (go_at_call 53; refine (kind_c 1 (by omega) _).mono ?_; rw [show tyH 1 = 3758096385 from rfl]; rintro e w' ⟨rfl, rfl⟩))
      go_round
      case rel => exact ⟨2, by omega, by omega, by go_num⟩
      case measure => simp [intOf]
    · go_wp2_with (first | (go_at_call 47; refine (ishei_yes _ _ (by omega) (by omega)).mono ?_; rintro e w' ⟨rfl, rfl⟩) | (go_at_call 53; refine (kind_c 2 (by omega) _).mono ?_; rw [show tyH 2 = 3758096386 from rfl]; rintro e w' ⟨rfl, rfl⟩))
      go_round
      case rel => exact ⟨3, by omega, by omega, by go_num⟩
      case measure => simp [intOf]
    · go_wp2_with (first | (go_at_call 47; refine (ishei_yes _ _ (by omega) (by omega)).mono ?_; rintro e w' ⟨rfl, rfl⟩) | (go_at_call 53; refine (kind_c 3 (by omega) _).mono ?_; rw [show tyH 3 = 3758096387 from rfl]; rintro e w' ⟨rfl, rfl⟩))
      go_round
      case rel => exact ⟨4, by omega, by omega, by go_num⟩
      case measure => simp [intOf]
    · go_wp2_with (first | (go_at_call 47; refine (ishei_yes _ _ (by omega) (by omega)).mono ?_; rintro e w' ⟨rfl, rfl⟩) | (go_at_call 53; refine (kind_c 4 (by omega) _).mono ?_; rw [show tyH 4 = 3758096388 from rfl]; rintro e w' ⟨rfl, rfl⟩))
      go_round
      case rel => exact ⟨5, by omega, by omega, by go_num⟩
      case measure => simp [intOf]
    · go_wp2_with (first | (go_at_call 47; refine (ishei_yes _ _ (by omega) (by omega)).mono ?_; rintro e w' ⟨rfl, rfl⟩) | (go_at_call 53; refine (kind_c 5 (by omega) _).mono ?_; rw [show tyH 5 = 5 from rfl]; rintro e w' ⟨rfl, rfl⟩))
      go_round
      case rel => exact ⟨6, by omega, by omega, by go_num⟩
      case measure => simp [intOf]
    · go_wp2_with (first | (go_at_call 47; refine (ishei_yes _ _ (by omega) (by omega)).mono ?_; rintro e w' ⟨rfl, rfl⟩) | (go_at_call 53; refine (kind_c 6 (by omega) _).mono ?_; rw [show tyH 6 = 3758096390 from rfl]; rintro e w' ⟨rfl, rfl⟩))
      go_ret2
      exact ⟨rfl, rfl⟩
set_option maxRecDepth 100000 in
set_option maxHeartbeats 2000000 in
theorem hkind_7 (w : World) (x : Int) (d1 : ((3758096385 : Int) == x) = false) (d2 : ((3758096386 : Int) == x) = false) (d3 : ((3758096387 : Int) == x) = false) (d4 : ((3758096388 : Int) == x) = false) (d5 : ((5 : Int) == x) = false) (d6 : ((3758096390 : Int) == x) = false) : Calls Tryd.prog 80 #[.int .i64 x] w fun e w' => e = .returned (.tuple #[.int .i64 0, .bool false]) ∧ w' = w := by
  go_enter Tryd.func80, Tryd.ntmps80
  go_wp2
  go_loop [4] (fun ii => ∃ k : Nat, 1 ≤ k ∧ k ≤ 7 ∧ ii = .int .i64 (k : Int)) (fun ii => 8 - (intOf ii).toNat)
  case atStart => exact ⟨1, by omega, by omega, rfl⟩
  case round =>
    obtain ⟨k, hk1, hk, rfl⟩ := hrel
    obtain rfl | rfl | rfl | rfl | rfl | rfl | rfl : k = 1 ∨ k = 2 ∨ k = 3 ∨ k = 4 ∨ k = 5 ∨ k = 6 ∨ k = 7 := by omega
    · go_wp2_with (first | (go_at_call 47; refine (ishei_yes _ _ (by omega) (by omega)).mono ?_; rintro e w' ⟨rfl, rfl⟩) | (go_at_call 53; refine (kind_c 1 (by omega) _).mono ?_; rw [show tyH 1 = 3758096385 from rfl]; rintro e w' ⟨rfl, rfl⟩))
      go_round
      case rel => exact ⟨2, by omega, by omega, by go_num⟩
      case measure => simp [intOf]
    · go_wp2_with (first | (go_at_call 47; refine (ishei_yes _ _ (by omega) (by omega)).mono ?_; rintro e w' ⟨rfl, rfl⟩) | (go_at_call 53; refine (kind_c 2 (by omega) _).mono ?_; rw [show tyH 2 = 3758096386 from rfl]; rintro e w' ⟨rfl, rfl⟩))
      go_round
      case rel => exact ⟨3, by omega, by omega, by go_num⟩
      case measure => simp [intOf]
    · go_wp2_with (first | (go_at_call 47; refine (ishei_yes _ _ (by omega) (by omega)).mono ?_; rintro e w' ⟨rfl, rfl⟩) | (go_at_call 53; refine (kind_c 3 (by omega) _).mono ?_; rw [show tyH 3 = 3758096387 from rfl]; rintro e w' ⟨rfl, rfl⟩))
      go_round
      case rel => exact ⟨4, by omega, by omega, by go_num⟩
      case measure => simp [intOf]
    · go_wp2_with (first | (go_at_call 47; refine (ishei_yes _ _ (by omega) (by omega)).mono ?_; rintro e w' ⟨rfl, rfl⟩) | (go_at_call 53; refine (kind_c 4 (by omega) _).mono ?_; rw [show tyH 4 = 3758096388 from rfl]; rintro e w' ⟨rfl, rfl⟩))
      go_round
      case rel => exact ⟨5, by omega, by omega, by go_num⟩
      case measure => simp [intOf]
    · go_wp2_with (first | (go_at_call 47; refine (ishei_yes _ _ (by omega) (by omega)).mono ?_; rintro e w' ⟨rfl, rfl⟩) | (go_at_call 53; refine (kind_c 5 (by omega) _).mono ?_; rw [show tyH 5 = 5 from rfl]; rintro e w' ⟨rfl, rfl⟩))
      go_round
      case rel => exact ⟨6, by omega, by omega, by go_num⟩
      case measure => simp [intOf]
    · go_wp2_with (first | (go_at_call 47; refine (ishei_yes _ _ (by omega) (by omega)).mono ?_; rintro e w' ⟨rfl, rfl⟩) | (go_at_call 53; refine (kind_c 6 (by omega) _).mono ?_; rw [show tyH 6 = 3758096390 from rfl]; rintro e w' ⟨rfl, rfl⟩))
      go_round
      case rel => exact ⟨7, by omega, by omega, by go_num⟩
      case measure => simp [intOf]
    · go_wp2_with (first | (go_at_call 47; refine (ishei_no _ _ (by omega)).mono ?_; rintro e w' ⟨rfl, rfl⟩))
      go_ret2
      exact ⟨rfl, rfl⟩
theorem hkind_yes (w : World) (v h : Nat) (hv : hOf v = h) (hh : 0 < h) : 1 ≤ h ∧ h ≤ 6 ∧ Calls Tryd.prog 80 #[.int .i64 (v : Int)] w fun e w' => e = .returned (.tuple #[.int .i64 (h : Int), .bool true]) ∧ w' = w := by
  subst hv
  by_cases h1 : v = 3758096385
  · subst h1; exact ⟨by decide, by decide, hkind_1 w⟩
  by_cases h2 : v = 3758096386
  · subst h2; exact ⟨by decide, by decide, hkind_2 w⟩
  by_cases h3 : v = 3758096387
  · subst h3; exact ⟨by decide, by decide, hkind_3 w⟩
  by_cases h4 : v = 3758096388
  · subst h4; exact ⟨by decide, by decide, hkind_4 w⟩
  by_cases h5 : v = 5
  · subst h5; exact ⟨by decide, by decide, hkind_5 w⟩
  by_cases h6 : v = 3758096390
  · subst h6; exact ⟨by decide, by decide, hkind_6 w⟩
  exfalso
  simp [hOf, hTo, tyH] at hh
  repeat' split at hh
  all_goals omega
theorem hkind_no (w : World) (v : Nat) (hv : hOf v = 0) : Calls Tryd.prog 80 #[.int .i64 (v : Int)] w fun e w' => e = .returned (.tuple #[.int .i64 0, .bool false]) ∧ w' = w := by
  have h1 : v ≠ 3758096385 := by rintro rfl; exact absurd hv (by decide)
  have h2 : v ≠ 3758096386 := by rintro rfl; exact absurd hv (by decide)
  have h3 : v ≠ 3758096387 := by rintro rfl; exact absurd hv (by decide)
  have h4 : v ≠ 3758096388 := by rintro rfl; exact absurd hv (by decide)
  have h5 : v ≠ 5 := by rintro rfl; exact absurd hv (by decide)
  have h6 : v ≠ 3758096390 := by rintro rfl; exact absurd hv (by decide)
  exact hkind_7 w (v : Int) (by simp; omega) (by simp; omega) (by simp; omega) (by simp; omega) (by simp; omega) (by simp; omega)
end Go.Proofs.YtlhjifdahagkaaaDoor
/-
  The walk of the landed Key.first.
-/
namespace Go.Proofs.YtlhjifdahagkaaaDoor
open Go.RowKit
theorem wid4 : ∀ (w : World), WidAt w → ∀ b, Below w.heap.size w b → WidAt b := fun w h b hb => by
  obtain ⟨tk, fr, hT⟩ := h
  exact ⟨tk, fr, (hb.block _ (Array.getElem?_eq_some_iff.1 hT).1).trans hT⟩
set_option maxRecDepth 100000 in
set_option maxHeartbeats 4000000 in
theorem first_yes (w0 : World) (hW : WidAt w0) (L h wd : Nat) (xi xs : Value) (id seed : Bs) (hi : BytesAt w0 xi id) (hs : BytesAt w0 xs seed) (hr : RightP (L : Int) (h : Int) (wd : Int) id seed) :
    Calls Tryd.prog 24 #[.agg #[.int .i64 (L : Int), .int .i64 (h : Int), .int .i64 (wd : Int), xi, xs]] w0 fun e w' => e = .returned (.tuple #[.agg #[.int .i64 (h : Int), .int .i64 (wd : Int), .int .i64 (tyW wd : Int), .int .i64 (pW wd : Int), .int .i64 (lsW wd : Int), xi, xs], .bool true]) ∧ Below w0.heap.size w0 w' := by
  obtain ⟨hw, hL1, hL3, hh1, hh6, hil, hsl⟩ := hr
  have hw' : IsW wd := by unfold IsW; omega
  have HWb := fun w h => wbits_yes w h wd hw'
  obtain ⟨t, ht⟩ : ∃ t : Int, (tyW wd : Int) = t := ⟨_, rfl⟩
  obtain ⟨p, hp⟩ : ∃ p : Int, (pW wd : Int) = p := ⟨_, rfl⟩
  obtain ⟨s, hls⟩ : ∃ s : Int, (lsW wd : Int) = s := ⟨_, rfl⟩
  rw [ht, hp, hls] at HWb
  rw [ht, hp, hls]
  obtain ⟨si, ci, rfl, _⟩ := bytes_open hi
  obtain ⟨ss, cs, rfl, _⟩ := bytes_open hs
  rw [hil] at hi ⊢
  rw [hsl] at hs ⊢
  have hbA : Below w0.heap.size w0 (w0.alloc (.cells #[.int .i64 (L : Int), .int .i64 (h : Int), .int .i64 (wd : Int), .slice si 16 ci, .slice ss 32 cs] 28)) := (Below.refl _ _).alloc (Nat.le_refl _) _
  have hK := agg_new w0 [.int .i64 (L : Int), .int .i64 (h : Int), .int .i64 (wd : Int), .slice si 16 ci, .slice ss 32 cs] 28
  obtain ⟨wA, hwA⟩ : ∃ wA, w0.alloc (.cells #[.int .i64 (L : Int), .int .i64 (h : Int), .int .i64 (wd : Int), .slice si 16 ci, .slice ss 32 cs] 28) = wA := ⟨_, rfl⟩
  rw [hwA] at hbA hK
  have hbZ : Below wA.heap.size wA (wA.alloc (.cells #[.int .i64 0, .int .i64 0, .int .i64 0, .int .i64 0, .int .i64 0, .slice none 0 0, .slice none 0 0] 56)) := (Below.refl _ _).alloc (Nat.le_refl _) _
  have hZ := heap_alloc_new wA (.cells #[.int .i64 0, .int .i64 0, .int .i64 0, .int .i64 0, .int .i64 0, .slice none 0 0, .slice none 0 0] 56)
  have hsz : wA.heap.size < (wA.alloc (.cells #[.int .i64 0, .int .i64 0, .int .i64 0, .int .i64 0, .int .i64 0, .slice none 0 0, .slice none 0 0] 56)).heap.size := by simp
  obtain ⟨wB, hwB⟩ : ∃ wB, wA.alloc (.cells #[.int .i64 0, .int .i64 0, .int .i64 0, .int .i64 0, .int .i64 0, .slice none 0 0, .slice none 0 0] 56) = wB := ⟨_, rfl⟩
  rw [hwB] at hbZ hZ hsz
  have hKB := hK.below hbZ
  have hbB : Below w0.heap.size w0 wB := hbA.trans (hbZ.mono hbA.size)
  have c2 := hKB.c 2 _ rfl
  have HK := hide hKB
  have HZ := hide (And.intro hsz hZ)
  have HB := hide hbB
  have HWt := hide (wid4 w0 hW wB hbB)
  have HWh := hide HWb
  have hle : w0.heap.size ≤ wA.heap.size := hbA.size
  have hltK := hKB.1
  clear hbA hbZ hK hKB hZ hbB HWb hW hi hs ht hp hls
  go_enter Tryd.func24, Tryd.ntmps24
  go_wp2_with fail
  refine ((unhide HWh) wB (unhide HWt)).mono ?_
  rintro e w1 ⟨rfl, hb1⟩
  have hKb := agg_new w1 [.int .i64 (wd : Int), .int .i64 t, .int .i64 p, .int .i64 s] 52
  have hbV : Below w1.heap.size w1 (w1.alloc (.cells #[.int .i64 (wd : Int), .int .i64 t, .int .i64 p, .int .i64 s] 52)) := (Below.refl _ _).alloc (Nat.le_refl _) _
  obtain ⟨wC, hwC⟩ : ∃ wC, w1.alloc (.cells #[.int .i64 (wd : Int), .int .i64 t, .int .i64 p, .int .i64 s] 52) = wC := ⟨_, rfl⟩
  rw [hwC] at hKb hbV
  have hb2 : Below wB.heap.size wB wC := hb1.trans (hbV.mono hb1.size)
  have hKc := (unhide HK).below hb2
  have d0 := hKc.c 0 _ rfl
  have d1 := hKc.c 1 _ rfl
  have d3 := hKc.c 3 _ rfl
  have d4 := hKc.c 4 _ rfl
  have g0 := hKb.c 0 _ rfl
  have g1 := hKb.c 1 _ rfl
  have g2 := hKb.c 2 _ rfl
  have g3 := hKb.c 3 _ rfl
  have hZc : wC.heap[wA.heap.size]? = some (.cells #[.int .i64 0, .int .i64 0, .int .i64 0, .int .i64 0, .int .i64 0, .slice none 0 0, .slice none 0 0] 56 (0, 0)) := (hb2.block _ (unhide HZ).1).trans (unhide HZ).2
  have z0 : wC.cell? ⟨wA.heap.size, 0, none⟩ = some (.int .i64 0) := cell_of_row wC wA.heap.size 0 _ 56 (0, 0) hZc
  have z1 : wC.cell? ⟨wA.heap.size, 1, none⟩ = some (.int .i64 0) := cell_of_row wC wA.heap.size 1 _ 56 (0, 0) hZc
  have z2 : wC.cell? ⟨wA.heap.size, 2, none⟩ = some (.int .i64 0) := cell_of_row wC wA.heap.size 2 _ 56 (0, 0) hZc
  have z3 : wC.cell? ⟨wA.heap.size, 3, none⟩ = some (.int .i64 0) := cell_of_row wC wA.heap.size 3 _ 56 (0, 0) hZc
  have z4 : wC.cell? ⟨wA.heap.size, 4, none⟩ = some (.int .i64 0) := cell_of_row wC wA.heap.size 4 _ 56 (0, 0) hZc
  have z5 : wC.cell? ⟨wA.heap.size, 5, none⟩ = some (.slice none 0 0) := cell_of_row wC wA.heap.size 5 _ 56 (0, 0) hZc
  have z6 : wC.cell? ⟨wA.heap.size, 6, none⟩ = some (.slice none 0 0) := cell_of_row wC wA.heap.size 6 _ 56 (0, 0) hZc
  have fz := fun j => AggAt.fz hZc j
  have HWf : Hid (Below w0.heap.size w0 (((((((wC.setCell ⟨wA.heap.size, 0, none⟩ (.int .i64 (h : Int))).setCell ⟨wA.heap.size, 1, none⟩ (.int .i64 (wd : Int))).setCell ⟨wA.heap.size, 2, none⟩ (.int .i64 t)).setCell ⟨wA.heap.size, 3, none⟩ (.int .i64 p)).setCell ⟨wA.heap.size, 4, none⟩ (.int .i64 s)).setCell ⟨wA.heap.size, 5, none⟩ (.slice si 16 ci)).setCell ⟨wA.heap.size, 6, none⟩ (.slice ss 32 cs))) := hide ((((((((unhide HB).trans (hb2.mono (unhide HB).size)).setCell hle _).setCell hle _).setCell hle _).setCell hle _).setCell hle _).setCell hle _ |>.setCell hle _)
  clear hb1 hbV hKb hb2 hKc hZc c2 hwA hwB
  go_wp2_with (first | (go_at_call 46; refine (islev_yes _ _ (by omega) (by omega)).mono ?_; rintro e w' ⟨rfl, rfl⟩) | (go_at_call 47; refine (ishei_yes _ _ (by omega) (by omega)).mono ?_; rintro e w' ⟨rfl, rfl⟩))
  exact bodyPost_ret (v := .tuple #[.agg #[.int .i64 (h : Int), .int .i64 (wd : Int), .int .i64 t, .int .i64 p, .int .i64 s, .slice si 16 ci, .slice ss 32 cs], .bool true]) (by simp [results, Tryd.results24, go_sem, z0, z1, z2, z3, z4, z5, z6]) rfl ⟨rfl, unhide HWf⟩
end Go.Proofs.YtlhjifdahagkaaaDoor
/-
  The walk of the landed Key.first where the key isn't right.
-/
namespace Go.Proofs.YtlhjifdahagkaaaDoor
open Go.RowKit
set_option maxRecDepth 100000 in
set_option maxHeartbeats 4000000 in
theorem first_noA (w0 : World) (hW : WidAt w0) (L h wd : Int) (si ss : Option Addr) (ni ci ns cs : Nat) (hw : ¬ (wd = 1 ∨ wd = 2 ∨ wd = 4 ∨ wd = 8)) :
    Calls Tryd.prog 24 #[.agg #[.int .i64 L, .int .i64 h, .int .i64 wd, .slice si ni ci, .slice ss ns cs]] w0 fun e w' => e = .returned (.tuple #[.agg #[.int .i64 0, .int .i64 0, .int .i64 0, .int .i64 0, .int .i64 0, .slice none 0 0, .slice none 0 0], .bool false]) ∧ Below w0.heap.size w0 w' := by
  have HWb := fun w h => wbits_no w h wd hw
  have hbA : Below w0.heap.size w0 (w0.alloc (.cells #[.int .i64 L, .int .i64 h, .int .i64 wd, .slice si ni ci, .slice ss ns cs] 28)) := (Below.refl _ _).alloc (Nat.le_refl _) _
  have hK := agg_new w0 [.int .i64 L, .int .i64 h, .int .i64 wd, .slice si ni ci, .slice ss ns cs] 28
  obtain ⟨wA, hwA⟩ : ∃ wA, w0.alloc (.cells #[.int .i64 L, .int .i64 h, .int .i64 wd, .slice si ni ci, .slice ss ns cs] 28) = wA := ⟨_, rfl⟩
  rw [hwA] at hbA hK
  have hbZ : Below wA.heap.size wA (wA.alloc (.cells #[.int .i64 0, .int .i64 0, .int .i64 0, .int .i64 0, .int .i64 0, .slice none 0 0, .slice none 0 0] 56)) := (Below.refl _ _).alloc (Nat.le_refl _) _
  have hZ := heap_alloc_new wA (.cells #[.int .i64 0, .int .i64 0, .int .i64 0, .int .i64 0, .int .i64 0, .slice none 0 0, .slice none 0 0] 56)
  have hsz : wA.heap.size < (wA.alloc (.cells #[.int .i64 0, .int .i64 0, .int .i64 0, .int .i64 0, .int .i64 0, .slice none 0 0, .slice none 0 0] 56)).heap.size := by simp
  obtain ⟨wB, hwB⟩ : ∃ wB, wA.alloc (.cells #[.int .i64 0, .int .i64 0, .int .i64 0, .int .i64 0, .int .i64 0, .slice none 0 0, .slice none 0 0] 56) = wB := ⟨_, rfl⟩
  rw [hwB] at hbZ hZ hsz
  have hKB := hK.below hbZ
  have hbB : Below w0.heap.size w0 wB := hbA.trans (hbZ.mono hbA.size)
  have c2 := hKB.c 2 _ rfl
  have HK := hide hKB
  have HZ := hide (And.intro hsz hZ)
  have HB := hide hbB
  have HWt := hide (wid4 w0 hW wB hbB)
  have HWh := hide HWb
  have hle : w0.heap.size ≤ wA.heap.size := hbA.size
  have hltK := hKB.1
  clear hbA hbZ hK hKB hZ hbB HWb hW hw
  go_enter Tryd.func24, Tryd.ntmps24
  go_wp2_with fail
  refine ((unhide HWh) wB (unhide HWt)).mono ?_
  rintro e w1 ⟨rfl, hb1⟩
  have hbV : Below w1.heap.size w1 (w1.alloc (.cells #[.int .i64 0, .int .i64 0, .int .i64 0, .int .i64 0] 52)) := (Below.refl _ _).alloc (Nat.le_refl _) _
  have hb2 : Below wB.heap.size wB (w1.alloc (.cells #[.int .i64 0, .int .i64 0, .int .i64 0, .int .i64 0] 52)) := hb1.trans (hbV.mono hb1.size)
  have hKc := (unhide HK).below hb2
  have hZc : (w1.alloc (.cells #[.int .i64 0, .int .i64 0, .int .i64 0, .int .i64 0] 52)).heap[wA.heap.size]? = some (.cells #[.int .i64 0, .int .i64 0, .int .i64 0, .int .i64 0, .int .i64 0, .slice none 0 0, .slice none 0 0] 56 (0, 0)) := (hb2.block _ (unhide HZ).1).trans (unhide HZ).2
  have z0 : (w1.alloc (.cells #[.int .i64 0, .int .i64 0, .int .i64 0, .int .i64 0] 52)).cell? ⟨wA.heap.size, 0, none⟩ = some (.int .i64 0) := cell_of_row (w1.alloc (.cells #[.int .i64 0, .int .i64 0, .int .i64 0, .int .i64 0] 52)) wA.heap.size 0 _ 56 (0, 0) hZc
  have z1 : (w1.alloc (.cells #[.int .i64 0, .int .i64 0, .int .i64 0, .int .i64 0] 52)).cell? ⟨wA.heap.size, 1, none⟩ = some (.int .i64 0) := cell_of_row (w1.alloc (.cells #[.int .i64 0, .int .i64 0, .int .i64 0, .int .i64 0] 52)) wA.heap.size 1 _ 56 (0, 0) hZc
  have z2 : (w1.alloc (.cells #[.int .i64 0, .int .i64 0, .int .i64 0, .int .i64 0] 52)).cell? ⟨wA.heap.size, 2, none⟩ = some (.int .i64 0) := cell_of_row (w1.alloc (.cells #[.int .i64 0, .int .i64 0, .int .i64 0, .int .i64 0] 52)) wA.heap.size 2 _ 56 (0, 0) hZc
  have z3 : (w1.alloc (.cells #[.int .i64 0, .int .i64 0, .int .i64 0, .int .i64 0] 52)).cell? ⟨wA.heap.size, 3, none⟩ = some (.int .i64 0) := cell_of_row (w1.alloc (.cells #[.int .i64 0, .int .i64 0, .int .i64 0, .int .i64 0] 52)) wA.heap.size 3 _ 56 (0, 0) hZc
  have z4 : (w1.alloc (.cells #[.int .i64 0, .int .i64 0, .int .i64 0, .int .i64 0] 52)).cell? ⟨wA.heap.size, 4, none⟩ = some (.int .i64 0) := cell_of_row (w1.alloc (.cells #[.int .i64 0, .int .i64 0, .int .i64 0, .int .i64 0] 52)) wA.heap.size 4 _ 56 (0, 0) hZc
  have z5 : (w1.alloc (.cells #[.int .i64 0, .int .i64 0, .int .i64 0, .int .i64 0] 52)).cell? ⟨wA.heap.size, 5, none⟩ = some (.slice none 0 0) := cell_of_row (w1.alloc (.cells #[.int .i64 0, .int .i64 0, .int .i64 0, .int .i64 0] 52)) wA.heap.size 5 _ 56 (0, 0) hZc
  have z6 : (w1.alloc (.cells #[.int .i64 0, .int .i64 0, .int .i64 0, .int .i64 0] 52)).cell? ⟨wA.heap.size, 6, none⟩ = some (.slice none 0 0) := cell_of_row (w1.alloc (.cells #[.int .i64 0, .int .i64 0, .int .i64 0, .int .i64 0] 52)) wA.heap.size 6 _ 56 (0, 0) hZc
  have fz := fun j => AggAt.fz hZc j
  have HWf : Hid (Below w0.heap.size w0 (((((((((w1.alloc (.cells #[.int .i64 0, .int .i64 0, .int .i64 0, .int .i64 0] 52))).setCell ⟨wA.heap.size, 0, none⟩ (.int .i64 0)).setCell ⟨wA.heap.size, 1, none⟩ (.int .i64 0)).setCell ⟨wA.heap.size, 2, none⟩ (.int .i64 0)).setCell ⟨wA.heap.size, 3, none⟩ (.int .i64 0)).setCell ⟨wA.heap.size, 4, none⟩ (.int .i64 0)).setCell ⟨wA.heap.size, 5, none⟩ (.slice none 0 0)).setCell ⟨wA.heap.size, 6, none⟩ (.slice none 0 0))) := hide (((((((((unhide HB).trans (hb2.mono (unhide HB).size)).setCell hle _).setCell hle _).setCell hle _).setCell hle _).setCell hle _).setCell hle _).setCell hle _)
  clear hb1 hbV hb2 hKc hZc c2 hwA hwB
  go_wp2
  exact bodyPost_ret (v := .tuple #[.agg #[.int .i64 0, .int .i64 0, .int .i64 0, .int .i64 0, .int .i64 0, .slice none 0 0, .slice none 0 0], .bool false]) (by simp [results, Tryd.results24, go_sem, z0, z1, z2, z3, z4, z5, z6]) rfl ⟨rfl, unhide HWf⟩
set_option maxRecDepth 100000 in
set_option maxHeartbeats 4000000 in
theorem first_noB (w0 : World) (hW : WidAt w0) (L h wd : Int) (si ss : Option Addr) (ni ci ns cs : Nat) (hw : wd = 1 ∨ wd = 2 ∨ wd = 4 ∨ wd = 8) (hL : ¬ (1 ≤ L ∧ L ≤ 3)) :
    Calls Tryd.prog 24 #[.agg #[.int .i64 L, .int .i64 h, .int .i64 wd, .slice si ni ci, .slice ss ns cs]] w0 fun e w' => e = .returned (.tuple #[.agg #[.int .i64 0, .int .i64 0, .int .i64 0, .int .i64 0, .int .i64 0, .slice none 0 0, .slice none 0 0], .bool false]) ∧ Below w0.heap.size w0 w' := by
  have HWb : ∃ t p s : Int, ∀ w, WidAt w → Calls Tryd.prog 45 #[.int .i64 wd] w fun e w' => e = .returned (.tuple #[.agg #[.int .i64 wd, .int .i64 t, .int .i64 p, .int .i64 s], .bool true]) ∧ Below w.heap.size w w' := by
    have hx : ∃ x : Nat, wd = (x : Int) ∧ IsW x := by
      rcases hw with rfl | rfl | rfl | rfl
      · exact ⟨1, rfl, Or.inl rfl⟩
      · exact ⟨2, rfl, Or.inr (Or.inl rfl)⟩
      · exact ⟨4, rfl, Or.inr (Or.inr (Or.inl rfl))⟩
      · exact ⟨8, rfl, Or.inr (Or.inr (Or.inr rfl))⟩
    obtain ⟨x, rfl, hx⟩ := hx
    exact ⟨_, _, _, fun w h => wbits_yes w h x hx⟩
  obtain ⟨t, p, s, HWb⟩ := HWb
  have hbA : Below w0.heap.size w0 (w0.alloc (.cells #[.int .i64 L, .int .i64 h, .int .i64 wd, .slice si ni ci, .slice ss ns cs] 28)) := (Below.refl _ _).alloc (Nat.le_refl _) _
  have hK := agg_new w0 [.int .i64 L, .int .i64 h, .int .i64 wd, .slice si ni ci, .slice ss ns cs] 28
  obtain ⟨wA, hwA⟩ : ∃ wA, w0.alloc (.cells #[.int .i64 L, .int .i64 h, .int .i64 wd, .slice si ni ci, .slice ss ns cs] 28) = wA := ⟨_, rfl⟩
  rw [hwA] at hbA hK
  have hbZ : Below wA.heap.size wA (wA.alloc (.cells #[.int .i64 0, .int .i64 0, .int .i64 0, .int .i64 0, .int .i64 0, .slice none 0 0, .slice none 0 0] 56)) := (Below.refl _ _).alloc (Nat.le_refl _) _
  have hZ := heap_alloc_new wA (.cells #[.int .i64 0, .int .i64 0, .int .i64 0, .int .i64 0, .int .i64 0, .slice none 0 0, .slice none 0 0] 56)
  have hsz : wA.heap.size < (wA.alloc (.cells #[.int .i64 0, .int .i64 0, .int .i64 0, .int .i64 0, .int .i64 0, .slice none 0 0, .slice none 0 0] 56)).heap.size := by simp
  obtain ⟨wB, hwB⟩ : ∃ wB, wA.alloc (.cells #[.int .i64 0, .int .i64 0, .int .i64 0, .int .i64 0, .int .i64 0, .slice none 0 0, .slice none 0 0] 56) = wB := ⟨_, rfl⟩
  rw [hwB] at hbZ hZ hsz
  have hKB := hK.below hbZ
  have hbB : Below w0.heap.size w0 wB := hbA.trans (hbZ.mono hbA.size)
  have c2 := hKB.c 2 _ rfl
  have HK := hide hKB
  have HZ := hide (And.intro hsz hZ)
  have HB := hide hbB
  have HWt := hide (wid4 w0 hW wB hbB)
  have HWh := hide HWb
  have hle : w0.heap.size ≤ wA.heap.size := hbA.size
  have hltK := hKB.1
  clear hbA hbZ hK hKB hZ hbB HWb hW hw
  go_enter Tryd.func24, Tryd.ntmps24
  go_wp2_with fail
  refine ((unhide HWh) wB (unhide HWt)).mono ?_
  rintro e w1 ⟨rfl, hb1⟩
  have hbV : Below w1.heap.size w1 (w1.alloc (.cells #[.int .i64 wd, .int .i64 t, .int .i64 p, .int .i64 s] 52)) := (Below.refl _ _).alloc (Nat.le_refl _) _
  obtain ⟨wC, hwC⟩ : ∃ wC, w1.alloc (.cells #[.int .i64 wd, .int .i64 t, .int .i64 p, .int .i64 s] 52) = wC := ⟨_, rfl⟩
  rw [hwC] at hbV
  have hb2 : Below wB.heap.size wB wC := hb1.trans (hbV.mono hb1.size)
  have hKc := (unhide HK).below hb2
  have d0 := hKc.c 0 _ rfl
  have hZc : wC.heap[wA.heap.size]? = some (.cells #[.int .i64 0, .int .i64 0, .int .i64 0, .int .i64 0, .int .i64 0, .slice none 0 0, .slice none 0 0] 56 (0, 0)) := (hb2.block _ (unhide HZ).1).trans (unhide HZ).2
  have z0 : wC.cell? ⟨wA.heap.size, 0, none⟩ = some (.int .i64 0) := cell_of_row wC wA.heap.size 0 _ 56 (0, 0) hZc
  have z1 : wC.cell? ⟨wA.heap.size, 1, none⟩ = some (.int .i64 0) := cell_of_row wC wA.heap.size 1 _ 56 (0, 0) hZc
  have z2 : wC.cell? ⟨wA.heap.size, 2, none⟩ = some (.int .i64 0) := cell_of_row wC wA.heap.size 2 _ 56 (0, 0) hZc
  have z3 : wC.cell? ⟨wA.heap.size, 3, none⟩ = some (.int .i64 0) := cell_of_row wC wA.heap.size 3 _ 56 (0, 0) hZc
  have z4 : wC.cell? ⟨wA.heap.size, 4, none⟩ = some (.int .i64 0) := cell_of_row wC wA.heap.size 4 _ 56 (0, 0) hZc
  have z5 : wC.cell? ⟨wA.heap.size, 5, none⟩ = some (.slice none 0 0) := cell_of_row wC wA.heap.size 5 _ 56 (0, 0) hZc
  have z6 : wC.cell? ⟨wA.heap.size, 6, none⟩ = some (.slice none 0 0) := cell_of_row wC wA.heap.size 6 _ 56 (0, 0) hZc
  have fz := fun j => AggAt.fz hZc j
  have HWf : Hid (Below w0.heap.size w0 ((((((((wC).setCell ⟨wA.heap.size, 0, none⟩ (.int .i64 0)).setCell ⟨wA.heap.size, 1, none⟩ (.int .i64 0)).setCell ⟨wA.heap.size, 2, none⟩ (.int .i64 0)).setCell ⟨wA.heap.size, 3, none⟩ (.int .i64 0)).setCell ⟨wA.heap.size, 4, none⟩ (.int .i64 0)).setCell ⟨wA.heap.size, 5, none⟩ (.slice none 0 0)).setCell ⟨wA.heap.size, 6, none⟩ (.slice none 0 0))) := hide (((((((((unhide HB).trans (hb2.mono (unhide HB).size)).setCell hle _).setCell hle _).setCell hle _).setCell hle _).setCell hle _).setCell hle _).setCell hle _)
  clear hb1 hbV hb2 hKc hZc c2 hwA hwB
  go_wp2_with (first | (go_at_call 46; refine (islev_no _ _ hL).mono ?_; rintro e w' ⟨rfl, rfl⟩))
  exact bodyPost_ret (v := .tuple #[.agg #[.int .i64 0, .int .i64 0, .int .i64 0, .int .i64 0, .int .i64 0, .slice none 0 0, .slice none 0 0], .bool false]) (by simp [results, Tryd.results24, go_sem, z0, z1, z2, z3, z4, z5, z6]) rfl ⟨rfl, unhide HWf⟩
set_option maxRecDepth 100000 in
set_option maxHeartbeats 4000000 in
theorem first_noC (w0 : World) (hW : WidAt w0) (L h wd : Int) (si ss : Option Addr) (ni ci ns cs : Nat) (hw : wd = 1 ∨ wd = 2 ∨ wd = 4 ∨ wd = 8) (hL : 1 ≤ L ∧ L ≤ 3) (hh : ¬ (1 ≤ h ∧ h ≤ 6)) :
    Calls Tryd.prog 24 #[.agg #[.int .i64 L, .int .i64 h, .int .i64 wd, .slice si ni ci, .slice ss ns cs]] w0 fun e w' => e = .returned (.tuple #[.agg #[.int .i64 0, .int .i64 0, .int .i64 0, .int .i64 0, .int .i64 0, .slice none 0 0, .slice none 0 0], .bool false]) ∧ Below w0.heap.size w0 w' := by
  have HWb : ∃ t p s : Int, ∀ w, WidAt w → Calls Tryd.prog 45 #[.int .i64 wd] w fun e w' => e = .returned (.tuple #[.agg #[.int .i64 wd, .int .i64 t, .int .i64 p, .int .i64 s], .bool true]) ∧ Below w.heap.size w w' := by
    have hx : ∃ x : Nat, wd = (x : Int) ∧ IsW x := by
      rcases hw with rfl | rfl | rfl | rfl
      · exact ⟨1, rfl, Or.inl rfl⟩
      · exact ⟨2, rfl, Or.inr (Or.inl rfl)⟩
      · exact ⟨4, rfl, Or.inr (Or.inr (Or.inl rfl))⟩
      · exact ⟨8, rfl, Or.inr (Or.inr (Or.inr rfl))⟩
    obtain ⟨x, rfl, hx⟩ := hx
    exact ⟨_, _, _, fun w h => wbits_yes w h x hx⟩
  obtain ⟨t, p, s, HWb⟩ := HWb
  have hbA : Below w0.heap.size w0 (w0.alloc (.cells #[.int .i64 L, .int .i64 h, .int .i64 wd, .slice si ni ci, .slice ss ns cs] 28)) := (Below.refl _ _).alloc (Nat.le_refl _) _
  have hK := agg_new w0 [.int .i64 L, .int .i64 h, .int .i64 wd, .slice si ni ci, .slice ss ns cs] 28
  obtain ⟨wA, hwA⟩ : ∃ wA, w0.alloc (.cells #[.int .i64 L, .int .i64 h, .int .i64 wd, .slice si ni ci, .slice ss ns cs] 28) = wA := ⟨_, rfl⟩
  rw [hwA] at hbA hK
  have hbZ : Below wA.heap.size wA (wA.alloc (.cells #[.int .i64 0, .int .i64 0, .int .i64 0, .int .i64 0, .int .i64 0, .slice none 0 0, .slice none 0 0] 56)) := (Below.refl _ _).alloc (Nat.le_refl _) _
  have hZ := heap_alloc_new wA (.cells #[.int .i64 0, .int .i64 0, .int .i64 0, .int .i64 0, .int .i64 0, .slice none 0 0, .slice none 0 0] 56)
  have hsz : wA.heap.size < (wA.alloc (.cells #[.int .i64 0, .int .i64 0, .int .i64 0, .int .i64 0, .int .i64 0, .slice none 0 0, .slice none 0 0] 56)).heap.size := by simp
  obtain ⟨wB, hwB⟩ : ∃ wB, wA.alloc (.cells #[.int .i64 0, .int .i64 0, .int .i64 0, .int .i64 0, .int .i64 0, .slice none 0 0, .slice none 0 0] 56) = wB := ⟨_, rfl⟩
  rw [hwB] at hbZ hZ hsz
  have hKB := hK.below hbZ
  have hbB : Below w0.heap.size w0 wB := hbA.trans (hbZ.mono hbA.size)
  have c2 := hKB.c 2 _ rfl
  have HK := hide hKB
  have HZ := hide (And.intro hsz hZ)
  have HB := hide hbB
  have HWt := hide (wid4 w0 hW wB hbB)
  have HWh := hide HWb
  have hle : w0.heap.size ≤ wA.heap.size := hbA.size
  have hltK := hKB.1
  clear hbA hbZ hK hKB hZ hbB HWb hW hw
  go_enter Tryd.func24, Tryd.ntmps24
  go_wp2_with fail
  refine ((unhide HWh) wB (unhide HWt)).mono ?_
  rintro e w1 ⟨rfl, hb1⟩
  have hbV : Below w1.heap.size w1 (w1.alloc (.cells #[.int .i64 wd, .int .i64 t, .int .i64 p, .int .i64 s] 52)) := (Below.refl _ _).alloc (Nat.le_refl _) _
  obtain ⟨wC, hwC⟩ : ∃ wC, w1.alloc (.cells #[.int .i64 wd, .int .i64 t, .int .i64 p, .int .i64 s] 52) = wC := ⟨_, rfl⟩
  rw [hwC] at hbV
  have hb2 : Below wB.heap.size wB wC := hb1.trans (hbV.mono hb1.size)
  have hKc := (unhide HK).below hb2
  have d0 := hKc.c 0 _ rfl
  have d1 := hKc.c 1 _ rfl
  have hZc : wC.heap[wA.heap.size]? = some (.cells #[.int .i64 0, .int .i64 0, .int .i64 0, .int .i64 0, .int .i64 0, .slice none 0 0, .slice none 0 0] 56 (0, 0)) := (hb2.block _ (unhide HZ).1).trans (unhide HZ).2
  have z0 : wC.cell? ⟨wA.heap.size, 0, none⟩ = some (.int .i64 0) := cell_of_row wC wA.heap.size 0 _ 56 (0, 0) hZc
  have z1 : wC.cell? ⟨wA.heap.size, 1, none⟩ = some (.int .i64 0) := cell_of_row wC wA.heap.size 1 _ 56 (0, 0) hZc
  have z2 : wC.cell? ⟨wA.heap.size, 2, none⟩ = some (.int .i64 0) := cell_of_row wC wA.heap.size 2 _ 56 (0, 0) hZc
  have z3 : wC.cell? ⟨wA.heap.size, 3, none⟩ = some (.int .i64 0) := cell_of_row wC wA.heap.size 3 _ 56 (0, 0) hZc
  have z4 : wC.cell? ⟨wA.heap.size, 4, none⟩ = some (.int .i64 0) := cell_of_row wC wA.heap.size 4 _ 56 (0, 0) hZc
  have z5 : wC.cell? ⟨wA.heap.size, 5, none⟩ = some (.slice none 0 0) := cell_of_row wC wA.heap.size 5 _ 56 (0, 0) hZc
  have z6 : wC.cell? ⟨wA.heap.size, 6, none⟩ = some (.slice none 0 0) := cell_of_row wC wA.heap.size 6 _ 56 (0, 0) hZc
  have fz := fun j => AggAt.fz hZc j
  have HWf : Hid (Below w0.heap.size w0 ((((((((wC).setCell ⟨wA.heap.size, 0, none⟩ (.int .i64 0)).setCell ⟨wA.heap.size, 1, none⟩ (.int .i64 0)).setCell ⟨wA.heap.size, 2, none⟩ (.int .i64 0)).setCell ⟨wA.heap.size, 3, none⟩ (.int .i64 0)).setCell ⟨wA.heap.size, 4, none⟩ (.int .i64 0)).setCell ⟨wA.heap.size, 5, none⟩ (.slice none 0 0)).setCell ⟨wA.heap.size, 6, none⟩ (.slice none 0 0))) := hide (((((((((unhide HB).trans (hb2.mono (unhide HB).size)).setCell hle _).setCell hle _).setCell hle _).setCell hle _).setCell hle _).setCell hle _).setCell hle _)
  clear hb1 hbV hb2 hKc hZc c2 hwA hwB
  go_wp2_with (first | (go_at_call 46; refine (islev_yes _ _ hL.1 hL.2).mono ?_; rintro e w' ⟨rfl, rfl⟩) | (go_at_call 47; refine (ishei_no _ _ hh).mono ?_; rintro e w' ⟨rfl, rfl⟩))
  exact bodyPost_ret (v := .tuple #[.agg #[.int .i64 0, .int .i64 0, .int .i64 0, .int .i64 0, .int .i64 0, .slice none 0 0, .slice none 0 0], .bool false]) (by simp [results, Tryd.results24, go_sem, z0, z1, z2, z3, z4, z5, z6]) rfl ⟨rfl, unhide HWf⟩
set_option maxRecDepth 100000 in
set_option maxHeartbeats 4000000 in
theorem first_noD (w0 : World) (hW : WidAt w0) (L h wd : Int) (si ss : Option Addr) (ni ci ns cs : Nat) (hw : wd = 1 ∨ wd = 2 ∨ wd = 4 ∨ wd = 8) (hL : 1 ≤ L ∧ L ≤ 3) (hh : 1 ≤ h ∧ h ≤ 6) (hn : ni ≠ 16) :
    Calls Tryd.prog 24 #[.agg #[.int .i64 L, .int .i64 h, .int .i64 wd, .slice si ni ci, .slice ss ns cs]] w0 fun e w' => e = .returned (.tuple #[.agg #[.int .i64 0, .int .i64 0, .int .i64 0, .int .i64 0, .int .i64 0, .slice none 0 0, .slice none 0 0], .bool false]) ∧ Below w0.heap.size w0 w' := by
  have HWb : ∃ t p s : Int, ∀ w, WidAt w → Calls Tryd.prog 45 #[.int .i64 wd] w fun e w' => e = .returned (.tuple #[.agg #[.int .i64 wd, .int .i64 t, .int .i64 p, .int .i64 s], .bool true]) ∧ Below w.heap.size w w' := by
    have hx : ∃ x : Nat, wd = (x : Int) ∧ IsW x := by
      rcases hw with rfl | rfl | rfl | rfl
      · exact ⟨1, rfl, Or.inl rfl⟩
      · exact ⟨2, rfl, Or.inr (Or.inl rfl)⟩
      · exact ⟨4, rfl, Or.inr (Or.inr (Or.inl rfl))⟩
      · exact ⟨8, rfl, Or.inr (Or.inr (Or.inr rfl))⟩
    obtain ⟨x, rfl, hx⟩ := hx
    exact ⟨_, _, _, fun w h => wbits_yes w h x hx⟩
  obtain ⟨t, p, s, HWb⟩ := HWb
  have hbA : Below w0.heap.size w0 (w0.alloc (.cells #[.int .i64 L, .int .i64 h, .int .i64 wd, .slice si ni ci, .slice ss ns cs] 28)) := (Below.refl _ _).alloc (Nat.le_refl _) _
  have hK := agg_new w0 [.int .i64 L, .int .i64 h, .int .i64 wd, .slice si ni ci, .slice ss ns cs] 28
  obtain ⟨wA, hwA⟩ : ∃ wA, w0.alloc (.cells #[.int .i64 L, .int .i64 h, .int .i64 wd, .slice si ni ci, .slice ss ns cs] 28) = wA := ⟨_, rfl⟩
  rw [hwA] at hbA hK
  have hbZ : Below wA.heap.size wA (wA.alloc (.cells #[.int .i64 0, .int .i64 0, .int .i64 0, .int .i64 0, .int .i64 0, .slice none 0 0, .slice none 0 0] 56)) := (Below.refl _ _).alloc (Nat.le_refl _) _
  have hZ := heap_alloc_new wA (.cells #[.int .i64 0, .int .i64 0, .int .i64 0, .int .i64 0, .int .i64 0, .slice none 0 0, .slice none 0 0] 56)
  have hsz : wA.heap.size < (wA.alloc (.cells #[.int .i64 0, .int .i64 0, .int .i64 0, .int .i64 0, .int .i64 0, .slice none 0 0, .slice none 0 0] 56)).heap.size := by simp
  obtain ⟨wB, hwB⟩ : ∃ wB, wA.alloc (.cells #[.int .i64 0, .int .i64 0, .int .i64 0, .int .i64 0, .int .i64 0, .slice none 0 0, .slice none 0 0] 56) = wB := ⟨_, rfl⟩
  rw [hwB] at hbZ hZ hsz
  have hKB := hK.below hbZ
  have hbB : Below w0.heap.size w0 wB := hbA.trans (hbZ.mono hbA.size)
  have c2 := hKB.c 2 _ rfl
  have HK := hide hKB
  have HZ := hide (And.intro hsz hZ)
  have HB := hide hbB
  have HWt := hide (wid4 w0 hW wB hbB)
  have HWh := hide HWb
  have hle : w0.heap.size ≤ wA.heap.size := hbA.size
  have hltK := hKB.1
  have dn : ((ni : Int) == 16) = false := by simp; omega
  have dn2 : ¬ ((ni : Int) = 16) := by omega
  have dn3 : (ni == 16) = false := by simp; omega
  have dn4 : ((ni : Int) != 16) = true := by simp; omega
  clear hbA hbZ hK hKB hZ hbB HWb hW hw
  go_enter Tryd.func24, Tryd.ntmps24
  go_wp2_with fail
  refine ((unhide HWh) wB (unhide HWt)).mono ?_
  rintro e w1 ⟨rfl, hb1⟩
  have hbV : Below w1.heap.size w1 (w1.alloc (.cells #[.int .i64 wd, .int .i64 t, .int .i64 p, .int .i64 s] 52)) := (Below.refl _ _).alloc (Nat.le_refl _) _
  obtain ⟨wC, hwC⟩ : ∃ wC, w1.alloc (.cells #[.int .i64 wd, .int .i64 t, .int .i64 p, .int .i64 s] 52) = wC := ⟨_, rfl⟩
  rw [hwC] at hbV
  have hb2 : Below wB.heap.size wB wC := hb1.trans (hbV.mono hb1.size)
  have hKc := (unhide HK).below hb2
  have d0 := hKc.c 0 _ rfl
  have d1 := hKc.c 1 _ rfl
  have d3 := hKc.c 3 _ rfl
  have hZc : wC.heap[wA.heap.size]? = some (.cells #[.int .i64 0, .int .i64 0, .int .i64 0, .int .i64 0, .int .i64 0, .slice none 0 0, .slice none 0 0] 56 (0, 0)) := (hb2.block _ (unhide HZ).1).trans (unhide HZ).2
  have z0 : wC.cell? ⟨wA.heap.size, 0, none⟩ = some (.int .i64 0) := cell_of_row wC wA.heap.size 0 _ 56 (0, 0) hZc
  have z1 : wC.cell? ⟨wA.heap.size, 1, none⟩ = some (.int .i64 0) := cell_of_row wC wA.heap.size 1 _ 56 (0, 0) hZc
  have z2 : wC.cell? ⟨wA.heap.size, 2, none⟩ = some (.int .i64 0) := cell_of_row wC wA.heap.size 2 _ 56 (0, 0) hZc
  have z3 : wC.cell? ⟨wA.heap.size, 3, none⟩ = some (.int .i64 0) := cell_of_row wC wA.heap.size 3 _ 56 (0, 0) hZc
  have z4 : wC.cell? ⟨wA.heap.size, 4, none⟩ = some (.int .i64 0) := cell_of_row wC wA.heap.size 4 _ 56 (0, 0) hZc
  have z5 : wC.cell? ⟨wA.heap.size, 5, none⟩ = some (.slice none 0 0) := cell_of_row wC wA.heap.size 5 _ 56 (0, 0) hZc
  have z6 : wC.cell? ⟨wA.heap.size, 6, none⟩ = some (.slice none 0 0) := cell_of_row wC wA.heap.size 6 _ 56 (0, 0) hZc
  have fz := fun j => AggAt.fz hZc j
  have HWf : Hid (Below w0.heap.size w0 ((((((((wC).setCell ⟨wA.heap.size, 0, none⟩ (.int .i64 0)).setCell ⟨wA.heap.size, 1, none⟩ (.int .i64 0)).setCell ⟨wA.heap.size, 2, none⟩ (.int .i64 0)).setCell ⟨wA.heap.size, 3, none⟩ (.int .i64 0)).setCell ⟨wA.heap.size, 4, none⟩ (.int .i64 0)).setCell ⟨wA.heap.size, 5, none⟩ (.slice none 0 0)).setCell ⟨wA.heap.size, 6, none⟩ (.slice none 0 0))) := hide (((((((((unhide HB).trans (hb2.mono (unhide HB).size)).setCell hle _).setCell hle _).setCell hle _).setCell hle _).setCell hle _).setCell hle _).setCell hle _)
  clear hb1 hbV hb2 hKc hZc c2 hwA hwB
  go_wp2_with (first | (go_at_call 46; refine (islev_yes _ _ hL.1 hL.2).mono ?_; rintro e w' ⟨rfl, rfl⟩) | (go_at_call 47; refine (ishei_yes _ _ hh.1 hh.2).mono ?_; rintro e w' ⟨rfl, rfl⟩))
  exact bodyPost_ret (v := .tuple #[.agg #[.int .i64 0, .int .i64 0, .int .i64 0, .int .i64 0, .int .i64 0, .slice none 0 0, .slice none 0 0], .bool false]) (by simp [results, Tryd.results24, go_sem, z0, z1, z2, z3, z4, z5, z6]) rfl ⟨rfl, unhide HWf⟩
set_option maxRecDepth 100000 in
set_option maxHeartbeats 4000000 in
theorem first_noE (w0 : World) (hW : WidAt w0) (L h wd : Int) (si ss : Option Addr) (ni ci ns cs : Nat) (hw : wd = 1 ∨ wd = 2 ∨ wd = 4 ∨ wd = 8) (hL : 1 ≤ L ∧ L ≤ 3) (hh : 1 ≤ h ∧ h ≤ 6) (hn : ni = 16) (hm : ns ≠ 32) :
    Calls Tryd.prog 24 #[.agg #[.int .i64 L, .int .i64 h, .int .i64 wd, .slice si ni ci, .slice ss ns cs]] w0 fun e w' => e = .returned (.tuple #[.agg #[.int .i64 0, .int .i64 0, .int .i64 0, .int .i64 0, .int .i64 0, .slice none 0 0, .slice none 0 0], .bool false]) ∧ Below w0.heap.size w0 w' := by
  subst hn
  have HWb : ∃ t p s : Int, ∀ w, WidAt w → Calls Tryd.prog 45 #[.int .i64 wd] w fun e w' => e = .returned (.tuple #[.agg #[.int .i64 wd, .int .i64 t, .int .i64 p, .int .i64 s], .bool true]) ∧ Below w.heap.size w w' := by
    have hx : ∃ x : Nat, wd = (x : Int) ∧ IsW x := by
      rcases hw with rfl | rfl | rfl | rfl
      · exact ⟨1, rfl, Or.inl rfl⟩
      · exact ⟨2, rfl, Or.inr (Or.inl rfl)⟩
      · exact ⟨4, rfl, Or.inr (Or.inr (Or.inl rfl))⟩
      · exact ⟨8, rfl, Or.inr (Or.inr (Or.inr rfl))⟩
    obtain ⟨x, rfl, hx⟩ := hx
    exact ⟨_, _, _, fun w h => wbits_yes w h x hx⟩
  obtain ⟨t, p, s, HWb⟩ := HWb
  have hbA : Below w0.heap.size w0 (w0.alloc (.cells #[.int .i64 L, .int .i64 h, .int .i64 wd, .slice si 16 ci, .slice ss ns cs] 28)) := (Below.refl _ _).alloc (Nat.le_refl _) _
  have hK := agg_new w0 [.int .i64 L, .int .i64 h, .int .i64 wd, .slice si 16 ci, .slice ss ns cs] 28
  obtain ⟨wA, hwA⟩ : ∃ wA, w0.alloc (.cells #[.int .i64 L, .int .i64 h, .int .i64 wd, .slice si 16 ci, .slice ss ns cs] 28) = wA := ⟨_, rfl⟩
  rw [hwA] at hbA hK
  have hbZ : Below wA.heap.size wA (wA.alloc (.cells #[.int .i64 0, .int .i64 0, .int .i64 0, .int .i64 0, .int .i64 0, .slice none 0 0, .slice none 0 0] 56)) := (Below.refl _ _).alloc (Nat.le_refl _) _
  have hZ := heap_alloc_new wA (.cells #[.int .i64 0, .int .i64 0, .int .i64 0, .int .i64 0, .int .i64 0, .slice none 0 0, .slice none 0 0] 56)
  have hsz : wA.heap.size < (wA.alloc (.cells #[.int .i64 0, .int .i64 0, .int .i64 0, .int .i64 0, .int .i64 0, .slice none 0 0, .slice none 0 0] 56)).heap.size := by simp
  obtain ⟨wB, hwB⟩ : ∃ wB, wA.alloc (.cells #[.int .i64 0, .int .i64 0, .int .i64 0, .int .i64 0, .int .i64 0, .slice none 0 0, .slice none 0 0] 56) = wB := ⟨_, rfl⟩
  rw [hwB] at hbZ hZ hsz
  have hKB := hK.below hbZ
  have hbB : Below w0.heap.size w0 wB := hbA.trans (hbZ.mono hbA.size)
  have c2 := hKB.c 2 _ rfl
  have HK := hide hKB
  have HZ := hide (And.intro hsz hZ)
  have HB := hide hbB
  have HWt := hide (wid4 w0 hW wB hbB)
  have HWh := hide HWb
  have hle : w0.heap.size ≤ wA.heap.size := hbA.size
  have hltK := hKB.1
  have dm : ((ns : Int) == 32) = false := by simp; omega
  clear hbA hbZ hK hKB hZ hbB HWb hW hw hm
  go_enter Tryd.func24, Tryd.ntmps24
  go_wp2_with fail
  refine ((unhide HWh) wB (unhide HWt)).mono ?_
  rintro e w1 ⟨rfl, hb1⟩
  have hbV : Below w1.heap.size w1 (w1.alloc (.cells #[.int .i64 wd, .int .i64 t, .int .i64 p, .int .i64 s] 52)) := (Below.refl _ _).alloc (Nat.le_refl _) _
  obtain ⟨wC, hwC⟩ : ∃ wC, w1.alloc (.cells #[.int .i64 wd, .int .i64 t, .int .i64 p, .int .i64 s] 52) = wC := ⟨_, rfl⟩
  rw [hwC] at hbV
  have hb2 : Below wB.heap.size wB wC := hb1.trans (hbV.mono hb1.size)
  have hKc := (unhide HK).below hb2
  have d0 := hKc.c 0 _ rfl
  have d1 := hKc.c 1 _ rfl
  have d3 := hKc.c 3 _ rfl
  have d4 := hKc.c 4 _ rfl
  have hZc : wC.heap[wA.heap.size]? = some (.cells #[.int .i64 0, .int .i64 0, .int .i64 0, .int .i64 0, .int .i64 0, .slice none 0 0, .slice none 0 0] 56 (0, 0)) := (hb2.block _ (unhide HZ).1).trans (unhide HZ).2
  have z0 : wC.cell? ⟨wA.heap.size, 0, none⟩ = some (.int .i64 0) := cell_of_row wC wA.heap.size 0 _ 56 (0, 0) hZc
  have z1 : wC.cell? ⟨wA.heap.size, 1, none⟩ = some (.int .i64 0) := cell_of_row wC wA.heap.size 1 _ 56 (0, 0) hZc
  have z2 : wC.cell? ⟨wA.heap.size, 2, none⟩ = some (.int .i64 0) := cell_of_row wC wA.heap.size 2 _ 56 (0, 0) hZc
  have z3 : wC.cell? ⟨wA.heap.size, 3, none⟩ = some (.int .i64 0) := cell_of_row wC wA.heap.size 3 _ 56 (0, 0) hZc
  have z4 : wC.cell? ⟨wA.heap.size, 4, none⟩ = some (.int .i64 0) := cell_of_row wC wA.heap.size 4 _ 56 (0, 0) hZc
  have z5 : wC.cell? ⟨wA.heap.size, 5, none⟩ = some (.slice none 0 0) := cell_of_row wC wA.heap.size 5 _ 56 (0, 0) hZc
  have z6 : wC.cell? ⟨wA.heap.size, 6, none⟩ = some (.slice none 0 0) := cell_of_row wC wA.heap.size 6 _ 56 (0, 0) hZc
  have fz := fun j => AggAt.fz hZc j
  have HWf : Hid (Below w0.heap.size w0 ((((((((wC).setCell ⟨wA.heap.size, 0, none⟩ (.int .i64 0)).setCell ⟨wA.heap.size, 1, none⟩ (.int .i64 0)).setCell ⟨wA.heap.size, 2, none⟩ (.int .i64 0)).setCell ⟨wA.heap.size, 3, none⟩ (.int .i64 0)).setCell ⟨wA.heap.size, 4, none⟩ (.int .i64 0)).setCell ⟨wA.heap.size, 5, none⟩ (.slice none 0 0)).setCell ⟨wA.heap.size, 6, none⟩ (.slice none 0 0))) := hide (((((((((unhide HB).trans (hb2.mono (unhide HB).size)).setCell hle _).setCell hle _).setCell hle _).setCell hle _).setCell hle _).setCell hle _).setCell hle _)
  clear hb1 hbV hb2 hKc hZc c2 hwA hwB
  go_wp2_with (first | (go_at_call 46; refine (islev_yes _ _ hL.1 hL.2).mono ?_; rintro e w' ⟨rfl, rfl⟩) | (go_at_call 47; refine (ishei_yes _ _ hh.1 hh.2).mono ?_; rintro e w' ⟨rfl, rfl⟩))
  exact bodyPost_ret (v := .tuple #[.agg #[.int .i64 0, .int .i64 0, .int .i64 0, .int .i64 0, .int .i64 0, .slice none 0 0, .slice none 0 0], .bool false]) (by simp [results, Tryd.results24, go_sem, z0, z1, z2, z3, z4, z5, z6]) rfl ⟨rfl, unhide HWf⟩
theorem first_no (w0 : World) (hW : WidAt w0) (L h wd : Int) (xi xs : Value) (id seed : Bs) (hi : BytesAt w0 xi id) (hs : BytesAt w0 xs seed) (hr : ¬ RightP L h wd id seed) :
    Calls Tryd.prog 24 #[.agg #[.int .i64 L, .int .i64 h, .int .i64 wd, xi, xs]] w0 fun e w' => e = .returned (.tuple #[.agg #[.int .i64 0, .int .i64 0, .int .i64 0, .int .i64 0, .int .i64 0, .slice none 0 0, .slice none 0 0], .bool false]) ∧ Below w0.heap.size w0 w' := by
  obtain ⟨si, ci, rfl, _⟩ := bytes_open hi
  obtain ⟨ss, cs, rfl, _⟩ := bytes_open hs
  unfold RightP at hr
  by_cases hw : wd = 1 ∨ wd = 2 ∨ wd = 4 ∨ wd = 8
  · by_cases hL : 1 ≤ L ∧ L ≤ 3
    · by_cases hh : 1 ≤ h ∧ h ≤ 6
      · by_cases hn : id.length = 16
        · exact first_noE w0 hW L h wd si ss _ ci _ cs hw hL hh hn (fun hm => hr ⟨hw, hL.1, hL.2, hh.1, hh.2, hn, hm⟩)
        · exact first_noD w0 hW L h wd si ss _ ci _ cs hw hL hh hn
      · exact first_noC w0 hW L h wd si ss _ ci _ cs hw hL hh
    · exact first_noB w0 hW L h wd si ss _ ci _ cs hw hL
  · exact first_noA w0 hW L h wd si ss _ ci _ cs hw
end Go.Proofs.YtlhjifdahagkaaaDoor
