/-
  The walks of the landed days and dates: leapsTo, daysIn, daysTo, dateOf.
-/
import Derived.Test.YtcofnockikninabGreatDoorVrep9
import Derived.Test.YtcofnockikninabGreatDoorPF
namespace Go.Proofs.YtcofnockikninabGreatDoor
open Go.RowKit
namespace N
theorem leaps_c (w : World) (y : Nat) (h1 : 1 ≤ y) (hy : y ≤ 100000) : Calls Tryz.prog 43 #[.int .i64 (y : Int)] w fun e w' => e = .returned (.int .i64 (leapsP y : Int)) ∧ w' = w := by
  obtain ⟨l, hl⟩ : ∃ l, y - 1 = l := ⟨_, rfl⟩
  obtain ⟨a, ha⟩ : ∃ a, l / 4 = a := ⟨_, rfl⟩
  obtain ⟨b, hb⟩ : ∃ b, l / 100 = b := ⟨_, rfl⟩
  obtain ⟨c, hc⟩ : ∃ c, l / 400 = c := ⟨_, rfl⟩
  obtain ⟨r, hr⟩ : ∃ r, leapsP y = r := ⟨_, rfl⟩
  have HR : Hid ((a : Int) - (b : Int) + (c : Int) = (r : Int)) := by
    show _ = _
    unfold leapsP at hr
    omega
  have e1 : (y : Int) - 1 = (l : Int) := by omega
  have e2 : (l : Int) / 4 = (a : Int) := by omega
  have e3 : (l : Int) / 100 = (b : Int) := by omega
  have e4 : (l : Int) / 400 = (c : Int) := by omega
  have b1 : (0 : Int) ≤ (l : Int) := by omega
  have b2 : (a : Int) ≤ 100000 := by omega
  have b3 : (b : Int) ≤ (a : Int) := by omega
  have b4 : (c : Int) ≤ 100000 := by omega
  rw [hr]
  clear hr ha hb hc hl
  go_enter Tryz.func43, Tryz.ntmps43
  go_wp2
  go_ret
  exact ⟨by rw [unhide HR]; rfl, rfl⟩
theorem daysP_31 {y m : Nat} (h2 : m ≠ 2) (h4 : m ≠ 4) (h6 : m ≠ 6) (h9 : m ≠ 9) (h11 : m ≠ 11) : daysP y m = 31 := by
  unfold daysP
  rw [if_neg h2, if_neg (by omega)]
theorem daysP_30 {y m : Nat} (h : m = 4 ∨ m = 6 ∨ m = 9 ∨ m = 11) : daysP y m = 30 := by
  unfold daysP
  rw [if_neg (by omega), if_pos h]
theorem daysP_2 (y : Nat) (h : 1 ≤ y) : 28 + leapsP (y + 1) = daysP y 2 + leapsP y := by
  have := leaps_succ y h
  have e : daysP y 2 = if isLeap y then 29 else 28 := rfl
  rw [e]
  split <;> simp_all <;> omega
set_option maxHeartbeats 1000000 in
theorem daysin_c (w : World) (y m : Nat) (h1 : 1 ≤ y) (hy : y ≤ 90000) (hm : m ≤ 1000) : Calls Tryz.prog 44 #[.int .i64 (y : Int), .int .i64 (m : Int)] w fun e w' => e = .returned (.int .i64 (daysP y m : Int)) ∧ w' = w := by
  by_cases h30 : m = 4 ∨ m = 6 ∨ m = 9 ∨ m = 11
  · rw [daysP_30 h30]
    rcases h30 with rfl | rfl | rfl | rfl <;>
    · go_enter Tryz.func44, Tryz.ntmps44
      go_wp2
      go_ret
      exact ⟨rfl, rfl⟩
  by_cases h2 : m = 2
  · subst h2
    obtain ⟨z, hz⟩ : ∃ z, y + 1 = z := ⟨_, rfl⟩
    have e1 : (y : Int) + 1 = (z : Int) := by omega
    obtain ⟨a, ha⟩ : ∃ a, leapsP z = a := ⟨_, rfl⟩
    obtain ⟨b, hb⟩ : ∃ b, leapsP y = b := ⟨_, rfl⟩
    obtain ⟨r, hr⟩ : ∃ r, daysP y 2 = r := ⟨_, rfl⟩
    have hk := daysP_2 y h1
    have ha2 : a ≤ 100000 := by rw [← ha]; unfold leapsP; omega
    have HR : Hid ((28 : Int) + (a : Int) - (b : Int) = (r : Int)) := by
      show _ = _
      rw [hz] at hk
      omega
    have b1 : (a : Int) ≤ 100000 := by omega
    have b2 : (b : Int) ≤ 100000 := by
      have : leapsP y ≤ 100000 := by unfold leapsP; omega
      omega
    have HA := hide (leaps_c w z (by omega) (by omega))
    have HB := hide (leaps_c w y (by omega) (by omega))
    rw [ha] at HA
    rw [hb] at HB
    rw [hr]
    clear hk ha2 ha hb hr hz h30
    go_enter Tryz.func44, Tryz.ntmps44
    go_wp2_with (first
      | (go_at_call_of 43 (Value.int IntKind.i64 (z : Int)); refine (unhide HA).mono ?_; rintro e w' ⟨rfl, hw⟩; obtain rfl := hw)
      | (go_at_call_of 43 (Value.int IntKind.i64 (y : Int)); refine (unhide HB).mono ?_; rintro e w' ⟨rfl, hw⟩; obtain rfl := hw))
    go_ret
    exact ⟨by rw [unhide HR]; rfl, rfl⟩
  · rw [daysP_31 h2 (by omega) (by omega) (by omega) (by omega)]
    have d4 : ((m : Int) == 4) = false := by simp; omega
    have d6 : ((m : Int) == 6) = false := by simp; omega
    have d9 : ((m : Int) == 9) = false := by simp; omega
    have d11 : ((m : Int) == 11) = false := by simp; omega
    have d2 : ((m : Int) == 2) = false := by simp; omega
    clear h30 h2
    go_enter Tryz.func44, Tryz.ntmps44
    go_wp2
    go_ret
    exact ⟨rfl, rfl⟩
/-- The days to a month. -/
def daysToP (y m : Nat) : Nat := yearsTo y + monthsTo y m
set_option maxHeartbeats 1000000 in
theorem daysto_c (w : World) (y m : Nat) (h1 : 1970 ≤ y) (hy : y ≤ 90000) (hm0 : 1 ≤ m) (hm : m ≤ 1000) : Calls Tryz.prog 26 #[.int .i64 (y : Int), .int .i64 (m : Int)] w fun e w' => e = .returned (.int .i64 (daysToP y m : Int)) ∧ w' = w := by
  obtain ⟨k, hk⟩ : ∃ k, y - 1970 = k := ⟨_, rfl⟩
  have e1 : (y : Int) - 1970 = (k : Int) := by omega
  obtain ⟨a, ha⟩ : ∃ a, leapsP y = a := ⟨_, rfl⟩
  obtain ⟨Y, hY⟩ : ∃ Y, yearsTo y = Y := ⟨_, rfl⟩
  have e0 : leapsP 1970 = 477 := by decide
  have hmo := leaps_mono (a := 1970) (by omega) h1
  have e2 : (365 : Int) * (k : Int) + (a : Int) - 477 = (Y : Int) := by unfold yearsTo at hY; omega
  have b1 : (k : Int) ≤ 100000 := by omega
  have b2 : (a : Int) ≤ 100000 := by
    have : leapsP y ≤ 100000 := by unfold leapsP; omega
    omega
  have HA := hide (leaps_c w y (by omega) (by omega))
  have HB := hide (leaps_c w 1970 (by omega) (by omega))
  rw [ha] at HA
  rw [e0] at HB
  have HY := hide hY
  have b3 : (Y : Int) ≤ 100000000 := by omega
  have HD : Hid (∀ (m' : Nat), m' ≤ 1000 → Calls Tryz.prog 44 #[.int .i64 (y : Int), .int .i64 (m' : Int)] w fun e w' => e = .returned (.int .i64 (daysP y m' : Int)) ∧ w' = w) := fun m' h => daysin_c w y m' (by omega) hy h
  clear hmo ha e0 hY hk
  go_enter Tryz.func26, Tryz.ntmps26
  go_wp2_with (first
    | (go_at_call_of 43 (Value.int IntKind.i64 (y : Int)); refine (unhide HA).mono ?_; rintro e w' ⟨rfl, hw⟩; obtain rfl := hw)
    | (go_at_call_of 43 (Value.int IntKind.i64 1970); refine (unhide HB).mono ?_; rintro e w' ⟨rfl, hw⟩; obtain rfl := hw))
  go_loop [5, 6] (fun dd ii => ∃ j d : Nat, 1 ≤ j ∧ j ≤ m ∧ ii = .int .i64 (j : Int) ∧ dd = .int .i64 (d : Int) ∧ d ≤ 100000000 + 31 * j ∧ Hid (d = Y + monthsTo y j)) (fun _ ii => m - (intOf ii).toNat)
  case atStart => exact ⟨1, Y, by omega, by omega, rfl, rfl, by omega, rfl⟩
  case round =>
    obtain ⟨j, d, hj1, hj, rfl, rfl, hd, HE⟩ := hrel
    by_cases hlt : j < m
    · obtain ⟨s, hs⟩ : ∃ s, daysP y j = s := ⟨_, rfl⟩
      have hs31 := daysP_pos y j
      have HD2 := hide (unhide HD j (by omega))
      rw [hs] at HD2 hs31
      have f1 : decide ((j : Int) < (m : Int)) = true := by simp; omega
      have HS := hide hs
      clear hs HA HB HD
      go_wp2_with (go_at_call 44; refine (unhide HD2).mono ?_; rintro e w' ⟨rfl, hw⟩; obtain rfl := hw)
      go_round
      case rel => exact ⟨j + 1, d + s, by omega, by omega, by go_num, by go_num, by omega, by show _ = _; rw [monthsTo_succ y j hj1, unhide HS]; have := unhide HE; omega⟩
      case measure => simp [intOf]; omega
    · have f1 : decide ((j : Int) < (m : Int)) = false := by simp; omega
      have HF : Hid (d = daysToP y m) := by
        have : j = m := by omega
        show _ = _
        unfold daysToP
        rw [unhide HE, unhide HY, this]
      clear HE HA HB HD
      go_wp2
      go_ret
      exact ⟨by rw [← unhide HF]; rfl, rfl⟩
end N
end Go.Proofs.YtcofnockikninabGreatDoor
/-
  The walk of the landed dateOf.
-/
namespace Go.Proofs.YtcofnockikninabGreatDoor
open Go.RowKit
namespace N
theorem daysTo_one (y : Nat) : daysToP y 1 = yearsTo y := by unfold daysToP; rw [show monthsTo y 1 = 0 from rfl, Nat.add_zero]
theorem daysTo_13 (y : Nat) (h : 1970 ≤ y) : daysToP y 13 = yearsTo (y + 1) := by unfold daysToP; rw [months13, yearsTo_succ y h]
theorem daysTo_small {y m : Nat} (h : 1970 ≤ y) (hy : y ≤ 90000) (hm0 : 1 ≤ m) (hm : m ≤ 1000) : daysToP y m ≤ 100000000 := by
  have h1 := yearsTo_le h
  have h2 := monthsTo_le y m hm0
  unfold daysToP
  omega
end N
end Go.Proofs.YtcofnockikninabGreatDoor
