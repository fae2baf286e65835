/-
  The reference's leap, Seconds, can.
-/
import Derived.Test.YtcofnockikninaaGreatDoorRD
import Derived.Test.YtcofnockikninaaGreatDoorPD
namespace Go.Proofs.YtcofnockikninaaGreatDoor
open Go.RowKit
namespace Q
open N K
theorem leap_q (w : World) (y : Nat) (hy : y ≤ 100000) : Calls Tryz.prog 53 #[.int .i64 (y : Int)] w fun e w' => e = .returned (.bool (decide (isLeap y))) ∧ w' = w := by
  obtain ⟨a, ha⟩ : ∃ a, y % 4 = a := ⟨_, rfl⟩
  obtain ⟨b, hb⟩ : ∃ b, y % 100 = b := ⟨_, rfl⟩
  obtain ⟨c, hc⟩ : ∃ c, y % 400 = c := ⟨_, rfl⟩
  have r4 : (y : Int) % 4 = (a : Int) := by omega
  have r100 : (y : Int) % 100 = (b : Int) := by omega
  have r400 : (y : Int) % 400 = (c : Int) := by omega
  obtain ⟨A, hA⟩ : ∃ A, decide (a = 0) = A := ⟨_, rfl⟩
  obtain ⟨B, hB⟩ : ∃ B, decide (b = 0) = B := ⟨_, rfl⟩
  obtain ⟨C, hC⟩ : ∃ C, decide (c = 0) = C := ⟨_, rfl⟩
  have a1 : ((a : Int) == 0) = A := by rw [← hA]; by_cases h : a = 0 <;> simp [h] <;> omega
  have b1 : ((b : Int) == 0) = B := by rw [← hB]; by_cases h : b = 0 <;> simp [h] <;> omega
  have b2 : ((b : Int) != 0) = !B := by rw [← b1]; rfl
  have c1 : ((c : Int) == 0) = C := by rw [← hC]; by_cases h : c = 0 <;> simp [h] <;> omega
  have HT : Hid (decide (isLeap y) = ((A && !B) || C)) := by
    show _ = _
    rw [← hA, ← hB, ← hC, Bool.eq_iff_iff]
    unfold isLeap
    simp only [Bool.or_eq_true, Bool.and_eq_true, Bool.not_eq_true', decide_eq_true_eq, decide_eq_false_iff_not, ha, hb, hc]
  clear ha hb hc hA hB hC
  cases A <;> cases B <;> cases C <;> simp only [Bool.not_true, Bool.not_false] at b2 <;>
    (go_enter Tryz.func53, Tryz.ntmps53; go_wp2; go_ret; exact ⟨by rw [unhide HT]; rfl, rfl⟩)
set_option maxRecDepth 100000 in
set_option maxHeartbeats 4000000 in
theorem can_q (n : Nat) (S : Nat → Prop) (v : DV) (w : World) (cs : List Value) (hv : VAt n S w cs v) (hw : weight v ≤ 100000) :
    Calls Tryz.prog 40 #[.agg cs.toArray] w fun e w' => e = .returned (.bool (rightV v)) ∧ Below w.heap.size w w' := by
  obtain ⟨s1, c1, s2, c2, rfl⟩ := hv.form
  obtain ⟨kc, hkc⟩ : ∃ kc, v.cls = kc := ⟨_, rfl⟩
  obtain ⟨kt, hkt⟩ : ∃ kt, v.tag = kt := ⟨_, rfl⟩
  obtain ⟨km, hkm⟩ : ∃ km, v.made = km := ⟨_, rfl⟩
  obtain ⟨kl, hkl⟩ : ∃ kl, v.bytes.length = kl := ⟨_, rfl⟩
  obtain ⟨kk, hkk⟩ : ∃ kk, v.kids.length = kk := ⟨_, rfl⟩
  simp only [hkc, hkt, hkm, hkl, hkk] at hv ⊢
  clear hkc hkt hkm hkl hkk
  have hA := Blk.new (Below.refl w.heap.size w) #[.int .i64 kc, .int .i64 kt, .bool km, .slice s1 kl c1, .slice s2 kk c2] 33
  obtain ⟨w1, hw1⟩ : ∃ w1, w.alloc (.cells #[.int .i64 kc, .int .i64 kt, .bool km, .slice s1 kl c1, .slice s2 kk c2] 33) = w1 := ⟨_, rfl⟩
  obtain ⟨X, eX⟩ : ∃ X, w.heap.size = X := ⟨_, rfl⟩
  rw [hw1, eX] at hA
  have Hwr := hide (write_ref n S v w1 _ (hv.below hA.b) hw)
  unfold dcells at Hwr ⊢
  have k0 := hA.cell 0 _ rfl
  have k1 := hA.cell 1 _ rfl
  have k2 := hA.cell 2 _ rfl
  have k3 := hA.cell 3 _ rfl
  have k4 := hA.cell 4 _ rfl
  have HA := hide hA
  obtain ⟨er, her⟩ : ∃ er, errOf (writeTop formD v) = er := ⟨_, rfl⟩
  rw [her] at Hwr
  obtain ⟨U, hU⟩ : ∃ U, ((er : Int) == 0) = U := ⟨_, rfl⟩
  have HT : Hid (rightV v = U) := by
    show _ = _
    rw [right_err, her, ← hU]
    by_cases h : er = 0 <;> simp [h]
  clear hA hv hw her
  cases U <;>
    (go_enter Tryz.func40, Tryz.ntmps40
     go_wp2_with fail
     refine (unhide Hwr).mono ?_
     rintro e w2 ⟨x, rfl, hO, hb2⟩
     have HA2 := hide ((unhide HA).call hb2)
     obtain ⟨px, qx, rfl⟩ := hO.form
     clear hO hb2 k0 k1 k2 k3 k4 HA
     go_wp2
     go_ret
     exact ⟨by rw [unhide HT]; rfl, (unhide HA2).b⟩)
theorem yearsTo_small {y : Nat} (h : 1970 ≤ y) (hy : y ≤ 10000) : yearsTo y ≤ 3000000 := by have := yearsTo_le h; omega
set_option maxRecDepth 100000 in
set_option maxHeartbeats 8000000 in
theorem seconds_q (w : World) (y m d h mi s : Nat) (hy0 : 1970 ≤ y) (hy1 : y ≤ 9999) (hm0 : 1 ≤ m) (hm1 : m ≤ 12) (hd0 : 1 ≤ d) (hd1 : d ≤ 31) (hh : h ≤ 99) (hmi : mi ≤ 99) (hs : s ≤ 99) :
    Calls Tryz.prog 50 #[.agg #[.int .i64 (y : Int), .int .i64 (m : Int), .int .i64 (d : Int), .int .i64 (h : Int), .int .i64 (mi : Int), .int .i64 (s : Int)]] w fun e w' => e = .returned (.int .i64 (secondsP y m d h mi s : Int)) ∧ Below w.heap.size w w' := by
  have hA := Blk.new (Below.refl w.heap.size w) #[.int .i64 (y : Int), .int .i64 (m : Int), .int .i64 (d : Int), .int .i64 (h : Int), .int .i64 (mi : Int), .int .i64 (s : Int)] 94
  obtain ⟨w1, hw1⟩ : ∃ w1, w.alloc (.cells #[.int .i64 (y : Int), .int .i64 (m : Int), .int .i64 (d : Int), .int .i64 (h : Int), .int .i64 (mi : Int), .int .i64 (s : Int)] 94) = w1 := ⟨_, rfl⟩
  obtain ⟨X, eX⟩ : ∃ X, w.heap.size = X := ⟨_, rfl⟩
  rw [hw1, eX] at hA
  have k0 := hA.cell 0 _ rfl
  have k1 := hA.cell 1 _ rfl
  have k2 := hA.cell 2 _ rfl
  have k3 := hA.cell 3 _ rfl
  have k4 := hA.cell 4 _ rfl
  have k5 := hA.cell 5 _ rfl
  have HA := hide hA
  have HLp : Hid (∀ z : Nat, z ≤ 100000 → Calls Tryz.prog 53 #[.int .i64 (z : Int)] w1 fun e w' => e = .returned (.bool (decide (isLeap z))) ∧ w' = w1) := fun z hz => leap_q w1 z hz
  have HDy : Hid (∀ z : Nat, z ≤ 1000 → Calls Tryz.prog 54 #[.int .i64 (y : Int), .int .i64 (z : Int)] w1 fun e w' => e = .returned (.int .i64 (daysP y z : Int)) ∧ w' = w1) := fun z hz => days_any y z (by omega) (by omega) w1
  clear hA
  go_enter Tryz.func50, Tryz.ntmps50
  go_wp2
  go_loopw [3, 4] (fun dd yy wr => ∃ z Y : Nat, 1970 ≤ z ∧ z ≤ y ∧ Y ≤ 3000000 ∧ dd = .int .i64 (Y : Int) ∧ yy = .int .i64 (z : Int) ∧ wr = w1 ∧ Hid (Y = yearsTo z)) (fun _ yy _ => y - (intOf yy).toNat)
  case atStart => exact ⟨1970, 0, by omega, hy0, by omega, rfl, rfl, rfl, yearsTo_1970.symm⟩
  case round =>
    obtain ⟨z, Y, hz0, hz1, hY, rfl, rfl, hwr, HY⟩ := hrel
    have := hwr.symm
    subst this
    by_cases hlt : z < y
    · have f1 : decide ((z : Int) < (y : Int)) = true := by simp; omega
      have f1n : decide (z < y) = true := by simp; omega
      have Hl := hide (unhide HLp z (by omega))
      obtain ⟨A, hA⟩ : ∃ A, decide (isLeap z) = A := ⟨_, rfl⟩
      rw [hA] at Hl
      have HS : Hid (yearsTo (z + 1) = Y + 365 + if A = true then 1 else 0) := by
        show _ = _
        rw [yearsTo_succ z hz0, unhide HY]
        unfold yearLen
        by_cases hl : isLeap z
        · rw [if_pos hl, ← hA, decide_eq_true hl]; simp
        · rw [if_neg hl, ← hA, decide_eq_false hl]; simp
      have hb := yearsTo_small (y := z + 1) (by omega) (by omega)
      clear hA
      cases A with
      | true =>
        have HS2 : Hid (Y + 366 = yearsTo (z + 1)) := by show _ = _; rw [unhide HS]; simp
        have hb2 : Y + 366 ≤ 3000000 := by have := unhide HS2; omega
        clear hb HS
        go_wp2_with fail
        refine (unhide Hl).mono ?_
        rintro e w2 ⟨rfl, hw⟩
        obtain rfl := hw
        go_wp2
        go_roundw
        case rel =>
          first
            | exact ⟨z + 1, Y + 366, by omega, by omega, hb2, by go_num, by go_num, rfl, HS2⟩
            | exact ⟨z + 1, Y + 366, by omega, by omega, hb2, by go_num, by go_num, trivial, HS2⟩
            | ((repeat apply Exists.intro); exact ⟨⟨z + 1, Y + 366, by omega, by omega, hb2, by go_num, by go_num, rfl, HS2⟩, rfl⟩)
        case measure => simp [intOf]; omega
      | false =>
        have HS2 : Hid (Y + 365 = yearsTo (z + 1)) := by show _ = _; rw [unhide HS]; simp
        have hb2 : Y + 365 ≤ 3000000 := by have := unhide HS2; omega
        clear hb HS
        go_wp2_with fail
        refine (unhide Hl).mono ?_
        rintro e w2 ⟨rfl, hw⟩
        obtain rfl := hw
        go_wp2
        go_roundw
        case rel =>
          first
            | exact ⟨z + 1, Y + 365, by omega, by omega, hb2, by go_num, by go_num, rfl, HS2⟩
            | exact ⟨z + 1, Y + 365, by omega, by omega, hb2, by go_num, by go_num, trivial, HS2⟩
            | ((repeat apply Exists.intro); exact ⟨⟨z + 1, Y + 365, by omega, by omega, hb2, by go_num, by go_num, rfl, HS2⟩, rfl⟩)
        case measure => simp [intOf]; omega
    · have f1 : decide ((z : Int) < (y : Int)) = false := by simp; omega
      have f1n : decide (z < y) = false := by simp; omega
      obtain rfl : z = y := by omega
      clear HLp hz1 hlt
      go_wp2
      go_loopw [3, 5] (fun dd mm wr => ∃ z2 V : Nat, 1 ≤ z2 ∧ z2 ≤ m ∧ V ≤ 3001000 ∧ dd = .int .i64 (V : Int) ∧ mm = .int .i64 (z2 : Int) ∧ wr = w1 ∧ Hid (V = Y + monthsTo z z2)) (fun _ mm _ => m - (intOf mm).toNat)
      case atStart => exact ⟨1, Y, by omega, hm0, by omega, rfl, rfl, rfl, by show _ = _; simp [monthsTo]⟩
      case round =>
        obtain ⟨z2, V, hz20, hz21, hV, rfl, rfl, hwr2, HV⟩ := hrel
        have := hwr2.symm
        subst this
        by_cases hlt : z2 < m
        · have f2 : decide ((z2 : Int) < (m : Int)) = true := by simp; omega
          have f2n : decide (z2 < m) = true := by simp; omega
          have Hd := hide (unhide HDy z2 (by omega))
          obtain ⟨D, hD⟩ : ∃ D, daysP z z2 = D := ⟨_, rfl⟩
          rw [hD] at Hd
          have hD31 := daysP_pos z z2
          rw [hD] at hD31
          have HS2 : Hid (V + D = Y + monthsTo z (z2 + 1)) := by show _ = _; rw [monthsTo_succ z z2 hz20, hD, unhide HV]; omega
          have hb2 : V + D ≤ 3001000 := by
            have h1 := unhide HS2
            have h2 := monthsTo_le z (z2 + 1) (by omega)
            omega
          clear hD
          go_wp2_with fail
          refine (unhide Hd).mono ?_
          rintro e w2 ⟨rfl, hw⟩
          obtain rfl := hw
          go_wp2
          go_roundw
          case rel =>
            first
              | exact ⟨z2 + 1, V + D, by omega, by omega, hb2, by go_num, by go_num, rfl, HS2⟩
              | exact ⟨z2 + 1, V + D, by omega, by omega, hb2, by go_num, by go_num, trivial, HS2⟩
              | ((repeat apply Exists.intro); exact ⟨⟨z2 + 1, V + D, by omega, by omega, hb2, by go_num, by go_num, rfl, HS2⟩, rfl⟩)
          case measure => simp [intOf]; omega
        · have f2 : decide ((z2 : Int) < (m : Int)) = false := by simp; omega
          have f2n : decide (z2 < m) = false := by simp; omega
          obtain rfl : z2 = m := by omega
          obtain ⟨F, hF⟩ : ∃ F, 86400 * (V + d - 1) + 3600 * h + 60 * mi + s = F := ⟨_, rfl⟩
          have HF : Hid (secondsP z z2 d h mi s = F) := by
            show _ = _
            unfold secondsP
            rw [← hF, unhide HV, unhide HY]
          obtain ⟨E, hE⟩ : ∃ E, V + d - 1 = E := ⟨_, rfl⟩
          have eE : (V : Int) + (d : Int) - 1 = (E : Int) := by omega
          have eF : (86400 : Int) * (E : Int) + (3600 : Int) * (h : Int) + (60 : Int) * (mi : Int) + (s : Int) = (F : Int) := by omega
          have bE : E ≤ 3001100 := by omega
          clear hF hE HV HY
          go_wp2
          go_ret
          exact ⟨by rw [unhide HF]; rfl, by first | exact (unhide HA).b | (rw [← eX]; exact (unhide HA).b)⟩
end Q
end Go.Proofs.YtcofnockikninaaGreatDoor
