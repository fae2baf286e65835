/-
  The walk of the reference's Norm.
-/
import Derived.Test.YtfjolaekenmefaaRefT
namespace Go.Proofs.Ytfjolaekenmefaa
open Go.RowKit
def absC (n : Int) : Int := if center n < 0 then -center n else center n
def norm1 (m n : Int) : Int := if m < absC n then absC n else m
/-- The greatest of the numbers around 0, without their signs. -/
def normOf (l : List Int) : Int := l.foldl norm1 0
theorem absC_bound (n : Int) : 0 ≤ absC n ∧ absC n ≤ 4190208 := by
  have := center_bound n
  unfold absC
  split <;> omega
theorem normOf_snoc (l : List Int) (n : Int) : normOf (l ++ [n]) = norm1 (normOf l) n := by unfold normOf; rw [List.foldl_append]; rfl
theorem normOf_take (l : List Int) (k : Nat) (h : k < l.length) : normOf (l.take (k + 1)) = norm1 (normOf (l.take k)) (coef l k) := by
  rw [List.take_succ_eq_append_getElem h, normOf_snoc, coef, List.getD_eq_getElem?_getD, List.getElem?_eq_getElem h]
  rfl
set_option maxRecDepth 100000 in
set_option maxHeartbeats 1000000 in
theorem norm_any (w : World) (x : Value) (l : List Int) (hx : IntsAt w x l) (hl : l.length ≤ 4611686018427387904) :
    Calls Try.prog 27 #[x] w fun e w' => e = .returned (.int .i64 (normOf l)) ∧ w' = w := by
  obtain ⟨sp, c, rfl, hc1, hc2, hc3⟩ := hx
  have Hc := hide hc3
  clear hc3 hc2
  go_enter Try.func27, Try.ntmps27
  go_wp2
  go_loopw [3, 4] (fun m i wr => ∃ (k : Nat) (z : Int), k ≤ l.length ∧ i = .int .i64 (k : Int) ∧ m = .int .i64 z ∧ 0 ≤ z ∧ z ≤ 4190208 ∧ Hid (z = normOf (l.take k)) ∧ Hid (w = wr)) (fun _ i _ => l.length - (intOf i).toNat)
  case atStart => exact ⟨0, 0, by omega, rfl, rfl, by omega, by omega, rfl, rfl⟩
  case round =>
    obtain ⟨k, z, hk, rfl, rfl, hz0, hz1, hz, hw⟩ := hrel
    have hw' := unhide hw
    clear hw
    subst hw'
    have kb : (l.length : Int) ≤ 4611686018427387904 := by omega
    by_cases hlt : k < l.length
    · obtain ⟨b, o, rfl, hr⟩ := unhide Hc (by intro e; rw [e] at hlt; simp at hlt)
      have e1 : w.cell? ⟨b, o + k, none⟩ = some (.int .i64 (coef l k)) := hr k _ (by simp [nv, coef, List.getD_eq_getElem?_getD, hlt])
      have hn := normOf_take l k hlt
      rw [← unhide hz] at hn
      have ab := absC_bound (coef l k)
      have cb := center_bound (coef l k)
      generalize coef l k = y at e1 hn ab cb
      have k0 : (0 : Int) ≤ (k : Int) := by omega
      have k1 : (k : Int) < (l.length : Int) := by omega
      have Hn := hide hn
      clear hn hr hz
      go_wp2_with fail
      refine (center_any y w).mono ?_
      rintro e w1 ⟨rfl, rfl⟩
      have ha : absC y = if center y < 0 then -center y else center y := rfl
      generalize center y = cc at cb ha
      obtain ⟨cb0, cb1⟩ := cb
      have Hs : Hid (∀ v, v = norm1 z y → 0 ≤ v ∧ v ≤ 4190208 ∧ v = normOf (l.take (k + 1))) := fun v hv => by
        subst hv
        refine ⟨?_, ?_, (unhide Hn).symm⟩
        · unfold norm1; split <;> omega
        · unfold norm1; split <;> omega
      have hn1 : norm1 z y = if z < absC y then absC y else z := rfl
      clear Hn
      by_cases h1 : cc < 0
      · rw [if_pos h1] at ha
        rw [ha] at hn1
        have w1 : IntKind.i64.wrap (-cc) = -cc := IntWalk.i64_in _ (by omega)
        by_cases h2 : z < -cc
        · rw [if_pos h2] at hn1
          have Hq := hide (unhide Hs _ hn1.symm)
          clear ha hn1 ab Hs
          go_wp2
          go_roundw
          case rel =>
            first
              | exact ⟨k + 1, _, by omega, by go_num, rfl, (unhide Hq).1, (unhide Hq).2.1, (unhide Hq).2.2, trivial⟩
              | exact ⟨k + 1, _, by omega, by go_num, rfl, (unhide Hq).1, (unhide Hq).2.1, (unhide Hq).2.2, rfl⟩
          case measure => simp [intOf]; omega
        · rw [if_neg h2] at hn1
          have Hq := hide (unhide Hs _ hn1.symm)
          have d2 : decide (z < -cc) = false := by simp; omega
          clear ha hn1 ab Hs
          go_wp2
          go_roundw
          case rel =>
            first
              | exact ⟨k + 1, _, by omega, by go_num, rfl, (unhide Hq).1, (unhide Hq).2.1, (unhide Hq).2.2, trivial⟩
              | exact ⟨k + 1, _, by omega, by go_num, rfl, (unhide Hq).1, (unhide Hq).2.1, (unhide Hq).2.2, rfl⟩
          case measure => simp [intOf]; omega
      · rw [if_neg h1] at ha
        rw [ha] at hn1
        have d1 : decide (cc < 0) = false := by simp; omega
        by_cases h2 : z < cc
        · rw [if_pos h2] at hn1
          have Hq := hide (unhide Hs _ hn1.symm)
          clear ha hn1 ab Hs
          go_wp2
          go_roundw
          case rel =>
            first
              | exact ⟨k + 1, _, by omega, by go_num, rfl, (unhide Hq).1, (unhide Hq).2.1, (unhide Hq).2.2, trivial⟩
              | exact ⟨k + 1, _, by omega, by go_num, rfl, (unhide Hq).1, (unhide Hq).2.1, (unhide Hq).2.2, rfl⟩
          case measure => simp [intOf]; omega
        · rw [if_neg h2] at hn1
          have Hq := hide (unhide Hs _ hn1.symm)
          have d2 : decide (z < cc) = false := by simp; omega
          clear ha hn1 ab Hs
          go_wp2
          go_roundw
          case rel =>
            first
              | exact ⟨k + 1, _, by omega, by go_num, rfl, (unhide Hq).1, (unhide Hq).2.1, (unhide Hq).2.2, trivial⟩
              | exact ⟨k + 1, _, by omega, by go_num, rfl, (unhide Hq).1, (unhide Hq).2.1, (unhide Hq).2.2, rfl⟩
          case measure => simp [intOf]; omega
    · obtain rfl : k = l.length := by omega
      have hv := unhide hz
      rw [List.take_length] at hv
      have Hv := hide hv
      clear hz hv
      go_wp2
      go_ret
      exact ⟨by rw [← unhide Hv]; rfl, rfl⟩
end Go.Proofs.Ytfjolaekenmefaa
