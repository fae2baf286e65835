/-
  The walks of Days and Printable.
-/
import Derived.Test.YtngkidlgcdofhaaDoorByt
import Derived.Test.YtngkidlgcdofhaaDoorDright
namespace Go.Proofs.YtngkidlgcdofhaaDoor
open Go.RowKit
set_option maxRecDepth 100000 in
set_option maxHeartbeats 1000000 in
theorem days_any (y m : Nat) (hy : y ≤ 100000) (hm : m ≤ 100000) (w : World) : Calls Tryd.prog 59 #[.int .i64 (y : Int), .int .i64 (m : Int)] w fun e w' => e = .returned (.int .i64 (daysP y m : Int)) ∧ w' = w := by
  by_cases h2 : m = 2
  · subst h2
    obtain ⟨a, ha⟩ : ∃ a, y % 4 = a := ⟨_, rfl⟩
    obtain ⟨b, hb⟩ : ∃ b, y % 100 = b := ⟨_, rfl⟩
    obtain ⟨c, hc⟩ : ∃ c, y % 400 = c := ⟨_, rfl⟩
    have Hd : Hid (daysP y 2 = if (a = 0 ∧ ¬ b = 0) ∨ c = 0 then 29 else 28) := by show _ = _; unfold daysP; rw [if_pos rfl, ha, hb, hc]
    have r4 : (y : Int) % 4 = (a : Int) := by omega
    have r100 : (y : Int) % 100 = (b : Int) := by omega
    have r400 : (y : Int) % 400 = (c : Int) := by omega
    clear ha hb hc hm
    rcases Nat.eq_zero_or_pos a with ha | ha <;> rcases Nat.eq_zero_or_pos b with hb | hb <;> rcases Nat.eq_zero_or_pos c with hc | hc
    · have Hd2 : Hid (daysP y 2 = 29) := by show _ = _; rw [unhide Hd, if_pos (by omega)]
      clear Hd
      have d1 : ((a : Int) == 0) = true := by simp; omega
      have d2 : ((b : Int) == 0) = true := by simp; omega
      have d3 : ((c : Int) == 0) = true := by simp; omega
      go_enter Tryd.func59, Tryd.ntmps59
      go_wp2 <;> (go_ret; exact ⟨by rw [unhide Hd2]; rfl, rfl⟩)
    · have Hd2 : Hid (daysP y 2 = 28) := by show _ = _; rw [unhide Hd, if_neg (by omega)]
      clear Hd
      have d1 : ((a : Int) == 0) = true := by simp; omega
      have d2 : ((b : Int) == 0) = true := by simp; omega
      have d3 : ((c : Int) == 0) = false := by simp; omega
      go_enter Tryd.func59, Tryd.ntmps59
      go_wp2 <;> (go_ret; exact ⟨by rw [unhide Hd2]; rfl, rfl⟩)
    · have Hd2 : Hid (daysP y 2 = 29) := by show _ = _; rw [unhide Hd, if_pos (by omega)]
      clear Hd
      have d1 : ((a : Int) == 0) = true := by simp; omega
      have d2 : ((b : Int) == 0) = false := by simp; omega
      have d3 : ((c : Int) == 0) = true := by simp; omega
      go_enter Tryd.func59, Tryd.ntmps59
      go_wp2 <;> (go_ret; exact ⟨by rw [unhide Hd2]; rfl, rfl⟩)
    · have Hd2 : Hid (daysP y 2 = 29) := by show _ = _; rw [unhide Hd, if_pos (by omega)]
      clear Hd
      have d1 : ((a : Int) == 0) = true := by simp; omega
      have d2 : ((b : Int) == 0) = false := by simp; omega
      have d3 : ((c : Int) == 0) = false := by simp; omega
      go_enter Tryd.func59, Tryd.ntmps59
      go_wp2 <;> (go_ret; exact ⟨by rw [unhide Hd2]; rfl, rfl⟩)
    · have Hd2 : Hid (daysP y 2 = 29) := by show _ = _; rw [unhide Hd, if_pos (by omega)]
      clear Hd
      have d1 : ((a : Int) == 0) = false := by simp; omega
      have d2 : ((b : Int) == 0) = true := by simp; omega
      have d3 : ((c : Int) == 0) = true := by simp; omega
      go_enter Tryd.func59, Tryd.ntmps59
      go_wp2 <;> (go_ret; exact ⟨by rw [unhide Hd2]; rfl, rfl⟩)
    · have Hd2 : Hid (daysP y 2 = 28) := by show _ = _; rw [unhide Hd, if_neg (by omega)]
      clear Hd
      have d1 : ((a : Int) == 0) = false := by simp; omega
      have d2 : ((b : Int) == 0) = true := by simp; omega
      have d3 : ((c : Int) == 0) = false := by simp; omega
      go_enter Tryd.func59, Tryd.ntmps59
      go_wp2 <;> (go_ret; exact ⟨by rw [unhide Hd2]; rfl, rfl⟩)
    · have Hd2 : Hid (daysP y 2 = 29) := by show _ = _; rw [unhide Hd, if_pos (by omega)]
      clear Hd
      have d1 : ((a : Int) == 0) = false := by simp; omega
      have d2 : ((b : Int) == 0) = false := by simp; omega
      have d3 : ((c : Int) == 0) = true := by simp; omega
      go_enter Tryd.func59, Tryd.ntmps59
      go_wp2 <;> (go_ret; exact ⟨by rw [unhide Hd2]; rfl, rfl⟩)
    · have Hd2 : Hid (daysP y 2 = 28) := by show _ = _; rw [unhide Hd, if_neg (by omega)]
      clear Hd
      have d1 : ((a : Int) == 0) = false := by simp; omega
      have d2 : ((b : Int) == 0) = false := by simp; omega
      have d3 : ((c : Int) == 0) = false := by simp; omega
      go_enter Tryd.func59, Tryd.ntmps59
      go_wp2 <;> (go_ret; exact ⟨by rw [unhide Hd2]; rfl, rfl⟩)
  · have e2 : ((m : Int) == 2) = false := by simp; omega
    by_cases h4 : m = 4 ∨ m = 6 ∨ m = 9 ∨ m = 11
    · rcases h4 with rfl | rfl | rfl | rfl
      all_goals
        go_enter Tryd.func59, Tryd.ntmps59
        go_wp2
        go_ret
        exact ⟨rfl, rfl⟩
    · have Hd2 : Hid (daysP y m = 31) := by show _ = _; unfold daysP; rw [if_neg h2, if_neg h4]
      have e4 : ((m : Int) == 4) = false := by simp; omega
      have e6 : ((m : Int) == 6) = false := by simp; omega
      have e9 : ((m : Int) == 9) = false := by simp; omega
      have e11 : ((m : Int) == 11) = false := by simp; omega
      clear h2 h4 hm
      go_enter Tryd.func59, Tryd.ntmps59
      go_wp2
      go_ret
      exact ⟨by rw [unhide Hd2]; rfl, rfl⟩
theorem print_in {c : UInt8} (h : (97 ≤ c.toNat ∧ c.toNat ≤ 122) ∨ (65 ≤ c.toNat ∧ c.toNat ≤ 90) ∨ (48 ≤ c.toNat ∧ c.toNat ≤ 57)) : printP c = true := by
  unfold printP isDig
  rcases h with ⟨h1, h2⟩ | ⟨h1, h2⟩ | ⟨h1, h2⟩ <;> simp [h1, h2]
theorem print_out {c : UInt8} (h1 : ¬ (97 ≤ c.toNat ∧ c.toNat ≤ 122)) (h2 : ¬ (65 ≤ c.toNat ∧ c.toNat ≤ 90)) (h3 : ¬ (48 ≤ c.toNat ∧ c.toNat ≤ 57)) : printP c = signs.contains c := by
  unfold printP isDig
  rw [← Bool.decide_and, ← Bool.decide_and, ← Bool.decide_and, decide_eq_false h1, decide_eq_false h2, decide_eq_false h3]
  rfl
/-- None of the first signs. -/
def noSign (c : UInt8) (k : Nat) : Prop := ∀ j, j < k → (signs.getD j 0).toNat ≠ c.toNat
theorem noSign_end {c : UInt8} (h : noSign c 12) : signs.contains c = false := by
  rw [List.contains_eq_any_beq, List.any_eq_false]
  intro x hx e
  have e : c = x := by simpa using e
  subst e
  obtain ⟨j, hj, rfl⟩ := List.mem_iff_getElem.1 hx
  exact h j hj (by rw [List.getD_eq_getElem?_getD, List.getElem?_eq_getElem hj]; rfl)
theorem sign_hit {c : UInt8} {k : Nat} (hk : k < 12) (h : (signs.getD k 0).toNat = c.toNat) : signs.contains c = true := by
  have e : signs.getD k 0 = c := UInt8.toNat_inj.1 h
  rw [← e, List.getD_eq_getElem?_getD, List.getElem?_eq_getElem (show k < signs.length from hk)]
  exact List.contains_iff_mem.2 (List.getElem_mem _)
theorem sign_at (k : Nat) (hk : k < 12) (w : World) : (Instr.index 9 (.string { data := #[32, 39, 40, 41, 43, 44, 45, 46, 47, 58, 61, 63] }) (.int .i64 (k : Int))).run Tryd.prog w = .ok (.int .u8 ((signs.getD k 0).toNat : Int)) w := by
  rcases (by omega : k = 0 ∨ k = 1 ∨ k = 2 ∨ k = 3 ∨ k = 4 ∨ k = 5 ∨ k = 6 ∨ k = 7 ∨ k = 8 ∨ k = 9 ∨ k = 10 ∨ k = 11) with rfl | rfl | rfl | rfl | rfl | rfl | rfl | rfl | rfl | rfl | rfl | rfl <;> kernel_rfl
set_option maxRecDepth 100000 in
set_option maxHeartbeats 4000000 in
theorem print_any (c : UInt8) (w : World) : Calls Tryd.prog 44 #[bv c] w fun e w' => e = .returned (.bool (printP c)) ∧ w' = w := by
  have Hp := hide (print_in (c := c))
  have Ho := hide (print_out (c := c))
  have Hs : Hid (∀ k, k < 12 → (signs.getD k 0).toNat = c.toNat → signs.contains c = true) := fun k hk h => sign_hit hk h
  have He := hide (noSign_end (c := c))
  have Hn : Hid (∀ k, k ≤ 12 → noSign c k → (signs.getD k 0).toNat ≠ c.toNat → noSign c (k + 1)) := fun k _ h hne j hj => by
    rcases Nat.lt_succ_iff_lt_or_eq.1 hj with h1 | rfl
    · exact h j h1
    · exact hne
  have H0 : Hid (noSign c 0) := fun j hj => by omega
  unfold bv
  have hpb := c.toNat_lt
  obtain ⟨p, hp⟩ : ∃ p, c.toNat = p := ⟨_, rfl⟩
  rw [hp] at Hp Ho Hs Hn hpb ⊢
  clear hp
  rcases (by omega : (p < 48) ∨ (48 ≤ p ∧ p ≤ 57) ∨ (58 ≤ p ∧ p ≤ 64) ∨ (65 ≤ p ∧ p ≤ 90) ∨ (91 ≤ p ∧ p ≤ 96) ∨ (97 ≤ p ∧ p ≤ 122) ∨ (123 ≤ p)) with hr | hr | hr | hr | hr | hr | hr
  · have a1 : decide ((97 : Int) ≤ (p : Int)) = false := by simp; omega
    have a1n : decide (97 ≤ p) = false := by simp; omega
    have a2 : decide ((p : Int) ≤ 122) = true := by simp; omega
    have a2n : decide (p ≤ 122) = true := by simp; omega
    have b1 : decide ((65 : Int) ≤ (p : Int)) = false := by simp; omega
    have b1n : decide (65 ≤ p) = false := by simp; omega
    have b2 : decide ((p : Int) ≤ 90) = true := by simp; omega
    have b2n : decide (p ≤ 90) = true := by simp; omega
    have d1 : decide ((48 : Int) ≤ (p : Int)) = false := by simp; omega
    have d1n : decide (48 ≤ p) = false := by simp; omega
    have d2 : decide ((p : Int) ≤ 57) = true := by simp; omega
    have d2n : decide (p ≤ 57) = true := by simp; omega
    have Hy := hide (unhide Ho (by omega) (by omega) (by omega))
    clear Hp Ho
    go_enter Tryd.func44, Tryd.ntmps44
    go_wp2
    go_loopw [4] (fun i wr => ∃ k : Nat, k ≤ 12 ∧ i = .int .i64 k ∧ wr = w ∧ Hid (noSign c k)) (fun i _ => 12 - (intOf i).toNat)
    case atStart => exact ⟨0, by omega, rfl, rfl, H0⟩
    case round =>
      obtain ⟨k, hk, rfl, rfl, HS⟩ := hrel
      by_cases hlt : k < 12
      · have hix := fun w => sign_at k hlt w
        have Hs2 := hide (unhide Hs k hlt)
        have Hn2 := hide (unhide Hn k (by omega) (unhide HS))
        have hqb := (signs.getD k 0).toNat_lt
        obtain ⟨q, hq⟩ : ∃ q, (signs.getD k 0).toNat = q := ⟨_, rfl⟩
        simp only [hq] at hix Hs2 Hn2 hqb
        have k1 : decide ((k : Int) < 12) = true := by simp; omega
        have k1n : decide (k < 12) = true := by simp; omega
        have kb : (k : Int) ≤ 12 := by omega
        clear hq Hs Hn He HS
        by_cases hc : q = p
        · have e1 : ((q : Int) == (p : Int)) = true := by simp; omega
          have Hy2 : Hid (printP c = true) := by show _ = _; rw [unhide Hy]; exact unhide Hs2 hc
          clear Hs2 Hn2 Hy hc
          go_wp2
          go_ret
          exact ⟨by rw [unhide Hy2]; rfl, rfl⟩
        · have e1 : ((q : Int) == (p : Int)) = false := by simp; omega
          have HS2 := hide (unhide Hn2 hc)
          clear Hs2 Hn2 Hy hc
          go_wp2
          go_roundw
          case rel =>
            first
              | exact ⟨k + 1, by omega, by go_num, trivial, HS2⟩
              | exact ⟨k + 1, by omega, by go_num, rfl, HS2⟩
              | ((repeat apply Exists.intro); exact ⟨⟨k + 1, by omega, by go_num, trivial, HS2⟩, rfl⟩)
              | ((repeat apply Exists.intro); exact ⟨⟨k + 1, by omega, by go_num, rfl, HS2⟩, rfl⟩)
          case measure => simp [intOf]; omega
      · obtain rfl : k = 12 := by omega
        have Hy2 : Hid (printP c = false) := by show _ = _; rw [unhide Hy]; exact unhide He (unhide HS)
        clear Hs Hn He HS Hy
        go_wp2
        go_ret
        exact ⟨by rw [unhide Hy2]; rfl, rfl⟩
  · have a1 : decide ((97 : Int) ≤ (p : Int)) = false := by simp; omega
    have a1n : decide (97 ≤ p) = false := by simp; omega
    have a2 : decide ((p : Int) ≤ 122) = true := by simp; omega
    have a2n : decide (p ≤ 122) = true := by simp; omega
    have b1 : decide ((65 : Int) ≤ (p : Int)) = false := by simp; omega
    have b1n : decide (65 ≤ p) = false := by simp; omega
    have b2 : decide ((p : Int) ≤ 90) = true := by simp; omega
    have b2n : decide (p ≤ 90) = true := by simp; omega
    have d1 : decide ((48 : Int) ≤ (p : Int)) = true := by simp; omega
    have d1n : decide (48 ≤ p) = true := by simp; omega
    have d2 : decide ((p : Int) ≤ 57) = true := by simp; omega
    have d2n : decide (p ≤ 57) = true := by simp; omega
    have Hy := hide (unhide Hp (by omega))
    clear Hp Ho Hs Hn He H0 hr hpb
    go_enter Tryd.func44, Tryd.ntmps44
    go_wp2
    go_ret
    exact ⟨by rw [unhide Hy]; rfl, rfl⟩
  · have a1 : decide ((97 : Int) ≤ (p : Int)) = false := by simp; omega
    have a1n : decide (97 ≤ p) = false := by simp; omega
    have a2 : decide ((p : Int) ≤ 122) = true := by simp; omega
    have a2n : decide (p ≤ 122) = true := by simp; omega
    have b1 : decide ((65 : Int) ≤ (p : Int)) = false := by simp; omega
    have b1n : decide (65 ≤ p) = false := by simp; omega
    have b2 : decide ((p : Int) ≤ 90) = true := by simp; omega
    have b2n : decide (p ≤ 90) = true := by simp; omega
    have d1 : decide ((48 : Int) ≤ (p : Int)) = true := by simp; omega
    have d1n : decide (48 ≤ p) = true := by simp; omega
    have d2 : decide ((p : Int) ≤ 57) = false := by simp; omega
    have d2n : decide (p ≤ 57) = false := by simp; omega
    have Hy := hide (unhide Ho (by omega) (by omega) (by omega))
    clear Hp Ho
    go_enter Tryd.func44, Tryd.ntmps44
    go_wp2
    go_loopw [4] (fun i wr => ∃ k : Nat, k ≤ 12 ∧ i = .int .i64 k ∧ wr = w ∧ Hid (noSign c k)) (fun i _ => 12 - (intOf i).toNat)
    case atStart => exact ⟨0, by omega, rfl, rfl, H0⟩
    case round =>
      obtain ⟨k, hk, rfl, rfl, HS⟩ := hrel
      by_cases hlt : k < 12
      · have hix := fun w => sign_at k hlt w
        have Hs2 := hide (unhide Hs k hlt)
        have Hn2 := hide (unhide Hn k (by omega) (unhide HS))
        have hqb := (signs.getD k 0).toNat_lt
        obtain ⟨q, hq⟩ : ∃ q, (signs.getD k 0).toNat = q := ⟨_, rfl⟩
        simp only [hq] at hix Hs2 Hn2 hqb
        have k1 : decide ((k : Int) < 12) = true := by simp; omega
        have k1n : decide (k < 12) = true := by simp; omega
        have kb : (k : Int) ≤ 12 := by omega
        clear hq Hs Hn He HS
        by_cases hc : q = p
        · have e1 : ((q : Int) == (p : Int)) = true := by simp; omega
          have Hy2 : Hid (printP c = true) := by show _ = _; rw [unhide Hy]; exact unhide Hs2 hc
          clear Hs2 Hn2 Hy hc
          go_wp2
          go_ret
          exact ⟨by rw [unhide Hy2]; rfl, rfl⟩
        · have e1 : ((q : Int) == (p : Int)) = false := by simp; omega
          have HS2 := hide (unhide Hn2 hc)
          clear Hs2 Hn2 Hy hc
          go_wp2
          go_roundw
          case rel =>
            first
              | exact ⟨k + 1, by omega, by go_num, trivial, HS2⟩
              | exact ⟨k + 1, by omega, by go_num, rfl, HS2⟩
              | ((repeat apply Exists.intro); exact ⟨⟨k + 1, by omega, by go_num, trivial, HS2⟩, rfl⟩)
              | ((repeat apply Exists.intro); exact ⟨⟨k + 1, by omega, by go_num, rfl, HS2⟩, rfl⟩)
          case measure => simp [intOf]; omega
      · obtain rfl : k = 12 := by omega
        have Hy2 : Hid (printP c = false) := by show _ = _; rw [unhide Hy]; exact unhide He (unhide HS)
        clear Hs Hn He HS Hy
        go_wp2
        go_ret
        exact ⟨by rw [unhide Hy2]; rfl, rfl⟩
  · have a1 : decide ((97 : Int) ≤ (p : Int)) = false := by simp; omega
    have a1n : decide (97 ≤ p) = false := by simp; omega
    have a2 : decide ((p : Int) ≤ 122) = true := by simp; omega
    have a2n : decide (p ≤ 122) = true := by simp; omega
    have b1 : decide ((65 : Int) ≤ (p : Int)) = true := by simp; omega
    have b1n : decide (65 ≤ p) = true := by simp; omega
    have b2 : decide ((p : Int) ≤ 90) = true := by simp; omega
    have b2n : decide (p ≤ 90) = true := by simp; omega
    have d1 : decide ((48 : Int) ≤ (p : Int)) = true := by simp; omega
    have d1n : decide (48 ≤ p) = true := by simp; omega
    have d2 : decide ((p : Int) ≤ 57) = false := by simp; omega
    have d2n : decide (p ≤ 57) = false := by simp; omega
    have Hy := hide (unhide Hp (by omega))
    clear Hp Ho Hs Hn He H0 hr hpb
    go_enter Tryd.func44, Tryd.ntmps44
    go_wp2
    go_ret
    exact ⟨by rw [unhide Hy]; rfl, rfl⟩
  · have a1 : decide ((97 : Int) ≤ (p : Int)) = false := by simp; omega
    have a1n : decide (97 ≤ p) = false := by simp; omega
    have a2 : decide ((p : Int) ≤ 122) = true := by simp; omega
    have a2n : decide (p ≤ 122) = true := by simp; omega
    have b1 : decide ((65 : Int) ≤ (p : Int)) = true := by simp; omega
    have b1n : decide (65 ≤ p) = true := by simp; omega
    have b2 : decide ((p : Int) ≤ 90) = false := by simp; omega
    have b2n : decide (p ≤ 90) = false := by simp; omega
    have d1 : decide ((48 : Int) ≤ (p : Int)) = true := by simp; omega
    have d1n : decide (48 ≤ p) = true := by simp; omega
    have d2 : decide ((p : Int) ≤ 57) = false := by simp; omega
    have d2n : decide (p ≤ 57) = false := by simp; omega
    have Hy := hide (unhide Ho (by omega) (by omega) (by omega))
    clear Hp Ho
    go_enter Tryd.func44, Tryd.ntmps44
    go_wp2
    go_loopw [4] (fun i wr => ∃ k : Nat, k ≤ 12 ∧ i = .int .i64 k ∧ wr = w ∧ Hid (noSign c k)) (fun i _ => 12 - (intOf i).toNat)
    case atStart => exact ⟨0, by omega, rfl, rfl, H0⟩
    case round =>
      obtain ⟨k, hk, rfl, rfl, HS⟩ := hrel
      by_cases hlt : k < 12
      · have hix := fun w => sign_at k hlt w
        have Hs2 := hide (unhide Hs k hlt)
        have Hn2 := hide (unhide Hn k (by omega) (unhide HS))
        have hqb := (signs.getD k 0).toNat_lt
        obtain ⟨q, hq⟩ : ∃ q, (signs.getD k 0).toNat = q := ⟨_, rfl⟩
        simp only [hq] at hix Hs2 Hn2 hqb
        have k1 : decide ((k : Int) < 12) = true := by simp; omega
        have k1n : decide (k < 12) = true := by simp; omega
        have kb : (k : Int) ≤ 12 := by omega
        clear hq Hs Hn He HS
        by_cases hc : q = p
        · have e1 : ((q : Int) == (p : Int)) = true := by simp; omega
          have Hy2 : Hid (printP c = true) := by show _ = _; rw [unhide Hy]; exact unhide Hs2 hc
          clear Hs2 Hn2 Hy hc
          go_wp2
          go_ret
          exact ⟨by rw [unhide Hy2]; rfl, rfl⟩
        · have e1 : ((q : Int) == (p : Int)) = false := by simp; omega
          have HS2 := hide (unhide Hn2 hc)
          clear Hs2 Hn2 Hy hc
          go_wp2
          go_roundw
          case rel =>
            first
              | exact ⟨k + 1, by omega, by go_num, trivial, HS2⟩
              | exact ⟨k + 1, by omega, by go_num, rfl, HS2⟩
              | ((repeat apply Exists.intro); exact ⟨⟨k + 1, by omega, by go_num, trivial, HS2⟩, rfl⟩)
              | ((repeat apply Exists.intro); exact ⟨⟨k + 1, by omega, by go_num, rfl, HS2⟩, rfl⟩)
          case measure => simp [intOf]; omega
      · obtain rfl : k = 12 := by omega
        have Hy2 : Hid (printP c = false) := by show _ = _; rw [unhide Hy]; exact unhide He (unhide HS)
        clear Hs Hn He HS Hy
        go_wp2
        go_ret
        exact ⟨by rw [unhide Hy2]; rfl, rfl⟩
  · have a1 : decide ((97 : Int) ≤ (p : Int)) = true := by simp; omega
    have a1n : decide (97 ≤ p) = true := by simp; omega
    have a2 : decide ((p : Int) ≤ 122) = true := by simp; omega
    have a2n : decide (p ≤ 122) = true := by simp; omega
    have b1 : decide ((65 : Int) ≤ (p : Int)) = true := by simp; omega
    have b1n : decide (65 ≤ p) = true := by simp; omega
    have b2 : decide ((p : Int) ≤ 90) = false := by simp; omega
    have b2n : decide (p ≤ 90) = false := by simp; omega
    have d1 : decide ((48 : Int) ≤ (p : Int)) = true := by simp; omega
    have d1n : decide (48 ≤ p) = true := by simp; omega
    have d2 : decide ((p : Int) ≤ 57) = false := by simp; omega
    have d2n : decide (p ≤ 57) = false := by simp; omega
    have Hy := hide (unhide Hp (by omega))
    clear Hp Ho Hs Hn He H0 hr hpb
    go_enter Tryd.func44, Tryd.ntmps44
    go_wp2
    go_ret
    exact ⟨by rw [unhide Hy]; rfl, rfl⟩
  · have a1 : decide ((97 : Int) ≤ (p : Int)) = true := by simp; omega
    have a1n : decide (97 ≤ p) = true := by simp; omega
    have a2 : decide ((p : Int) ≤ 122) = false := by simp; omega
    have a2n : decide (p ≤ 122) = false := by simp; omega
    have b1 : decide ((65 : Int) ≤ (p : Int)) = true := by simp; omega
    have b1n : decide (65 ≤ p) = true := by simp; omega
    have b2 : decide ((p : Int) ≤ 90) = false := by simp; omega
    have b2n : decide (p ≤ 90) = false := by simp; omega
    have d1 : decide ((48 : Int) ≤ (p : Int)) = true := by simp; omega
    have d1n : decide (48 ≤ p) = true := by simp; omega
    have d2 : decide ((p : Int) ≤ 57) = false := by simp; omega
    have d2n : decide (p ≤ 57) = false := by simp; omega
    have Hy := hide (unhide Ho (by omega) (by omega) (by omega))
    clear Hp Ho
    go_enter Tryd.func44, Tryd.ntmps44
    go_wp2
    go_loopw [4] (fun i wr => ∃ k : Nat, k ≤ 12 ∧ i = .int .i64 k ∧ wr = w ∧ Hid (noSign c k)) (fun i _ => 12 - (intOf i).toNat)
    case atStart => exact ⟨0, by omega, rfl, rfl, H0⟩
    case round =>
      obtain ⟨k, hk, rfl, rfl, HS⟩ := hrel
      by_cases hlt : k < 12
      · have hix := fun w => sign_at k hlt w
        have Hs2 := hide (unhide Hs k hlt)
        have Hn2 := hide (unhide Hn k (by omega) (unhide HS))
        have hqb := (signs.getD k 0).toNat_lt
        obtain ⟨q, hq⟩ : ∃ q, (signs.getD k 0).toNat = q := ⟨_, rfl⟩
        simp only [hq] at hix Hs2 Hn2 hqb
        have k1 : decide ((k : Int) < 12) = true := by simp; omega
        have k1n : decide (k < 12) = true := by simp; omega
        have kb : (k : Int) ≤ 12 := by omega
        clear hq Hs Hn He HS
        by_cases hc : q = p
        · have e1 : ((q : Int) == (p : Int)) = true := by simp; omega
          have Hy2 : Hid (printP c = true) := by show _ = _; rw [unhide Hy]; exact unhide Hs2 hc
          clear Hs2 Hn2 Hy hc
          go_wp2
          go_ret
          exact ⟨by rw [unhide Hy2]; rfl, rfl⟩
        · have e1 : ((q : Int) == (p : Int)) = false := by simp; omega
          have HS2 := hide (unhide Hn2 hc)
          clear Hs2 Hn2 Hy hc
          go_wp2
          go_roundw
          case rel =>
            first
              | exact ⟨k + 1, by omega, by go_num, trivial, HS2⟩
              | exact ⟨k + 1, by omega, by go_num, rfl, HS2⟩
              | ((repeat apply Exists.intro); exact ⟨⟨k + 1, by omega, by go_num, trivial, HS2⟩, rfl⟩)
              | ((repeat apply Exists.intro); exact ⟨⟨k + 1, by omega, by go_num, rfl, HS2⟩, rfl⟩)
          case measure => simp [intOf]; omega
      · obtain rfl : k = 12 := by omega
        have Hy2 : Hid (printP c = false) := by show _ = _; rw [unhide Hy]; exact unhide He (unhide HS)
        clear Hs Hn He HS Hy
        go_wp2
        go_ret
        exact ⟨by rw [unhide Hy2]; rfl, rfl⟩
end Go.Proofs.YtngkidlgcdofhaaDoor
