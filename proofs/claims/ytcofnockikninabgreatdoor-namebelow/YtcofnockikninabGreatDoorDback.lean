/-
  Plain words on values in bytes: what is read is written as the same bytes; what is written is read as the same value; what is cut off ends too early.
-/
import Derived.Test.YtcofnockikninabGreatDoorDpure
namespace Go.Proofs.YtcofnockikninabGreatDoor
theorem ofNat_toNat' (c : UInt8) {n : Nat} (h : n = c.toNat) : UInt8.ofNat n = c := by subst h; simp
theorem toNat_lt (c : UInt8) : c.toNat < 256 := c.toNat_lt
theorem toNat_ofNat_lt {n : Nat} (h : n < 256) : (UInt8.ofNat n).toNat = n := by rw [UInt8.toNat_ofNat']; omega
theorem ne128 {c : UInt8} (h : ¬ c = 128) : c.toNat ≠ 128 := fun e => h (UInt8.toNat_inj.1 (by rw [e]; rfl))
/-- The tag's bytes behind the first one. -/
theorem long_back {l r : Bs} {t : Nat} (h : longP 0 0 l = .yes (t, r)) : t < 2097152 ∧ l = (if 16384 ≤ t then [UInt8.ofNat (128 + t / 16384)] else []) ++ (if 128 ≤ t then [UInt8.ofNat (128 + t / 128 % 128)] else []) ++ [UInt8.ofNat (t % 128)] ++ r := by
  cases l with
  | nil => simp [longP] at h
  | cons c1 l1 =>
    have b1 := toNat_lt c1
    unfold longP at h
    split at h
    · cases h
    rename_i hn
    have n1 : c1.toNat ≠ 128 := ne128 (fun e => hn (.inl ⟨rfl, e⟩))
    split at h
    · rename_i h1
      injection h with h
      injection h with ht hr
      subst hr
      obtain rfl : t = c1.toNat := by omega
      refine ⟨by omega, ?_⟩
      rw [if_neg (by omega), if_neg (by omega), Nat.mod_eq_of_lt h1, ofNat_toNat' c1 rfl]
      rfl
    · rename_i h1
      cases l1 with
      | nil => simp [longP] at h
      | cons c2 l2 =>
        have b2 := toNat_lt c2
        unfold longP at h
        rw [if_neg (by simp)] at h
        split at h
        · rename_i h2
          injection h with h
          injection h with ht hr
          subst hr
          have e1 : t / 128 % 128 = c1.toNat - 128 := by omega
          have e2 : t % 128 = c2.toNat := by omega
          refine ⟨by omega, ?_⟩
          rw [if_neg (by omega), if_pos (by omega), e1, e2, ofNat_toNat' c1 (by omega), ofNat_toNat' c2 rfl]
          rfl
        · rename_i h2
          cases l2 with
          | nil => simp [longP] at h
          | cons c3 l3 =>
            have b3 := toNat_lt c3
            unfold longP at h
            rw [if_neg (by simp)] at h
            split at h
            · rename_i h3
              injection h with h
              injection h with ht hr
              subst hr
              have e1 : t / 16384 = c1.toNat - 128 := by omega
              have e2 : t / 128 % 128 = c2.toNat - 128 := by omega
              have e3 : t % 128 = c3.toNat := by omega
              refine ⟨by omega, ?_⟩
              rw [if_pos (by omega), if_pos (by omega), e1, e2, e3, ofNat_toNat' c1 (by omega), ofNat_toNat' c2 (by omega), ofNat_toNat' c3 rfl]
              rfl
            · cases l3 with
              | nil => simp [longP] at h
              | cons c4 l4 =>
                unfold longP at h
                rw [if_pos (by simp)] at h
                cases h
theorem tagP_cons (c : UInt8) (l : Bs) : tagP (c :: l) = if c.toNat % 32 < 31 then .yes (c.toNat / 64, c.toNat % 32, decide (c.toNat / 32 % 2 = 1), l) else
      match longP 0 0 l with
      | .no e => .no e
      | .yes (t, r) => if t < 31 then .no 21 else .yes (c.toNat / 64, t, decide (c.toNat / 32 % 2 = 1), r) := rfl
theorem tag_back {l r : Bs} {c t : Nat} {m : Bool} (h : tagP l = .yes (c, t, m, r)) : c ≤ 3 ∧ t < 2097152 ∧ l = tagB c t m ++ r := by
  cases l with
  | nil => simp [tagP] at h
  | cons c0 l0 =>
    have b0 := toNat_lt c0
    have key : 64 * (c0.toNat / 64) + (if decide (c0.toNat / 32 % 2 = 1) = true then 32 else 0) + c0.toNat % 32 = c0.toNat := by
      by_cases hm : c0.toNat / 32 % 2 = 1
      · simp only [hm, decide_true, if_true]; omega
      · simp only [hm, decide_false]; simp; omega
    rw [tagP_cons] at h
    split at h
    · rename_i h1
      injection h with h
      simp only [Prod.mk.injEq] at h
      obtain ⟨rfl, rfl, rfl, rfl⟩ := h
      refine ⟨by omega, by omega, ?_⟩
      unfold tagB
      rw [if_pos h1, ofNat_toNat' c0 key]
      rfl
    · rename_i h1
      split at h
      · cases h
      · rename_i t' r' hl
        split at h
        · cases h
        rename_i h31
        injection h with h
        simp only [Prod.mk.injEq] at h
        obtain ⟨rfl, rfl, rfl, rfl⟩ := h
        obtain ⟨ht, hb⟩ := long_back hl
        refine ⟨by omega, ht, ?_⟩
        unfold tagB
        rw [show c0.toNat % 32 = 31 by omega] at key
        rw [if_neg h31, hb, ofNat_toNat' c0 key]
        simp
theorem tagB_first {c : Nat} (m : Bool) (hc : c ≤ 3) {t : Nat} (ht : t < 32) : (UInt8.ofNat (64 * c + (if m then 32 else 0) + t)).toNat = 64 * c + (if m then 32 else 0) + t := by
  apply toNat_ofNat_lt
  cases m <;> simp <;> omega
theorem first_parts {c t : Nat} (m : Bool) (ht : t < 32) : (64 * c + (if m then 32 else 0) + t) / 64 = c ∧ (64 * c + (if m then 32 else 0) + t) % 32 = t ∧ decide ((64 * c + (if m then 32 else 0) + t) / 32 % 2 = 1) = m := by
  cases m
  · refine ⟨by simp; omega, by simp; omega, ?_⟩
    simp; omega
  · refine ⟨by simp; omega, by simp; omega, ?_⟩
    simp; omega
theorem long_there {t : Nat} (h31 : 31 ≤ t) (ht : t < 2097152) (r : Bs) : longP 0 0 ((if 16384 ≤ t then [UInt8.ofNat (128 + t / 16384)] else []) ++ (if 128 ≤ t then [UInt8.ofNat (128 + t / 128 % 128)] else []) ++ [UInt8.ofNat (t % 128)] ++ r) = .yes (t, r) := by
  have e3 : (UInt8.ofNat (t % 128)).toNat = t % 128 := toNat_ofNat_lt (by omega)
  have e2 : (UInt8.ofNat (128 + t / 128 % 128)).toNat = 128 + t / 128 % 128 := toNat_ofNat_lt (by omega)
  have e1 : (UInt8.ofNat (128 + t / 16384)).toNat = 128 + t / 16384 := toNat_ofNat_lt (by omega)
  have n128 : ∀ (c : UInt8), c.toNat ≠ 128 → ¬ c = 128 := fun c h e => h (by rw [e]; rfl)
  by_cases h1 : 16384 ≤ t
  · rw [if_pos h1, if_pos (by omega)]
    simp only [List.cons_append, List.nil_append]
    unfold longP
    rw [if_neg (by rintro (⟨_, e⟩ | e); exact n128 _ (by omega) e; cases e), if_neg (by omega)]
    unfold longP
    rw [if_neg (by simp), if_neg (by omega)]
    unfold longP
    rw [if_neg (by simp), if_pos (by omega), e1, e2, e3]
    congr 2
    omega
  · rw [if_neg h1]
    by_cases h2 : 128 ≤ t
    · rw [if_pos h2]
      simp only [List.cons_append, List.nil_append]
      unfold longP
      rw [if_neg (by rintro (⟨_, e⟩ | e); exact n128 _ (by omega) e; cases e), if_neg (by omega)]
      unfold longP
      rw [if_neg (by simp), if_pos (by omega), e2, e3]
      congr 2
      omega
    · rw [if_neg h2]
      simp only [List.cons_append, List.nil_append]
      unfold longP
      rw [if_neg (by rintro (⟨_, e⟩ | e); exact n128 _ (by omega) e; cases e), if_pos (by omega), e3]
      congr 2
      omega
theorem tag_there {c t : Nat} (m : Bool) (hc : c ≤ 3) (ht : t < 2097152) (r : Bs) : tagP (tagB c t m ++ r) = .yes (c, t, m, r) := by
  unfold tagB
  by_cases h : t < 31
  · rw [if_pos h]
    obtain ⟨p1, p2, p3⟩ := first_parts (c := c) m (t := t) (by omega)
    simp only [List.cons_append, List.nil_append]
    rw [tagP_cons]
    rw [tagB_first m hc (t := t) (by omega), p1, p2, p3, if_pos h]
  · rw [if_neg h]
    obtain ⟨p1, p2, p3⟩ := first_parts (c := c) m (t := 31) (by omega)
    simp only [List.cons_append]
    rw [tagP_cons]
    rw [tagB_first m hc (t := 31) (by omega), p1, p2, p3, if_neg (by omega), long_there (by omega) ht]
    simp only []
    rw [if_neg h]
theorem tag_cut {c t : Nat} (m : Bool) (hc : c ≤ 3) (ht : t < 2097152) {k : Nat} (hk : k < (tagB c t m).length) : tagP ((tagB c t m).take k) = .no 20 := by
  unfold tagB at hk ⊢
  by_cases h : t < 31
  · rw [if_pos h] at hk ⊢
    obtain rfl : k = 0 := by simp at hk; omega
    rfl
  · rw [if_neg h] at hk ⊢
    obtain ⟨p1, p2, p3⟩ := first_parts (c := c) m (t := 31) (by omega)
    cases k with
    | zero => rfl
    | succ k =>
      rw [List.take_succ_cons]
      rw [tagP_cons]
      rw [tagB_first m hc (t := 31) (by omega), p1, p2, p3, if_neg (by omega)]
      have key : longP 0 0 (((if 16384 ≤ t then [UInt8.ofNat (128 + t / 16384)] else []) ++ (if 128 ≤ t then [UInt8.ofNat (128 + t / 128 % 128)] else []) ++ [UInt8.ofNat (t % 128)]).take k) = .no 20 := by
        have e2 : (UInt8.ofNat (128 + t / 128 % 128)).toNat = 128 + t / 128 % 128 := toNat_ofNat_lt (by omega)
        have e1 : (UInt8.ofNat (128 + t / 16384)).toNat = 128 + t / 16384 := toNat_ofNat_lt (by omega)
        have n128 : ∀ (c : UInt8), c.toNat ≠ 128 → ¬ c = 128 := fun c h e => h (by rw [e]; rfl)
        by_cases h1 : 16384 ≤ t
        · have h2 : 128 ≤ t := by omega
          rw [if_pos h1, if_pos h2] at hk ⊢
          simp only [List.cons_append, List.nil_append] at hk ⊢
          match k, hk with
          | 0, _ => rfl
          | 1, _ =>
            simp only [List.take_succ_cons, List.take_zero]
            unfold longP
            rw [if_neg (by rintro (⟨_, e⟩ | e); exact n128 _ (by omega) e; cases e), if_neg (by omega)]
            rfl
          | 2, _ =>
            simp only [List.take_succ_cons, List.take_zero]
            unfold longP
            rw [if_neg (by rintro (⟨_, e⟩ | e); exact n128 _ (by omega) e; cases e), if_neg (by omega)]
            unfold longP
            rw [if_neg (by simp), if_neg (by omega)]
            rfl
          | k + 3, hk => exact absurd hk (by simp only [List.length_cons, List.length_nil]; omega)
        · rw [if_neg h1] at hk ⊢
          by_cases h2 : 128 ≤ t
          · rw [if_pos h2] at hk ⊢
            simp only [List.cons_append, List.nil_append] at hk ⊢
            match k, hk with
            | 0, _ => rfl
            | 1, _ =>
              simp only [List.take_succ_cons, List.take_zero]
              unfold longP
              rw [if_neg (by rintro (⟨_, e⟩ | e); exact n128 _ (by omega) e; cases e), if_neg (by omega)]
              rfl
            | k + 2, hk => exact absurd hk (by simp only [List.length_cons, List.length_nil]; omega)
          · rw [if_neg h2] at hk ⊢
            simp only [List.nil_append] at hk ⊢
            match k, hk with
            | 0, _ => rfl
            | k + 1, hk => exact absurd hk (by simp only [List.length_cons, List.length_nil]; omega)
      rw [key]
theorem len_tagB (c t : Nat) (m : Bool) : 1 ≤ (tagB c t m).length := by
  unfold tagB
  split <;> simp
end Go.Proofs.YtcofnockikninabGreatDoor
