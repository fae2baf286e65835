/-
  Plain words on values in bytes: the length, and whole values.
-/
import Derived.Test.YtcofnockikninabGreatDoorDback
namespace Go.Proofs.YtcofnockikninabGreatDoor
/-- The number of bytes, the lowest first. -/
def lowV : Bs → Nat
  | [] => 0
  | c :: l => c.toNat + 256 * lowV l
theorem numB_snoc (l : Bs) (c : UInt8) : numB (l ++ [c]) = 256 * numB l + c.toNat := by simp [numB]
theorem numB_rev : ∀ l : Bs, numB l.reverse = lowV l
  | [] => rfl
  | c :: l => by rw [List.reverse_cons, numB_snoc, numB_rev l, lowV]; omega
theorem lowV_lt : ∀ l : Bs, lowV l < 256 ^ l.length
  | [] => by simp [lowV]
  | c :: l => by
    have := lowV_lt l
    have := toNat_lt c
    rw [lowV, List.length_cons, Nat.pow_succ]
    omega
theorem lowB_of : ∀ (l : Bs) (f : Nat), l.length ≤ f → (l ≠ [] → 256 ^ (l.length - 1) ≤ lowV l) → lowB f (lowV l) = l
  | [], f, _, _ => by cases f <;> simp [lowB, lowV]
  | c :: l, f, hf, hp => by
    obtain ⟨f, rfl⟩ : ∃ k, f = k + 1 := ⟨f - 1, by simp at hf; omega⟩
    have hc := toNat_lt c
    have h1 := hp (by simp)
    simp only [List.length_cons, Nat.add_sub_cancel] at h1
    have hpos : 0 < 256 ^ l.length := Nat.pow_pos (by omega)
    unfold lowB
    rw [if_neg (by omega)]
    have hd : lowV (c :: l) / 256 = lowV l := by rw [lowV]; omega
    have hm : UInt8.ofNat (lowV (c :: l)) = c := by
      apply UInt8.toNat_inj.1
      rw [UInt8.toNat_ofNat', lowV]
      omega
    rw [hd, hm, lowB_of l f (by simp at hf; omega) (fun hl => ?_)]
    have hl2 : 0 < l.length := List.length_pos_iff.2 hl
    rw [lowV] at h1
    obtain ⟨k, hk⟩ : ∃ k, l.length = k + 1 := ⟨l.length - 1, by omega⟩
    rw [hk, Nat.pow_succ] at h1
    rw [hk, Nat.add_sub_cancel]
    omega
theorem lowV_low : ∀ (f n : Nat), n ≤ f → lowV (lowB f n) = n
  | 0, n, h => by simp [lowB, lowV]; omega
  | f + 1, n, h => by
    unfold lowB
    split
    · simp [lowV]; omega
    · rw [lowV, lowV_low f (n / 256) (by omega), UInt8.toNat_ofNat']
      omega
theorem lowB_big : ∀ (f n : Nat), n ≤ f → lowB f n ≠ [] → 256 ^ ((lowB f n).length - 1) ≤ n
  | 0, n, h, hn => by simp [lowB] at hn
  | f + 1, n, h, hn => by
    unfold lowB at hn ⊢
    split at hn
    · exact absurd rfl hn
    · rename_i h0
      rw [if_neg h0]
      simp only [List.length_cons, Nat.add_sub_cancel]
      by_cases he : lowB f (n / 256) = []
      · rw [he]; simp; omega
      · have := lowB_big f (n / 256) (by omega) he
        have hl : 0 < (lowB f (n / 256)).length := List.length_pos_iff.2 he
        obtain ⟨k, hk⟩ : ∃ k, (lowB f (n / 256)).length = k + 1 := ⟨_, (Nat.succ_pred_eq_of_pos hl).symm⟩
        rw [hk, Nat.add_sub_cancel] at this
        rw [hk, Nat.pow_succ]
        omega
theorem lowB_len4 {n : Nat} (h128 : 128 ≤ n) (h : n < 4294967296) : 1 ≤ (lowB n n).length ∧ (lowB n n).length ≤ 4 := by
  have hv := lowV_low n n (Nat.le_refl _)
  have hne : lowB n n ≠ [] := fun e => by rw [e] at hv; simp [lowV] at hv; omega
  have hb := lowB_big n n (Nat.le_refl _) hne
  have hl : 0 < (lowB n n).length := List.length_pos_iff.2 hne
  refine ⟨hl, ?_⟩
  rcases Nat.lt_or_ge 4 (lowB n n).length with h5 | h5
  · exfalso
    have : 256 ^ 4 ≤ 256 ^ ((lowB n n).length - 1) := Nat.pow_le_pow_right (by omega) (by omega)
    omega
  · exact h5
theorem lenP_cons (c : UInt8) (l : Bs) : lenP (c :: l) = if c.toNat < 128 then .yes (c.toNat, l) else if c.toNat = 128 ∨ 132 < c.toNat then .no 22 else
      if l.length < c.toNat - 128 then .no 20 else
      if numB (l.take (c.toNat - 128)) < 128 ∨ numB (l.take (c.toNat - 128)) < 256 ^ (c.toNat - 129) then .no 22 else .yes (numB (l.take (c.toNat - 128)), l.drop (c.toNat - 128)) := rfl
theorem len_back {l r : Bs} {n : Nat} (h : lenP l = .yes (n, r)) : l = lenB n ++ r ∧ n < 4294967296 := by
  cases l with
  | nil => simp [lenP] at h
  | cons c l =>
    have hc := toNat_lt c
    rw [lenP_cons] at h
    split at h
    · rename_i h1
      injection h with h
      injection h with hn hr
      subst hn hr
      unfold lenB
      rw [if_pos h1, ofNat_toNat' c rfl]
      exact ⟨rfl, by omega⟩
    split at h
    · cases h
    split at h
    · cases h
    split at h
    · cases h
    rename_i h1 h2 h3 h4
    injection h with h
    injection h with hn hr
    obtain ⟨k, hk⟩ : ∃ k, c.toNat = 128 + k := ⟨c.toNat - 128, by omega⟩
    have hk1 : 1 ≤ k ∧ k ≤ 4 := by omega
    rw [show c.toNat - 128 = k by omega] at h3 h4 hn hr
    rw [show c.toNat - 129 = k - 1 by omega] at h4
    obtain ⟨b, hb⟩ : ∃ b, l.take k = b.reverse := ⟨(l.take k).reverse, by rw [List.reverse_reverse]⟩
    have hbl : b.length = k := by
      have : (l.take k).length = k := by rw [List.length_take]; omega
      rw [hb, List.length_reverse] at this
      exact this
    rw [hb, numB_rev] at h4 hn
    have hlt := lowV_lt b
    have h256 : 256 ^ b.length ≤ 256 ^ 4 := Nat.pow_le_pow_right (by omega) (by omega)
    subst hn
    have hlow : lowB (lowV b) (lowV b) = b := by
      apply lowB_of
      · have : b.length ≤ 4 := by omega
        omega
      · intro _
        rw [hbl]
        omega
    refine ⟨?_, by omega⟩
    unfold lenB
    rw [if_neg (by omega), hlow, hbl, ← hk, ofNat_toNat' c rfl, ← hb, ← hr, List.cons_append, List.take_append_drop]
theorem len_there {n : Nat} (hn : n < 4294967296) (r : Bs) : lenP (lenB n ++ r) = .yes (n, r) := by
  unfold lenB
  by_cases h : n < 128
  · rw [if_pos h]
    simp only [List.cons_append, List.nil_append]
    rw [lenP_cons, toNat_ofNat_lt (by omega), if_pos h]
  · rw [if_neg h, List.cons_append]
    obtain ⟨h1, h4⟩ := lowB_len4 (by omega) hn
    have hv := lowV_low n n (Nat.le_refl _)
    have hb := lowB_big n n (Nat.le_refl _) (fun e => by rw [e] at h1; simp at h1)
    generalize lowB n n = b at h1 h4 hv hb
    have e : (UInt8.ofNat (128 + b.length)).toNat = 128 + b.length := toNat_ofNat_lt (by omega)
    rw [lenP_cons, e, if_neg (by omega), if_neg (by omega), show 128 + b.length - 128 = b.reverse.length by rw [List.length_reverse]; omega, if_neg (by simp), List.take_left', List.drop_left', numB_rev, hv, if_neg (by rw [show 128 + b.length - 129 = b.length - 1 by omega]; omega)]
    all_goals rfl
theorem len_cut {n : Nat} (hn : n < 4294967296) {k : Nat} (hk : k < (lenB n).length) : lenP ((lenB n).take k) = .no 20 := by
  unfold lenB at hk ⊢
  by_cases h : n < 128
  · rw [if_pos h] at hk ⊢
    obtain rfl : k = 0 := by simp at hk; omega
    rfl
  · rw [if_neg h] at hk ⊢
    obtain ⟨h1, h4⟩ := lowB_len4 (by omega) hn
    generalize lowB n n = b at h1 h4 hk
    cases k with
    | zero => rfl
    | succ k =>
      have e : (UInt8.ofNat (128 + b.length)).toNat = 128 + b.length := toNat_ofNat_lt (by omega)
      simp only [List.length_cons, List.length_reverse] at hk
      rw [List.take_succ_cons, lenP_cons, e, if_neg (by omega), if_neg (by omega), if_pos (by rw [List.length_take, List.length_reverse]; omega)]
theorem len_lenB (n : Nat) : 1 ≤ (lenB n).length := by
  unfold lenB
  split <;> simp
end Go.Proofs.YtcofnockikninabGreatDoor
