/- Parts of the walk. -/
import Derived.Test.YtcofnockikninaaGreatDoorZgDpure
namespace Go.Proofs.YtcofnockikninaaGreatDoor
theorem toNat_lt (c : UInt8) : c.toNat < 256 := c.toNat_lt
theorem toNat_ofNat_lt {n : Nat} (h : n < 256) : (UInt8.ofNat n).toNat = n := by rw [UInt8.toNat_ofNat']; omega
theorem tagP_cons (c : UInt8) (l : Bs) : tagP (c :: l) = if c.toNat % 32 < 31 then .yes (c.toNat / 64, c.toNat % 32, decide (c.toNat / 32 % 2 = 1), l) else
      match longP 0 0 l with
      | .no e => .no e
      | .yes (t, r) => if t < 31 then .no 21 else .yes (c.toNat / 64, t, decide (c.toNat / 32 % 2 = 1), r) := rfl
theorem tagB_first {c : Nat} (m : Bool) (hc : c ≤ 3) {t : Nat} (ht : t < 32) : (UInt8.ofNat (64 * c + (if m then 32 else 0) + t)).toNat = 64 * c + (if m then 32 else 0) + t := by
 apply toNat_ofNat_lt
 cases m <;> simp <;> omega
theorem first_parts {c t : Nat} (m : Bool) (ht : t < 32) : (64 * c + (if m then 32 else 0) + t) / 64 = c ∧ (64 * c + (if m then 32 else 0) + t) % 32 = t ∧ decide ((64 * c + (if m then 32 else 0) + t) / 32 % 2 = 1) = m := by
 cases m
 ·refine ⟨by simp; omega, by simp; omega, ?_⟩
  simp; omega
 ·refine ⟨by simp; omega, by simp; omega, ?_⟩
  simp; omega
theorem long_there {t : Nat} (h31 : 31 ≤ t) (ht : t < 2097152) (r : Bs) : longP 0 0 ((if 16384 ≤ t then [UInt8.ofNat (128 + t / 16384)] else []) ++ (if 128 ≤ t then [UInt8.ofNat (128 + t / 128 % 128)] else []) ++ [UInt8.ofNat (t % 128)] ++ r) = .yes (t, r) := by
 have e3 : (UInt8.ofNat (t % 128)).toNat = t % 128 := toNat_ofNat_lt (by omega)
 have e2 : (UInt8.ofNat (128 + t / 128 % 128)).toNat = 128 + t / 128 % 128 := toNat_ofNat_lt (by omega)
 have e1 : (UInt8.ofNat (128 + t / 16384)).toNat = 128 + t / 16384 := toNat_ofNat_lt (by omega)
 have n128 : ∀ (c : UInt8), c.toNat ≠ 128 → ¬ c = 128 := fun c h e => h (by rw [e]; rfl)
 by_cases h1 : 16384 ≤ t
 ·rw [if_pos h1, if_pos (by omega)]
  simp only [List.cons_append, List.nil_append]
  unfold longP
  rw [if_neg (by rintro (⟨_, e⟩ | e); exact n128 _ (by omega) e; cases e), if_neg (by omega)]
  unfold longP
  rw [if_neg (by simp), if_neg (by omega)]
  unfold longP
  rw [if_neg (by simp), if_pos (by omega), e1, e2, e3]
  congr 2
  omega
 ·rw [if_neg h1]
  by_cases h2 : 128 ≤ t
  ·rw [if_pos h2]
   simp only [List.cons_append, List.nil_append]
   unfold longP
   rw [if_neg (by rintro (⟨_, e⟩ | e); exact n128 _ (by omega) e; cases e), if_neg (by omega)]
   unfold longP
   rw [if_neg (by simp), if_pos (by omega), e2, e3]
   congr 2
   omega
  ·rw [if_neg h2]
   simp only [List.cons_append, List.nil_append]
   unfold longP
   rw [if_neg (by rintro (⟨_, e⟩ | e); exact n128 _ (by omega) e; cases e), if_pos (by omega), e3]
   congr 2
   omega
theorem tag_there {c t : Nat} (m : Bool) (hc : c ≤ 3) (ht : t < 2097152) (r : Bs) : tagP (tagB c t m ++ r) = .yes (c, t, m, r) := by
 unfold tagB
 by_cases h : t < 31
 ·rw [if_pos h]
  obtain ⟨p1, p2, p3⟩ := first_parts (c := c) m (t := t) (by omega)
  simp only [List.cons_append, List.nil_append]
  rw [tagP_cons]
  rw [tagB_first m hc (t := t) (by omega), p1, p2, p3, if_pos h]
 ·rw [if_neg h]
  obtain ⟨p1, p2, p3⟩ := first_parts (c := c) m (t := 31) (by omega)
  simp only [List.cons_append]
  rw [tagP_cons]
  rw [tagB_first m hc (t := 31) (by omega), p1, p2, p3, if_neg (by omega), long_there (by omega) ht]
  simp only []
  rw [if_neg h]
theorem len_tagB (c t : Nat) (m : Bool) : 1 ≤ (tagB c t m).length := by
 unfold tagB
 split <;> simp
def lowV : Bs → Nat
 | [] => 0
 | c :: l => c.toNat + 256 * lowV l
theorem numB_snoc (l : Bs) (c : UInt8) : numB (l ++ [c]) = 256 * numB l + c.toNat := by simp [numB]
theorem numB_rev : ∀ l : Bs, numB l.reverse = lowV l
 | [] => rfl
 | c :: l => by rw [List.reverse_cons, numB_snoc, numB_rev l, lowV]; omega
theorem lowV_lt : ∀ l : Bs, lowV l < 256 ^ l.length
 | [] => by simp [lowV]
 | c :: l => by
  have := lowV_lt l
  have := toNat_lt c
  rw [lowV, List.length_cons, Nat.pow_succ]
  omega
theorem lowV_low : ∀ (f n : Nat), n ≤ f → lowV (lowB f n) = n
 | 0, n, h => by simp [lowB, lowV]; omega
 | f + 1, n, h => by
  unfold lowB
  split
  ·simp [lowV]; omega
  ·rw [lowV, lowV_low f (n / 256) (by omega), UInt8.toNat_ofNat']
   omega
theorem lowB_big : ∀ (f n : Nat), n ≤ f → lowB f n ≠ [] → 256 ^ ((lowB f n).length - 1) ≤ n
 | 0, n, h, hn => by simp [lowB] at hn
 | f + 1, n, h, hn => by
  unfold lowB at hn ⊢
  split at hn
  ·exact absurd rfl hn
  ·rename_i h0
   rw [if_neg h0]
   simp only [List.length_cons, Nat.add_sub_cancel]
   by_cases he : lowB f (n / 256) = []
   ·rw [he]; simp; omega
   ·have := lowB_big f (n / 256) (by omega) he
    have hl : 0 < (lowB f (n / 256)).length := List.length_pos_iff.2 he
    obtain ⟨k, hk⟩ : ∃ k, (lowB f (n / 256)).length = k + 1 := ⟨_, (Nat.succ_pred_eq_of_pos hl).symm⟩
    rw [hk, Nat.add_sub_cancel] at this
    rw [hk, Nat.pow_succ]
    omega
theorem lowB_len4 {n : Nat} (h128 : 128 ≤ n) (h : n < 4294967296) : 1 ≤ (lowB n n).length ∧ (lowB n n).length ≤ 4 := by
 have hv := lowV_low n n (Nat.le_refl _)
 have hne : lowB n n ≠ [] := fun e => by rw [e] at hv; simp [lowV] at hv; omega
 have hb := lowB_big n n (Nat.le_refl _) hne
 have hl : 0 < (lowB n n).length := List.length_pos_iff.2 hne
 refine ⟨hl, ?_⟩
 rcases Nat.lt_or_ge 4 (lowB n n).length with h5 | h5
 ·exfalso
  have : 256 ^ 4 ≤ 256 ^ ((lowB n n).length - 1) := Nat.pow_le_pow_right (by omega) (by omega)
  omega
 ·exact h5
theorem lenP_cons (c : UInt8) (l : Bs) : lenP (c :: l) = if c.toNat < 128 then .yes (c.toNat, l) else if c.toNat = 128 ∨ 132 < c.toNat then .no 22 else
      if l.length < c.toNat - 128 then .no 20 else
      if numB (l.take (c.toNat - 128)) < 128 ∨ numB (l.take (c.toNat - 128)) < 256 ^ (c.toNat - 129) then .no 22 else .yes (numB (l.take (c.toNat - 128)), l.drop (c.toNat - 128)) := rfl
theorem len_there {n : Nat} (hn : n < 4294967296) (r : Bs) : lenP (lenB n ++ r) = .yes (n, r) := by
 unfold lenB
 by_cases h : n < 128
 ·rw [if_pos h]
  simp only [List.cons_append, List.nil_append]
  rw [lenP_cons, toNat_ofNat_lt (by omega), if_pos h]
 ·rw [if_neg h, List.cons_append]
  obtain ⟨h1, h4⟩ := lowB_len4 (by omega) hn
  have hv := lowV_low n n (Nat.le_refl _)
  have hb := lowB_big n n (Nat.le_refl _) (fun e => by rw [e] at h1; simp at h1)
  generalize lowB n n = b at h1 h4 hv hb
  have e : (UInt8.ofNat (128 + b.length)).toNat = 128 + b.length := toNat_ofNat_lt (by omega)
  rw [lenP_cons, e, if_neg (by omega), if_neg (by omega), show 128 + b.length - 128 = b.reverse.length by rw [List.length_reverse]; omega, if_neg (by simp), List.take_left', List.drop_left', numB_rev, hv, if_neg (by rw [show 128 + b.length - 129 = b.length - 1 by omega]; omega)]
  all_goals rfl
theorem all_len : ∀ {l : List Bs} {b : Bs}, b ∈ l → b.length ≤ l.flatten.length
 | a :: l, b, h => by
  rw [List.flatten_cons, List.length_append]
  rcases List.mem_cons.1 h with rfl | h
  ·omega
  ·have := all_len h; omega
theorem kids_there (form : Form) (f : Nat) (ih : ∀ (v : DV) (w r : Bs), writeP form f v = .yes w → w.length < 4294967296 → 0 < w.length ∧ valueP form f (w ++ r) = .yes (v, r)) :
  ∀ (ks : List DV) (bs : List Bs) (k : Nat), allP (writeP form f) ks = .yes bs → bs.flatten.length < 4294967296 → bs.flatten.length ≤ k → ∃ kb : List (DV × Bs), kidsP (valueP form f) k bs.flatten = .yes kb ∧ kb.map (·.1) = ks ∧ kb.map (·.2) = bs
 | [], bs, k, h, hl, hk => by
  unfold allP at h
  injection h with h
  subst h
  exact ⟨[], by cases k <;> rfl, rfl, rfl⟩
 | v :: ks, bs, k, h, hl, hk => by
  unfold allP at h
  split at h
  ·cases h
  rename_i b hb
  split at h
  ·cases h
  rename_i bs' hbs
  injection h with h
  subst h
  rw [List.flatten_cons, List.length_append] at hl hk
  obtain ⟨h0, hv⟩ := ih v b bs'.flatten hb (by omega)
  obtain ⟨k, rfl⟩ : ∃ j, k = j + 1 := ⟨k - 1, by omega⟩
  obtain ⟨kb, hkb, h1, h2⟩ := kids_there form f ih ks bs' k hbs (by omega) (by omega)
  refine ⟨(v, b) :: kb, ?_, by simp [h1], by simp [h2]⟩
  rw [List.flatten_cons]
  obtain ⟨c, b2, rfl⟩ : ∃ c b2, b = c :: b2 := by cases b with | nil => simp at h0 | cons c b2 => exact ⟨c, b2, rfl⟩
  rw [List.cons_append] at hv ⊢
  unfold kidsP
  rw [hv]
  simp only []
  rw [hkb]
  simp only []
  congr 3
  rw [← List.cons_append, List.length_append, Nat.add_sub_cancel, List.take_left']
  rfl
theorem write_open {form : Form} {f : Nat} {c t : Int} {m : Bool} {b : Bs} {ks : List DV} {w : Bs} (h : writeP form (f + 1) (.mk c t m b ks) = .yes w) :
  0 ≤ c ∧ c ≤ 3 ∧ 0 ≤ t ∧ t < 2097152 ∧ form c.toNat t.toNat m b = 0 ∧ (m = true → b = []) ∧ (m = false → ks = []) ∧ ∃ bs, allP (writeP form f) ks = .yes bs ∧ ¬ (fallsP bs && decide (c = 0) && decide (t = 17)) = true ∧ w = tagB c.toNat t.toNat m ++ lenB (b ++ bs.flatten).length ++ (b ++ bs.flatten) := by
 unfold writeP at h
 split at h
 ·cases h
 rename_i h1
 split at h
 ·cases h
 split at h
 ·cases h
 rename_i h2
 split at h
 ·cases h
 rename_i bs hbs
 split at h
 ·cases h
 rename_i h3
 injection h with h
 refine ⟨by omega, by omega, by omega, by omega, by omega, fun hm => ?_, fun hm => ?_, bs, hbs, h3, h.symm⟩
 ·exact List.eq_nil_of_length_eq_zero (by have : ¬ (0 < b.length) := fun hb => h2 (.inr (.inl ⟨hm, hb⟩)); omega)
 ·exact List.eq_nil_of_length_eq_zero (by have : ¬ (0 < ks.length) := fun hb => h2 (.inr (.inr ⟨hm, hb⟩)); omega)
theorem value_there (form : Form) : ∀ (f : Nat) (v : DV) (w r : Bs), writeP form f v = .yes w → w.length < 4294967296 → 0 < w.length ∧ valueP form f (w ++ r) = .yes (v, r)
 | 0, v, w, r, h, _ => by simp [writeP] at h
 | f + 1, .mk c t m b ks, w, r, h, hw => by
  obtain ⟨c0, c3, t0, t2, hform, hmb, hmk, bs, hbs, hfa, rfl⟩ := write_open h
  obtain ⟨c, rfl⟩ : ∃ k : Nat, c = (k : Int) := ⟨c.toNat, by omega⟩
  obtain ⟨t, rfl⟩ : ∃ k : Nat, t = (k : Int) := ⟨t.toNat, by omega⟩
  simp only [Int.toNat_natCast] at hform hw ⊢
  have htl := len_tagB c t m
  refine ⟨by simp only [List.length_append]; omega, ?_⟩
  have hn : (b ++ bs.flatten).length < 4294967296 := by simp only [List.length_append] at hw ⊢; omega
  unfold valueP
  simp only [List.append_assoc]
  rw [tag_there m (by omega) (by omega)]
  simp only []
  rw [len_there (by simpa using hn)]
  simp only []
  rw [if_neg (by simp only [List.length_append]; omega)]
  have htk : (b ++ (bs.flatten ++ r)).take (b ++ bs.flatten).length = b ++ bs.flatten := by
   rw [← List.append_assoc, List.take_left']
   rfl
  have hdr : (b ++ (bs.flatten ++ r)).drop (b ++ bs.flatten).length = r := by
   rw [← List.append_assoc, List.drop_left']
   rfl
  rw [htk, hdr]
  cases m with
  | false =>
   have hk := hmk rfl
   subst hk
   unfold allP at hbs
   injection hbs with hbs
   subst hbs
   simp only [List.flatten_nil, List.append_nil, Bool.false_eq_true, if_false, hform]
   simp
  | true =>
   have hb := hmb rfl
   subst hb
   simp only [List.nil_append, if_true, hform]
   rw [if_neg (by simp), if_neg (by simp)]
   obtain ⟨kb, hkb, h1, h2⟩ := kids_there form f (value_there form f) ks bs bs.flatten.length hbs (by simpa using hn) (Nat.le_refl _)
   rw [hkb]
   simp only []
   rw [h1, h2]
   have e0 : decide ((c : Int) = 0) = decide (c = 0) := by congr 1; apply propext; omega
   have e17 : decide ((t : Int) = 17) = decide (t = 17) := by congr 1; apply propext; omega
   rw [e0, e17] at hfa
   rw [if_neg hfa]
end Go.Proofs.YtcofnockikninaaGreatDoor
