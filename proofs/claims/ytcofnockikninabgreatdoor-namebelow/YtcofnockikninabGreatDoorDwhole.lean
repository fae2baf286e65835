/-
  Plain words on values in bytes: whole values: what is read is written as the same bytes, what is written is read as the same value, what is cut off is refused.
-/
import Derived.Test.YtcofnockikninabGreatDoorDlen
namespace Go.Proofs.YtcofnockikninabGreatDoor
theorem kids_back (form : Form) (f : Nat) (ih : ∀ (l r : Bs) (v : DV), valueP form f l = .yes (v, r) → ∃ w, writeP form f v = .yes w ∧ l = w ++ r) :
    ∀ (k : Nat) (l : Bs) (ks : List (DV × Bs)), kidsP (valueP form f) k l = .yes ks → allP (writeP form f) (ks.map (·.1)) = .yes (ks.map (·.2)) ∧ l = (ks.map (·.2)).flatten
  | k, [], ks, h => by
    unfold kidsP at h
    injection h with h
    subst h
    exact ⟨rfl, rfl⟩
  | 0, c :: l, ks, h => by simp [kidsP] at h
  | k + 1, c :: l, ks, h => by
    unfold kidsP at h
    split at h
    · cases h
    rename_i v r hv
    split at h
    · cases h
    rename_i ks' hk
    injection h with h
    subst h
    obtain ⟨w, hw, hl⟩ := ih _ _ _ hv
    obtain ⟨ha, hf⟩ := kids_back form f ih k r ks' hk
    have e : (c :: l).take ((c :: l).length - r.length) = w := by
      rw [hl, List.length_append, Nat.add_sub_cancel, List.take_left']
      rfl
    simp only [List.map_cons, List.flatten_cons]
    rw [e]
    refine ⟨?_, by rw [hl, ← hf]⟩
    unfold allP
    rw [hw]
    simp only []
    rw [ha]
theorem value_back (form : Form) : ∀ (f : Nat) (l r : Bs) (v : DV), valueP form f l = .yes (v, r) → ∃ w, writeP form f v = .yes w ∧ l = w ++ r
  | 0, l, r, v, h => by simp [valueP] at h
  | f + 1, l, r, v, h => by
    unfold valueP at h
    split at h
    · cases h
    rename_i c t m l1 ht
    obtain ⟨hc, ht2, hl⟩ := tag_back ht
    split at h
    · cases h
    rename_i n l2 hn
    obtain ⟨hl1, hn2⟩ := len_back hn
    split at h
    · cases h
    rename_i hlen
    have hcc : ¬ ((c : Int) < 0 ∨ 3 < (c : Int) ∨ (t : Int) < 0 ∨ 2097152 ≤ (t : Int)) := by omega
    have hlt : (l2.take n).length = n := by rw [List.length_take]; omega
    cases m with
    | false =>
      simp only [Bool.false_eq_true, if_false, if_true] at h
      split at h
      · cases h
      rename_i hform
      have hform : form c t false (l2.take n) = 0 := Decidable.not_not.1 hform
      injection h with h
      injection h with hv hr
      subst hv hr
      refine ⟨tagB c t false ++ lenB n ++ l2.take n, ?_, ?_⟩
      · unfold writeP
        rw [if_neg hcc]
        simp only [Int.toNat_natCast, hform]
        simp [allP, fallsP, hlt]
      · rw [hl, hl1]
        simp only [List.append_assoc, List.take_append_drop]
    | true =>
      simp only [if_true, Bool.true_eq_false, if_false] at h
      split at h
      · cases h
      rename_i hform
      have hform : form c t true [] = 0 := Decidable.not_not.1 hform
      split at h
      · cases h
      rename_i ks hk
      obtain ⟨ha, hfl⟩ := kids_back form f (value_back form f) n _ ks hk
      split at h
      · cases h
      rename_i hfa
      injection h with h
      injection h with hv hr
      subst hv hr
      refine ⟨tagB c t true ++ lenB n ++ l2.take n, ?_, ?_⟩
      · unfold writeP
        rw [if_neg hcc]
        simp only [Int.toNat_natCast, hform]
        rw [if_neg (by omega), if_neg (by simp), ha]
        simp only []
        have e0 : decide ((c : Int) = 0) = decide (c = 0) := by congr 1; apply propext; omega
        have e17 : decide ((t : Int) = 17) = decide (t = 17) := by congr 1; apply propext; omega
        rw [e0, e17, if_neg hfa, ← hfl, List.nil_append, hlt]
      · rw [hl, hl1]
        simp only [List.append_assoc, List.take_append_drop]
theorem all_len : ∀ {l : List Bs} {b : Bs}, b ∈ l → b.length ≤ l.flatten.length
  | a :: l, b, h => by
    rw [List.flatten_cons, List.length_append]
    rcases List.mem_cons.1 h with rfl | h
    · omega
    · have := all_len h; omega
theorem kids_there (form : Form) (f : Nat) (ih : ∀ (v : DV) (w r : Bs), writeP form f v = .yes w → w.length < 4294967296 → 0 < w.length ∧ valueP form f (w ++ r) = .yes (v, r)) :
    ∀ (ks : List DV) (bs : List Bs) (k : Nat), allP (writeP form f) ks = .yes bs → bs.flatten.length < 4294967296 → bs.flatten.length ≤ k → ∃ kb : List (DV × Bs), kidsP (valueP form f) k bs.flatten = .yes kb ∧ kb.map (·.1) = ks ∧ kb.map (·.2) = bs
  | [], bs, k, h, hl, hk => by
    unfold allP at h
    injection h with h
    subst h
    exact ⟨[], by cases k <;> rfl, rfl, rfl⟩
  | v :: ks, bs, k, h, hl, hk => by
    unfold allP at h
    split at h
    · cases h
    rename_i b hb
    split at h
    · cases h
    rename_i bs' hbs
    injection h with h
    subst h
    rw [List.flatten_cons, List.length_append] at hl hk
    obtain ⟨h0, hv⟩ := ih v b bs'.flatten hb (by omega)
    obtain ⟨k, rfl⟩ : ∃ j, k = j + 1 := ⟨k - 1, by omega⟩
    obtain ⟨kb, hkb, h1, h2⟩ := kids_there form f ih ks bs' k hbs (by omega) (by omega)
    refine ⟨(v, b) :: kb, ?_, by simp [h1], by simp [h2]⟩
    rw [List.flatten_cons]
    obtain ⟨c, b2, rfl⟩ : ∃ c b2, b = c :: b2 := by cases b with | nil => simp at h0 | cons c b2 => exact ⟨c, b2, rfl⟩
    rw [List.cons_append] at hv ⊢
    unfold kidsP
    rw [hv]
    simp only []
    rw [hkb]
    simp only []
    congr 3
    rw [← List.cons_append, List.length_append, Nat.add_sub_cancel, List.take_left']
    rfl
/-- What writing went through. -/
theorem write_open {form : Form} {f : Nat} {c t : Int} {m : Bool} {b : Bs} {ks : List DV} {w : Bs} (h : writeP form (f + 1) (.mk c t m b ks) = .yes w) :
    0 ≤ c ∧ c ≤ 3 ∧ 0 ≤ t ∧ t < 2097152 ∧ form c.toNat t.toNat m b = 0 ∧ (m = true → b = []) ∧ (m = false → ks = []) ∧ ∃ bs, allP (writeP form f) ks = .yes bs ∧ ¬ (fallsP bs && decide (c = 0) && decide (t = 17)) = true ∧ w = tagB c.toNat t.toNat m ++ lenB (b ++ bs.flatten).length ++ (b ++ bs.flatten) := by
  unfold writeP at h
  split at h
  · cases h
  rename_i h1
  split at h
  · cases h
  split at h
  · cases h
  rename_i h2
  split at h
  · cases h
  rename_i bs hbs
  split at h
  · cases h
  rename_i h3
  injection h with h
  refine ⟨by omega, by omega, by omega, by omega, by omega, fun hm => ?_, fun hm => ?_, bs, hbs, h3, h.symm⟩
  · exact List.eq_nil_of_length_eq_zero (by have : ¬ (0 < b.length) := fun hb => h2 (.inr (.inl ⟨hm, hb⟩)); omega)
  · exact List.eq_nil_of_length_eq_zero (by have : ¬ (0 < ks.length) := fun hb => h2 (.inr (.inr ⟨hm, hb⟩)); omega)
theorem value_there (form : Form) : ∀ (f : Nat) (v : DV) (w r : Bs), writeP form f v = .yes w → w.length < 4294967296 → 0 < w.length ∧ valueP form f (w ++ r) = .yes (v, r)
  | 0, v, w, r, h, _ => by simp [writeP] at h
  | f + 1, .mk c t m b ks, w, r, h, hw => by
    obtain ⟨c0, c3, t0, t2, hform, hmb, hmk, bs, hbs, hfa, rfl⟩ := write_open h
    obtain ⟨c, rfl⟩ : ∃ k : Nat, c = (k : Int) := ⟨c.toNat, by omega⟩
    obtain ⟨t, rfl⟩ : ∃ k : Nat, t = (k : Int) := ⟨t.toNat, by omega⟩
    simp only [Int.toNat_natCast] at hform hw ⊢
    have htl := len_tagB c t m
    refine ⟨by simp only [List.length_append]; omega, ?_⟩
    have hn : (b ++ bs.flatten).length < 4294967296 := by simp only [List.length_append] at hw ⊢; omega
    unfold valueP
    simp only [List.append_assoc]
    rw [tag_there m (by omega) (by omega)]
    simp only []
    rw [len_there (by simpa using hn)]
    simp only []
    rw [if_neg (by simp only [List.length_append]; omega)]
    have htk : (b ++ (bs.flatten ++ r)).take (b ++ bs.flatten).length = b ++ bs.flatten := by
      rw [← List.append_assoc, List.take_left']
      rfl
    have hdr : (b ++ (bs.flatten ++ r)).drop (b ++ bs.flatten).length = r := by
      rw [← List.append_assoc, List.drop_left']
      rfl
    rw [htk, hdr]
    cases m with
    | false =>
      have hk := hmk rfl
      subst hk
      unfold allP at hbs
      injection hbs with hbs
      subst hbs
      simp only [List.flatten_nil, List.append_nil, Bool.false_eq_true, if_false, hform]
      simp
    | true =>
      have hb := hmb rfl
      subst hb
      simp only [List.nil_append, if_true, hform]
      rw [if_neg (by simp), if_neg (by simp)]
      obtain ⟨kb, hkb, h1, h2⟩ := kids_there form f (value_there form f) ks bs bs.flatten.length hbs (by simpa using hn) (Nat.le_refl _)
      rw [hkb]
      simp only []
      rw [h1, h2]
      have e0 : decide ((c : Int) = 0) = decide (c = 0) := by congr 1; apply propext; omega
      have e17 : decide ((t : Int) = 17) = decide (t = 17) := by congr 1; apply propext; omega
      rw [e0, e17] at hfa
      rw [if_neg hfa]
theorem value_cut (form : Form) {f : Nat} {v : DV} {w : Bs} (h : writeP form (f + 1) v = .yes w) (hw : w.length < 4294967296) {k : Nat} (hk : k < w.length) (f' : Nat) : valueP form (f' + 1) (w.take k) = .no 20 := by
  obtain ⟨c, t, m, b, ks⟩ := v
  obtain ⟨c0, c3, t0, t2, hform, hmb, hmk, bs, hbs, hfa, rfl⟩ := write_open h
  obtain ⟨c, rfl⟩ : ∃ k : Nat, c = (k : Int) := ⟨c.toNat, by omega⟩
  obtain ⟨t, rfl⟩ : ∃ k : Nat, t = (k : Int) := ⟨t.toNat, by omega⟩
  simp only [Int.toNat_natCast] at hw hk ⊢
  generalize hB : b ++ bs.flatten = B at hw hk
  simp only [List.length_append] at hw hk
  unfold valueP
  rcases Nat.lt_or_ge k (tagB c t m).length with h1 | h1
  · rw [List.append_assoc, List.take_append_of_le_length (by omega), tag_cut m (by omega) (by omega) h1]
  · rw [List.append_assoc, List.take_append, List.take_of_length_le h1, tag_there m (by omega) (by omega)]
    simp only []
    rcases Nat.lt_or_ge (k - (tagB c t m).length) (lenB B.length).length with h2 | h2
    · rw [List.take_append_of_le_length (by omega), len_cut (by omega) h2]
    · rw [List.take_append, List.take_of_length_le h2, len_there (by omega)]
      simp only []
      rw [if_pos (by rw [List.length_take]; omega)]
end Go.Proofs.YtcofnockikninabGreatDoor
