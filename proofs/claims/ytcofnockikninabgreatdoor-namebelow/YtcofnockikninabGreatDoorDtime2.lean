/-
  Plain words on times: what stands in each part behind so many digits.
-/
import Derived.Test.YtcofnockikninabGreatDoorDright
namespace Go.Proofs.YtcofnockikninabGreatDoor
/-- What stands in a time's part k behind i digits. -/
def accK (y : Nat) (b : Bs) (i k : Nat) : Nat := digsP (((b.take i).drop (atK y k)).take (lenK y k))
/-- The part of digit i. -/
def kOf (y i : Nat) : Nat := if y ≤ i then 1 + (i - y) / 2 else 0
theorem digs_snoc (l : Bs) (c : UInt8) : digsP (l ++ [c]) = 10 * digsP l + (c.toNat - 48) := by simp [digsP]
theorem win_before {b : Bs} {i a n : Nat} (h : i + 1 ≤ a) : ((b.take (i + 1)).drop a).take n = ((b.take i).drop a).take n := by
  rw [List.drop_eq_nil_of_le (by rw [List.length_take]; omega), List.drop_eq_nil_of_le (by rw [List.length_take]; omega)]
theorem _root_.List.take_append_of_length_le' {l : Bs} {c : UInt8} {n : Nat} (h : l.length < n) (_ : 0 < n) : (l ++ [c]).take n = l.take n ++ [c] := by
  rw [List.take_of_length_le (l := l ++ [c]) (by rw [List.length_append, List.length_singleton]; omega), List.take_of_length_le (l := l) (by omega)]
theorem win_here {b : Bs} {i a n : Nat} (hi : i < b.length) (h1 : a ≤ i) (h2 : i < a + n) : ((b.take (i + 1)).drop a).take n = ((b.take i).drop a).take n ++ [b.getD i 0] := by
  have e : b.take (i + 1) = b.take i ++ [b.getD i 0] := by
    rw [List.take_add_one, List.getElem?_eq_getElem hi, List.getD_eq_getElem?_getD, List.getElem?_eq_getElem hi]; rfl
  have hl : (b.take i).length = i := by rw [List.length_take]; omega
  have h3 : ((b.take i).drop a).length = i - a := by rw [List.length_drop, hl]
  rw [e, List.drop_append_of_le_length (by omega), List.take_append_of_length_le' (by omega) (by omega)]
theorem win_behind {b : Bs} {i a n : Nat} (h : a + n ≤ i) : ((b.take i).drop a).take n = (b.drop a).take n := by
  rw [List.drop_take, List.take_take, Nat.min_eq_left (by omega)]
theorem accK_zero (y : Nat) (b : Bs) (k : Nat) : accK y b 0 k = 0 := by unfold accK; simp [digsP]
theorem accK_here {y : Nat} {b : Bs} {i : Nat} (hi : i < b.length) : accK y b (i + 1) (kOf y i) = 10 * accK y b i (kOf y i) + ((b.getD i 0).toNat - 48) := by
  unfold accK
  rw [win_here hi, digs_snoc]
  · unfold kOf atK; split <;> split <;> omega
  · unfold kOf atK lenK; split <;> split <;> omega
theorem accK_other {y : Nat} {b : Bs} {i k : Nat} (hk : k ≠ kOf y i) : accK y b (i + 1) k = accK y b i k := by
  unfold accK
  have h : i + 1 ≤ atK y k ∨ atK y k + lenK y k ≤ i := by
    revert hk
    unfold kOf atK lenK
    split <;> split <;> omega
  rcases h with h | h
  · rw [win_before h]
  · rw [win_behind h, win_behind (Nat.le_succ_of_le h)]
theorem accK_end {y : Nat} {b : Bs} {k : Nat} (hk : k ≤ 5) : accK y b (y + 10) k = partK y b k := by
  unfold accK partK
  rw [win_behind]
  unfold atK lenK
  split <;> omega
theorem digs_lt (l : Bs) : ∀ k, k ≤ l.length → (l.take k).all isDig = true → digsP (l.take k) < 10 ^ k := fun k => by
  induction k with
  | zero => intro _ _; simp [digsP]
  | succ k ih =>
    intro hk h
    have e : l.take (k + 1) = l.take k ++ [l.getD k 0] := by
      rw [List.take_add_one, List.getElem?_eq_getElem hk, List.getD_eq_getElem?_getD, List.getElem?_eq_getElem hk]; rfl
    rw [e, List.all_append, Bool.and_eq_true] at h
    have h1 := ih (by omega) h.1
    have h2 : isDig (l.getD k 0) = true := by simpa using h.2
    simp only [isDig, Bool.and_eq_true, decide_eq_true_eq] at h2
    rw [e, digs_snoc, Nat.pow_succ]
    omega
theorem all_win {b : Bs} {i a n : Nat} (h : (b.take i).all isDig = true) : (((b.take i).drop a).take n).all isDig = true := by
  rw [List.all_eq_true] at h ⊢
  exact fun c hc => h c (List.mem_of_mem_drop (List.mem_of_mem_take hc))
theorem accK_lt {y : Nat} (hy : y = 2 ∨ y = 4) {b : Bs} {i : Nat} (h : (b.take i).all isDig = true) (k : Nat) : accK y b i k ≤ 9999 := by
  have h1 := digs_lt (((b.take i).drop (atK y k)).take (lenK y k)) _ (Nat.le_refl _) (by rw [List.take_length]; exact all_win h)
  rw [List.take_length] at h1
  have h2 : (((b.take i).drop (atK y k)).take (lenK y k)).length ≤ 4 := by
    rw [List.length_take]
    have : lenK y k ≤ 4 := by unfold lenK; split <;> omega
    omega
  have h3 := Nat.pow_le_pow_right (show 0 < 10 by omega) h2
  unfold accK
  omega
theorem all_succ {b : Bs} {i : Nat} (hi : i < b.length) : (b.take (i + 1)).all isDig = ((b.take i).all isDig && isDig (b.getD i 0)) := by
  have e : b.take (i + 1) = b.take i ++ [b.getD i 0] := by
    rw [List.take_add_one, List.getElem?_eq_getElem hi, List.getD_eq_getElem?_getD, List.getElem?_eq_getElem hi]; rfl
  rw [e, List.all_append]
  simp
theorem time_notdig {y : Nat} {b : Bs} {i : Nat} (hi : i < b.length) (hy : i < y + 10) (h : isDig (b.getD i 0) = false) : timeP y b = false := by
  have : (b.take (y + 10)).all isDig = false := by
    rw [List.all_eq_false]
    refine ⟨b.getD i 0, ?_, by rw [h]; simp⟩
    rw [List.getD_eq_getElem?_getD, List.getElem?_eq_getElem hi, Option.getD_some]
    exact List.mem_take_iff_getElem.2 ⟨i, by omega, rfl⟩
  unfold timeP
  rw [this]
  simp
theorem time_len {y : Nat} {b : Bs} (h : b.length ≠ y + 11) : timeP y b = false := by unfold timeP; simp [h]
theorem time_z {y : Nat} {b : Bs} (h : (b.getD (y + 10) 0).toNat ≠ 90) : timeP y b = false := by
  unfold timeP
  have : decide (b.getD (y + 10) 0 = 90) = false := decide_eq_false fun e => h (by rw [e]; rfl)
  rw [this]
  simp
theorem time_digs {y : Nat} {b : Bs} (h1 : b.length = y + 11) (h2 : (b.getD (y + 10) 0).toNat = 90) (h3 : (b.take (y + 10)).all isDig = true) : timeP y b = calP (yearK y b) (partK y b 1) (partK y b 2) (partK y b 3) (partK y b 4) (partK y b 5) := by
  unfold timeP
  have : b.getD (y + 10) 0 = 90 := UInt8.toNat_inj.1 (by rw [h2]; rfl)
  simp only [h1, this, h3, decide_true, Bool.true_and]
end Go.Proofs.YtcofnockikninabGreatDoor
