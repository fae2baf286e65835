/-
  Plain words on times in digits.
-/
import Derived.Test.YtcofnockikninabGreatDoorTold9
namespace Go.Proofs.YtcofnockikninabGreatDoor
def dig (d : Nat) : UInt8 := UInt8.ofNat (48 + d)
theorem dig_toNat {d : Nat} (h : d ≤ 9) : (dig d).toNat = 48 + d := by unfold dig; rw [UInt8.toNat_ofNat']; omega
theorem isDig_dig {d : Nat} (h : d ≤ 9) : isDig (dig d) = true := by unfold isDig; rw [dig_toNat h]; simp; omega
/-- The digits of a part. -/
def piece (sh : Bool) (i n : Nat) : Bs := (if i = 0 ∧ sh = false then [dig (n / 1000), dig (n / 100 % 10)] else []) ++ [dig (n / 10 % 10), dig (n % 10)]
def tb (sh : Bool) (f : Nat → Nat) : Nat → Bs
  | 0 => []
  | i + 1 => tb sh f i ++ piece sh i (f i)
def yearOf (sh : Bool) (n : Nat) : Nat := if sh = true then (if n < 50 then n + 2000 else n + 1900) else n
theorem digs2 {a b : Nat} (ha : a ≤ 9) (hb : b ≤ 9) : digsP [dig a, dig b] = 10 * a + b := by
  simp only [digsP, List.foldl_cons, List.foldl_nil, dig_toNat ha, dig_toNat hb]
  omega
theorem digs4 {a b c d : Nat} (ha : a ≤ 9) (hb : b ≤ 9) (hc : c ≤ 9) (hd : d ≤ 9) : digsP [dig a, dig b, dig c, dig d] = 1000 * a + 100 * b + 10 * c + d := by
  simp only [digsP, List.foldl_cons, List.foldl_nil, dig_toNat ha, dig_toNat hb, dig_toNat hc, dig_toNat hd]
  omega
theorem time_short (f : Nat → Nat) (h : ∀ i, i ≤ 5 → f i ≤ 99) : timeP 2 (tb true f 6 ++ [90]) = calP (yearOf true (f 0)) (f 1) (f 2) (f 3) (f 4) (f 5) ∧ (tb true f 6 ++ [90]).length = 13 := by
  have e : tb true f 6 ++ [90] = [dig (f 0 / 10 % 10), dig (f 0 % 10), dig (f 1 / 10 % 10), dig (f 1 % 10), dig (f 2 / 10 % 10), dig (f 2 % 10), dig (f 3 / 10 % 10), dig (f 3 % 10), dig (f 4 / 10 % 10), dig (f 4 % 10), dig (f 5 / 10 % 10), dig (f 5 % 10), 90] := by simp [tb, piece]
  have p : ∀ i, i ≤ 5 → digsP [dig (f i / 10 % 10), dig (f i % 10)] = f i := fun i hi => by
    rw [digs2 (by omega) (by omega)]
    have := h i hi
    omega
  rw [e]
  refine ⟨?_, rfl⟩
  unfold timeP
  have c1 : decide (([dig (f 0 / 10 % 10), dig (f 0 % 10), dig (f 1 / 10 % 10), dig (f 1 % 10), dig (f 2 / 10 % 10), dig (f 2 % 10), dig (f 3 / 10 % 10), dig (f 3 % 10), dig (f 4 / 10 % 10), dig (f 4 % 10), dig (f 5 / 10 % 10), dig (f 5 % 10), 90] : Bs).length = 2 + 11) = true := by simp
  have c2 : (([dig (f 0 / 10 % 10), dig (f 0 % 10), dig (f 1 / 10 % 10), dig (f 1 % 10), dig (f 2 / 10 % 10), dig (f 2 % 10), dig (f 3 / 10 % 10), dig (f 3 % 10), dig (f 4 / 10 % 10), dig (f 4 % 10), dig (f 5 / 10 % 10), dig (f 5 % 10), 90] : Bs).take (2 + 10)).all isDig = true := by
    have d9 : ∀ n : Nat, isDig (dig (n % 10)) = true := fun n => isDig_dig (by omega)
    simp only [Nat.reduceAdd, List.take_succ_cons, List.take_zero, List.all_cons, List.all_nil, d9, Bool.and_self]
  rw [c1, c2]
  have q0 : partK 2 [dig (f 0 / 10 % 10), dig (f 0 % 10), dig (f 1 / 10 % 10), dig (f 1 % 10), dig (f 2 / 10 % 10), dig (f 2 % 10), dig (f 3 / 10 % 10), dig (f 3 % 10), dig (f 4 / 10 % 10), dig (f 4 % 10), dig (f 5 / 10 % 10), dig (f 5 % 10), 90] 0 = f 0 := p 0 (by omega)
  have q1 : partK 2 [dig (f 0 / 10 % 10), dig (f 0 % 10), dig (f 1 / 10 % 10), dig (f 1 % 10), dig (f 2 / 10 % 10), dig (f 2 % 10), dig (f 3 / 10 % 10), dig (f 3 % 10), dig (f 4 / 10 % 10), dig (f 4 % 10), dig (f 5 / 10 % 10), dig (f 5 % 10), 90] 1 = f 1 := p 1 (by omega)
  have q2 : partK 2 [dig (f 0 / 10 % 10), dig (f 0 % 10), dig (f 1 / 10 % 10), dig (f 1 % 10), dig (f 2 / 10 % 10), dig (f 2 % 10), dig (f 3 / 10 % 10), dig (f 3 % 10), dig (f 4 / 10 % 10), dig (f 4 % 10), dig (f 5 / 10 % 10), dig (f 5 % 10), 90] 2 = f 2 := p 2 (by omega)
  have q3 : partK 2 [dig (f 0 / 10 % 10), dig (f 0 % 10), dig (f 1 / 10 % 10), dig (f 1 % 10), dig (f 2 / 10 % 10), dig (f 2 % 10), dig (f 3 / 10 % 10), dig (f 3 % 10), dig (f 4 / 10 % 10), dig (f 4 % 10), dig (f 5 / 10 % 10), dig (f 5 % 10), 90] 3 = f 3 := p 3 (by omega)
  have q4 : partK 2 [dig (f 0 / 10 % 10), dig (f 0 % 10), dig (f 1 / 10 % 10), dig (f 1 % 10), dig (f 2 / 10 % 10), dig (f 2 % 10), dig (f 3 / 10 % 10), dig (f 3 % 10), dig (f 4 / 10 % 10), dig (f 4 % 10), dig (f 5 / 10 % 10), dig (f 5 % 10), 90] 4 = f 4 := p 4 (by omega)
  have q5 : partK 2 [dig (f 0 / 10 % 10), dig (f 0 % 10), dig (f 1 / 10 % 10), dig (f 1 % 10), dig (f 2 / 10 % 10), dig (f 2 % 10), dig (f 3 / 10 % 10), dig (f 3 % 10), dig (f 4 / 10 % 10), dig (f 4 % 10), dig (f 5 / 10 % 10), dig (f 5 % 10), 90] 5 = f 5 := p 5 (by omega)
  unfold yearK
  rw [q0, q1, q2, q3, q4, q5]
  rfl
theorem time_long (f : Nat → Nat) (h0 : f 0 ≤ 9999) (h : ∀ i, 1 ≤ i → i ≤ 5 → f i ≤ 99) : timeP 4 (tb false f 6 ++ [90]) = calP (yearOf false (f 0)) (f 1) (f 2) (f 3) (f 4) (f 5) ∧ (tb false f 6 ++ [90]).length = 15 := by
  have e : tb false f 6 ++ [90] = [dig (f 0 / 1000), dig (f 0 / 100 % 10), dig (f 0 / 10 % 10), dig (f 0 % 10), dig (f 1 / 10 % 10), dig (f 1 % 10), dig (f 2 / 10 % 10), dig (f 2 % 10), dig (f 3 / 10 % 10), dig (f 3 % 10), dig (f 4 / 10 % 10), dig (f 4 % 10), dig (f 5 / 10 % 10), dig (f 5 % 10), 90] := by simp [tb, piece]
  have p : ∀ i, 1 ≤ i → i ≤ 5 → digsP [dig (f i / 10 % 10), dig (f i % 10)] = f i := fun i h1 hi => by
    rw [digs2 (by omega) (by omega)]
    have := h i h1 hi
    omega
  have p0 : digsP [dig (f 0 / 1000), dig (f 0 / 100 % 10), dig (f 0 / 10 % 10), dig (f 0 % 10)] = f 0 := by
    rw [digs4 (by omega) (by omega) (by omega) (by omega)]
    omega
  rw [e]
  refine ⟨?_, rfl⟩
  unfold timeP
  have c1 : decide (([dig (f 0 / 1000), dig (f 0 / 100 % 10), dig (f 0 / 10 % 10), dig (f 0 % 10), dig (f 1 / 10 % 10), dig (f 1 % 10), dig (f 2 / 10 % 10), dig (f 2 % 10), dig (f 3 / 10 % 10), dig (f 3 % 10), dig (f 4 / 10 % 10), dig (f 4 % 10), dig (f 5 / 10 % 10), dig (f 5 % 10), 90] : Bs).length = 4 + 11) = true := by simp
  have c2 : (([dig (f 0 / 1000), dig (f 0 / 100 % 10), dig (f 0 / 10 % 10), dig (f 0 % 10), dig (f 1 / 10 % 10), dig (f 1 % 10), dig (f 2 / 10 % 10), dig (f 2 % 10), dig (f 3 / 10 % 10), dig (f 3 % 10), dig (f 4 / 10 % 10), dig (f 4 % 10), dig (f 5 / 10 % 10), dig (f 5 % 10), 90] : Bs).take (4 + 10)).all isDig = true := by
    have d9 : ∀ n : Nat, isDig (dig (n % 10)) = true := fun n => isDig_dig (by omega)
    have d0 : isDig (dig (f 0 / 1000)) = true := isDig_dig (by omega)
    simp only [Nat.reduceAdd, List.take_succ_cons, List.take_zero, List.all_cons, List.all_nil, d9, d0, Bool.and_self]
  rw [c1, c2]
  have q0 : partK 4 [dig (f 0 / 1000), dig (f 0 / 100 % 10), dig (f 0 / 10 % 10), dig (f 0 % 10), dig (f 1 / 10 % 10), dig (f 1 % 10), dig (f 2 / 10 % 10), dig (f 2 % 10), dig (f 3 / 10 % 10), dig (f 3 % 10), dig (f 4 / 10 % 10), dig (f 4 % 10), dig (f 5 / 10 % 10), dig (f 5 % 10), 90] 0 = f 0 := p0
  have q1 : partK 4 [dig (f 0 / 1000), dig (f 0 / 100 % 10), dig (f 0 / 10 % 10), dig (f 0 % 10), dig (f 1 / 10 % 10), dig (f 1 % 10), dig (f 2 / 10 % 10), dig (f 2 % 10), dig (f 3 / 10 % 10), dig (f 3 % 10), dig (f 4 / 10 % 10), dig (f 4 % 10), dig (f 5 / 10 % 10), dig (f 5 % 10), 90] 1 = f 1 := p 1 (by omega) (by omega)
  have q2 : partK 4 [dig (f 0 / 1000), dig (f 0 / 100 % 10), dig (f 0 / 10 % 10), dig (f 0 % 10), dig (f 1 / 10 % 10), dig (f 1 % 10), dig (f 2 / 10 % 10), dig (f 2 % 10), dig (f 3 / 10 % 10), dig (f 3 % 10), dig (f 4 / 10 % 10), dig (f 4 % 10), dig (f 5 / 10 % 10), dig (f 5 % 10), 90] 2 = f 2 := p 2 (by omega) (by omega)
  have q3 : partK 4 [dig (f 0 / 1000), dig (f 0 / 100 % 10), dig (f 0 / 10 % 10), dig (f 0 % 10), dig (f 1 / 10 % 10), dig (f 1 % 10), dig (f 2 / 10 % 10), dig (f 2 % 10), dig (f 3 / 10 % 10), dig (f 3 % 10), dig (f 4 / 10 % 10), dig (f 4 % 10), dig (f 5 / 10 % 10), dig (f 5 % 10), 90] 3 = f 3 := p 3 (by omega) (by omega)
  have q4 : partK 4 [dig (f 0 / 1000), dig (f 0 / 100 % 10), dig (f 0 / 10 % 10), dig (f 0 % 10), dig (f 1 / 10 % 10), dig (f 1 % 10), dig (f 2 / 10 % 10), dig (f 2 % 10), dig (f 3 / 10 % 10), dig (f 3 % 10), dig (f 4 / 10 % 10), dig (f 4 % 10), dig (f 5 / 10 % 10), dig (f 5 % 10), 90] 4 = f 4 := p 4 (by omega) (by omega)
  have q5 : partK 4 [dig (f 0 / 1000), dig (f 0 / 100 % 10), dig (f 0 / 10 % 10), dig (f 0 % 10), dig (f 1 / 10 % 10), dig (f 1 % 10), dig (f 2 / 10 % 10), dig (f 2 % 10), dig (f 3 / 10 % 10), dig (f 3 % 10), dig (f 4 / 10 % 10), dig (f 4 % 10), dig (f 5 / 10 % 10), dig (f 5 % 10), 90] 5 = f 5 := p 5 (by omega) (by omega)
  unfold yearK
  rw [q0, q1, q2, q3, q4, q5]
  rfl
/-- A plain universal value that is read. -/
theorem read_plain {t : Nat} (ht : t < 31) (b : Bs) (hb : b.length < 128) : readP formD (UInt8.ofNat t :: UInt8.ofNat b.length :: b) = if formD 0 t false b = 0 then .yes (.mk 0 t false b []) else .no (formD 0 t false b) := by
  have e : UInt8.ofNat t :: UInt8.ofNat b.length :: b = tagB 0 t false ++ (lenB b.length ++ b) := by
    unfold tagB lenB
    rw [if_pos ht, if_pos hb]
    simp
  unfold readP
  rw [if_neg (by simp; omega), e]
  unfold valueP
  rw [tag_there false (by omega) (by omega)]
  simp only []
  rw [len_there (by omega)]
  simp only [Nat.lt_irrefl, if_false, Bool.false_eq_true, if_true, List.take_length, List.drop_length]
  by_cases hf : formD 0 t false b = 0
  · rw [if_neg (by simpa using hf), if_pos hf]
    simp
  · rw [if_pos hf, if_neg hf]
theorem form_time (sh : Bool) (b : Bs) : formD 0 (if sh = true then 23 else 24) false b = if timeP (if sh = true then 2 else 4) b = true then 0 else 24 := by
  cases sh
  · show formD 0 24 false b = if timeP 4 b = true then 0 else 24
    have : rightP 24 b = timeP 4 b := rfl
    unfold formD
    rw [if_neg (by omega), if_neg (by decide), this]
    cases timeP 4 b <;> rfl
  · show formD 0 23 false b = if timeP 2 b = true then 0 else 24
    have : rightP 23 b = timeP 2 b := rfl
    unfold formD
    rw [if_neg (by omega), if_neg (by decide), this]
    cases timeP 2 b <;> rfl
end Go.Proofs.YtcofnockikninabGreatDoor
