/-
  Plain words on numbers and their digits: lists of numbers in bits, in bytes, and back. No program is named here.
-/
import Derived.WalkKit
namespace Go.Proofs.Ythciafobknaipab
/-- What digits come to, the lowest first. -/
def num (B : Nat) : List Nat → Nat
  | [] => 0
  | x :: r => x + B * num B r
/-- The first k digits. -/
def digs (B N k : Nat) : List Nat := (List.range k).map fun j => N / B ^ j % B
theorem length_digs (B N k : Nat) : (digs B N k).length = k := by simp [digs]
theorem digs_succ (B N k : Nat) : digs B N (k + 1) = digs B N k ++ [N / B ^ k % B] := by simp [digs, List.range_succ]
theorem digs_get (B N k j : Nat) (hj : j < k) : (digs B N k).getD j 0 = N / B ^ j % B := by simp [digs, List.getD_eq_getElem?_getD, hj]
theorem mem_digs {B N k x : Nat} (hB : 0 < B) (h : x ∈ digs B N k) : x < B := by
  obtain ⟨j, _, rfl⟩ := List.mem_map.1 h
  exact Nat.mod_lt _ hB
theorem num_append (B : Nat) : ∀ a b : List Nat, num B (a ++ b) = num B a + B ^ a.length * num B b
  | [], b => by simp [num]
  | x :: a, b => by
    rw [List.cons_append, num, num, num_append B a b, List.length_cons, Nat.pow_succ, Nat.mul_add, Nat.add_assoc, Nat.mul_comm (B ^ a.length) B, Nat.mul_assoc]
theorem num_lt {B : Nat} : ∀ {l : List Nat}, (∀ x ∈ l, x < B) → num B l < B ^ l.length
  | [], _ => by simp [num]
  | x :: r, h => by
    have h0 : x < B := h x (by simp)
    have h1 := num_lt (l := r) (fun y hy => h y (by simp [hy]))
    rw [num, List.length_cons, Nat.pow_succ]
    have h2 : B * (num B r + 1) ≤ B * B ^ r.length := Nat.mul_le_mul_left B h1
    rw [Nat.mul_add] at h2
    rw [Nat.mul_comm (B ^ r.length)]
    omega
theorem num_digs (B N k : Nat) : num B (digs B N k) = N % B ^ k := by
  induction k with
  | zero => simp [digs, num, Nat.mod_one]
  | succ k ih => rw [digs_succ, num_append, ih, length_digs, Nat.mod_pow_succ]; simp [num]
theorem num_get {B : Nat} (hB : 0 < B) : ∀ {l : List Nat}, (∀ x ∈ l, x < B) → ∀ i, num B l / B ^ i % B = l.getD i 0
  | [], _, i => by simp [num]
  | x :: r, h, 0 => by
    have h0 : x < B := h x (by simp)
    rw [num, Nat.pow_zero, Nat.div_one, Nat.add_mul_mod_self_left, Nat.mod_eq_of_lt h0]; rfl
  | x :: r, h, i + 1 => by
    have h0 : x < B := h x (by simp)
    have ih := num_get hB (l := r) (fun y hy => h y (by simp [hy])) i
    rw [num, Nat.pow_succ, Nat.mul_comm (B ^ i) B, ← Nat.div_div_eq_div_mul, Nat.add_mul_div_left _ _ hB, Nat.div_eq_of_lt h0, Nat.zero_add, ih]
    rfl
theorem digs_num {B : Nat} (hB : 0 < B) {l : List Nat} (h : ∀ x ∈ l, x < B) (k : Nat) : digs B (num B l) k = (List.range k).map fun i => l.getD i 0 := by
  unfold digs
  exact List.map_congr_left fun i _ => num_get hB h i
/-- The first digits are the list; behind them noughts. -/
theorem digs_take {B : Nat} (hB : 0 < B) {l : List Nat} (h : ∀ x ∈ l, x < B) (k : Nat) (hk : l.length ≤ k) : digs B (num B l) k = l ++ List.replicate (k - l.length) 0 := by
  rw [digs_num hB h]
  apply List.ext_getElem
  · simp; omega
  · intro i h1 h2
    simp at h1
    simp only [List.getElem_map, List.getElem_range]
    rw [List.getElem_append]
    split
    · rename_i hi; simp [List.getD_eq_getElem?_getD, hi]
    · rename_i hi; simp [List.getD_eq_getElem?_getD, hi]
theorem digs_append {B : Nat} (hB : 0 < B) {A C : Nat} {m : Nat} (hA : A < B ^ m) (k : Nat) : digs B (A + B ^ m * C) (m + k) = digs B A m ++ digs B C k := by
  apply List.ext_getElem
  · simp [length_digs]
  · intro i h1 h2
    rw [length_digs] at h1
    rw [List.getElem_append]
    split
    · rename_i hi
      rw [length_digs] at hi
      simp only [digs, List.getElem_map, List.getElem_range]
      obtain ⟨d, rfl⟩ : ∃ d, m = i + (d + 1) := ⟨m - i - 1, by omega⟩
      have e : A + B ^ (i + (d + 1)) * C = A + B ^ i * (B * (B ^ d * C)) := by rw [Nat.pow_add, Nat.pow_succ, Nat.mul_assoc, Nat.mul_comm (B ^ d) B, Nat.mul_assoc]
      rw [e, Nat.add_mul_div_left _ _ (Nat.pow_pos hB), Nat.add_mul_mod_self_left]
    · rename_i hi
      rw [length_digs] at hi
      simp only [digs, List.getElem_map, List.getElem_range]
      obtain ⟨d, rfl⟩ : ∃ d, i = m + d := ⟨i - m, by omega⟩
      rw [show List.length (List.map (fun j => A / B ^ j % B) (List.range m)) = m by simp, Nat.add_sub_cancel_left, Nat.pow_add, ← Nat.div_div_eq_div_mul, Nat.add_mul_div_left _ _ (Nat.pow_pos hB), Nat.div_eq_of_lt hA, Nat.zero_add]
/-- A bit of a digit is a bit of the number. -/
theorem bit_of_digit (x n k : Nat) (hk : k < n) : x % 2 ^ n / 2 ^ k % 2 = x / 2 ^ k % 2 := by
  obtain ⟨d, rfl⟩ : ∃ d, n = k + (d + 1) := ⟨n - k - 1, by omega⟩
  rw [Nat.pow_add, Nat.mod_mul_right_div_self, Nat.pow_succ, Nat.mod_mul_left_mod]
theorem bit_at (N n i k : Nat) (hk : k < n) : N / (2 ^ n) ^ i % 2 ^ n / 2 ^ k % 2 = N / 2 ^ (i * n + k) % 2 := by
  rw [bit_of_digit _ _ _ hk, Nat.div_div_eq_div_mul, ← Nat.pow_mul, ← Nat.pow_add, Nat.mul_comm n i]
/-- THE BYTES OF NUMBERS OF n BITS EACH; THE NUMBERS OF BYTES. -/
def packN (n : Nat) (l : List Nat) : List Nat := digs 256 (num (2 ^ n) l) ((l.length * n + 7) / 8)
def unpackN (n : Nat) (b : List Nat) : List Nat := digs (2 ^ n) (num 256 b) (b.length * 8 / n)
theorem two56 (k : Nat) : 256 ^ k = 2 ^ (8 * k) := by rw [Nat.pow_mul]
theorem num_pack {n : Nat} {l : List Nat} (h : ∀ x ∈ l, x < 2 ^ n) : num 256 (packN n l) = num (2 ^ n) l := by
  unfold packN
  rw [num_digs]
  apply Nat.mod_eq_of_lt
  refine Nat.lt_of_lt_of_le (num_lt h) ?_
  rw [two56, ← Nat.pow_mul]
  exact Nat.pow_le_pow_right (by omega) (by rw [Nat.mul_comm n]; omega)
/-- READ BACK: the numbers, and noughts behind them. -/
theorem unpack_pack {n : Nat} (hn : 0 < n) {l : List Nat} (h : ∀ x ∈ l, x < 2 ^ n) : ∃ z, unpackN n (packN n l) = l ++ List.replicate z 0 := by
  unfold unpackN
  rw [num_pack h]
  refine ⟨_, digs_take (Nat.pow_pos (by omega)) h _ ?_⟩
  rw [show (packN n l).length = (l.length * n + 7) / 8 from length_digs _ _ _, Nat.le_div_iff_mul_le hn]
  omega
/-- TWO LISTS, THE FIRST OF WHOLE BYTES. -/
theorem pack_join {n : Nat} {a b : List Nat} (ha : ∀ x ∈ a, x < 2 ^ n) (h8 : a.length * n % 8 = 0) : packN n (a ++ b) = packN n a ++ packN n b := by
  obtain ⟨m, hm⟩ : ∃ m, a.length * n = 8 * m := ⟨a.length * n / 8, by omega⟩
  have e1 : (a.length * n + 7) / 8 = m := by omega
  have e2 : ((a ++ b).length * n + 7) / 8 = m + (b.length * n + 7) / 8 := by rw [List.length_append, Nat.add_mul]; omega
  have e3 : (2 ^ n) ^ a.length = 256 ^ m := by rw [two56, ← Nat.pow_mul, Nat.mul_comm n, hm]
  unfold packN
  rw [e1, e2, num_append, e3]
  exact digs_append (by omega) (by rw [← e3]; exact num_lt ha) _
/-- Byte j of the first i bits. -/
def byteTo (N i j : Nat) : Nat := N % 2 ^ i / 256 ^ j % 256
theorem byteTo_zero (N j : Nat) : byteTo N 0 j = 0 := by simp [byteTo, Nat.mod_one]
theorem two_split (i : Nat) : 2 ^ i = 256 ^ (i / 8) * 2 ^ (i % 8) := by rw [two56, ← Nat.pow_add, Nat.div_add_mod]
theorem byteTo_here (N i : Nat) : byteTo N i (i / 8) < 2 ^ (i % 8) ∧ byteTo N (i + 1) (i / 8) = byteTo N i (i / 8) + N / 2 ^ i % 2 * 2 ^ (i % 8) := by
  have hX : N % 2 ^ i < 256 ^ (i / 8) * 2 ^ (i % 8) := by rw [← two_split]; exact Nat.mod_lt _ (Nat.pow_pos (by omega))
  have hd : N % 2 ^ i / 256 ^ (i / 8) < 2 ^ (i % 8) := Nat.div_lt_of_lt_mul hX
  have h8 : 2 * 2 ^ (i % 8) ≤ 256 := by
    have : 2 ^ (i % 8) ≤ 2 ^ 7 := Nat.pow_le_pow_right (by omega) (by omega)
    omega
  have hb : N / 2 ^ i % 2 < 2 := Nat.mod_lt _ (by omega)
  have e0 : byteTo N i (i / 8) = N % 2 ^ i / 256 ^ (i / 8) := Nat.mod_eq_of_lt (by omega)
  refine ⟨by rw [e0]; exact hd, ?_⟩
  rw [e0]
  unfold byteTo
  have e1 : N % 2 ^ (i + 1) = N % 2 ^ i + 256 ^ (i / 8) * (2 ^ (i % 8) * (N / 2 ^ i % 2)) := by rw [Nat.mod_pow_succ, ← Nat.mul_assoc, ← two_split]
  rw [e1, Nat.add_mul_div_left _ _ (Nat.pow_pos (by omega)), Nat.mul_comm (2 ^ (i % 8))]
  generalize N / 2 ^ i % 2 = c at hb ⊢
  have hc : c = 0 ∨ c = 1 := by omega
  apply Nat.mod_eq_of_lt
  rcases hc with rfl | rfl <;> omega
theorem byteTo_other (N i j : Nat) (hj : j ≠ i / 8) : byteTo N (i + 1) j = byteTo N i j := by
  unfold byteTo
  rw [Nat.mod_pow_succ]
  rcases Nat.lt_or_ge j (i / 8) with h | h
  · obtain ⟨d, hd⟩ : ∃ d, i / 8 = j + (d + 1) := ⟨i / 8 - j - 1, by omega⟩
    have e : N % 2 ^ i + 2 ^ i * (N / 2 ^ i % 2) = N % 2 ^ i + 256 ^ j * (256 * (256 ^ d * (2 ^ (i % 8) * (N / 2 ^ i % 2)))) := by
      have e2 : 2 ^ i * (N / 2 ^ i % 2) = 256 ^ (i / 8) * (2 ^ (i % 8) * (N / 2 ^ i % 2)) := by rw [← Nat.mul_assoc, ← two_split]
      rw [e2, hd, Nat.pow_add, Nat.pow_succ, Nat.mul_assoc, Nat.mul_comm (256 ^ d) 256, Nat.mul_assoc]
    rw [e, Nat.add_mul_div_left _ _ (Nat.pow_pos (by omega)), Nat.add_mul_mod_self_left]
  · have hle : 2 ^ (i + 1) ≤ 256 ^ j := by rw [two56]; exact Nat.pow_le_pow_right (by omega) (by omega)
    have h1 : N % 2 ^ i + 2 ^ i * (N / 2 ^ i % 2) < 256 ^ j := by rw [← Nat.mod_pow_succ]; exact Nat.lt_of_lt_of_le (Nat.mod_lt _ (Nat.pow_pos (by omega))) hle
    have h2 : N % 2 ^ i < 256 ^ j := by omega
    rw [Nat.div_eq_of_lt h1, Nat.div_eq_of_lt h2]
/-- All bits are in. -/
theorem byteTo_all {N i : Nat} (h : N < 2 ^ i) (j : Nat) : byteTo N i j = N / 256 ^ j % 256 := by unfold byteTo; rw [Nat.mod_eq_of_lt h]
/-- A number read from its highest bit down. -/
theorem read_down (M p t : Nat) : M / 2 ^ p % 2 ^ (t + 1) = 2 * (M / 2 ^ (p + 1) % 2 ^ t) + M / 2 ^ p % 2 := by
  rw [Nat.pow_succ, Nat.mul_comm (2 ^ t) 2, Nat.mod_mul, Nat.pow_succ, Nat.div_div_eq_div_mul]
  omega
theorem byte_bit (M i : Nat) : M / 256 ^ (i / 8) % 256 / 2 ^ (i % 8) % 2 = M / 2 ^ i % 2 := by
  have := bit_at M 8 (i / 8) (i % 8) (by omega)
  rw [Nat.mul_comm, Nat.div_add_mod] at this
  exact this
end Go.Proofs.Ythciafobknaipab
