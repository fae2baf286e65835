/-
  Plain words on nets: the mask of so many bits; an address is within just if its first bits are the net's.
-/
import Derived.Test.YtcofnockikninabGreatDoorNr
namespace Go.Proofs.YtcofnockikninabGreatDoor
def mb (k : Nat) : Nat := 256 - 2 ^ (8 - k)
def maskL (n bits : Nat) : Bs := (List.range n).map fun i => UInt8.ofNat (mb (min 8 (bits - 8 * i)))
theorem maskL_len (n bits : Nat) : (maskL n bits).length = n := by simp [maskL]
theorem mb_lt (k : Nat) : mb k < 256 := by
  unfold mb
  have : 0 < 2 ^ (8 - k) := Nat.two_pow_pos _
  omega
theorem maskL_at {n bits i : Nat} (h : i < n) : ((maskL n bits).getD i 0).toNat = mb (min 8 (bits - 8 * i)) := by
  rw [List.getD_eq_getElem?_getD, List.getElem?_eq_getElem (by rw [maskL_len]; exact h), Option.getD_some]
  simp only [maskL, List.getElem_map, List.getElem_range, UInt8.toNat_ofNat']
  have := mb_lt (min 8 (bits - 8 * i))
  omega
theorem mb_or : ∀ r : Fin 8, mb r.val ||| 128 / 2 ^ r.val = mb (r.val + 1) := by decide +kernel
theorem maskL_step {n k : Nat} : (maskL n k).set (k / 8) (UInt8.ofNat (mb (k % 8 + 1))) = maskL n (k + 1) := by
  refine List.ext_getElem (by simp [maskL]) fun j h1 h2 => ?_
  rw [List.getElem_set]
  have hj : j < n := by rw [maskL_len] at h2; exact h2
  split
  · rename_i e
    subst e
    simp only [maskL, List.getElem_map, List.getElem_range]
    congr 2
    omega
  · rename_i e
    simp only [maskL, List.getElem_map, List.getElem_range]
    congr 2
    omega
theorem maskL_zero (n : Nat) : maskL n 0 = List.replicate n 0 := by
  refine List.ext_getElem (by simp [maskL]) fun j h1 h2 => ?_
  simp [maskL, mb]
theorem mb_bit : ∀ (k : Fin 9) (r : Fin 8), decide (mb k.val / 2 ^ (7 - r.val) % 2 = 1) = decide (r.val < k.val) := by decide +kernel
theorem maskL_bit {n bits i : Nat} (h : i < 8 * n) : bitAt (maskL n bits) i = decide (i < bits) := by
  unfold bitAt
  rw [maskL_at (by omega)]
  have := mb_bit ⟨min 8 (bits - 8 * (i / 8)), by omega⟩ ⟨i % 8, by omega⟩
  simp only at this
  rw [this, decide_eq_decide]
  omega
theorem maskL_mask (n bits : Nat) : maskP (maskL n bits) = true := by
  unfold maskP maskTo
  rw [maskL_len, List.all_eq_true]
  intro i hi
  have hi' : i < 8 * n := by simpa using hi
  rw [maskL_bit hi']
  by_cases h0 : i = 0
  · simp [h0]
  · rw [maskL_bit (by omega)]
    by_cases h1 : i < bits
    · simp [h1, show i - 1 < bits by omega]
    · simp [h1]
theorem and_mb : ∀ (k : Fin 9) (x : Fin 256), x.val &&& mb k.val = x.val / 2 ^ (8 - k.val) * 2 ^ (8 - k.val) := by decide +kernel
theorem div_bits (x y : Nat) : ∀ k, k ≤ 8 → (x / 2 ^ 8 = y / 2 ^ 8) → ((x / 2 ^ (8 - k) = y / 2 ^ (8 - k)) ↔ ∀ j, j < k → x / 2 ^ (7 - j) % 2 = y / 2 ^ (7 - j) % 2)
  | 0, _, h => ⟨fun _ j hj => by omega, fun _ => h⟩
  | k + 1, hk, h => by
    have ih := div_bits x y k (by omega) h
    have e : 8 - k = (7 - k) + 1 := by omega
    have e2 : 8 - (k + 1) = 7 - k := by omega
    rw [e, Nat.pow_succ] at ih
    rw [← Nat.div_div_eq_div_mul, ← Nat.div_div_eq_div_mul] at ih
    rw [e2]
    constructor
    · intro hx j hj
      by_cases ej : j = k
      · subst ej; rw [hx]
      · exact ih.1 (by rw [hx]) j (by omega)
    · intro hx
      have h1 := ih.2 (fun j hj => hx j (by omega))
      have h2 := hx k (by omega)
      omega
theorem byte_bits {x y k : Nat} (hx : x < 256) (hy : y < 256) (hk : k ≤ 8) : (x &&& mb k = y &&& mb k) ↔ ∀ j, j < k → x / 2 ^ (7 - j) % 2 = y / 2 ^ (7 - j) % 2 := by
  have a := and_mb ⟨k, by omega⟩ ⟨x, hx⟩
  have b := and_mb ⟨k, by omega⟩ ⟨y, hy⟩
  simp only at a b
  rw [a, b, ← div_bits x y k hk (by rw [Nat.div_eq_of_lt (by omega), Nat.div_eq_of_lt (by omega)])]
  constructor
  · intro h
    exact Nat.eq_of_mul_eq_mul_right (Nat.two_pow_pos _) h
  · intro h; rw [h]
def sameTo (a b : Bs) (k : Nat) : Bool := (List.range k).all fun i => bitAt a i == bitAt b i
theorem sameTo_succ (a b : Bs) (k : Nat) : sameTo a b (k + 1) = (sameTo a b k && (bitAt a k == bitAt b k)) := by
  unfold sameTo
  rw [List.range_succ, List.all_append]
  simp
theorem bit_eq (a b : Bs) (i : Nat) : (bitAt a i == bitAt b i) = true ↔ (a.getD (i / 8) 0).toNat / 2 ^ (7 - i % 8) % 2 = (b.getD (i / 8) 0).toNat / 2 ^ (7 - i % 8) % 2 := by
  unfold bitAt
  rw [beq_iff_eq, decide_eq_decide]
  omega
theorem nets_within {a b : Bs} {n bits : Nat} (ha : a.length = n) (hb : b.length = n) (hbits : bits ≤ 8 * n) : addrW a (b ++ maskL n bits) = sameTo a b bits := by
  have hl : (b ++ maskL n bits).length / 2 = n := by rw [List.length_append, hb, maskL_len]; omega
  unfold addrW
  rw [hl, decide_eq_true ha, Bool.true_and, Bool.eq_iff_iff]
  unfold addrTo sameTo
  rw [List.all_eq_true, List.all_eq_true]
  have hlow : ∀ i, i < n → (b ++ maskL n bits).getD i 0 = b.getD i 0 := fun i hi => by
    simp only [List.getD_eq_getElem?_getD]
    rw [List.getElem?_append_left (by omega)]
  have hhigh : ∀ i, i < n → ((b ++ maskL n bits).getD (n + i) 0).toNat = mb (min 8 (bits - 8 * i)) := fun i hi => by
    rw [← maskL_at hi]
    simp only [List.getD_eq_getElem?_getD]
    rw [List.getElem?_append_right (by omega), hb, Nat.add_sub_cancel_left]
  have key : ∀ i, i < n → ((decide ((a.getD i 0).toNat &&& ((b ++ maskL n bits).getD (n + i) 0).toNat = ((b ++ maskL n bits).getD i 0).toNat &&& ((b ++ maskL n bits).getD (n + i) 0).toNat)) = true ↔ ∀ j, j < min 8 (bits - 8 * i) → (a.getD i 0).toNat / 2 ^ (7 - j) % 2 = (b.getD i 0).toNat / 2 ^ (7 - j) % 2) := fun i hi => by
    rw [decide_eq_true_eq, hhigh i hi, hlow i hi]
    exact byte_bits (UInt8.toNat_lt _) (UInt8.toNat_lt _) (by omega)
  constructor
  · intro h i hi
    have hi' : i < bits := by simpa using hi
    have h1 := (key (i / 8) (by omega)).1 (h (i / 8) (by simp; omega)) (i % 8) (by omega)
    exact (bit_eq a b i).2 h1
  · intro h i hi
    have hi' : i < n := by simpa using hi
    refine (key i hi').2 fun j hj => ?_
    have h1 := (bit_eq a b (8 * i + j)).1 (h (8 * i + j) (by simp; omega))
    rw [show (8 * i + j) / 8 = i by omega, show (8 * i + j) % 8 = j by omega] at h1
    exact h1
theorem nets_ref1 {a : Bs} (h : a.length = 4 ∨ a.length = 16) (dn : List (Bs × Bs) → Told DV) : refG dn ⟨7, a, []⟩ false = false := by
  have h1 : formG ⟨7, a, []⟩ = true := by unfold formG; simp [kindP]
  have h2 : namedP ⟨7, a, []⟩ false = true := by unfold namedP; simp [addrP]; exact h
  unfold refG genV
  rw [h1, h2]
  simp [errOf]
theorem nets_ref2 {b : Bs} {n bits : Nat} (hb : b.length = n) (h : n = 4 ∨ n = 16) (dn : List (Bs × Bs) → Told DV) : refG dn ⟨7, b ++ maskL n bits, []⟩ true = false := by
  have h1 : formG ⟨7, b ++ maskL n bits, []⟩ = true := by unfold formG; simp [kindP]
  have hl : (b ++ maskL n bits).length = 2 * n := by rw [List.length_append, hb, maskL_len]; omega
  have h2 : namedP ⟨7, b ++ maskL n bits, []⟩ true = true := by
    unfold namedP
    simp only [show ¬ ((7 : Int) = 4) by decide, if_false, if_true]
    unfold addrP
    rw [if_neg (by simp), hl]
    have e : (b ++ maskL n bits).drop (2 * n / 2) = maskL n bits := by
      rw [show 2 * n / 2 = b.length by omega, List.drop_left]
    rw [e, maskL_mask]
    rcases h with rfl | rfl <;> rfl
  unfold refG genV
  rw [h1, h2]
  simp [errOf]
theorem nets_ref3 {a : Bs} (h : a.length = 4 ∨ a.length = 16) (dn : List (Bs × Bs) → Told DV) : refG dn ⟨7, a ++ [120], []⟩ false = true := by
  have h1 : formG ⟨7, a ++ [120], []⟩ = true := by unfold formG; simp [kindP]
  have h2 : namedP ⟨7, a ++ [120], []⟩ false = false := by unfold namedP; simp [addrP]; omega
  unfold refG genV
  rw [h1, h2]
  simp [errOf]
end Go.Proofs.YtcofnockikninabGreatDoor
