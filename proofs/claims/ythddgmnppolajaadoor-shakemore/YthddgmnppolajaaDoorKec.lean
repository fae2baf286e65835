/-
  Plain words on the permutation: lanes as UInt64, a round lane by lane, that unlike states stay unlike. No program is named here.
-/
import Derived.WalkKit
namespace Go.Proofs.YthddgmnppolajaaDoor
/-- A lane turned left by n bits. -/
def rotl (x : UInt64) (n : Nat) : UInt64 := x <<< UInt64.ofNat n ||| x >>> UInt64.ofNat (64 - n)
def rowOf (a b c d e : UInt64) : List UInt64 := [a ^^^ (~~~b &&& c), b ^^^ (~~~c &&& d), c ^^^ (~~~d &&& e), d ^^^ (~~~e &&& a), e ^^^ (~~~a &&& b)]
/-- The xor of the five lanes of x. -/
def colOf (s : List UInt64) (x : Nat) : UInt64 := s.getD x 0 ^^^ s.getD (x + 5) 0 ^^^ s.getD (x + 10) 0 ^^^ s.getD (x + 15) 0 ^^^ s.getD (x + 20) 0
def dOf (s : List UInt64) : Nat → UInt64
  | 0 => colOf s 4 ^^^ rotl (colOf s 1) 1
  | 1 => colOf s 0 ^^^ rotl (colOf s 2) 1
  | 2 => colOf s 1 ^^^ rotl (colOf s 3) 1
  | 3 => colOf s 2 ^^^ rotl (colOf s 4) 1
  | _ => colOf s 3 ^^^ rotl (colOf s 0) 1
/-- The lane i behind the round's first step. -/
def thOf (s : List UInt64) (i : Nat) : UInt64 := s.getD i 0 ^^^ dOf s (i % 5)
/-- The five rows behind the third step. -/
def row0 (s : List UInt64) : List UInt64 := rowOf (thOf s 0) (rotl (thOf s 6) 44) (rotl (thOf s 12) 43) (rotl (thOf s 18) 21) (rotl (thOf s 24) 14)
def row1 (s : List UInt64) : List UInt64 := rowOf (rotl (thOf s 3) 28) (rotl (thOf s 9) 20) (rotl (thOf s 10) 3) (rotl (thOf s 16) 45) (rotl (thOf s 22) 61)
def row2 (s : List UInt64) : List UInt64 := rowOf (rotl (thOf s 1) 1) (rotl (thOf s 7) 6) (rotl (thOf s 13) 25) (rotl (thOf s 19) 8) (rotl (thOf s 20) 18)
def row3 (s : List UInt64) : List UInt64 := rowOf (rotl (thOf s 4) 27) (rotl (thOf s 5) 36) (rotl (thOf s 11) 10) (rotl (thOf s 17) 15) (rotl (thOf s 23) 56)
def row4 (s : List UInt64) : List UInt64 := rowOf (rotl (thOf s 2) 62) (rotl (thOf s 8) 55) (rotl (thOf s 14) 39) (rotl (thOf s 15) 41) (rotl (thOf s 21) 2)
def chOf (s : List UInt64) : List UInt64 := row0 s ++ row1 s ++ row2 s ++ row3 s ++ row4 s
/-- A round. -/
def rndOf (s : List UInt64) (n : UInt64) : List UInt64 := (chOf s).set 0 ((chOf s).getD 0 0 ^^^ n)
/-- The rounds' numbers. -/
def nums : List UInt64 := [0x0000000000000001, 0x0000000000008082, 0x800000000000808a, 0x8000000080008000,
  0x000000000000808b, 0x0000000080000001, 0x8000000080008081, 0x8000000000008009,
  0x000000000000008a, 0x0000000000000088, 0x0000000080008009, 0x000000008000000a,
  0x000000008000808b, 0x800000000000008b, 0x8000000000008089, 0x8000000000008003,
  0x8000000000008002, 0x8000000000000080, 0x000000000000800a, 0x800000008000000a,
  0x8000000080008081, 0x8000000000008080, 0x0000000080000001, 0x8000000080008008]
/-- The permutation. -/
def permOf (s : List UInt64) : List UInt64 := nums.foldl rndOf s
theorem length_chOf (s : List UInt64) : (chOf s).length = 25 := rfl
theorem length_rndOf (s : List UInt64) (n : UInt64) : (rndOf s n).length = 25 := by rw [rndOf, List.length_set]; rfl
theorem length_roundsOf (l : List UInt64) (s : List UInt64) (h : s.length = 25) : (l.foldl rndOf s).length = 25 := by
  induction l generalizing s with
  | nil => exact h
  | cons n r ih => exact ih _ (length_rndOf s n)
theorem length_permOf (s : List UInt64) (h : s.length = 25) : (permOf s).length = 25 := length_roundsOf _ _ h
theorem bit_ext {x y : UInt64} (h : ∀ i, i < 64 → x.toBitVec.getLsbD i = y.toBitVec.getLsbD i) : x = y := by
  apply UInt64.toBitVec_inj.1
  exact BitVec.eq_of_getLsbD_eq h
theorem rotl_bits (x : UInt64) (n : Nat) (h1 : 1 ≤ n) (h2 : n ≤ 63) : (rotl x n).toBitVec = x.toBitVec.rotateLeft n := by
  unfold rotl
  rw [UInt64.toBitVec_or, UInt64.toBitVec_shiftLeft, UInt64.toBitVec_shiftRight, BitVec.rotateLeft_def]
  have e1 : (UInt64.ofNat n).toBitVec % 64 = BitVec.ofNat 64 n := by
    apply BitVec.eq_of_toNat_eq
    simp
    omega
  have e2 : (UInt64.ofNat (64 - n)).toBitVec % 64 = BitVec.ofNat 64 (64 - n) := by
    apply BitVec.eq_of_toNat_eq
    simp
    omega
  rw [e1, e2, BitVec.shiftLeft_eq', BitVec.ushiftRight_eq']
  simp only [BitVec.toNat_ofNat]
  rw [Nat.mod_eq_of_lt (show n < 2 ^ 64 by omega), Nat.mod_eq_of_lt (show 64 - n < 2 ^ 64 by omega), Nat.mod_eq_of_lt (show n < 64 by omega)]
theorem rotl_inj {x y : UInt64} (n : Nat) (h1 : 1 ≤ n) (h2 : n ≤ 63) (h : rotl x n = rotl y n) : x = y := by
  have h' := congrArg UInt64.toBitVec h
  rw [rotl_bits x n h1 h2, rotl_bits y n h1 h2] at h'
  apply UInt64.toBitVec_inj.1
  apply BitVec.eq_of_getLsbD_eq
  intro i hi
  have h4 := congrArg (fun v => BitVec.getLsbD v ((i + n) % 64)) h'
  simp only [BitVec.getLsbD_rotateLeft, Bool.cond_decide] at h4
  rw [Nat.mod_eq_of_lt (show n < 64 by omega)] at h4
  by_cases hlt : i + n < 64
  · rw [Nat.mod_eq_of_lt hlt, if_neg (by omega), if_neg (by omega), Nat.add_sub_cancel] at h4
    simpa [hlt] using h4
  · have e : (i + n) % 64 = i + n - 64 := by omega
    rw [e, if_pos (by omega), if_pos (by omega), show 64 - n + (i + n - 64) = i by omega] at h4
    exact h4
theorem rotl_xor (x y : UInt64) : rotl (x ^^^ y) 1 = rotl x 1 ^^^ rotl y 1 := by
  apply bit_ext
  intro i hi
  simp only [UInt64.toBitVec_xor, rotl_bits _ 1 (by omega) (by omega), BitVec.getLsbD_xor, BitVec.getLsbD_rotateLeft, Bool.cond_decide]
  split
  · rfl
  · simp [hi]
/-- Turned left by one bit so many times. -/
def turns (n : Nat) (x : UInt64) : UInt64 := n.repeat (fun y => rotl y 1) x
theorem turns_xor (n : Nat) (x y : UInt64) : turns n (x ^^^ y) = turns n x ^^^ turns n y := by
  induction n with
  | zero => rfl
  | succ n ih => show rotl (turns n (x ^^^ y)) 1 = rotl (turns n x) 1 ^^^ rotl (turns n y) 1; rw [ih, rotl_xor]
theorem turns_add (m n : Nat) (x : UInt64) : turns (n + m) x = turns n (turns m x) := by
  induction n with
  | zero => rw [Nat.zero_add]; rfl
  | succ n ih => rw [show n + 1 + m = (n + m) + 1 by omega]; show rotl (turns (n + m) x) 1 = rotl (turns n (turns m x)) 1; rw [ih]
theorem turns_bits (n : Nat) (x : UInt64) (i : Nat) (hi : i < 64) : (turns n x).toBitVec.getLsbD i = x.toBitVec.getLsbD ((i + 64 * n - n) % 64) := by
  induction n generalizing i with
  | zero => show x.toBitVec.getLsbD i = _; congr 1; omega
  | succ n ih =>
    show (rotl (turns n x) 1).toBitVec.getLsbD i = _
    rw [rotl_bits _ 1 (by omega) (by omega), BitVec.getLsbD_rotateLeft, Bool.cond_decide]
    split
    · rw [ih _ (by omega)]; congr 1; omega
    · rw [ih _ (by omega)]
      simp only [hi, decide_true, Bool.true_and]
      congr 1; omega
theorem turns_64 (x : UInt64) : turns 64 x = x := by
  apply bit_ext
  intro i hi
  rw [turns_bits 64 x i hi]; congr 1; omega
theorem xor_zero_iff {x y : UInt64} (h : x ^^^ y = 0) : x = y := by
  have : x ^^^ y ^^^ y = 0 ^^^ y := by rw [h]
  rwa [UInt64.xor_assoc, UInt64.xor_self, UInt64.xor_zero, UInt64.zero_xor] at this
theorem xor_left_comm' (a b c : UInt64) : a ^^^ (b ^^^ c) = b ^^^ (a ^^^ c) := by rw [← UInt64.xor_assoc, UInt64.xor_comm a b, UInt64.xor_assoc]
theorem xor_self_left' (a b : UInt64) : a ^^^ (a ^^^ b) = b := by rw [← UInt64.xor_assoc, UInt64.xor_self, UInt64.zero_xor]
theorem double (f : Nat → UInt64) (a b n : Nat) (h : ∀ x, f x = f (x + a) ^^^ turns n (f (x + b))) (x : Nat) : f x = f (x + (a + a)) ^^^ turns (n + n) (f (x + (b + b))) := by
  have e1 := h (x + a)
  have e2 := h (x + b)
  rw [h x, e1, e2, turns_xor, ← turns_add, UInt64.xor_assoc, ← UInt64.xor_assoc (turns n (f (x + a + b))), show x + b + a = x + a + b by omega, UInt64.xor_self, UInt64.zero_xor, Nat.add_assoc, Nat.add_assoc]
theorem col_zero (f : Nat → UInt64) (hp : ∀ x, f (x + 5) = f x) (h : ∀ x, f x = f (x + 4) ^^^ rotl (f (x + 1)) 1) (x : Nat) : f x = 0 := by
  have h1 : ∀ x, f x = f (x + 4) ^^^ turns 1 (f (x + 1)) := h
  have h2 := double f _ _ _ h1
  have h4 := double f _ _ _ h2
  have h8 := double f _ _ _ h4
  have h16 := double f _ _ _ h8
  have h32 := double f _ _ _ h16
  have h64 := double f _ _ _ h32
  have hk : ∀ k x, f (x + 5 * k) = f x := by
    intro k
    induction k with
    | zero => intro x; rfl
    | succ k ih => intro x; rw [show x + 5 * (k + 1) = x + 5 * k + 5 by omega, hp, ih]
  have g : ∀ x, f x = f (x + 1) ^^^ f (x + 4) := fun x => by
    have a := h64 x
    rw [show (4 + 4 + (4 + 4) + (4 + 4 + (4 + 4)) + (4 + 4 + (4 + 4) + (4 + 4 + (4 + 4))) + (4 + 4 + (4 + 4) + (4 + 4 + (4 + 4)) + (4 + 4 + (4 + 4) + (4 + 4 + (4 + 4)))) + (4 + 4 + (4 + 4) + (4 + 4 + (4 + 4)) + (4 + 4 + (4 + 4) + (4 + 4 + (4 + 4))) + (4 + 4 + (4 + 4) + (4 + 4 + (4 + 4)) + (4 + 4 + (4 + 4) + (4 + 4 + (4 + 4)))))) = 256 from rfl,
      show (1 + 1 + (1 + 1) + (1 + 1 + (1 + 1)) + (1 + 1 + (1 + 1) + (1 + 1 + (1 + 1))) + (1 + 1 + (1 + 1) + (1 + 1 + (1 + 1)) + (1 + 1 + (1 + 1) + (1 + 1 + (1 + 1)))) + (1 + 1 + (1 + 1) + (1 + 1 + (1 + 1)) + (1 + 1 + (1 + 1) + (1 + 1 + (1 + 1))) + (1 + 1 + (1 + 1) + (1 + 1 + (1 + 1)) + (1 + 1 + (1 + 1) + (1 + 1 + (1 + 1)))))) = 64 from rfl, turns_64] at a
    rw [show x + 256 = x + 1 + 5 * 51 by omega, hk, show x + 64 = x + 4 + 5 * 12 by omega, hk] at a
    exact a
  have k3 : ∀ x, f x = f (x + 3) := fun x => by
    have a := g x
    have b := g (x + 1)
    have c := g (x + 2)
    have d := g (x + 5)
    have e := g (x + 4)
    rw [show x + 1 + 1 = x + 2 from rfl, show x + 1 + 4 = x + 5 from rfl, hp] at b
    rw [show x + 2 + 1 = x + 3 from rfl, show x + 2 + 4 = x + 1 + 5 from rfl, hp] at c
    rw [show x + 4 + 1 = x + 5 from rfl, show x + 4 + 4 = x + 3 + 5 from rfl, hp, hp] at e
    -- x = 1 ^ 4, 4 = x ^ 3, so x = 1 ^ x ^ 3, so 1 = 3; 1 = 2 ^ x; 2 = 3 ^ 1 = 0
    have e13 : f (x + 1) = f (x + 3) := by
      rw [e, xor_left_comm'] at a
      apply xor_zero_iff
      have : f x ^^^ f x = f x ^^^ (f x ^^^ (f (x + 1) ^^^ f (x + 3))) := by rw [← a]
      rw [UInt64.xor_self, xor_self_left'] at this
      exact this.symm
    rw [← e13, UInt64.xor_self] at c
    rw [c, UInt64.zero_xor] at b
    rw [← b, e13]
  have k1 : ∀ x, f x = f (x + 1) := fun x => by rw [k3 x, k3 (x + 3), show x + 3 + 3 = x + 1 + 5 from rfl, hp]
  have a := g x
  rw [← k1 x, k3 (x + 4), show x + 4 + 3 = x + 2 + 5 from rfl, hp, ← k1 (x + 1), ← k1 x, UInt64.xor_self] at a
  exact a
/-- The columns of what stands behind the first step. -/
theorem five (a b c d e u : UInt64) : (a ^^^ u) ^^^ (b ^^^ u) ^^^ (c ^^^ u) ^^^ (d ^^^ u) ^^^ (e ^^^ u) = (a ^^^ b ^^^ c ^^^ d ^^^ e) ^^^ u := by
  apply bit_ext
  intro i hi
  simp only [UInt64.toBitVec_xor, BitVec.getLsbD_xor]
  generalize a.toBitVec.getLsbD i = a
  generalize b.toBitVec.getLsbD i = b
  generalize c.toBitVec.getLsbD i = c
  generalize d.toBitVec.getLsbD i = d
  generalize e.toBitVec.getLsbD i = e
  generalize u.toBitVec.getLsbD i = u
  revert a b c d e u
  decide
theorem col_th (s : List UInt64) (x : Nat) (hx : x < 5) : thOf s x ^^^ thOf s (x + 5) ^^^ thOf s (x + 10) ^^^ thOf s (x + 15) ^^^ thOf s (x + 20) = colOf s x ^^^ dOf s x := by
  unfold thOf colOf
  rw [show (x + 5) % 5 = x by omega, show (x + 10) % 5 = x by omega, show (x + 15) % 5 = x by omega, show (x + 20) % 5 = x by omega, show x % 5 = x by omega]
  exact five _ _ _ _ _ _
theorem dOf_form (s : List UInt64) (x : Nat) (hx : x < 5) : dOf s x = colOf s ((x + 4) % 5) ^^^ rotl (colOf s ((x + 1) % 5)) 1 := by
  match x, hx with
  | 0, _ => rfl
  | 1, _ => rfl
  | 2, _ => rfl
  | 3, _ => rfl
  | 4, _ => rfl
theorem six (a b c a' b' c' : UInt64) (h : a ^^^ (b ^^^ c) = a' ^^^ (b' ^^^ c')) : a ^^^ a' = (b ^^^ b') ^^^ (c ^^^ c') := by
  apply bit_ext
  intro i hi
  have h := congrArg (fun v => v.toBitVec.getLsbD i) h
  simp only [UInt64.toBitVec_xor, BitVec.getLsbD_xor] at h ⊢
  generalize a.toBitVec.getLsbD i = a at *
  generalize b.toBitVec.getLsbD i = b at *
  generalize c.toBitVec.getLsbD i = c at *
  generalize a'.toBitVec.getLsbD i = a' at *
  generalize b'.toBitVec.getLsbD i = b' at *
  generalize c'.toBitVec.getLsbD i = c' at *
  revert a b c a' b' c'
  decide
/-- The first step loses nothing. -/
theorem th_inj (s t : List UInt64) (h : ∀ i, i < 25 → thOf s i = thOf t i) (i : Nat) (hi : i < 25) : s.getD i 0 = t.getD i 0 := by
  have hc : ∀ x, x < 5 → colOf s x ^^^ dOf s x = colOf t x ^^^ dOf t x := fun x hx => by
    rw [← col_th s x hx, ← col_th t x hx, h x (by omega), h (x + 5) (by omega), h (x + 10) (by omega), h (x + 15) (by omega), h (x + 20) (by omega)]
  have hz : ∀ x, colOf s (x % 5) ^^^ colOf t (x % 5) = 0 := fun x => by
    refine col_zero (fun x => colOf s (x % 5) ^^^ colOf t (x % 5)) (fun x => by rw [show (x + 5) % 5 = x % 5 by omega]) (fun x => ?_) x
    have a := hc (x % 5) (by omega)
    rw [dOf_form s _ (by omega), dOf_form t _ (by omega), show (x % 5 + 4) % 5 = (x + 4) % 5 by omega, show (x % 5 + 1) % 5 = (x + 1) % 5 by omega] at a
    rw [rotl_xor]
    exact six _ _ _ _ _ _ a
  have hcol : ∀ x, x < 5 → colOf s x = colOf t x := fun x hx => by
    have := xor_zero_iff (hz x)
    rwa [show x % 5 = x by omega] at this
  have hd : dOf s (i % 5) = dOf t (i % 5) := by
    rw [dOf_form s _ (by omega), dOf_form t _ (by omega), hcol _ (by omega), hcol _ (by omega)]
  have a := h i hi
  unfold thOf at a
  rw [hd] at a
  have b := congrArg (fun v => v ^^^ dOf t (i % 5)) a
  rwa [UInt64.xor_assoc, UInt64.xor_self, UInt64.xor_zero, UInt64.xor_assoc, UInt64.xor_self, UInt64.xor_zero] at b
theorem row_bit (a b c d e a' b' c' d' e' : Bool) : (a ^^ (!b && c)) = (a' ^^ (!b' && c')) → (b ^^ (!c && d)) = (b' ^^ (!c' && d')) → (c ^^ (!d && e)) = (c' ^^ (!d' && e')) →
    (d ^^ (!e && a)) = (d' ^^ (!e' && a')) → (e ^^ (!a && b)) = (e' ^^ (!a' && b')) → a = a' ∧ b = b' ∧ c = c' ∧ d = d' ∧ e = e' := by
  revert a b c d e a' b' c' d' e'
  decide
/-- The third step loses nothing. -/
theorem row_inj {a b c d e a' b' c' d' e' : UInt64} (h : rowOf a b c d e = rowOf a' b' c' d' e') : a = a' ∧ b = b' ∧ c = c' ∧ d = d' ∧ e = e' := by
  unfold rowOf at h
  simp only [List.cons.injEq, and_true] at h
  obtain ⟨h1, h2, h3, h4, h5⟩ := h
  have key : ∀ i, i < 64 → a.toBitVec.getLsbD i = a'.toBitVec.getLsbD i ∧ b.toBitVec.getLsbD i = b'.toBitVec.getLsbD i ∧ c.toBitVec.getLsbD i = c'.toBitVec.getLsbD i ∧ d.toBitVec.getLsbD i = d'.toBitVec.getLsbD i ∧ e.toBitVec.getLsbD i = e'.toBitVec.getLsbD i := by
    intro i hi
    have k1 := congrArg (fun v => v.toBitVec.getLsbD i) h1
    have k2 := congrArg (fun v => v.toBitVec.getLsbD i) h2
    have k3 := congrArg (fun v => v.toBitVec.getLsbD i) h3
    have k4 := congrArg (fun v => v.toBitVec.getLsbD i) h4
    have k5 := congrArg (fun v => v.toBitVec.getLsbD i) h5
    simp only [UInt64.toBitVec_xor, UInt64.toBitVec_and, UInt64.toBitVec_not, BitVec.getLsbD_xor, BitVec.getLsbD_and, BitVec.getLsbD_not, hi, decide_true, Bool.true_and] at k1 k2 k3 k4 k5
    exact row_bit _ _ _ _ _ _ _ _ _ _ k1 k2 k3 k4 k5
  exact ⟨bit_ext fun i hi => (key i hi).1, bit_ext fun i hi => (key i hi).2.1, bit_ext fun i hi => (key i hi).2.2.1, bit_ext fun i hi => (key i hi).2.2.2.1, bit_ext fun i hi => (key i hi).2.2.2.2⟩
theorem len5 (a b c d e : UInt64) : (rowOf a b c d e).length = 5 := rfl
theorem len_row0 (s : List UInt64) : (row0 s).length = 5 := len5 _ _ _ _ _
theorem len_row1 (s : List UInt64) : (row1 s).length = 5 := len5 _ _ _ _ _
theorem len_row2 (s : List UInt64) : (row2 s).length = 5 := len5 _ _ _ _ _
theorem len_row3 (s : List UInt64) : (row3 s).length = 5 := len5 _ _ _ _ _
theorem ch_inj {s t : List UInt64} (h : chOf s = chOf t) (i : Nat) (hi : i < 25) : thOf s i = thOf t i := by
  unfold chOf at h
  have h4 := List.append_inj h (by simp only [List.length_append, len_row0, len_row1, len_row2, len_row3])
  have h3 := List.append_inj h4.1 (by simp only [List.length_append, len_row0, len_row1, len_row2])
  have h2 := List.append_inj h3.1 (by simp only [List.length_append, len_row0, len_row1])
  have h1 := List.append_inj h2.1 (by simp only [len_row0])
  obtain ⟨a0, a1, a2, a3, a4⟩ := row_inj h1.1
  obtain ⟨b0, b1, b2, b3, b4⟩ := row_inj h1.2
  obtain ⟨c0, c1, c2, c3, c4⟩ := row_inj h2.2
  obtain ⟨d0, d1, d2, d3, d4⟩ := row_inj h3.2
  obtain ⟨e0, e1, e2, e3, e4⟩ := row_inj h4.2
  have a1 := rotl_inj _ (by omega) (by omega) a1
  have a2 := rotl_inj _ (by omega) (by omega) a2
  have a3 := rotl_inj _ (by omega) (by omega) a3
  have a4 := rotl_inj _ (by omega) (by omega) a4
  have b0 := rotl_inj _ (by omega) (by omega) b0
  have b1 := rotl_inj _ (by omega) (by omega) b1
  have b2 := rotl_inj _ (by omega) (by omega) b2
  have b3 := rotl_inj _ (by omega) (by omega) b3
  have b4 := rotl_inj _ (by omega) (by omega) b4
  have c0 := rotl_inj _ (by omega) (by omega) c0
  have c1 := rotl_inj _ (by omega) (by omega) c1
  have c2 := rotl_inj _ (by omega) (by omega) c2
  have c3 := rotl_inj _ (by omega) (by omega) c3
  have c4 := rotl_inj _ (by omega) (by omega) c4
  have d0 := rotl_inj _ (by omega) (by omega) d0
  have d1 := rotl_inj _ (by omega) (by omega) d1
  have d2 := rotl_inj _ (by omega) (by omega) d2
  have d3 := rotl_inj _ (by omega) (by omega) d3
  have d4 := rotl_inj _ (by omega) (by omega) d4
  have e0 := rotl_inj _ (by omega) (by omega) e0
  have e1 := rotl_inj _ (by omega) (by omega) e1
  have e2 := rotl_inj _ (by omega) (by omega) e2
  have e3 := rotl_inj _ (by omega) (by omega) e3
  have e4 := rotl_inj _ (by omega) (by omega) e4
  match i, hi with
  | 0, _ => exact a0
  | 1, _ => exact c0
  | 2, _ => exact e0
  | 3, _ => exact b0
  | 4, _ => exact d0
  | 5, _ => exact d1
  | 6, _ => exact a1
  | 7, _ => exact c1
  | 8, _ => exact e1
  | 9, _ => exact b1
  | 10, _ => exact b2
  | 11, _ => exact d2
  | 12, _ => exact a2
  | 13, _ => exact c2
  | 14, _ => exact e2
  | 15, _ => exact e3
  | 16, _ => exact b3
  | 17, _ => exact d3
  | 18, _ => exact a3
  | 19, _ => exact c3
  | 20, _ => exact c4
  | 21, _ => exact e4
  | 22, _ => exact b4
  | 23, _ => exact d4
  | 24, _ => exact a4
  | n + 25, h => omega
theorem list_of_getD {s t : List UInt64} (hs : s.length = 25) (ht : t.length = 25) (h : ∀ i, i < 25 → s.getD i 0 = t.getD i 0) : s = t := by
  apply List.ext_getElem (by omega)
  intro i h1 h2
  have := h i (by omega)
  simpa [List.getD_eq_getElem?_getD, List.getElem?_eq_getElem h1, List.getElem?_eq_getElem h2] using this
theorem rnd_inj {s t : List UInt64} (hs : s.length = 25) (ht : t.length = 25) (n : UInt64) (h : rndOf s n = rndOf t n) : s = t := by
  refine list_of_getD hs ht (th_inj s t (ch_inj ?_))
  unfold rndOf at h
  have h0 : (chOf s).getD 0 0 ^^^ n = (chOf t).getD 0 0 ^^^ n := by
    have := congrArg (fun l => List.getD l 0 0) h
    simpa [chOf, row0, rowOf] using this
  have h1 : (chOf s).getD 0 0 = (chOf t).getD 0 0 := by
    have b := congrArg (fun v => v ^^^ n) h0
    rwa [UInt64.xor_assoc, UInt64.xor_self, UInt64.xor_zero, UInt64.xor_assoc, UInt64.xor_self, UInt64.xor_zero] at b
  refine list_of_getD (length_chOf s) (length_chOf t) fun i hi => ?_
  rcases Nat.eq_zero_or_pos i with rfl | hp
  · exact h1
  · have := congrArg (fun l => List.getD l i 0) h
    have key : ∀ (l : List UInt64) (v : UInt64), (l.set 0 v).getD i 0 = l.getD i 0 := fun l v => by
      rw [List.getD_eq_getElem?_getD, List.getD_eq_getElem?_getD, List.getElem?_set_ne (by omega)]
    rwa [key, key] at this
/-- Unlike states stay unlike. -/
theorem rounds_inj (l : List UInt64) {s t : List UInt64} (hs : s.length = 25) (ht : t.length = 25) (h : l.foldl rndOf s = l.foldl rndOf t) : s = t := by
  induction l generalizing s t with
  | nil => exact h
  | cons n r ih => exact rnd_inj hs ht n (ih (length_rndOf s n) (length_rndOf t n) h)
theorem perm_inj {s t : List UInt64} (hs : s.length = 25) (ht : t.length = 25) (h : permOf s = permOf t) : s = t := rounds_inj nums hs ht h
end Go.Proofs.YthddgmnppolajaaDoor
