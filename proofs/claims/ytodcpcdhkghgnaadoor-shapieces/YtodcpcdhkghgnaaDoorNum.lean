/-
  Plain arithmetic for the seat: words of 32 bits as UInt32, and what the model's operations on their numbers come to. No program is named here.
-/
import Derived.WalkKit
namespace Go.Proofs.YtodcpcdhkghgnaaDoor
/-- A word's number. -/
def iv (x : UInt32) : Int := (x.toNat : Int)
/-- A byte's number. -/
def ib (c : UInt8) : Int := (c.toNat : Int)
theorem iv_nonneg (x : UInt32) : 0 ≤ iv x := by unfold iv; omega
theorem iv_lt (x : UInt32) : iv x < 4294967296 := by unfold iv; have := x.toNat_lt; omega
theorem ib_nonneg (x : UInt8) : 0 ≤ ib x := by unfold ib; omega
theorem ib_lt (x : UInt8) : ib x < 256 := by unfold ib; have := x.toNat_lt; omega
theorem iv_inj {x y : UInt32} (h : iv x = iv y) : x = y := by
  unfold iv at h; exact UInt32.toNat_inj.1 (by omega)
theorem ib_inj {x y : UInt8} (h : ib x = ib y) : x = y := by
  unfold ib at h; exact UInt8.toNat_inj.1 (by omega)
theorem iv_add (x y : UInt32) : IntKind.u32.wrap (iv x + iv y) = iv (x + y) := by
  unfold iv; rw [IntKind.wrap_u32', UInt32.toNat_add]; omega
theorem iv_xor (x y : UInt32) : bits .xor .u32 (iv x) (iv y) = iv (x ^^^ y) := by
  unfold iv; rw [u32_xor_nat _ _ x.toNat_lt y.toNat_lt, UInt32.toNat_xor]
theorem iv_and (x y : UInt32) : bits .and .u32 (iv x) (iv y) = iv (x &&& y) := by
  unfold iv; rw [u32_and_nat _ _ x.toNat_lt y.toNat_lt, UInt32.toNat_and]
theorem iv_or (x y : UInt32) : bits .or .u32 (iv x) (iv y) = iv (x ||| y) := by
  unfold iv; rw [u32_or_nat _ _ x.toNat_lt y.toNat_lt, UInt32.toNat_or]
theorem iv_not (x : UInt32) : bits .xor .u32 4294967295 (iv x) = iv (~~~x) := by
  have h : (4294967295 : Int) = iv 4294967295 := by decide
  rw [h, iv_xor]; congr 1
/-- Turned right by n bits. -/
def rotr (x : UInt32) (n : Nat) : UInt32 := x >>> UInt32.ofNat n ||| x <<< UInt32.ofNat (32 - n)
theorem shl_word (x : UInt32) (m : Nat) (h : m < 32) : IntKind.u32.wrap (iv x * 2 ^ m) = iv (x <<< UInt32.ofNat m) := by
  unfold iv
  rw [IntKind.wrap_u32', UInt32.toNat_shiftLeft, UInt32.toNat_ofNat_of_lt' (by show m < 4294967296; omega), Nat.mod_eq_of_lt h, Nat.shiftLeft_eq]
  rw [show ((2 : Int) ^ m) = ((2 ^ m : Nat) : Int) from by simp]
  omega
theorem shr_word (x : UInt32) (m : Nat) (h : m < 32) : (iv x).fdiv (2 ^ m) = iv (x >>> UInt32.ofNat m) := by
  unfold iv
  rw [UInt32.toNat_shiftRight, UInt32.toNat_ofNat_of_lt' (by show m < 4294967296; omega), Nat.mod_eq_of_lt h, Nat.shiftRight_eq_div_pow]
  rw [show ((2 : Int) ^ m) = ((2 ^ m : Nat) : Int) from by simp, Int.fdiv_eq_ediv_of_nonneg _ (Int.natCast_nonneg _)]
  rfl
theorem run_shl_word (P : Program) (w : World) (x : UInt32) (m : Nat) (h : m < 32) (k : IntKind) :
    (Op.shift .shl .u32 (iv x) k (m : Int)).run P w = .ok (.int .u32 (iv (x <<< UInt32.ofNat m))) w := by
  unfold Op.shift
  rw [if_neg (by omega), ← shl_word x m h]
  have : min m IntKind.u32.bits = m := by simp [IntKind.bits]; omega
  simp [this]
theorem run_shr_word (P : Program) (w : World) (x : UInt32) (m : Nat) (h : m < 32) (k : IntKind) :
    (Op.shift .shr .u32 (iv x) k (m : Int)).run P w = .ok (.int .u32 (iv (x >>> UInt32.ofNat m))) w := by
  unfold Op.shift
  rw [if_neg (by omega), ← shr_word x m h]
  have : min m IntKind.u32.bits = m := by simp [IntKind.bits]; omega
  simp [this]
theorem rot_form (x : UInt32) (n : Nat) (h1 : 1 ≤ n) (h2 : n ≤ 31) : bits .or .u32 (iv x * 2 ^ (32 - n) % 4294967296) (iv x / 2 ^ n) = iv (rotr x n) := by
  have hl := shl_word x (32 - n) (by omega)
  have hr := shr_word x n (by omega)
  rw [IntKind.wrap_u32'] at hl
  rw [show ((2 : Int) ^ n) = ((2 ^ n : Nat) : Int) from by simp, Int.fdiv_eq_ediv_of_nonneg _ (Int.natCast_nonneg _)] at hr
  rw [hl, show ((2 : Int) ^ n) = ((2 ^ n : Nat) : Int) from by simp, hr, iv_or]
  unfold rotr; rw [UInt32.or_comm]
theorem count_and31 (n : Nat) (h1 : 1 ≤ n) (h2 : n ≤ 31) : bits .and .u64 (IntKind.u64.wrap (-(n : Int))) 31 = ((32 - n : Nat) : Int) := by
  have e : IntKind.u64.wrap (-(n : Int)) = ((18446744073709551616 - n : Nat) : Int) := by
    rw [IntKind.wrap_u64]; omega
  have h31 : (31 : Int) = ((31 : Nat) : Int) := rfl
  rw [e, h31, bits_and_u64_nat _ _ (by omega) (by omega), nat_mask5]
  omega
end Go.Proofs.YtodcpcdhkghgnaaDoor
