/-
  Plain arithmetic for the seat: lanes of 64 bits as UInt64, and what the model's operations on their numbers come to. No program is named here.
-/
import Derived.Test.YthddgmnppolajaaDoorSpg
namespace Go.Proofs.YthddgmnppolajaaDoor
/-- A lane's number. -/
def lv (x : UInt64) : Int := (x.toNat : Int)
/-- A byte's number. -/
def ib (c : UInt8) : Int := (c.toNat : Int)
theorem lv_nonneg (x : UInt64) : 0 ≤ lv x := by unfold lv; omega
theorem lv_lt (x : UInt64) : lv x < 18446744073709551616 := by unfold lv; have := x.toNat_lt; omega
theorem ib_nonneg (x : UInt8) : 0 ≤ ib x := by unfold ib; omega
theorem ib_lt (x : UInt8) : ib x < 256 := by unfold ib; have := x.toNat_lt; omega
theorem lv_inj {x y : UInt64} (h : lv x = lv y) : x = y := by
  unfold lv at h; exact UInt64.toNat_inj.1 (by omega)
theorem ib_inj {x y : UInt8} (h : ib x = ib y) : x = y := by
  unfold ib at h; exact UInt8.toNat_inj.1 (by omega)
theorem lv_xor (x y : UInt64) : bits .xor .u64 (lv x) (lv y) = lv (x ^^^ y) := by
  unfold lv; rw [bits_xor_u64_nat _ _ x.toNat_lt y.toNat_lt, UInt64.toNat_xor]
theorem lv_and (x y : UInt64) : bits .and .u64 (lv x) (lv y) = lv (x &&& y) := by
  unfold lv; rw [bits_and_u64_nat _ _ x.toNat_lt y.toNat_lt, UInt64.toNat_and]
theorem lv_or (x y : UInt64) : bits .or .u64 (lv x) (lv y) = lv (x ||| y) := by
  unfold lv; rw [bits_or_u64_nat _ _ x.toNat_lt y.toNat_lt, UInt64.toNat_or]
theorem lv_not (x : UInt64) : bits .xor .u64 18446744073709551615 (lv x) = lv (~~~x) := by
  have h : (18446744073709551615 : Int) = lv 18446744073709551615 := by decide
  rw [h, lv_xor]; congr 1
theorem shl_lane (x : UInt64) (m : Nat) (h : m < 64) : IntKind.u64.wrap (lv x * 2 ^ m) = lv (x <<< UInt64.ofNat m) := by
  unfold lv
  rw [IntKind.wrap_u64, UInt64.toNat_shiftLeft, UInt64.toNat_ofNat_of_lt' (by show m < 18446744073709551616; omega), Nat.mod_eq_of_lt h, Nat.shiftLeft_eq]
  rw [show ((2 : Int) ^ m) = ((2 ^ m : Nat) : Int) from by simp]
  omega
theorem shr_lane (x : UInt64) (m : Nat) (h : m < 64) : (lv x).fdiv (2 ^ m) = lv (x >>> UInt64.ofNat m) := by
  unfold lv
  rw [UInt64.toNat_shiftRight, UInt64.toNat_ofNat_of_lt' (by show m < 18446744073709551616; omega), Nat.mod_eq_of_lt h, Nat.shiftRight_eq_div_pow]
  rw [show ((2 : Int) ^ m) = ((2 ^ m : Nat) : Int) from by simp, Int.fdiv_eq_ediv_of_nonneg _ (Int.natCast_nonneg _)]
  rfl
theorem rotl_form (x : UInt64) (n : Nat) (h1 : 1 ≤ n) (h2 : n ≤ 63) : bits .or .u64 (lv x * 2 ^ n % 18446744073709551616) (lv x / 2 ^ (64 - n)) = lv (rotl x n) := by
  have hl := shl_lane x n (by omega)
  have hr := shr_lane x (64 - n) (by omega)
  rw [IntKind.wrap_u64] at hl
  rw [show ((2 : Int) ^ (64 - n)) = ((2 ^ (64 - n) : Nat) : Int) from by simp, Int.fdiv_eq_ediv_of_nonneg _ (Int.natCast_nonneg _)] at hr
  rw [hl, show ((2 : Int) ^ (64 - n)) = ((2 ^ (64 - n) : Nat) : Int) from by simp, hr, lv_or]
  rfl
theorem count_and63 (n : Nat) (h2 : n ≤ 63) : bits .and .u64 (IntKind.u64.wrap (n : Int)) 63 = (n : Int) := by
  have e : IntKind.u64.wrap (n : Int) = (n : Int) := by rw [IntKind.wrap_u64]; omega
  have h63 : (63 : Int) = ((63 : Nat) : Int) := rfl
  rw [e, h63, bits_and_u64_nat _ _ (by omega) (by omega), show (63 : Nat) = 2 ^ 6 - 1 from rfl, Nat.and_two_pow_sub_one_eq_mod]
  omega
theorem rotl_zero (x : UInt64) : rotl x 0 = x := by
  unfold rotl
  apply UInt64.toNat_inj.1
  simp
theorem run_shl_lane (P : Program) (w : World) (x : UInt64) (m : Nat) (h : m < 64) (k : IntKind) :
    (Op.shift .shl .u64 (lv x) k (m : Int)).run P w = .ok (.int .u64 (lv (x <<< UInt64.ofNat m))) w := by
  unfold Op.shift
  rw [if_neg (by omega), ← shl_lane x m h]
  have : min m IntKind.u64.bits = m := by simp [IntKind.bits]; omega
  simp [this]
theorem run_shr_lane (P : Program) (w : World) (x : UInt64) (m : Nat) (h : m < 64) (k : IntKind) :
    (Op.shift .shr .u64 (lv x) k (m : Int)).run P w = .ok (.int .u64 (lv (x >>> UInt64.ofNat m))) w := by
  unfold Op.shift
  rw [if_neg (by omega), ← shr_lane x m h]
  have : min m IntKind.u64.bits = m := by simp [IntKind.bits]; omega
  simp [this]
theorem lane_byte (x : UInt64) : lv x % 256 = ib x.toUInt8 := by
  unfold lv ib
  rw [UInt64.toNat_toUInt8]
  rfl
theorem byte_lane (c : UInt8) : lv c.toUInt64 = ib c := by
  unfold lv ib
  rw [UInt8.toNat_toUInt64]
end Go.Proofs.YthddgmnppolajaaDoor
