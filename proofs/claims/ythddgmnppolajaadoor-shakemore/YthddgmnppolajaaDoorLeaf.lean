/-
  The walks of the leaves: a lane turned left; a row of five lanes.
-/
import Derived.Test.YthddgmnppolajaaDoorRows
import Derived.Test.YthddgmnppolajaaDoorNum
import Derived.WalkKit
import Derived.WalkSpells
import Derived.WalkLawsBesides
import Derived.Below
namespace Go.Proofs.YthddgmnppolajaaDoor
open Go.RowKit
theorem hide {p : Prop} (h : p) : Hid p := h
theorem unhide {p : Prop} (h : Hid p) : p := h
/-- A lane as a value. -/
def wv (x : UInt64) : Value := .int .u64 (lv x)
set_option maxHeartbeats 400000 in
theorem rotl_any (x : UInt64) (n : Nat) (h1 : 1 ≤ n) (h2 : n ≤ 63) (w : World) :
    Calls Tryd.prog 30 #[.int .u64 (lv x), .int .i64 (n : Int)] w fun e w' => e = .returned (.int .u64 (lv (rotl x n))) ∧ w' = w := by
  have hs : bits .and .u64 (n : Int) 63 = (n : Int) := by
    have := count_and63 n h2
    rwa [show IntKind.u64.wrap (n : Int) = (n : Int) from by rw [IntKind.wrap_u64]; omega] at this
  have hd : IntKind.u64.wrap (64 - (n : Int)) = ((64 - n : Nat) : Int) := by rw [IntKind.wrap_u64]; omega
  go_enter Tryd.func30, Tryd.ntmps30
  go_wp2
  go_ret
  exact ⟨congrArg (fun z => Ending.returned (.int .u64 z)) (rotl_form x n h1 h2), rfl⟩
set_option maxHeartbeats 400000 in
theorem left_any (x : UInt64) (n : Int) (h1 : 1 ≤ n) (h2 : n ≤ 63) (w : World) :
    Calls Tryd.prog 28 #[.int .u64 (lv x), .int .i64 n] w fun e w' => e = .returned (.int .u64 (lv (rotl x n.toNat))) ∧ w' = w := by
  obtain ⟨n, rfl⟩ := Int.eq_ofNat_of_zero_le (show 0 ≤ n by omega)
  rw [Int.toNat_natCast]
  go_enter Tryd.func28, Tryd.ntmps28
  go_wp2_with (go_at_call 30; refine (rotl_any x n (by omega) (by omega) _).mono ?_; rintro e w' ⟨rfl, rfl⟩)
  go_ret
  exact ⟨rfl, rfl⟩
theorem row_form (a b c : UInt64) : bits .xor .u64 (lv a) (bits .and .u64 (bits .xor .u64 IntKind.u64.max (lv b)) (lv c)) = lv (a ^^^ (~~~b &&& c)) := by
  rw [show IntKind.u64.max = 18446744073709551615 from rfl, lv_not, lv_and, lv_xor]
set_option maxHeartbeats 400000 in
theorem row_any (a b c d e : UInt64) (w : World) :
    Calls Tryd.prog 29 #[.int .u64 (lv a), .int .u64 (lv b), .int .u64 (lv c), .int .u64 (lv d), .int .u64 (lv e)] w fun r w' => r = .returned (.tuple #[.int .u64 (lv (a ^^^ (~~~b &&& c))), .int .u64 (lv (b ^^^ (~~~c &&& d))), .int .u64 (lv (c ^^^ (~~~d &&& e))), .int .u64 (lv (d ^^^ (~~~e &&& a))), .int .u64 (lv (e ^^^ (~~~a &&& b)))]) ∧ w' = w := by
  go_enter Tryd.func29, Tryd.ntmps29
  go_wp2
  all_goals
    simp only [row_form]
    exact bodyPost_ret (v := .tuple #[.int .u64 (lv (a ^^^ (~~~b &&& c))), .int .u64 (lv (b ^^^ (~~~c &&& d))), .int .u64 (lv (c ^^^ (~~~d &&& e))), .int .u64 (lv (d ^^^ (~~~e &&& a))), .int .u64 (lv (e ^^^ (~~~a &&& b)))]) (by simp [results, Tryd.results29, go_sem]) rfl ⟨rfl, rfl⟩
end Go.Proofs.YthddgmnppolajaaDoor
