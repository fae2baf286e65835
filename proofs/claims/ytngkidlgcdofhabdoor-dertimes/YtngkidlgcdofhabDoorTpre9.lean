/-
  What the walks of DerTimes share.
-/
import Derived.Test.YtngkidlgcdofhabDoorDtime9
import Derived.Test.YtngkidlgcdofhabDoorAnc9
import Derived.Test.YtngkidlgcdofhabDoorLeaf9
import Derived.Test.YtngkidlgcdofhabDoorJoin9
import Derived.Deep.RegionLaw
namespace Go.Proofs.YtngkidlgcdofhabDoor
open Go.RowKit
theorem tb_len_le (sh : Bool) (f : Nat → Nat) : ∀ i, (tb sh f i).length ≤ 4 * i
  | 0 => by simp [tb]
  | i + 1 => by
    have := tb_len_le sh f i
    simp only [tb, piece, List.length_append, List.length_cons, List.length_nil]
    split <;> simp only [List.length_cons, List.length_nil] <;> omega
theorem index_six (l0 l1 l2 l3 l4 l5 : Int) (w : World) :
    (Instr.index 33 (.agg #[.int .i64 l0, .int .i64 l1, .int .i64 l2, .int .i64 l3, .int .i64 l4, .int .i64 l5]) (.int .i64 0)).run Tryd.prog w = .ok (.int .i64 l0) w ∧
    (Instr.index 33 (.agg #[.int .i64 l0, .int .i64 l1, .int .i64 l2, .int .i64 l3, .int .i64 l4, .int .i64 l5]) (.int .i64 1)).run Tryd.prog w = .ok (.int .i64 l1) w ∧
    (Instr.index 33 (.agg #[.int .i64 l0, .int .i64 l1, .int .i64 l2, .int .i64 l3, .int .i64 l4, .int .i64 l5]) (.int .i64 2)).run Tryd.prog w = .ok (.int .i64 l2) w ∧
    (Instr.index 33 (.agg #[.int .i64 l0, .int .i64 l1, .int .i64 l2, .int .i64 l3, .int .i64 l4, .int .i64 l5]) (.int .i64 3)).run Tryd.prog w = .ok (.int .i64 l3) w ∧
    (Instr.index 33 (.agg #[.int .i64 l0, .int .i64 l1, .int .i64 l2, .int .i64 l3, .int .i64 l4, .int .i64 l5]) (.int .i64 4)).run Tryd.prog w = .ok (.int .i64 l4) w ∧
    (Instr.index 33 (.agg #[.int .i64 l0, .int .i64 l1, .int .i64 l2, .int .i64 l3, .int .i64 l4, .int .i64 l5]) (.int .i64 5)).run Tryd.prog w = .ok (.int .i64 l5) w := by
  refine ⟨?_, ?_, ?_, ?_, ?_, ?_⟩ <;> kernel_rfl
theorem dig_wrap {d : Nat} (h : d ≤ 9) : IntKind.u8.wrap (48 + (d : Int)) = ((48 + d : Nat) : Int) := by rw [IntKind.wrap_u8']; omega
theorem dig_int {d : Nat} (h : d ≤ 9) : ((dig d).toNat : Int) = ((48 + d : Nat) : Int) := by rw [dig_toNat h]
end Go.Proofs.YtngkidlgcdofhabDoor
