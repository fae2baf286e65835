/-
  The walk of the reference's head: a value's tag and a length, in bytes.
-/
import Derived.Test.YtngkidlgcdofhaaDoorTold9
import Derived.Test.YtngkidlgcdofhaaDoorJoin9
import Derived.Test.YtngkidlgcdofhaaDoorNum9
import Derived.Test.YtngkidlgcdofhaaDoorRightA
namespace Go.Proofs.YtngkidlgcdofhaaDoor
open Go.RowKit
/-- One byte, just laid. -/
theorem one_new (w : World) (β : UInt8) {z : Nat} (h : β.toNat = z) : BytesAt (w.alloc (.cells #[.int .u8 (z : Int)] 5)) (.slice (some ⟨w.heap.size, 0, none⟩) 1 1) [β] := by
  have := bytes_new w [β]
  simp only [List.map_cons, List.map_nil, bv, h, List.length_cons, List.length_nil] at this
  exact this
theorem byte_of {z : Nat} (h : z < 256) : (UInt8.ofNat z).toNat = z := by rw [UInt8.toNat_ofNat']; omega
theorem wrap_of {z : Nat} (h : z < 256) : IntKind.u8.wrap (z : Int) = (z : Int) := by rw [IntKind.wrap_u8']; omega
theorem lowB_step (k n : Nat) (h : n ≠ 0) : lowB (k + 1) n = UInt8.ofNat n :: lowB k (n / 256) := by show (if n = 0 then _ else _) = _; rw [if_neg h]
theorem lowB_nought (k : Nat) : lowB k 0 = [] := by cases k <;> rfl
theorem rev_take {l : Bs} {k j : Nat} (h : j + k + 1 = l.length) : l.reverse.take (k + 1) = l.reverse.take k ++ [l.getD j 0] := by
  have hk : k < l.reverse.length := by rw [List.length_reverse]; omega
  rw [List.take_add_one, List.getElem?_eq_getElem hk, List.getElem_reverse, List.getD_eq_getElem?_getD, List.getElem?_eq_getElem (by omega : j < l.length)]
  simp only [Option.toList_some, Option.getD_some]
  congr 3
  omega
theorem lowB_len (k : Nat) : ∀ n, (lowB k n).length ≤ k := by
  induction k with
  | zero => intro n; simp [lowB]
  | succ k ih =>
    intro n
    by_cases h : n = 0
    · subst h; rw [lowB_nought]; simp
    · rw [lowB_step k n h, List.length_cons]
      have := ih (n / 256)
      omega
end Go.Proofs.YtngkidlgcdofhaaDoor
