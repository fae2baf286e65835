/-
  What stands ready: the tables of the library. Digits of numbers.
-/
import Derived.Test.YtcofnockikninabGreatDoorN0
import Derived.Test.YtcofnockikninabGreatDoorKg
import Derived.Test.YtcofnockikninabGreatDoorShelf
import Derived.Lib.AppendIntMem
namespace Go.Proofs.YtcofnockikninabGreatDoor
open Go.RowKit
namespace N
open K
/-- The tables that the library's functions read. -/
structure Rdy (w : World) : Prop where
  tabs : Tabs w
  pow : Lib.TabIs Tryz.prog w "internal/strconv.uint64pow10" .u64 Lib.pow10Tab
  maxl : ∃ m, w.cell? ⟨2, 0, none⟩ = some (.int .i64 m)
theorem Rdy.below {a b : World} (h : Rdy a) (hb : Below a.heap.size a b) : Rdy b :=
  ⟨h.tabs.below hb, Lib.tabBelow_of_tabIs h.pow b hb, by
    obtain ⟨m, hm⟩ := h.maxl
    exact ⟨m, by rw [hb.cell (World.block_lt_of_cell? a _ hm)]; exact hm⟩⟩
theorem itoa_c (w : World) (hR : Rdy w) (n : Nat) (hn : n ≤ 9223372036854775807) : Calls Tryz.prog 23 #[.int .i64 (n : Int)] w fun e w' => e = .returned (.string (st (Lib.decDigits n))) ∧ Below w.heap.size w w' := by
  refine (Tryz.strconv_Itoa (n : Int) (by omega) (by omega) w hR.pow).mono ?_
  rintro e w' ⟨rfl, k, os, rfl⟩
  refine ⟨?_, ?_⟩
  · have : Lib.itoa (n : Int) = Lib.decDigits n := by unfold Lib.itoa; rw [if_neg (by omega), Int.toNat_natCast]
    rw [this]
  · exact Lib.below_grow _ w (Nat.le_refl _) k os
theorem itoa_small_c (w : World) (n : Nat) (hn : n < 100) : Calls Tryz.prog 23 #[.int .i64 (n : Int)] w fun e w' => e = .returned (.string (st (Lib.decDigits n))) ∧ w' = w := Tryz.strconv_Itoa_small n hn w
end N
end Go.Proofs.YtcofnockikninabGreatDoor
