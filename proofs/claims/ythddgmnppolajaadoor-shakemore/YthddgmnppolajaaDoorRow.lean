/-
  What the rows' lists and the arguments' readings give the walks: the table in its block; a slice of bytes that came in holds bytes; a world for the witness.
-/
import Derived.Test.YthddgmnppolajaaDoorMore
import Derived.Test.YthddgmnppolajaaDoorCards
import Derived.Test.YthddgmnppolajaaDoorTie
import Derived.ProofKit
import Derived.OpenShut
import Derived.ShutString
import Derived.ChangeOld
import Derived.Below
import Derived.Deep.DeepHandedRow
import Derived.Lib.LaidTab
import Derived.Stop.LaidErr
namespace Go.Proofs.YthddgmnppolajaaDoor
open Go.ChangeShapes Go.WideShapes Go.ChangeAt Go.RowKit
theorem own : ownKnob Tryd.prog.godebug = none := by kernel_rfl
theorem laidOut : laidOutB Tryd.prog = true := by kernel_rfl
theorem gNums : Tryd.prog.globalNamed "chancery/shake.numbers" = some 0 := by kernel_rfl
theorem gNumsType : (Tryd.prog.globals[0]?).map (·.type) = some 31 := by kernel_rfl
theorem cells27 : Tryd.prog.cellsOf 27 = 1 := by kernel_rfl
theorem cells31 : Tryd.prog.cellsOf 31 = 24 := by kernel_rfl
theorem nums_data {H : Type} : (Rows.laid_chancery_shake_numbers : DataW H) = Lib.tabData .u64 (nums.map lv) := rfl
theorem var_block {W : World} {name : String} {g : Nat} {cs : Array Value} (hg : Tryd.prog.globalNamed name = some g) (h : W.var? Tryd.prog name = some cs) : ∃ t fr, W.heap[g]? = some (.cells cs t fr) := by
  unfold World.var? at h
  rw [hg] at h
  simp only [Option.bind_some] at h
  split at h
  · rename_i c t fr hb
    cases h
    exact ⟨t, fr, hb⟩
  · cases h
/-- WHAT A ROW's LIST GIVES: the table. -/
theorem num_of_laid {W : World} (h : laidMetH Tryd.prog [("chancery/shake.numbers", Rows.laid_chancery_shake_numbers)] W) : NumAt W := by
  rw [MakeChecks.laidMetH_plain _ _ _ (by kernel_rfl)] at h
  have a := Lib.tabIs_of_head (zs := nums.map lv) gNums gNumsType Tryd.underlying31 Tryd.underlying27 cells27 cells31 h
  obtain ⟨t, fr, ha⟩ := var_block gNums a
  rw [List.map_map] at ha
  exact ⟨t, fr, ha⟩
theorem ib_ofInt (z : Int) (h : (Lit.int .u8 z).wf = true) : ib (UInt8.ofNat z.toNat) = z := by
  have hb := bounds_u8 h
  unfold ib
  rw [UInt8.toNat_ofNat']
  omega
/-- WHAT A READING OF A SLICE OF BYTES GIVES. -/
theorem bytes_arg {H : Type} {enc : TypeId × Value → H} {W : World} {a : Option Addr} {len cap : Nat} {fuel : Nat} {x : DataW H × List MemPlace}
    (hf : DataW.trod enc Tryd.prog W 0 (fun _ => true) true fuel 22 (Value.slice a len cap).cells.toList = some x) : ∃ l : List UInt8, len = l.length ∧ l.length ≤ maxLen ∧ BytesAt W (.slice a l.length cap) l := by
  rcases open_ints Tryd.underlying22 Tryd.underlying5 (by kernel_rfl) hf with ⟨hcs, _⟩ | ⟨y, l, c, zs, hcs, _, hl, hm, hz, _, hcell, hwz⟩
  · simp [Value.cells] at hcs
    obtain ⟨rfl, rfl, rfl⟩ := hcs
    exact ⟨[], rfl, Nat.zero_le _, none, 0, rfl, Nat.le_refl _, fun _ => rfl, fun h => absurd rfl h⟩
  · simp [Value.cells] at hcs
    obtain ⟨rfl, rfl, rfl⟩ := hcs
    have hz' : zs.length = cap := by simpa using hz
    have hll : ((zs.take len).map fun z => UInt8.ofNat z.toNat).length = len := by simp; omega
    refine ⟨(zs.take len).map fun z => UInt8.ofNat z.toNat, hll.symm, by rw [hll]; omega, some y, cap, rfl, by rw [hll]; exact hl, fun h => (by cases h), fun hne => ?_⟩
    have hpos : 0 < len := by
      rcases Nat.eq_zero_or_pos len with h | h
      · subst h; simp at hne
      · exact h
    have c0 := hcell 0 (by omega)
    obtain ⟨b, o, s⟩ := y
    have hs : s = none := by
      cases s with
      | none => rfl
      | some k => simp [Addr.add, World.cell?] at c0; split at c0 <;> simp at c0
    subst hs
    refine ⟨b, o, rfl, fun j v hv => ?_⟩
    have hj : j < len := by
      have := (List.getElem?_eq_some_iff.1 hv).1
      rw [List.length_map, hll] at this; exact this
    have hc := hcell j (by omega)
    rw [Addr.add_mid] at hc
    rw [hc]
    rw [List.getElem?_map, List.getElem?_map, List.getElem?_take, if_pos hj] at hv
    have hjz : j < zs.length := by omega
    rw [List.getElem?_eq_getElem hjz] at hv
    simp only [Option.map_some, Option.some.injEq] at hv
    rw [← hv]
    unfold bv
    rw [ib_ofInt _ (hwz _ (List.getElem_mem hjz)), List.getD_eq_getElem?_getD, List.getElem?_eq_getElem hjz]
    rfl
/-- A world for a witness: the table as its initialiser lays it. -/
def withTabs (w : World) : World :=
  { w with heap := w.heap.modify 0 fun
      | .cells _ t frozen => .cells (nums.map wv).toArray t frozen
      | o => o }
end Go.Proofs.YthddgmnppolajaaDoor
