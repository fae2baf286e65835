/-
  What a reading of a slice of bytes gives.
-/
import Derived.Test.YtcofnockikninabGreatDoorRow10
namespace Go.Proofs.YtcofnockikninabGreatDoor
open Go.ChangeShapes Go.WideShapes Go.ChangeAt Go.RowKit Go.Joins Go.Deep
theorem ib_ofInt (z : Int) (h : (Lit.int .u8 z).wf = true) : ((UInt8.ofNat z.toNat).toNat : Int) = z := by
  have hb := bounds_u8 h
  rw [UInt8.toNat_ofNat']
  omega
/-- WHAT A READING OF A SLICE OF BYTES GIVES. -/
theorem bytes_arg {H : Type} {enc : TypeId × Value → H} {W : World} {a : Option Addr} {len cap : Nat} {fuel : Nat} {x : DataW H × List MemPlace}
    (hf : DataW.trod enc Tryz.prog W 0 (fun _ => true) true fuel 22 (Value.slice a len cap).cells.toList = some x) : ∃ l : Bs, len = l.length ∧ (l.length : Int) ≤ 9223372036854775807 ∧ BytesAt W (.slice a l.length cap) l := by
  rcases open_ints Tryz.underlying22 Tryz.underlying5 (by kernel_rfl) hf with ⟨hcs, _⟩ | ⟨y, l, c, zs, hcs, _, hl, hm, hz, _, hcell, hwz⟩
  · simp [Value.cells] at hcs
    obtain ⟨rfl, rfl, rfl⟩ := hcs
    exact ⟨[], rfl, by decide, vals_nil _⟩
  · simp [Value.cells] at hcs
    obtain ⟨rfl, rfl, rfl⟩ := hcs
    have hz' : zs.length = cap := by simpa using hz
    have hll : ((zs.take len).map fun z => UInt8.ofNat z.toNat).length = len := by simp; omega
    have hlv : (((zs.take len).map fun z => UInt8.ofNat z.toNat).map bv).length = len := by rw [List.length_map, hll]
    refine ⟨(zs.take len).map fun z => UInt8.ofNat z.toNat, hll.symm, by rw [hll]; simp only [maxLen] at hm; omega, some y, cap, by rw [hlv, hll], by rw [hlv]; exact hl, fun h => (by cases h), fun hne => ?_⟩
    have hpos : 0 < len := by
      rcases Nat.eq_zero_or_pos len with h | h
      · subst h; simp at hne
      · exact h
    have c0 := hcell 0 (by omega)
    obtain ⟨b, o, s⟩ := y
    have hs : s = none := by
      cases s with
      | none => rfl
      | some k => simp [Addr.add, World.cell?] at c0; split at c0 <;> simp at c0
    subst hs
    refine ⟨b, o, rfl, fun j v hv => ?_⟩
    have hj : j < len := by
      have := (List.getElem?_eq_some_iff.1 hv).1
      rw [hlv] at this; exact this
    have hc := hcell j (by omega)
    rw [Addr.add_mid] at hc
    rw [hc]
    rw [List.getElem?_map, List.getElem?_map, List.getElem?_take, if_pos hj] at hv
    have hjz : j < zs.length := by omega
    rw [List.getElem?_eq_getElem hjz] at hv
    simp only [Option.map_some, Option.some.injEq] at hv
    rw [← hv]
    unfold bv
    rw [ib_ofInt _ (hwz _ (List.getElem_mem hjz)), List.getD_eq_getElem?_getD, List.getElem?_eq_getElem hjz]
    rfl
end Go.Proofs.YtcofnockikninabGreatDoor
