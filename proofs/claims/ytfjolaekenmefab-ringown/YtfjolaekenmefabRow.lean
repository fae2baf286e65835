/-
  What the arguments' readings give the walks: a slice of numbers that came in holds numbers, and how many there can be.
-/
import Derived.Test.YtfjolaekenmefabTold
import Derived.ProofKit
import Derived.OpenShut
import Derived.ChangeOld
import Derived.Below
import Derived.SizedLaws
import Derived.Deep.DeepHandedRow
namespace Go.Proofs.Ytfjolaekenmefab
open Go.ChangeShapes Go.WideShapes Go.ChangeAt Go.RowKit
theorem own : ownKnob Try.prog.godebug = none := by kernel_rfl
theorem laidOut : laidOutB Try.prog = true := by kernel_rfl
/-- WHAT A READING OF A SLICE OF NUMBERS GIVES. -/
theorem ints_arg {H : Type} {enc : TypeId × Value → H} {W : World} {a : Option Addr} {len cap : Nat} {fuel : Nat} {d : DataW H} {pl : List MemPlace}
    (hf : DataW.trod enc Try.prog W 0 (fun _ => true) true fuel 22 (Value.slice a len cap).cells.toList = some (d, pl)) : ∃ l : List Int, len = l.length ∧ IntsAt W (.slice a l.length cap) l ∧ (l = [] ∨ ∃ e sp, d = .slice e sp ∧ l.length ≤ e.length + sp.length) := by
  rcases open_ints Try.underlying22 Try.underlying3 (by kernel_rfl) hf with ⟨hcs, _⟩ | ⟨y, l, c, zs, hcs, _, hl, hm, hz, hx, hcell, _⟩
  · simp [Value.cells] at hcs
    obtain ⟨rfl, rfl, rfl⟩ := hcs
    exact ⟨[], rfl, ints_nil _, Or.inl rfl⟩
  · simp [Value.cells] at hcs
    obtain ⟨rfl, rfl, rfl⟩ := hcs
    have hz' : zs.length = cap := by simpa using hz
    have hll : (zs.take len).length = len := by simp; omega
    refine ⟨zs.take len, hll.symm, ⟨some y, cap, rfl, by rw [hll]; exact hl, fun h => (by cases h), fun hne => ?_⟩, Or.inr ⟨_, _, (Prod.ext_iff.1 hx).1, by simp [lits]⟩⟩
    have hpos : 0 < len := by
      rcases Nat.eq_zero_or_pos len with h | h
      · subst h; simp at hne
      · exact h
    have c0 := hcell 0 (by omega)
    obtain ⟨b, o, s⟩ := y
    have hs : s = none := by
      cases s with
      | none => rfl
      | some k => simp [Addr.add, World.cell?] at c0; split at c0 <;> simp at c0
    subst hs
    refine ⟨b, o, rfl, fun j v hv => ?_⟩
    have hj : j < len := by
      have := (List.getElem?_eq_some_iff.1 hv).1
      rw [List.length_map, hll] at this; exact this
    have hc := hcell j (by omega)
    rw [Addr.add_mid] at hc
    rw [hc]
    rw [List.getElem?_map, List.getElem?_take, if_pos hj] at hv
    have hjz : j < zs.length := by omega
    rw [List.getElem?_eq_getElem hjz] at hv
    simp only [Option.map_some, Option.some.injEq] at hv
    rw [← hv]
    unfold nv
    rw [List.getD_eq_getElem?_getD, List.getElem?_eq_getElem hjz]
    rfl
/-- HOW MANY THERE CAN BE. -/
theorem ints_reach {H : Type} {ts : List TypeId} {ds : List (DataW H)} (h : (DataW.weightsEach Try.prog ts ds).all (· ≤ reachBytes) = true) {j : Nat} {d : DataW H} {l : List Int} (ht : ts[j]? = some 22) (hd : ds[j]? = some d) (hl : l = [] ∨ ∃ e sp, d = .slice e sp ∧ l.length ≤ e.length + sp.length) : l.length ≤ 4611686018427387904 := by
  rcases hl with rfl | ⟨e, sp, rfl, hle⟩
  · exact Nat.zero_le _
  · have hb : Try.prog.bytesOf 3 = 8 := by kernel_rfl
    have := sized_slice h ht hd Try.underlying22
    rw [hb] at this
    have hr := reachBytes_lt
    omega
end Go.Proofs.Ytfjolaekenmefab
