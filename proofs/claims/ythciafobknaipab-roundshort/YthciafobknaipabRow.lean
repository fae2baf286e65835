/-
  What the arguments' readings give the walks: a slice of numbers or of bytes that came in holds such.
-/
import Derived.Test.YthciafobknaipabTold
import Derived.Test.YthciafobknaipabRows
import Derived.ProofKit
import Derived.OpenShut
import Derived.ChangeOld
import Derived.ChangeArms
import Derived.Below
import Derived.SizedLaws
import Derived.Deep.DeepHandedRow
namespace Go.Proofs.Ythciafobknaipab
open Go.ChangeShapes Go.WideShapes Go.ChangeAt Go.RowKit
theorem own : ownKnob Try.prog.godebug = none := by kernel_rfl
theorem laidOut : laidOutB Try.prog = true := by kernel_rfl
/-- WHAT A READING OF A SLICE OF NUMBERS GIVES. -/
theorem ints_arg {H : Type} {enc : TypeId × Value → H} {W : World} {a : Option Addr} {len cap : Nat} {fuel : Nat} {d : DataW H} {pl : List MemPlace}
    (hf : DataW.trod enc Try.prog W 0 (fun _ => true) true fuel 22 (Value.slice a len cap).cells.toList = some (d, pl)) : ∃ l : List Int, len = l.length ∧ ValsAt W (.slice a l.length cap) (ivals l) ∧ (l = [] ∨ ∃ e sp, d = .slice e sp ∧ l.length ≤ e.length + sp.length) := by
  rcases open_ints Try.underlying22 Try.underlying3 (by kernel_rfl) hf with ⟨hcs, _⟩ | ⟨y, l, c, zs, hcs, _, hl, hm, hz, hx, hcell, _⟩
  · simp [Value.cells] at hcs
    obtain ⟨rfl, rfl, rfl⟩ := hcs
    exact ⟨[], rfl, vals_nil _, Or.inl rfl⟩
  · simp [Value.cells] at hcs
    obtain ⟨rfl, rfl, rfl⟩ := hcs
    have hz' : zs.length = cap := by simpa using hz
    have hll : (zs.take len).length = len := by simp; omega
    have hlv : (ivals (zs.take len)).length = len := by simp [ivals]; omega
    refine ⟨zs.take len, hll.symm, ⟨some y, cap, by rw [hlv, hll], by rw [hlv]; exact hl, fun h => (by cases h), fun hne => ?_⟩, Or.inr ⟨_, _, (Prod.ext_iff.1 hx).1, by simp [lits]⟩⟩
    have hpos : 0 < len := by
      rcases Nat.eq_zero_or_pos len with h | h
      · subst h; simp [ivals] at hne
      · exact h
    have c0 := hcell 0 (by omega)
    obtain ⟨b, o, s⟩ := y
    have hs : s = none := by
      cases s with
      | none => rfl
      | some k => simp [Addr.add, World.cell?] at c0; split at c0 <;> simp at c0
    subst hs
    refine ⟨b, o, rfl, fun j v hv => ?_⟩
    have hj : j < len := by
      have := (List.getElem?_eq_some_iff.1 hv).1
      rw [hlv] at this; exact this
    have hc := hcell j (by omega)
    rw [Addr.add_mid] at hc
    rw [hc]
    unfold ivals at hv
    rw [List.getElem?_map, List.getElem?_take, if_pos hj] at hv
    have hjz : j < zs.length := by omega
    rw [List.getElem?_eq_getElem hjz] at hv
    simp only [Option.map_some, Option.some.injEq] at hv
    rw [← hv]
    rw [List.getD_eq_getElem?_getD, List.getElem?_eq_getElem hjz]
    rfl
/-- WHAT A READING OF A SLICE OF BYTES GIVES. -/
theorem bytes_arg {H : Type} {enc : TypeId × Value → H} {W : World} {a : Option Addr} {len cap : Nat} {fuel : Nat} {x : DataW H × List MemPlace}
    (hf : DataW.trod enc Try.prog W 0 (fun _ => true) true fuel 26 (Value.slice a len cap).cells.toList = some x) : ∃ l : List Nat, len = l.length ∧ ValsAt W (.slice a l.length cap) (bvals l) ∧ ∀ c ∈ l, c < 256 := by
  rcases open_ints Try.underlying26 Try.underlying5 (by kernel_rfl) hf with ⟨hcs, _⟩ | ⟨y, l, c, zs, hcs, _, hl, hm, hz, _, hcell, hwz⟩
  · simp [Value.cells] at hcs
    obtain ⟨rfl, rfl, rfl⟩ := hcs
    exact ⟨[], rfl, vals_nil _, fun c h => by cases h⟩
  · simp [Value.cells] at hcs
    obtain ⟨rfl, rfl, rfl⟩ := hcs
    have hz' : zs.length = cap := by simpa using hz
    have hll : ((zs.take len).map Int.toNat).length = len := by simp; omega
    have hlv : (bvals ((zs.take len).map Int.toNat)).length = len := by simp [bvals]; omega
    refine ⟨(zs.take len).map Int.toNat, hll.symm, ⟨some y, cap, by rw [hlv, hll], by rw [hlv]; exact hl, fun h => (by cases h), fun hne => ?_⟩, fun c hc => ?_⟩
    · have hpos : 0 < len := by
        rcases Nat.eq_zero_or_pos len with h | h
        · subst h; simp [bvals] at hne
        · exact h
      have c0 := hcell 0 (by omega)
      obtain ⟨b, o, s⟩ := y
      have hs : s = none := by
        cases s with
        | none => rfl
        | some k => simp [Addr.add, World.cell?] at c0; split at c0 <;> simp at c0
      subst hs
      refine ⟨b, o, rfl, fun j v hv => ?_⟩
      have hj : j < len := by
        have := (List.getElem?_eq_some_iff.1 hv).1
        rw [hlv] at this; exact this
      have hc := hcell j (by omega)
      rw [Addr.add_mid] at hc
      rw [hc]
      unfold bvals at hv
      rw [List.getElem?_map, List.getElem?_map, List.getElem?_take, if_pos hj] at hv
      have hjz : j < zs.length := by omega
      rw [List.getElem?_eq_getElem hjz] at hv
      simp only [Option.map_some, Option.some.injEq] at hv
      rw [← hv]
      rw [List.getD_eq_getElem?_getD, List.getElem?_eq_getElem hjz]
      have hb := bounds_u8 (hwz _ (List.getElem_mem hjz))
      have e : ((zs[j].toNat : Nat) : Int) = zs[j] := by omega
      rw [e]
      rfl
    · obtain ⟨z, hzm, rfl⟩ := List.mem_map.1 hc
      have hb := bounds_u8 (hwz _ (List.mem_of_mem_take hzm))
      omega
theorem open_bool {H : Type} {enc : TypeId × Value → H} {w : World} {base : Nat} {spare : Nat → Bool} {held : Bool} {r : Reach} {b0 : Nat} {v : Value} {d : DataW H} {ps : List MemPlace} (hval : Value.okWide Try.prog w r b0 4 v) (hd : DataW.Trod enc Try.prog w base spare held 4 v d ps) :
    ∃ b, v = .bool b ∧ d = .lit (.bool b) ∧ ps = [] := by
  obtain ⟨b, rfl⟩ := okWide_bool Try.underlying4 hval
  obtain ⟨fuel, hf⟩ := hd
  obtain ⟨b', h, hx⟩ := DataW.trod_bool Try.underlying4 hf
  simp [Value.cells] at h
  subst h
  simp only [Prod.mk.injEq] at hx
  exact ⟨b, rfl, hx.1, hx.2⟩
end Go.Proofs.Ythciafobknaipab
