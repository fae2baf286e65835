/-
  What the arguments' readings give the walks: bytes, flags, steps.
-/
import Derived.Test.YtlmikagmcaicoaaSm13
import Derived.Test.YtlmikagmcaicoaaRows
import Derived.ProofKit
import Derived.OpenShut
import Derived.ChangeOld
import Derived.ChangeArms
import Derived.Below
import Derived.SizedLaws
import Derived.Deep.DeepHandedRow
import Derived.Deep.Grids
namespace Go.Proofs.Ytlmikagmcaicoaa
open Go.ChangeShapes Go.WideShapes Go.ChangeAt Go.RowKit
theorem own : ownKnob Try.prog.godebug = none := by kernel_rfl
theorem laidOut : laidOutB Try.prog = true := by kernel_rfl
theorem ib_ofInt (z : Int) (h : (Lit.int .u8 z).wf = true) : ((UInt8.ofNat z.toNat).toNat : Int) = z := by
  have hb := bounds_u8 h
  rw [UInt8.toNat_ofNat']
  omega
/-- WHAT A READING OF A SLICE OF BYTES GIVES. -/
theorem bytes_arg {H : Type} {enc : TypeId × Value → H} {W : World} {a : Option Addr} {len cap : Nat} {fuel : Nat} {x : DataW H × List MemPlace}
    (hf : DataW.trod enc Try.prog W 0 (fun _ => true) true fuel 40 (Value.slice a len cap).cells.toList = some x) : ∃ l : Bs, BytesAt W (.slice a len cap) l := by
  rcases open_ints Try.underlying40 Try.underlying5 (by kernel_rfl) hf with ⟨hcs, _⟩ | ⟨y, l, c, zs, hcs, _, hl, hm, hz, _, hcell, hwz⟩
  · simp [Value.cells] at hcs
    obtain ⟨rfl, rfl, rfl⟩ := hcs
    exact ⟨[], vals_nil _⟩
  · simp [Value.cells] at hcs
    obtain ⟨rfl, rfl, rfl⟩ := hcs
    have hz' : zs.length = cap := by simpa using hz
    have hll : ((zs.take len).map fun z => UInt8.ofNat z.toNat).length = len := by simp; omega
    have hlv : (((zs.take len).map fun z => UInt8.ofNat z.toNat).map bv).length = len := by rw [List.length_map, hll]
    refine ⟨(zs.take len).map fun z => UInt8.ofNat z.toNat, some y, cap, by rw [hlv], by rw [hlv]; exact hl, fun h => (by cases h), fun hne => ?_⟩
    have hpos : 0 < len := by
      rcases Nat.eq_zero_or_pos len with h | h
      · subst h; simp at hne
      · exact h
    have c0 := hcell 0 (by omega)
    obtain ⟨b, o, s⟩ := y
    have hs : s = none := by
      cases s with
      | none => rfl
      | some k => simp [Addr.add, World.cell?] at c0; split at c0 <;> simp at c0
    subst hs
    refine ⟨b, o, rfl, fun j v hv => ?_⟩
    have hj : j < len := by
      have := (List.getElem?_eq_some_iff.1 hv).1
      rw [hlv] at this; exact this
    have hc := hcell j (by omega)
    rw [Addr.add_mid] at hc
    rw [hc]
    rw [List.getElem?_map, List.getElem?_map, List.getElem?_take, if_pos hj] at hv
    have hjz : j < zs.length := by omega
    rw [List.getElem?_eq_getElem hjz] at hv
    simp only [Option.map_some, Option.some.injEq] at hv
    rw [← hv]
    unfold bv
    rw [ib_ofInt _ (hwz _ (List.getElem_mem hjz)), List.getD_eq_getElem?_getD, List.getElem?_eq_getElem hjz]
    rfl
/-- WHAT A READING OF A SLICE OF FLAGS GIVES. -/
theorem bools_of {H : Type} {enc : TypeId × Value → H} {W : World} {v : Value} {fuel : Nat} {x : DataW H × List MemPlace}
    (hf : DataW.trod enc Try.prog W 0 (fun _ => true) true fuel 30 [v] = some x) : ∃ l : List Bool, ValsAt W v (l.map .bool) := by
  rcases Go.Deep.open_bools Try.underlying30 Try.underlying4 (by kernel_rfl) hf with ⟨hcs, _⟩ | ⟨y, len, cap, Z, hcs, _, hl, hm, _, hcell⟩
  · obtain rfl : v = .slice none 0 0 := by simpa using hcs
    exact ⟨[], vals_nil _⟩
  · obtain rfl : v = .slice (some y) len cap := by simpa using hcs
    have hlv : (((List.range len).map Z).map Value.bool).length = len := by simp
    refine ⟨(List.range len).map Z, some y, cap, by rw [hlv], by rw [hlv]; exact hl, fun h => (by cases h), fun hne => ?_⟩
    have hpos : 0 < len := by
      rcases Nat.eq_zero_or_pos len with h | h
      · subst h; simp at hne
      · exact h
    have c0 := hcell 0 (by omega)
    obtain ⟨b, o, s⟩ := y
    have hs : s = none := by
      cases s with
      | none => rfl
      | some k => simp [Addr.add, World.cell?] at c0; split at c0 <;> simp at c0
    subst hs
    refine ⟨b, o, rfl, fun j v hv => ?_⟩
    have hj : j < len := by
      have := (List.getElem?_eq_some_iff.1 hv).1
      rw [hlv] at this; exact this
    have hc := hcell j (by omega)
    rw [Addr.add_mid] at hc
    rw [hc, ← hv]
    simp [hj]
theorem bools_arg {H : Type} {enc : TypeId × Value → H} {W : World} {a : Option Addr} {len cap : Nat} {fuel : Nat} {x : DataW H × List MemPlace}
    (hf : DataW.trod enc Try.prog W 0 (fun _ => true) true fuel 30 (Value.slice a len cap).cells.toList = some x) : ∃ l : List Bool, ValsAt W (.slice a len cap) (l.map .bool) := bools_of (v := .slice a len cap) (by simpa [Value.cells] using hf)
instance : Inhabited OpP := ⟨⟨0, 0, 0, 0, []⟩⟩
/-- WHAT A READING OF A SLICE OF STEPS GIVES. -/
theorem ops_arg {H : Type} {enc : TypeId × Value → H} {W : World} {a : Option Addr} {len cap : Nat} {fuel : Nat} {x : DataW H × List MemPlace}
    (hf : DataW.trod enc Try.prog W 0 (fun _ => true) true fuel 22 (Value.slice a len cap).cells.toList = some x) : ∃ l : List OpP, OpsAt W.heap.size W (.slice a len cap) l := by
  rcases Go.Deep.open_slice Try.underlying22 hf with ⟨hcs, _⟩ | ⟨y, n, c, m, k, D, Pl, hcs, _, hl, hm, hmm, _, hx⟩
  · simp [Value.cells] at hcs
    obtain ⟨rfl, rfl, rfl⟩ := hcs
    exact ⟨[], none, 0, rfl, fun h => absurd rfl h⟩
  · simp [Value.cells] at hcs
    obtain ⟨rfl, rfl, rfl⟩ := hcs
    have hmc : m = cap := by simpa using hmm
    subst hmc
    have ce : Try.prog.cellsOf 32 = 5 := by kernel_rfl
    have each : ∀ i, i < len → ∃ q : OpP × Value, -9223372036854775808 ≤ q.1.at_ ∧ q.1.at_ ≤ 9223372036854775807 ∧ (∀ (j : Nat) (u : Value), (ocells q.1 q.2)[j]? = some u → W.cell? (y.add (i * 5 + j)) = some u) ∧ ValsAt W q.2 (q.1.keep.map .bool) := by
      intro i hi
      obtain ⟨cs', h1, h2⟩ := hx i (by omega)
      rw [ce] at h1
      obtain ⟨_, hlen, hcell⟩ := World.cells?_some h1
      obtain ⟨xs, k, hk, hxy, _, hxl, hfs⟩ := DataW.trod_struct Try.underlying32 h2
      match xs, hxl, cs', hlen with
      | [y0, y1, y2, y3, y4], _, [v0, v1, v2, v3, v4], _ =>
        have q3 : Try.prog.cellsOf 3 = 1 := by kernel_rfl
        have q5 : Try.prog.cellsOf 5 = 1 := by kernel_rfl
        have qt : Try.prog.cellsOf 30 = 1 := by kernel_rfl
        have g0 : DataW.trod enc Try.prog W 0 (fun _ => true) true k 3 [v0] = some y0 := by
          have h : DataW.trod enc Try.prog W 0 (fun _ => true) true k 3 (([v0, v1, v2, v3, v4].drop 0).take (Try.prog.cellsOf 3)) = [y0, y1, y2, y3, y4][0]? := hfs 0 _ rfl
          rw [q3] at h
          exact h
        have g1 : DataW.trod enc Try.prog W 0 (fun _ => true) true k 3 [v1] = some y1 := by
          have h : DataW.trod enc Try.prog W 0 (fun _ => true) true k 3 (([v0, v1, v2, v3, v4].drop 1).take (Try.prog.cellsOf 3)) = [y0, y1, y2, y3, y4][1]? := hfs 1 _ rfl
          rw [q3] at h
          exact h
        have g2 : DataW.trod enc Try.prog W 0 (fun _ => true) true k 3 [v2] = some y2 := by
          have h : DataW.trod enc Try.prog W 0 (fun _ => true) true k 3 (([v0, v1, v2, v3, v4].drop 2).take (Try.prog.cellsOf 3)) = [y0, y1, y2, y3, y4][2]? := hfs 2 _ rfl
          rw [q3] at h
          exact h
        have g3 : DataW.trod enc Try.prog W 0 (fun _ => true) true k 5 [v3] = some y3 := by
          have h : DataW.trod enc Try.prog W 0 (fun _ => true) true k 5 (([v0, v1, v2, v3, v4].drop 3).take (Try.prog.cellsOf 5)) = [y0, y1, y2, y3, y4][3]? := hfs 3 _ rfl
          rw [q5] at h
          exact h
        have g4 : DataW.trod enc Try.prog W 0 (fun _ => true) true k 30 [v4] = some y4 := by
          have h : DataW.trod enc Try.prog W 0 (fun _ => true) true k 30 (([v0, v1, v2, v3, v4].drop 4).take (Try.prog.cellsOf 30)) = [y0, y1, y2, y3, y4][4]? := hfs 4 _ rfl
          rw [qt] at h
          exact h
        obtain ⟨z0, e0, _, _⟩ := DataW.trod_int Try.underlying3 g0
        obtain ⟨z1, e1, _, w1⟩ := DataW.trod_int Try.underlying3 g1
        obtain ⟨z2, e2, _, _⟩ := DataW.trod_int Try.underlying3 g2
        obtain ⟨z3, e3, _, w3⟩ := DataW.trod_int Try.underlying5 g3
        obtain ⟨kp, hkp⟩ := bools_of g4
        simp only [List.cons.injEq, and_true] at e0 e1 e2 e3
        subst e0
        subst e1
        subst e2
        subst e3
        have hb := bounds_i64 w1
        refine ⟨(⟨z0, z1, z2, UInt8.ofNat z3.toNat, kp⟩, v4), hb.1, hb.2, fun j u hu => ?_, hkp⟩
        unfold ocells at hu
        dsimp only at hu
        rw [ib_ofInt _ w3] at hu
        have hj : j < 5 := by
          have := (List.getElem?_eq_some_iff.1 hu).1
          simpa using this
        have hcj := hcell j hj
        rw [Go.Deep.add_add] at hcj
        rw [hcj]
        exact hu
    obtain ⟨f, hfl⟩ := Go.Deep.choose_lt each
    have hll : ((List.range len).map fun i => (f i).1).length = len := by simp
    refine ⟨(List.range len).map fun i => (f i).1, some y, m, by rw [hll], fun hne => ?_⟩
    have hpos : 0 < len := by
      rcases Nat.eq_zero_or_pos len with h | h
      · subst h; simp at hne
      · exact h
    have c0 := (hfl 0 hpos).2.2.1 0 _ rfl
    obtain ⟨b, o, s⟩ := y
    have hs : s = none := by
      cases s with
      | none => rfl
      | some k => simp [Addr.add, World.cell?] at c0; split at c0 <;> simp at c0
    subst hs
    rw [Addr.add_mid] at c0
    refine ⟨b, o, rfl, World.block_lt_of_cell? _ _ c0, fun i op hi => ?_⟩
    have hil : i < len := by
      have := (List.getElem?_eq_some_iff.1 hi).1
      rw [hll] at this; exact this
    rw [List.getElem?_map, List.getElem?_range hil] at hi
    simp only [Option.map_some, Option.some.injEq] at hi
    subst hi
    obtain ⟨h1, h2, h3, h4⟩ := hfl i hil
    refine ⟨h1, h2, (f i).2, fun j u hu => ?_, h4, fun hk k hkb => ValsAt.old h4 (by simpa using hk) k hkb⟩
    have := h3 j u hu
    rw [Addr.add_mid] at this
    rw [Nat.add_assoc]; exact this
end Go.Proofs.Ytlmikagmcaicoaa
