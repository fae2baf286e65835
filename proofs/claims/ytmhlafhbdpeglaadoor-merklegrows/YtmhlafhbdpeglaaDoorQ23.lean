/-
  What the rows' lists and the arguments' readings give the walks: the two tables in their blocks; a slice of slices of bytes that came in, each of the form's reach; a slice of bytes; a world for the witness.
-/
import Derived.Test.YtmhlafhbdpeglaaDoorQ2
import Derived.Test.YtmhlafhbdpeglaaDoorQ7
import Derived.Test.YtmhlafhbdpeglaaDoorCards
import Derived.Test.YtmhlafhbdpeglaaDoorTie
import Derived.ProofKit
import Derived.OpenShut
import Derived.ShutString
import Derived.ChangeOld
import Derived.Below
import Derived.Deep.DeepHandedRow
import Derived.Deep.Slices
import Derived.SizedLaws
import Derived.Lib.LaidTab
import Derived.Lib.SmallJoins
import Derived.Stop.LaidErr
namespace Go.Proofs.YtmhlafhbdpeglaaDoor
open Go.ChangeShapes Go.WideShapes Go.ChangeAt Go.RowKit Go.Joins Go.Deep
theorem own : ownKnob Tryd.prog.godebug = none := by kernel_rfl
theorem laidOut : laidOutB Tryd.prog = true := by kernel_rfl
theorem gStart : Tryd.prog.globalNamed "chancery/sha.start" = some 0 := by kernel_rfl
theorem gSteps : Tryd.prog.globalNamed "chancery/sha.steps" = some 1 := by kernel_rfl
theorem gStartType : (Tryd.prog.globals[0]?).map (·.type) = some 69 := by kernel_rfl
theorem gStepsType : (Tryd.prog.globals[1]?).map (·.type) = some 70 := by kernel_rfl
theorem cellsU : Tryd.prog.cellsOf 68 = 1 := by kernel_rfl
theorem cellsH : Tryd.prog.cellsOf 69 = 8 := by kernel_rfl
theorem cellsK : Tryd.prog.cellsOf 70 = 64 := by kernel_rfl
theorem var_block {W : World} {name : String} {g : Nat} {cs : Array Value} (hg : Tryd.prog.globalNamed name = some g) (h : W.var? Tryd.prog name = some cs) : ∃ t fr, W.heap[g]? = some (.cells cs t fr) := by
  unfold World.var? at h
  rw [hg] at h
  simp only [Option.bind_some] at h
  split at h
  · rename_i c t fr hb
    cases h
    exact ⟨t, fr, hb⟩
  · cases h
/-- WHAT A ROW's LIST GIVES: the two tables. -/
theorem ready_of_laid {W : World} (h : laidMetH Tryd.prog [("chancery/sha.start", Rows.laid_chancery_sha_start), ("chancery/sha.steps", Rows.laid_chancery_sha_steps)] W) : Sha.Ready W := by
  rw [MakeChecks.laidMetH_plain _ _ _ (by kernel_rfl)] at h
  have h2 := laidMet.tail h
  have a := Lib.tabIs_of_head (zs := Sha.hTab.map Sha.iv) gStart gStartType Tryd.underlying69 Tryd.underlying68 cellsU cellsH h
  have b := Lib.tabIs_of_head (zs := Sha.kTab.map Sha.iv) gSteps gStepsType Tryd.underlying70 Tryd.underlying68 cellsU cellsK h2
  obtain ⟨t, fr, ha⟩ := var_block gStart a
  obtain ⟨t', fr', hb⟩ := var_block gSteps b
  rw [List.map_map] at ha hb
  exact ⟨⟨t, fr, ha⟩, ⟨t', fr', hb⟩⟩
theorem ib_ofInt (z : Int) (h : (Lit.int .u8 z).wf = true) : ((UInt8.ofNat z.toNat).toNat : Int) = z := by
  have hb := bounds_u8 h
  rw [UInt8.toNat_ofNat']
  omega
/-- WHAT A READING OF A SLICE OF BYTES GIVES. -/
theorem bytes_arg {H : Type} {enc : TypeId × Value → H} {W : World} {a : Option Addr} {len cap : Nat} {fuel : Nat} {x : DataW H × List MemPlace}
    (hf : DataW.trod enc Tryd.prog W 0 (fun _ => true) true fuel 28 (Value.slice a len cap).cells.toList = some x) : ∃ l : Bs, len = l.length ∧ (l.length : Int) ≤ 9223372036854775807 ∧ BytesAt W (.slice a l.length cap) l := by
  rcases open_ints Tryd.underlying28 Tryd.underlying5 (by kernel_rfl) hf with ⟨hcs, _⟩ | ⟨y, l, c, zs, hcs, _, hl, hm, hz, _, hcell, hwz⟩
  · simp [Value.cells] at hcs
    obtain ⟨rfl, rfl, rfl⟩ := hcs
    exact ⟨[], rfl, by decide, vals_nil _⟩
  · simp [Value.cells] at hcs
    obtain ⟨rfl, rfl, rfl⟩ := hcs
    have hz' : zs.length = cap := by simpa using hz
    have hll : ((zs.take len).map fun z => UInt8.ofNat z.toNat).length = len := by simp; omega
    have hlv : (((zs.take len).map fun z => UInt8.ofNat z.toNat).map bv).length = len := by rw [List.length_map, hll]
    refine ⟨(zs.take len).map fun z => UInt8.ofNat z.toNat, hll.symm, by rw [hll]; simp only [maxLen] at hm; omega, some y, cap, by rw [hlv, hll], by rw [hlv]; exact hl, fun h => (by cases h), fun hne => ?_⟩
    have hpos : 0 < len := by
      rcases Nat.eq_zero_or_pos len with h | h
      · subst h; simp at hne
      · exact h
    have c0 := hcell 0 (by omega)
    obtain ⟨b, o, s⟩ := y
    have hs : s = none := by
      cases s with
      | none => rfl
      | some k => simp [Addr.add, World.cell?] at c0; split at c0 <;> simp at c0
    subst hs
    refine ⟨b, o, rfl, fun j v hv => ?_⟩
    have hj : j < len := by
      have := (List.getElem?_eq_some_iff.1 hv).1
      rw [hlv] at this; exact this
    have hc := hcell j (by omega)
    rw [Addr.add_mid] at hc
    rw [hc]
    rw [List.getElem?_map, List.getElem?_map, List.getElem?_take, if_pos hj] at hv
    have hjz : j < zs.length := by omega
    rw [List.getElem?_eq_getElem hjz] at hv
    simp only [Option.map_some, Option.some.injEq] at hv
    rw [← hv]
    unfold bv
    rw [ib_ofInt _ (hwz _ (List.getElem_mem hjz)), List.getD_eq_getElem?_getD, List.getElem?_eq_getElem hjz]
    rfl
/-- WHAT A READING OF ONE OF THEM GIVES. -/
theorem piece_of {H : Type} {enc : TypeId × Value → H} {W : World} {fuel : Nat} {v : Value} {d : DataW H} {pl : List MemPlace}
    (hf : DataW.trod enc Tryd.prog W 0 (fun _ => true) true fuel 28 [v] = some (d, pl)) : ∃ (l : Bs), BytesAt W v l ∧ (l = [] ∨ ∃ e sp, d = .slice e sp ∧ l.length ≤ e.length + sp.length) := by
  have hf' := hf
  rcases open_ints Tryd.underlying28 Tryd.underlying5 (by kernel_rfl) hf with ⟨hcs, _⟩ | ⟨y, n, c, zs, hcs, _, hl, hm, hz, hx, _⟩
  · obtain rfl : v = .slice none 0 0 := by simpa using hcs
    exact ⟨[], bytes_nil _, Or.inl rfl⟩
  · obtain rfl : v = .slice (some y) n c := by simpa using hcs
    obtain ⟨l, rfl, _, hb⟩ := bytes_arg hf'
    refine ⟨l, hb, Or.inr ⟨_, _, (Prod.ext_iff.1 hx).1, ?_⟩⟩
    have hz' : zs.length = c := by simpa using hz
    simp [lits]
    omega
theorem mem_all {H : Type} {e : TypeId} {d : DataW H} {n : Nat} (hn : n ∈ d.weights Tryd.prog e) : ∀ {l : List (DataW H)}, d ∈ l → n ∈ DataW.weightsAll Tryd.prog e l
  | a :: r, hd => by
    rw [DataW.weightsAll, List.mem_append]
    rcases List.mem_cons.1 hd with h | h
    · exact Or.inl (h ▸ hn)
    · exact Or.inr (mem_all hn h)
/-- EACH IS OF THE FORM's REACH. -/
theorem piece_reach {H : Type} {ts : List TypeId} {ds : List (DataW H)} (h : (DataW.weightsEach Tryd.prog ts ds).all (· ≤ reachBytes) = true) {es sp e' sp' : List (DataW H)} (ht : ts[0]? = some 22) (hd : ds[0]? = some (.slice es sp)) (hx : DataW.slice e' sp' ∈ es) : e'.length + sp'.length ≤ 140737488351232 := by
  have hb : Tryd.prog.bytesOf 5 = 1 := by kernel_rfl
  have key : (e'.length + sp'.length) * Tryd.prog.bytesOf 5 ≤ reachBytes := by
    refine of_decide_eq_true (List.all_eq_true.1 h _ (DataW.weights_mem_each (j := 0) (t := 22) ht hd _ ?_))
    rw [DataW.weights]
    simp only [Tryd.underlying22, List.mem_cons, List.mem_append]
    refine Or.inr (Or.inl (mem_all ?_ hx))
    simp [DataW.weights, Tryd.underlying28]
  rw [hb, Nat.mul_one] at key
  exact key
theorem all_reach {H : Type} {ts : List TypeId} {ds : List (DataW H)} (h : (DataW.weightsEach Tryd.prog ts ds).all (· ≤ reachBytes) = true) {es sp : List (DataW H)} (ht : ts[0]? = some 22) (hd : ds[0]? = some (.slice es sp)) : es.length + sp.length ≤ 140737488351232 := by
  have hb : Tryd.prog.bytesOf 28 = 24 := by kernel_rfl
  have key : (es.length + sp.length) * Tryd.prog.bytesOf 28 ≤ reachBytes := by
    refine of_decide_eq_true (List.all_eq_true.1 h _ (DataW.weights_mem_each (j := 0) (t := 22) ht hd _ ?_))
    rw [DataW.weights]
    simp only [Tryd.underlying22, List.mem_cons]
    exact Or.inl trivial
  rw [hb] at key
  simp only [reachBytes] at key
  omega
/-- WHAT A READING OF A SLICE OF SLICES OF BYTES GIVES. -/
theorem lists_arg {H : Type} {enc : TypeId × Value → H} {W : World} {a : Option Addr} {len cap fuel : Nat} {ts : List TypeId} {ds : List (DataW H)} {d : DataW H} {pl : List MemPlace}
    (hf : DataW.trod enc Tryd.prog W 0 (fun _ => true) true fuel 22 (Value.slice a len cap).cells.toList = some (d, pl)) (ht : ts[0]? = some 22) (hd : ds[0]? = some d) (h : (DataW.weightsEach Tryd.prog ts ds).all (· ≤ reachBytes) = true) :
    ∃ L : List Bs, LL W (.slice a len cap) L ∧ (∀ b ∈ L, b.length ≤ 1099511627776000) ∧ L.length ≤ 1099511627776000 := by
  rcases Go.Deep.open_slice1 Tryd.underlying22 (by kernel_rfl) hf with ⟨hcs, _⟩ | ⟨y, n, c, m, n', V, D, Pl, hcs, _, hl, hm, hmm, hx, hall⟩
  · simp [Value.cells] at hcs
    obtain ⟨rfl, rfl, rfl⟩ := hcs
    exact ⟨[], ⟨[], vals_nil _, rfl, fun i hi => by simp at hi⟩, fun b hb => by simp at hb, by simp⟩
  · simp [Value.cells] at hcs
    obtain ⟨rfl, rfl, rfl⟩ := hcs
    have hmc : m = cap := by simpa using hmm
    subst hmc
    have hd' : d = .slice ((List.range len).map D) ((List.range (m - len)).map fun j => D (len + j)) := (Prod.ext_iff.1 hx).1
    rw [hd'] at hd
    have hp : ∀ i, i < len → ∃ l : Bs, ∃ b o, (y : Addr) = ⟨b, o, none⟩ ∧ W.cell? ⟨b, o + i, none⟩ = some (V i) ∧ BytesAt W (V i) l ∧ l.length ≤ 1099511627776000 := fun i hi => by
      obtain ⟨h1, h2⟩ := hall i (by omega)
      obtain ⟨l, hb, hr⟩ := piece_of h2
      obtain ⟨b, o, sub⟩ := y
      have hs : sub = none := by simpa [Addr.add] using World.cell?_spot (hall 0 (by omega)).1
      subst hs
      rw [Addr.add_mid] at h1
      refine ⟨l, b, o, rfl, h1, hb, ?_⟩
      rcases hr with rfl | ⟨e, sp, he, hle⟩
      · simp
      · have := piece_reach h ht hd (e' := e) (sp' := sp) (List.mem_map.2 ⟨i, List.mem_range.2 hi, he⟩)
        omega
    obtain ⟨f, hfl⟩ := Go.Deep.choose_lt (α := Bs) hp
    have hlen : len ≤ 1099511627776000 := by
      have := all_reach h ht hd
      simp at this
      omega
    refine ⟨(List.range len).map f, ⟨(List.range len).map V, ⟨some y, m, by simp, by simpa using hl, fun h => (by cases h), fun hne => ?_⟩, by simp, fun i hi => ?_⟩, fun b hb => ?_, by simpa using hlen⟩
    · have hpos : 0 < len := by
        rcases Nat.eq_zero_or_pos len with h | h
        · subst h; simp at hne
        · exact h
      obtain ⟨b, o, rfl, _⟩ := hfl 0 hpos
      refine ⟨b, o, rfl, fun j v hv => ?_⟩
      have hj : j < len := by have := (List.getElem?_eq_some_iff.1 hv).1; simpa using this
      obtain ⟨b', o', e, h1, _⟩ := hfl j hj
      simp only [Addr.mk.injEq] at e
      obtain ⟨rfl, rfl, _⟩ := e
      rw [List.getElem?_map, List.getElem?_range hj] at hv
      simp only [Option.map_some, Option.some.injEq] at hv
      rw [h1, hv]
    · have hi' : i < len := by simpa using hi
      obtain ⟨_, _, _, _, h1, _⟩ := hfl i hi'
      simpa [List.getD_eq_getElem?_getD, hi'] using h1
    · obtain ⟨i, hi, rfl⟩ := List.mem_map.1 hb
      obtain ⟨_, _, _, _, _, h1⟩ := hfl i (List.mem_range.1 hi)
      exact h1
/-- A world for a witness: the two tables as their initialisers lay them. -/
def withTabs (w : World) : World :=
  { w with heap := (w.heap.modify 0 fun
      | .cells _ t frozen => .cells (Sha.hTab.map Sha.wv).toArray t frozen
      | o => o).modify 1 fun
      | .cells _ t frozen => .cells (Sha.kTab.map Sha.wv).toArray t frozen
      | o => o }
end Go.Proofs.YtmhlafhbdpeglaaDoor
