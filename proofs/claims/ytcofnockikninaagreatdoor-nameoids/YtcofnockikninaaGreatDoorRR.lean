/-
  What a reading of a slice of bytes gives.
-/
import Derived.Test.YtcofnockikninaaGreatDoorRow10
namespace Go.Proofs.YtcofnockikninaaGreatDoor
open Go.ChangeShapes Go.WideShapes Go.ChangeAt Go.RowKit Go.Joins Go.Deep
theorem ib_ofInt (z : Int) (h : (Lit.int .u8 z).wf = true) : ((UInt8.ofNat z.toNat).toNat : Int) = z := by
  have hb := bounds_u8 h
  rw [UInt8.toNat_ofNat']
  omega
/-- WHAT A READING OF A SLICE OF BYTES GIVES. -/
theorem bytes_arg {H : Type} {enc : TypeId × Value → H} {W : World} {a : Option Addr} {len cap : Nat} {fuel : Nat} {x : DataW H × List MemPlace}
    (hf : DataW.trod enc Tryz.prog W 0 (fun _ => true) true fuel 22 (Value.slice a len cap).cells.toList = some x) : ∃ l : Bs, len = l.length ∧ (l.length : Int) ≤ 9223372036854775807 ∧ BytesAt W (.slice a l.length cap) l := by
  rcases open_ints Tryz.underlying22 Tryz.underlying5 (by kernel_rfl) hf with ⟨hcs, _⟩ | ⟨y, l, c, zs, hcs, _, hl, hm, hz, _, hcell, hwz⟩
  · simp [Value.cells] at hcs
    obtain ⟨rfl, rfl, rfl⟩ := hcs
    exact ⟨[], rfl, by decide, vals_nil _⟩
  · simp [Value.cells] at hcs
    obtain ⟨rfl, rfl, rfl⟩ := hcs
    have hz' : zs.length = cap := by simpa using hz
    have hll : ((zs.take len).map fun z => UInt8.ofNat z.toNat).length = len := by simp; omega
    have hlv : (((zs.take len).map fun z => UInt8.ofNat z.toNat).map bv).length = len := by rw [List.length_map, hll]
    refine ⟨(zs.take len).map fun z => UInt8.ofNat z.toNat, hll.symm, by rw [hll]; simp only [maxLen] at hm; omega, some y, cap, by rw [hlv, hll], by rw [hlv]; exact hl, fun h => (by cases h), fun hne => ?_⟩
    have hpos : 0 < len := by
      rcases Nat.eq_zero_or_pos len with h | h
      · subst h; simp at hne
      · exact h
    have c0 := hcell 0 (by omega)
    obtain ⟨b, o, s⟩ := y
    have hs : s = none := by
      cases s with
      | none => rfl
      | some k => simp [Addr.add, World.cell?] at c0; split at c0 <;> simp at c0
    subst hs
    refine ⟨b, o, rfl, fun j v hv => ?_⟩
    have hj : j < len := by
      have := (List.getElem?_eq_some_iff.1 hv).1
      rw [hlv] at this; exact this
    have hc := hcell j (by omega)
    rw [Addr.add_mid] at hc
    rw [hc]
    rw [List.getElem?_map, List.getElem?_map, List.getElem?_take, if_pos hj] at hv
    have hjz : j < zs.length := by omega
    rw [List.getElem?_eq_getElem hjz] at hv
    simp only [Option.map_some, Option.some.injEq] at hv
    rw [← hv]
    unfold bv
    rw [ib_ofInt _ (hwz _ (List.getElem_mem hjz)), List.getD_eq_getElem?_getD, List.getElem?_eq_getElem hjz]
    rfl
end Go.Proofs.YtcofnockikninaaGreatDoor
/-
  What a reading of a value of layer 9 gives: it lies in memory, and ends somewhere.
-/
namespace Go.Proofs.YtcofnockikninaaGreatDoor
open Go.ChangeShapes Go.WideShapes Go.ChangeAt Go.RowKit Go.Joins Go.Deep
theorem cells3 : Tryz.prog.cellsOf 3 = 1 := by kernel_rfl
theorem cells4 : Tryz.prog.cellsOf 4 = 1 := by kernel_rfl
theorem cellsB : Tryz.prog.cellsOf 22 = 1 := by kernel_rfl
theorem cellsDs : Tryz.prog.cellsOf 23 = 1 := by kernel_rfl
theorem cellsD : Tryz.prog.cellsOf 25 = 5 := by kernel_rfl
theorem list5 {α : Type} {l : List α} (h : l.length = 5) : ∃ a b c d e, l = [a, b, c, d, e] := by
  match l, h with
  | [a, b, c, d, e], _ => exact ⟨a, b, c, d, e, rfl⟩
theorem pick_all {α : Type} {Q : Nat → α → Prop} : ∀ n, (∀ i, i < n → ∃ k, Q i k) → ∃ ks : List α, ks.length = n ∧ ∀ i k, ks[i]? = some k → Q i k
  | 0, _ => ⟨[], rfl, fun i k h => by simp at h⟩
  | n + 1, h => by
    obtain ⟨ks, hl, hk⟩ := pick_all n (fun i hi => h i (by omega))
    obtain ⟨k, hq⟩ := h n (by omega)
    refine ⟨ks ++ [k], by simp [hl], fun i k' hi => ?_⟩
    by_cases hin : i < n
    · rw [List.getElem?_append_left (by omega)] at hi
      exact hk i k' hi
    · have := (List.getElem?_eq_some_iff.1 hi).1
      rw [List.length_append, List.length_singleton, hl] at this
      obtain rfl : i = n := by omega
      rw [List.getElem?_append_right (by omega), hl, Nat.sub_self] at hi
      simp at hi
      subst hi
      exact hq
set_option maxRecDepth 100000 in
theorem value_trod {H : Type} {enc : TypeId × Value → H} {W : World} (fuel : Nat) : ∀ (cs : List Value) (x : DataW H × List MemPlace), DataW.trod enc Tryz.prog W 0 (fun _ => true) true fuel 25 cs = some x → ∃ v : DV, VAt fuel (fun _ => True) W cs v := by
  induction fuel using Nat.strongRecOn with
  | ind fuel ih =>
  intro cs x h
  cases fuel with
  | zero => simp [DataW.trod] at h
  | succ fuel =>
    simp only [DataW.trod, Tryz.underlying25, cellsD] at h
    split at h
    case isFalse => cases h
    rename_i hl
    obtain ⟨xs, hm, _⟩ := Option.map_eq_some_iff.1 h
    obtain ⟨y0, _, f0⟩ := Lib.mapM_at hm 0 _ rfl
    obtain ⟨y1, _, f1⟩ := Lib.mapM_at hm 1 _ rfl
    obtain ⟨y2, _, f2⟩ := Lib.mapM_at hm 2 _ rfl
    obtain ⟨y3, _, f3⟩ := Lib.mapM_at hm 3 _ rfl
    obtain ⟨y4, _, f4⟩ := Lib.mapM_at hm 4 _ rfl
    obtain ⟨c0, c1, c2, c3, c4, rfl⟩ := list5 hl
    have F0 : DataW.trod enc Tryz.prog W 0 (fun _ => true) true fuel 3 [c0] = some y0 := by simpa [cells3] using f0
    have F1 : DataW.trod enc Tryz.prog W 0 (fun _ => true) true fuel 3 [c1] = some y1 := by simpa [cells3] using f1
    have F2 : DataW.trod enc Tryz.prog W 0 (fun _ => true) true fuel 4 [c2] = some y2 := by simpa [cells4] using f2
    have F3 : DataW.trod enc Tryz.prog W 0 (fun _ => true) true fuel 22 [c3] = some y3 := by simpa [cellsB] using f3
    have F4 : DataW.trod enc Tryz.prog W 0 (fun _ => true) true fuel 23 [c4] = some y4 := by simpa [cellsDs] using f4
    obtain ⟨z0, e0, _, _⟩ := DataW.trod_int Tryz.underlying3 F0
    obtain ⟨z1, e1, _, _⟩ := DataW.trod_int Tryz.underlying3 F1
    obtain ⟨z2, e2, _⟩ := DataW.trod_bool Tryz.underlying4 F2
    simp only [List.cons.injEq, and_true] at e0 e1 e2
    clear f0 f1 f2 f3 f4 F0 F1 F2
    subst e0 e1 e2
    obtain ⟨sb, lb, cb, rfl⟩ : ∃ sb lb cb, c3 = .slice sb lb cb := by
      rcases DataW.trod_slice Tryz.underlying22 F3 with ⟨e, _⟩ | ⟨a, len, cap, _, _, _, _, e, _⟩
      · simp only [List.cons.injEq, and_true] at e
        exact ⟨_, _, _, e⟩
      · simp only [List.cons.injEq, and_true] at e
        exact ⟨_, _, _, e⟩
    obtain ⟨bs, rfl, hbl, hby⟩ := bytes_arg (show DataW.trod enc Tryz.prog W 0 (fun _ => true) true fuel 22 (Value.slice sb lb cb).cells.toList = some y3 from F3)
    rcases DataW.trod_slice Tryz.underlying23 F4 with ⟨e, _⟩ | ⟨a, len, cap, elems, rest, n, hfn, e, _, _, hlc, hcm, hel, hat, _, _⟩
    · simp only [List.cons.injEq, and_true] at e
      subst e
      exact ⟨.mk z0 z1 z2 bs [], .slice sb bs.length cb, none, 0, rfl, hby, fun _ _ _ => trivial, ⟨by simp only [DV.bytes]; omega, by simp [DV.kids]⟩, by simp [DV.kids], fun _ => rfl, fun h => absurd rfl h⟩
    · simp only [List.cons.injEq, and_true] at e
      subst e
      subst hfn
      rw [cellsD] at hat
      have hsp0 : 0 < len → a.spot = none := fun hi => by
        have h1 := hat 0 hi
        rw [List.getElem?_eq_getElem (by omega)] at h1
        obtain ⟨ds, hds, htr⟩ := Option.bind_eq_some_iff.1 h1
        obtain ⟨_, hlen, hcell⟩ := World.cells?_some hds
        have h0 := hcell 0 (by omega)
        rw [List.getElem?_eq_getElem (by omega)] at h0
        obtain ⟨b, o, s⟩ := a
        cases s with
        | none => rfl
        | some k => simp [Addr.add, World.cell?] at h0; split at h0 <;> simp at h0
      have hk : ∀ i, i < len → ∃ k : DV, ∃ ds, a.spot = none ∧ CellsAt W a.block (a.off + i * 5) ds ∧ VAt (n + 1) (fun _ => True) W ds k := fun i hi => by
        have h1 := hat i hi
        rw [List.getElem?_eq_getElem (by omega)] at h1
        obtain ⟨ds, hds, htr⟩ := Option.bind_eq_some_iff.1 h1
        obtain ⟨k, hv⟩ := ih n (by omega) ds _ htr
        obtain ⟨_, hlen, hcell⟩ := World.cells?_some hds
        have hspot : a.spot = none := hsp0 (by omega)
        refine ⟨k, ds, hspot, fun j u hu => ?_, hv.more (by omega)⟩
        have hj : j < 5 := by have := (List.getElem?_eq_some_iff.1 hu).1; omega
        have h2 := hcell j hj
        obtain ⟨b, o, s⟩ := a
        simp only at hspot
        subst hspot
        rw [Addr.add_mid, Addr.add_mid] at h2
        rw [h2]
        exact hu
      obtain ⟨ks, hkl, hks⟩ := pick_all len hk
      refine ⟨.mk z0 z1 z2 bs ks, .slice sb bs.length cb, some a, cap, by rw [← hkl]; rfl, hby, fun _ _ _ => trivial, ⟨by simp only [DV.bytes]; omega, by simp only [DV.kids, maxLen] at hcm ⊢; omega⟩, by simp only [DV.kids]; omega, fun h => (by cases h), fun hne => ?_⟩
      simp only [DV.kids] at hne ⊢
      have hpos : 0 < ks.length := List.length_pos_iff.2 hne
      obtain ⟨ds0, hsp, _⟩ := hks 0 ks[0] (List.getElem?_eq_getElem hpos)
      refine ⟨a.block, a.off, ?_, trivial, fun i k hik => ?_⟩
      · obtain ⟨b, o, s⟩ := a
        simp only at hsp
        subst hsp
        rfl
      · obtain ⟨ds, _, h1, h2⟩ := hks i k hik
        exact ⟨ds, h1, h2⟩
set_option maxRecDepth 100000 in
/-- WHAT A READING OF A VALUE GIVES. -/
theorem value_arg {H : Type} {enc : TypeId × Value → H} {W : World} {b0 : Nat} {v : Value} {d : DataW H} {p : List MemPlace} (hv : Value.okWide Tryz.prog W .any b0 25 v) (h : DataW.Trod enc Tryz.prog W 0 (fun _ => true) true 25 v d p) : ∃ (cs : List Value) (dv : DV), v = .agg cs.toArray ∧ ValAt (fun _ => True) W cs dv := by
  obtain ⟨cs, rfl, _⟩ := okWide_struct Tryz.underlying25 hv
  obtain ⟨fuel, hf⟩ := h
  obtain ⟨dv, hd⟩ := value_trod fuel _ _ hf
  exact ⟨cs.toList, dv, by simp, fuel, hd⟩
end Go.Proofs.YtcofnockikninaaGreatDoor
