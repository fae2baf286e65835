/-
  What the rows' lists and the arguments' readings give the walks: the three tables in their blocks; a slice of bytes that came in holds bytes; a shape; a world for the witness.
-/
import Derived.Test.YtlhjifdahagkaaaDoorM28
import Derived.Test.YtlhjifdahagkaaaDoorM06
import Derived.Test.YtlhjifdahagkaaaDoorCards
import Derived.Test.YtlhjifdahagkaaaDoorTie
import Derived.ProofKit
import Derived.OpenShut
import Derived.ShutString
import Derived.ChangeOld
import Derived.Below
import Derived.Deep.DeepHandedRow
import Derived.Lib.LaidTab
import Derived.Lib.SmallJoins
import Derived.Stop.LaidErr
namespace Go.Proofs.YtlhjifdahagkaaaDoor
open Go.ChangeShapes Go.WideShapes Go.ChangeAt Go.RowKit Go.Joins Go.Deep
theorem own : ownKnob Tryd.prog.godebug = none := by kernel_rfl
theorem laidOut : laidOutB Tryd.prog = true := by kernel_rfl
theorem gStart : Tryd.prog.globalNamed "chancery/sha.start" = some 1 := by kernel_rfl
theorem gSteps : Tryd.prog.globalNamed "chancery/sha.steps" = some 2 := by kernel_rfl
theorem gWidths : Tryd.prog.globalNamed "chancery/lms.widths" = some 0 := by kernel_rfl
theorem gStartType : (Tryd.prog.globals[1]?).map (·.type) = some 117 := by kernel_rfl
theorem gStepsType : (Tryd.prog.globals[2]?).map (·.type) = some 118 := by kernel_rfl
theorem gWidthsType : (Tryd.prog.globals[0]?).map (·.type) = some 109 := by kernel_rfl
theorem cellsU : Tryd.prog.cellsOf 116 = 1 := by kernel_rfl
theorem cellsH : Tryd.prog.cellsOf 117 = 8 := by kernel_rfl
theorem cellsK : Tryd.prog.cellsOf 118 = 64 := by kernel_rfl
theorem cellsW : Tryd.prog.cellsOf 52 = 4 := by kernel_rfl
theorem cellsW4 : Tryd.prog.cellsOf 109 = 16 := by kernel_rfl
theorem cellsS : Tryd.prog.cellsOf 23 = 3 := by kernel_rfl
theorem var_block {W : World} {name : String} {g : Nat} {cs : Array Value} (hg : Tryd.prog.globalNamed name = some g) (h : W.var? Tryd.prog name = some cs) : ∃ t fr, W.heap[g]? = some (.cells cs t fr) := by
  unfold World.var? at h
  rw [hg] at h
  simp only [Option.bind_some] at h
  split at h
  · rename_i c t fr hb
    cases h
    exact ⟨t, fr, hb⟩
  · cases h
theorem list4 {α : Type} {l : List α} (h : l.length = 4) : ∃ a b c d, l = [a, b, c, d] := by
  match l, h with
  | [a, b, c, d], _ => exact ⟨a, b, c, d, rfl⟩
section
variable {H : Type} {enc : TypeId × Value → H} {P : Program} {w : World} {base : Nat} {spare : Nat → Bool} {held : Bool}
theorem four_ints {t : TypeId} {f0 f1 f2 f3 : Field} {fuel : Nat} {cs : List Value} {a b c d : Int} {p : List MemPlace} (hs : P.underlying t = some (.struct #[f0, f1, f2, f3])) (hone : oneCellFields P #[f0, f1, f2, f3] = true) (hC : P.cellsOf t = 4)
    (i0 : P.underlying f0.type = some (.int .i64)) (i1 : P.underlying f1.type = some (.int .i64)) (i2 : P.underlying f2.type = some (.int .i64)) (i3 : P.underlying f3.type = some (.int .i64))
    (h : DataW.trod enc P w base spare held fuel t cs = some (.agg [.lit (.int .i64 a), .lit (.int .i64 b), .lit (.int .i64 c), .lit (.int .i64 d)], p)) : cs = [.int .i64 a, .int .i64 b, .int .i64 c, .int .i64 d] := by
  obtain ⟨y0, y1, y2, y3, n, hx, hl, h0, h1, h2, h3⟩ := trod_struct4 hs h
  rw [hC] at hl
  obtain ⟨c0, c1, c2, c3, rfl⟩ := list4 hl
  obtain ⟨o0, k0⟩ := hone_of hone 0 f0 rfl
  obtain ⟨o1, k1⟩ := hone_of hone 1 f1 rfl
  obtain ⟨o2, k2⟩ := hone_of hone 2 f2 rfl
  obtain ⟨o3, k3⟩ := hone_of hone 3 f3 rfl
  have h0 : DataW.trod enc P w base spare held n f0.type [c0] = some y0 := by simpa [o0, k0] using h0
  have h1 : DataW.trod enc P w base spare held n f1.type [c1] = some y1 := by simpa [o1, k1] using h1
  have h2 : DataW.trod enc P w base spare held n f2.type [c2] = some y2 := by simpa [o2, k2] using h2
  have h3 : DataW.trod enc P w base spare held n f3.type [c3] = some y3 := by simpa [o3, k3] using h3
  obtain ⟨z0, e0, rfl, _⟩ := DataW.trod_int i0 h0
  obtain ⟨z1, e1, rfl, _⟩ := DataW.trod_int i1 h1
  obtain ⟨z2, e2, rfl, _⟩ := DataW.trod_int i2 h2
  obtain ⟨z3, e3, rfl, _⟩ := DataW.trod_int i3 h3
  simp at hx e0 e1 e2 e3
  obtain ⟨⟨rfl, rfl, rfl, rfl⟩, _⟩ := hx
  rw [e0, e1, e2, e3]
end
theorem four_parts {α : Type} (l : List α) (h : l.length = 16) : l = (l.drop (0 * 4)).take 4 ++ ((l.drop (1 * 4)).take 4 ++ ((l.drop (2 * 4)).take 4 ++ (l.drop (3 * 4)).take 4)) := by
  have a := List.take_append_drop 4 l
  have b := List.take_append_drop 4 (l.drop 4)
  have c := List.take_append_drop 4 (l.drop 8)
  rw [List.drop_drop] at b c
  have d : (l.drop 12).take 4 = l.drop 12 := List.take_of_length_le (by rw [List.length_drop]; omega)
  show l = (l.drop 0).take 4 ++ ((l.drop 4).take 4 ++ ((l.drop 8).take 4 ++ (l.drop 12).take 4))
  rw [d, c, b, List.drop_zero, a]
theorem wid_of_laid {W : World} {rest : List (String × DataW Unit)} (h : laidMet Tryd.prog (("chancery/lms.widths", Rows.laid_chancery_lms_widths) :: rest) W) : WidAt W := by
  obtain ⟨ps, ⟨g', t', cs, fuel, p, q, hg', ht', hvar, hd, _, _⟩, _⟩ := h
  obtain rfl := Option.some.inj (gWidths.symm.trans hg')
  obtain rfl := Option.some.inj (gWidthsType.symm.trans ht')
  obtain ⟨t, fr, hb⟩ := var_block gWidths hvar
  refine ⟨t, fr, hb.trans ?_⟩
  suffices hcs : cs.toList = [.int .i64 1, .int .i64 1, .int .i64 265, .int .i64 7, .int .i64 2, .int .i64 2, .int .i64 133, .int .i64 6, .int .i64 4, .int .i64 3, .int .i64 67, .int .i64 4, .int .i64 8, .int .i64 4, .int .i64 34, .int .i64 0] by
    obtain ⟨l⟩ := cs
    simp only at hcs
    rw [hcs]
  cases fuel with
  | zero => simp [DataW.trod] at hd
  | succ fuel =>
    simp only [DataW.trod, Tryd.underlying109, cellsW, cellsW4] at hd
    split at hd
    · rename_i hl
      obtain ⟨xs, hm, hx⟩ := Option.map_eq_some_iff.1 hd
      have hxs := congrArg Prod.fst hx
      simp only [Rows.laid_chancery_lms_widths, DataW.agg.injEq] at hxs
      have hxl : xs.length = 4 := by simpa using Lib.mapM_length hm
      obtain ⟨x0, x1, x2, x3, rfl⟩ := list4 hxl
      obtain ⟨b0, g0, f0⟩ := Lib.mapM_at hm 0 0 rfl
      obtain ⟨b1, g1, f1⟩ := Lib.mapM_at hm 1 1 rfl
      obtain ⟨b2, g2, f2⟩ := Lib.mapM_at hm 2 2 rfl
      obtain ⟨b3, g3, f3⟩ := Lib.mapM_at hm 3 3 rfl
      cases g0; cases g1; cases g2; cases g3
      obtain ⟨d0, p0⟩ := x0
      obtain ⟨d1, p1⟩ := x1
      obtain ⟨d2, p2⟩ := x2
      obtain ⟨d3, p3⟩ := x3
      simp only [List.map_cons, List.map_nil, List.cons.injEq, and_true] at hxs
      obtain ⟨rfl, rfl, rfl, rfl⟩ := hxs
      have q0 := four_ints Tryd.underlying52 (by kernel_rfl) cellsW Tryd.underlying3 Tryd.underlying3 Tryd.underlying3 Tryd.underlying3 f0
      have q1 := four_ints Tryd.underlying52 (by kernel_rfl) cellsW Tryd.underlying3 Tryd.underlying3 Tryd.underlying3 Tryd.underlying3 f1
      have q2 := four_ints Tryd.underlying52 (by kernel_rfl) cellsW Tryd.underlying3 Tryd.underlying3 Tryd.underlying3 Tryd.underlying3 f2
      have q3 := four_ints Tryd.underlying52 (by kernel_rfl) cellsW Tryd.underlying3 Tryd.underlying3 Tryd.underlying3 Tryd.underlying3 f3
      rw [four_parts cs.toList (by simpa using hl), q0, q1, q2, q3]
      rfl
    · cases hd
/-- WHAT A ROW's LIST GIVES: the three tables. -/
theorem ready_of_laid {W : World} (h : laidMetH Tryd.prog [("chancery/sha.start", Rows.laid_chancery_sha_start), ("chancery/sha.steps", Rows.laid_chancery_sha_steps), ("chancery/lms.widths", Rows.laid_chancery_lms_widths)] W) : Sha.Ready W ∧ WidAt W := by
  rw [MakeChecks.laidMetH_plain _ _ _ (by kernel_rfl)] at h
  have h2 := laidMet.tail h
  have h3 := laidMet.tail h2
  have a := Lib.tabIs_of_head (zs := Sha.hTab.map Sha.iv) gStart gStartType Tryd.underlying117 Tryd.underlying116 cellsU cellsH h
  have b := Lib.tabIs_of_head (zs := Sha.kTab.map Sha.iv) gSteps gStepsType Tryd.underlying118 Tryd.underlying116 cellsU cellsK h2
  obtain ⟨t, fr, ha⟩ := var_block gStart a
  obtain ⟨t', fr', hb⟩ := var_block gSteps b
  rw [List.map_map] at ha hb
  exact ⟨⟨⟨t, fr, ha⟩, ⟨t', fr', hb⟩⟩, wid_of_laid h3⟩
theorem ib_ofInt (z : Int) (h : (Lit.int .u8 z).wf = true) : ((UInt8.ofNat z.toNat).toNat : Int) = z := by
  have hb := bounds_u8 h
  rw [UInt8.toNat_ofNat']
  omega
/-- WHAT A READING OF A SLICE OF BYTES GIVES. -/
theorem bytes_arg {H : Type} {enc : TypeId × Value → H} {W : World} {a : Option Addr} {len cap : Nat} {fuel : Nat} {x : DataW H × List MemPlace}
    (hf : DataW.trod enc Tryd.prog W 0 (fun _ => true) true fuel 24 (Value.slice a len cap).cells.toList = some x) : ∃ l : Bs, len = l.length ∧ (l.length : Int) ≤ 9223372036854775807 ∧ BytesAt W (.slice a l.length cap) l := by
  rcases open_ints Tryd.underlying24 Tryd.underlying5 (by kernel_rfl) hf with ⟨hcs, _⟩ | ⟨y, l, c, zs, hcs, _, hl, hm, hz, _, hcell, hwz⟩
  · simp [Value.cells] at hcs
    obtain ⟨rfl, rfl, rfl⟩ := hcs
    exact ⟨[], rfl, by decide, vals_nil _⟩
  · simp [Value.cells] at hcs
    obtain ⟨rfl, rfl, rfl⟩ := hcs
    have hz' : zs.length = cap := by simpa using hz
    have hll : ((zs.take len).map fun z => UInt8.ofNat z.toNat).length = len := by simp; omega
    have hlv : (((zs.take len).map fun z => UInt8.ofNat z.toNat).map bv).length = len := by rw [List.length_map, hll]
    refine ⟨(zs.take len).map fun z => UInt8.ofNat z.toNat, hll.symm, by rw [hll]; simp only [maxLen] at hm; omega, some y, cap, by rw [hlv, hll], by rw [hlv]; exact hl, fun h => (by cases h), fun hne => ?_⟩
    have hpos : 0 < len := by
      rcases Nat.eq_zero_or_pos len with h | h
      · subst h; simp at hne
      · exact h
    have c0 := hcell 0 (by omega)
    obtain ⟨b, o, s⟩ := y
    have hs : s = none := by
      cases s with
      | none => rfl
      | some k => simp [Addr.add, World.cell?] at c0; split at c0 <;> simp at c0
    subst hs
    refine ⟨b, o, rfl, fun j v hv => ?_⟩
    have hj : j < len := by
      have := (List.getElem?_eq_some_iff.1 hv).1
      rw [hlv] at this; exact this
    have hc := hcell j (by omega)
    rw [Addr.add_mid] at hc
    rw [hc]
    rw [List.getElem?_map, List.getElem?_map, List.getElem?_take, if_pos hj] at hv
    have hjz : j < zs.length := by omega
    rw [List.getElem?_eq_getElem hjz] at hv
    simp only [Option.map_some, Option.some.injEq] at hv
    rw [← hv]
    unfold bv
    rw [ib_ofInt _ (hwz _ (List.getElem_mem hjz)), List.getD_eq_getElem?_getD, List.getElem?_eq_getElem hjz]
    rfl
set_option maxRecDepth 100000 in
/-- WHAT A READING OF A SHAPE GIVES. -/
theorem shape_arg {H : Type} {enc : TypeId × Value → H} {W : World} {b0 : Nat} {v : Value} {d : DataW H} {p : List MemPlace} (hv : Value.okWide Tryd.prog W .any b0 23 v) (h : DataW.Trod enc Tryd.prog W 0 (fun _ => true) true 23 v d p) : ∃ L h wd : Int, v = shapeV L h wd := by
  obtain ⟨v0, v1, v2, y0, y1, y2, n, rfl, _, _, h0, h1, h2⟩ := open_agg3 Tryd.underlying23 (by kernel_rfl) cellsS hv h
  obtain ⟨z0, e0, _, _⟩ := DataW.trod_int Tryd.underlying3 h0
  obtain ⟨z1, e1, _, _⟩ := DataW.trod_int Tryd.underlying3 h1
  obtain ⟨z2, e2, _, _⟩ := DataW.trod_int Tryd.underlying3 h2
  simp at e0 e1 e2
  exact ⟨z0, z1, z2, by rw [e0, e1, e2]; rfl⟩
/-- A world for a witness: the three tables as their initialisers lay them. -/
def withTabs (w : World) : World :=
  { w with heap := ((w.heap.modify 1 fun
      | .cells _ t frozen => .cells (Sha.hTab.map Sha.wv).toArray t frozen
      | o => o).modify 2 fun
      | .cells _ t frozen => .cells (Sha.kTab.map Sha.wv).toArray t frozen
      | o => o).modify 0 fun
      | .cells _ t frozen => .cells #[.int .i64 1, .int .i64 1, .int .i64 265, .int .i64 7, .int .i64 2, .int .i64 2, .int .i64 133, .int .i64 6, .int .i64 4, .int .i64 3, .int .i64 67, .int .i64 4, .int .i64 8, .int .i64 4, .int .i64 34, .int .i64 0] t frozen
      | o => o }
end Go.Proofs.YtlhjifdahagkaaaDoor
