/-
  The walks of the landed code: allowed, trueAt, PackHints.
-/
import Derived.Test.YthciafobknaipaaCodeB
import Derived.Test.YthciafobknaipaaHintsD
import Derived.Laws.CopyRow
import Derived.Laws.IdiomCopy
namespace Go.Proofs.Ythciafobknaipaa
open Go.RowKit
theorem allowed_any (n m : Int) (w : World) : Calls Try.prog 36 #[.int .i64 n, .int .i64 m] w fun e w' => e = .returned (.bool (decide (0 ≤ n ∧ n ≤ 16 ∧ 0 ≤ m ∧ m ≤ 255))) ∧ w' = w := by
  by_cases h1 : 0 ≤ n
  · by_cases h2 : n ≤ 16
    · have d2 : decide (n ≤ 16) = true := by simp; omega
      by_cases h3 : 0 ≤ m
      · by_cases h4 : m ≤ 255
        · have d4 : decide (m ≤ 255) = true := by simp; omega
          go_enter Try.func36, Try.ntmps36
          go_wp2
          go_ret
          exact ⟨by simp [h1, h2, h3, h4], rfl⟩
        · have d4 : decide (m ≤ 255) = false := by simp; omega
          go_enter Try.func36, Try.ntmps36
          go_wp2
          go_ret
          exact ⟨by simp, rfl⟩
      · have d3 : decide (0 ≤ m) = false := by simp; omega
        go_enter Try.func36, Try.ntmps36
        go_wp2
        go_ret
        exact ⟨by simp, rfl⟩
    · have d2 : decide (n ≤ 16) = false := by simp; omega
      go_enter Try.func36, Try.ntmps36
      go_wp2
      go_ret
      exact ⟨by simp, rfl⟩
  · have d1 : decide (0 ≤ n) = false := by simp; omega
    go_enter Try.func36, Try.ntmps36
    go_wp2
    go_ret
    exact ⟨by simp, rfl⟩
def plTo (l : List Bool) (k : Nat) : List Nat := (List.range k).filter fun j => l.getD j false
theorem plTo_succ (l : List Bool) (k : Nat) : plTo l (k + 1) = plTo l k ++ (if l.getD k false = true then [k] else []) := by
  unfold plTo
  rw [List.range_succ, List.filter_append]
  congr 1
  rw [List.filter_cons, List.filter_nil]
theorem plTo_len (l : List Bool) (k : Nat) : (plTo l k).length ≤ k := Nat.le_trans (List.length_filter_le _ _) (by simp)
/-- What stands while the places are laid. -/
structure TrIn (w : World) (l : List Bool) (k : Nat) (v : Value) (wr : World) : Prop where
  own : OwnV 5 wr w.heap.size v (bvals (plTo l k))
  b : Below w.heap.size w wr
set_option maxRecDepth 100000 in
set_option maxHeartbeats 2000000 in
theorem trueAt_any (w : World) (b o c : Nat) (l : List Bool) (hl : l.length = 256) (hb : b < w.heap.size) (hc : ∀ k, k < 256 → w.cell? ⟨b, o + k, none⟩ = some (.bool (l.getD k false))) :
    Calls Try.prog 37 #[.slice (some ⟨b, o, none⟩) 256 c] w fun e w' => ∃ v, e = .returned v ∧ OwnV 5 w' w.heap.size v (bvals (placesOf l)) ∧ Below w.heap.size w w' := by
  have Hc := hide hc
  have Hb := hide hb
  have HI : Hid (TrIn w l 0 (.slice none 0 0) w) := ⟨by simpa [plTo, bvals] using own_nil 5 w w.heap.size, Below.refl _ _⟩
  have Hl := hide hl
  clear hc hb hl
  go_enter Try.func37, Try.ntmps37
  go_wp2
  go_loopw [3, 8] (fun p kk wr => ∃ k : Nat, k ≤ 256 ∧ kk = .int .i64 (k : Int) ∧ Hid (TrIn w l k p wr)) (fun _ kk _ => 256 - (intOf kk).toNat)
  case atStart => exact ⟨0, by omega, rfl, HI⟩
  case round =>
    clear HI
    obtain ⟨k, hk, rfl, HI⟩ := hrel
    by_cases hlt : k < 256
    · have e2 : wr.cell? ⟨b, o + k, none⟩ = some (.bool (l.getD k false)) := by rw [(unhide HI).b.cell (unhide Hb)]; exact unhide Hc k hlt
      have i0 : (0 : Int) ≤ (k : Int) := by omega
      have i1 : (k : Int) < 256 := by omega
      have hsu := plTo_succ l k
      generalize l.getD k false = t at e2 hsu
      cases t with
      | false =>
        have HI2 : Hid (TrIn w l (k + 1) u3 wr) := ⟨by rw [hsu, if_neg (by simp), List.append_nil]; exact (unhide HI).own, (unhide HI).b⟩
        clear HI hsu
        go_wp2
        go_roundw
        case rel =>
          first
            | exact ⟨k + 1, by omega, by go_num, HI2⟩
            | ((repeat apply Exists.intro); exact ⟨⟨k + 1, by omega, by go_num, HI2⟩, rfl⟩)
        case measure => simp [intOf]; omega
      | true =>
        have cvb : IntKind.u8.wrap (k : Int) = (k : Int) := by rw [IntKind.wrap_u8']; omega
        have HO := hide ((unhide HI).own.alloc (.cells #[.int .u8 (k : Int)] 5))
        have HV := hide (vals_new wr [.int .u8 (k : Int)] 5)
        have hbA : Below w.heap.size w (wr.alloc (.cells #[.int .u8 (k : Int)] 5)) := (unhide HI).b.alloc (unhide HI).b.size _
        have HbA := hide hbA
        have Hll := hide (show (bvals (plTo l k)).length + [Value.int .u8 (k : Int)].length ≤ 1073741824 by rw [len_bvals]; have := plTo_len l k; simp; omega)
        have Hs := hide hbA.size
        have HN : Hid (bvals (plTo l (k + 1)) = bvals (plTo l k) ++ [.int .u8 (k : Int)]) := by
          show _ = _
          rw [hsu, if_pos rfl]; simp [bvals]
        clear HI hsu hbA
        go_wp2_with (at_builtin; refine wpList_append_vals Eb rfl _ _ rfl w.heap.size _ _ (bvals (plTo l k)) [.int .u8 (k : Int)] rfl (unhide HO) rfl (unhide HV) (by simp [Value.oneCell']) (unhide Hs) (unhide Hll) ?_
                     intro v2 w3 hO2 hg2 _
                     rw [← unhide HN] at hO2
                     have HI2 : Hid (TrIn w l (k + 1) v2 w3) := ⟨hO2, own_below (unhide HO) hg2 (unhide HbA) (unhide Hs)⟩
                     clear hO2 hg2)
        go_roundw
        case rel =>
          first
            | exact ⟨k + 1, by omega, by go_num, HI2⟩
            | ((repeat apply Exists.intro); exact ⟨⟨k + 1, by omega, by go_num, HI2⟩, rfl⟩)
        case measure => simp [intOf]; omega
    · obtain rfl : k = 256 := by omega
      have HO : Hid (OwnV 5 wr w.heap.size u3 (bvals (placesOf l))) := by
        show OwnV _ _ _ _ _
        unfold placesOf
        rw [unhide Hl]
        exact (unhide HI).own
      have HB := hide (unhide HI).b
      clear HI
      go_wp2
      go_ret
      exact ⟨_, rfl, unhide HO, unhide HB⟩
/-- Places in front, counts behind, noughts behind each. -/
def outTo (M n : Nat) (P E : List Nat) : List Nat := P ++ List.replicate (M - P.length) 0 ++ (E ++ List.replicate (n - E.length) 0)
theorem outTo_len {M n : Nat} {P E : List Nat} (hP : P.length ≤ M) (hE : E.length ≤ n) : (outTo M n P E).length = M + n := by
  unfold outTo
  simp only [List.length_append, List.length_replicate]
  omega
theorem outTo_nil (M n : Nat) : outTo M n [] [] = List.replicate (M + n) 0 := by
  unfold outTo
  simp
theorem outTo_full {M n : Nat} {P E : List Nat} (hE : E.length = n) : outTo M n P E = P ++ List.replicate (M - P.length) 0 ++ E := by
  unfold outTo
  rw [hE, Nat.sub_self, List.replicate_zero, List.append_nil]
theorem outTo_copy {M n : Nat} {P E p : List Nat} (h : P.length + p.length ≤ M) : (outTo M n P E).take P.length ++ p ++ (outTo M n P E).drop (P.length + p.length) = outTo M n (P ++ p) E := by
  unfold outTo
  rw [List.append_assoc P, List.take_left' rfl, ← List.drop_drop, List.drop_left' rfl, List.drop_append_of_le_length (by simp; omega), List.drop_replicate, List.length_append]
  rw [show M - P.length - p.length = M - (P.length + p.length) by omega]
  simp only [List.append_assoc]
theorem outTo_set {M n : Nat} {P E : List Nat} {x : Nat} (hP : P.length ≤ M) (hE : E.length < n) : (outTo M n P E).set (M + E.length) x = outTo M n P (E ++ [x]) := by
  unfold outTo
  have hl : (P ++ List.replicate (M - P.length) 0).length = M := by simp; omega
  rw [List.set_append_right _ _ (by omega), hl, Nat.add_sub_cancel_left, List.set_append_right _ _ (Nat.le_refl _), Nat.sub_self]
  obtain ⟨d, hd⟩ : ∃ d, n - E.length = d + 1 := ⟨n - E.length - 1, by omega⟩
  rw [hd, List.replicate_succ, List.set_cons_zero, List.length_append, show n - (E.length + [x].length) = d by simp; omega]
  simp only [List.append_assoc, List.singleton_append]
def enTo (L : List (List Bool)) (i : Nat) : List Nat := (List.range i).map fun j => (placesAll (L.take (j + 1))).length
theorem enTo_succ (L : List (List Bool)) (i : Nat) : enTo L (i + 1) = enTo L i ++ [(placesAll (L.take (i + 1))).length] := by simp [enTo, List.range_succ]
theorem enTo_len (L : List (List Bool)) (i : Nat) : (enTo L i).length = i := by simp [enTo]
theorem plAll_snoc (L : List (List Bool)) (i : Nat) (hi : i < L.length) : placesAll (L.take (i + 1)) = placesAll (L.take i) ++ placesOf (L.getD i []) := by
  unfold placesAll
  rw [List.take_succ_eq_append_getElem hi, List.flatMap_append, List.getD_eq_getElem?_getD, List.getElem?_eq_getElem hi]
  simp
theorem plAll_mono (L : List (List Bool)) (i : Nat) : (placesAll (L.take i)).length ≤ (placesAll L).length := by
  conv => rhs; rw [← List.take_append_drop i L]
  unfold placesAll
  rw [List.flatMap_append, List.length_append]
  omega
theorem bset (l : List Nat) (i v : Nat) : (bvals l).set i (.int .u8 (v : Int)) = bvals (l.set i v) := by unfold bvals; rw [List.map_set]
theorem one_bvals (l : List Nat) : ∀ u ∈ bvals l, u.oneCell' = true := fun u hu => by obtain ⟨x, _, rfl⟩ := List.mem_map.1 hu; rfl
theorem grown_row {w : World} (g : Nat) (cs : Array Value) : w.grownBy (w.setRow g cs) (some g) :=
  ⟨rfl, rfl, rfl, by rw [setRow_size]; exact Nat.le_refl _, fun i _ hne => by rw [setRow_other _ _ _ _ (fun e => hne (by rw [e]))]⟩
theorem under_b : Try.prog.underlying 34 = some (.slice (Try.prog.elem 34)) := by kernel_rfl
theorem elem_b : Try.prog.elem 34 = 5 := by kernel_rfl
theorem size5 (w : World) : (Go.sizeOf 5).run Try.prog w = .ok 1 w := by
  obtain ⟨_, ⟨i, hi, _, hsz, _⟩, _, _⟩ := Eb
  simp [Go.sizeOf, typeInfo, hi, hsz]
/-- The rest of a slice of bytes of its own block. -/
theorem slice_from (O K u : Nat) (x : Int) (hx : x = (u : Int)) (hu : u < K) (w : World) : (Instr.sliceAt 34 (.slice (some ⟨O, 0, none⟩) K K) (some (.int .i64 x)) none none).run Try.prog w = .ok (.slice (some ⟨O, u, none⟩) (K - u) (K - u)) w := by
  subst hx
  rw [run_sliceAt_slice w 34 _ _ _ _ under_b, run_slice_l w 34 _ K K under_b .i64 (u : Int) (by omega) (by omega), elem_b, size5, Result.andThen_ok]
  simp only [sliced, Int.toNat_natCast, Nat.mul_one]
  rw [if_neg (by omega)]
  simp only [Option.map_some, Addr.add_mid, Nat.zero_add]
theorem copy_in (w : World) (O K u : Nat) (cs : List Nat) (ps : List Nat) (sp : Option Addr) (c : Nat) (hr : RowAt 5 w O [] (bvals cs)) (hv : ValsAt w (.slice sp ps.length c) (bvals ps)) (hk : cs.length = K) (hu : u + ps.length ≤ K) :
    ∃ W, (Builtin.copy_ #[34, 34] 3 #[.slice (some ⟨O, u, none⟩) (K - u) (K - u), .slice sp ps.length c]).run Try.prog w = .ok (.int .i64 (ps.length : Int)) W ∧ RowAt 5 W O [] (bvals (cs.take u ++ ps ++ cs.drop (u + ps.length))) ∧ w.grownBy W (some O) := by
  have hu5 : Try.prog.underlying 34 = some (.slice 5) := by kernel_rfl
  by_cases hne : ps = []
  · subst hne
    refine ⟨w, run_copy_none (P := Try.prog) w 34 34 3 5 _ _ (K - u) (K - u) 0 c hu5 (by kernel_rfl) (by simp), ?_, World.grownBy.refl _ _⟩
    simp only [List.append_nil, List.length_nil, Nat.add_zero, List.take_append_drop]
    exact hr
  · obtain ⟨sp', c', e, h1, h2, h3⟩ := hv
    simp only [Value.slice.injEq] at e
    obtain ⟨rfl, _, rfl⟩ := e
    obtain ⟨b, o, rfl, hrg⟩ := h3 (by intro e; exact hne (by simpa [bvals] using e))
    have hrow : w.heap[O]? = some (.cells (bvals cs).toArray 5 (0, 0)) := by
      have := hr
      unfold RowAt at this
      rwa [List.append_nil] at this
    refine ⟨_, (run_copy_row (P := Try.prog) w 34 34 3 5 O u (K - u) (K - u) ⟨b, o, none⟩ ps.length c (bvals cs).toArray 5 (bvals ps) hu5 (by kernel_rfl) hrow (by rw [len_bvals]; exact (Nat.min_eq_left (by omega)).symm)
      (fun j v hv => by rw [Addr.add_mid]; exact hrg j v hv) (by simp [bvals]; omega) (one_bvals ps)).trans (by rw [len_bvals]; rfl), ?_, grown_row O _⟩
    unfold RowAt
    rw [setRow_heap w O _ _ 5 (0, 0) hrow, List.append_nil, List.toList_toArray]
    congr 3
    unfold bvals
    rw [List.map_append, List.map_append, List.map_take, List.map_drop]
/-- What stands when the lists ahead of i are in. -/
structure HkIn (w : World) (L : List (List Bool)) (M O i : Nat) (wr : World) : Prop where
  row : RowAt 5 wr O [] (bvals (outTo M L.length (placesAll (L.take i)) (enTo L i)))
  all : ∀ j, j < i → (L.getD j []).length = 256
  most : (placesAll (L.take i)).length ≤ M
  b : Below w.heap.size w wr
theorem HkIn.step {w : World} {L : List (List Bool)} {M O i : Nat} {wr w3 W : World} (h : HkIn w L M O i wr) (hi : i < L.length) (hw : w.heap.size ≤ O) (h256 : (L.getD i []).length = 256) (hb3 : Below wr.heap.size wr w3)
    (hW : RowAt 5 W O [] (bvals (outTo M L.length (placesAll (L.take (i + 1))) (enTo L i)))) (hg : w3.grownBy W (some O)) (hm : (placesAll (L.take (i + 1))).length ≤ M) : HkIn w L M O (i + 1) (W.setCell ⟨O, M + i, none⟩ (.int .u8 ((placesAll (L.take (i + 1))).length : Int))) := by
  have hlen : (bvals (outTo M L.length (placesAll (L.take (i + 1))) (enTo L i))).length = M + L.length := by rw [len_bvals, outTo_len hm (by rw [enTo_len]; omega)]
  refine ⟨?_, fun j hj => ?_, hm, ?_⟩
  · have hr := hW.set (M + i) (by rw [hlen]; omega) (.int .u8 ((placesAll (L.take (i + 1))).length : Int))
    have e := outTo_set (M := M) (n := L.length) (P := placesAll (L.take (i + 1))) (E := enTo L i) (x := (placesAll (L.take (i + 1))).length) hm (by rw [enTo_len]; exact hi)
    rw [enTo_len] at e
    rw [bset, e, ← enTo_succ] at hr
    exact hr
  · rcases Nat.lt_or_ge j i with hji | hji
    · exact h.all j hji
    · obtain rfl : j = i := by omega
      exact h256
  · have hb := h.b.trans (hb3.mono h.b.size)
    exact (hb.grown hg hb.size (fun k hk => by cases hk; exact hw)).setCell (p := ⟨O, M + i, none⟩) hw _
set_option maxRecDepth 100000 in
set_option maxHeartbeats 4000000 in
theorem packH_any (w : World) (x : Value) (L : List (List Bool)) (most : Int) (hx : ListsAt w x L) (hL : L.length ≤ 1000) (hLl : ∀ l ∈ L, l.length ≤ 1000) :
    Calls Try.prog 26 #[x, .int .i64 most] w fun e w' => HintsAnswer w most L e w' := by
  obtain ⟨vs, hvl, hv, hin⟩ := hx
  have HV := hide hv
  obtain ⟨sp, c, rfl, hvc, _, _⟩ := hv
  rw [hvl] at hvc HV
  rw [hvl]
  have Hin := hide hin
  have HLl := hide hLl
  have Hvl := hide hvl
  have Hal := hide (allowed_any (L.length : Int) most)
  clear hin hvl hvc hLl
  by_cases hA : 0 ≤ (L.length : Int) ∧ (L.length : Int) ≤ 16 ∧ 0 ≤ most ∧ most ≤ 255
  · rw [show decide (0 ≤ (L.length : Int) ∧ (L.length : Int) ≤ 16 ∧ 0 ≤ most ∧ most ≤ 255) = true by simp; omega] at Hal
    obtain ⟨_, a2, a3, a4⟩ := hA
    obtain ⟨M, rfl⟩ : ∃ M : Nat, most = (M : Int) := ⟨most.toNat, by omega⟩
    obtain ⟨n, hn⟩ : ∃ n, L.length = n := ⟨_, rfl⟩
    obtain ⟨W, hmk, hrow, hbel⟩ := made_vals Eb rfl w .i64 .i64 (M + n) ((M : Int) + (n : Int)) ((M : Int) + (n : Int)) (by omega) (by omega) (by omega)
    have HI : Hid (HkIn w L M w.heap.size 0 W) := ⟨by
      have e : placesAll (L.take 0) = [] := by simp [placesAll]
      have e2 : enTo L 0 = [] := by simp [enTo]
      rw [e, e2, outTo_nil, hn]
      have e3 : bvals (List.replicate (M + n) 0) = List.replicate (M + n) (.int .u8 0) := by simp [bvals]
      rw [e3]; exact hrow, fun j hj => by omega, by simp [placesAll], hbel⟩
    have Hn := hide hn
    rw [hn] at hL a2 Hal HV ⊢
    have nb : (n : Int) ≤ 16 := by omega
    have n0 : (0 : Int) ≤ (n : Int) := by omega
    have mb : (M : Int) ≤ 255 := by omega
    have m0 : (0 : Int) ≤ (M : Int) := by omega
    clear hrow hbel hn a2 a3 a4 hL
    go_enter Try.func26, Try.ntmps26
    go_wp2_with fail
    refine (unhide Hal w).mono ?_
    rintro e w1 ⟨rfl, rfl⟩
    go_wp2
    clear hmk
    generalize hO : w1.heap.size = O at HI ⊢
    go_loopw [7, 23] (fun uu ii wr => ∃ i : Nat, i ≤ n ∧ ii = .int .i64 (i : Int) ∧ uu = .int .i64 ((placesAll (L.take i)).length : Int) ∧ Hid (HkIn w1 L M O i wr)) (fun _ ii _ => n - (intOf ii).toNat)
    case atStart => exact ⟨0, by omega, rfl, by simp [placesAll], HI⟩
    case round =>
      clear HI
      obtain ⟨i, hi, rfl, rfl, HI⟩ := hrel
      have hum := (unhide HI).most
      obtain ⟨u, hu⟩ : ∃ u, (placesAll (L.take i)).length = u := ⟨_, rfl⟩
      have Hu := hide hu
      rw [hu] at hum ⊢
      clear hu
      have ub : (u : Int) ≤ 255 := by omega
      by_cases hlt : i < n
      · have hiL : i < L.length := by rw [unhide Hn]; exact hlt
        have hne : vs ≠ [] := by intro e; have := unhide Hvl; rw [e] at this; simp at this; omega
        obtain ⟨vb, vo, vc, ev, _, hvb, hvcell⟩ := (unhide HV).cell hne
        simp only [Value.slice.injEq] at ev
        obtain ⟨rfl, hnv, rfl⟩ := ev
        clear hnv
        have hvi := unhide Hin i hiL
        obtain ⟨s, ci, es⟩ := hvi.form
        have e2 : wr.cell? ⟨vb, vo + i, none⟩ = some (.slice s (tvals (L.getD i [])).length ci) := by rw [(unhide HI).b.cell hvb, hvcell i (by rw [unhide Hvl]; exact hiL), es]
        have elen : (tvals (L.getD i [])).length = (L.getD i []).length := by simp [tvals]
        have hmem : L.getD i [] ∈ L := by rw [List.getD_eq_getElem?_getD, List.getElem?_eq_getElem hiL]; exact List.getElem_mem hiL
        have hlb := unhide HLl _ hmem
        have i0 : (0 : Int) ≤ (i : Int) := by omega
        have i1 : (i : Int) < (n : Int) := by omega
        have ib : (i : Int) ≤ 16 := by omega
        have HiL := hide hiL
        rw [elen] at e2
        by_cases h256 : (L.getD i []).length = 256
        · rw [h256] at e2
          rw [es] at hvi
          obtain ⟨b2, o2, c2, e3, _, hb2, hcell2⟩ := hvi.cell (by intro e; have := congrArg List.length e; rw [elen, h256] at this; simp at this)
          simp only [Value.slice.injEq] at e3
          obtain ⟨rfl, hnl, rfl⟩ := e3
          clear hnl
          have hc2 : ∀ k, k < 256 → wr.cell? ⟨b2, o2 + k, none⟩ = some (.bool ((L.getD i []).getD k false)) := fun k hk => by
            rw [(unhide HI).b.cell hb2, hcell2 k (by rw [elen]; omega)]
            have hk2 : k < (L.getD i []).length := by omega
            generalize L.getD i [] = l at hk2
            simp [tvals, List.getD_eq_getElem?_getD, hk2]
          have hb2' : b2 < wr.heap.size := Nat.lt_of_lt_of_le hb2 (unhide HI).b.size
          have Hta := hide (trueAt_any wr b2 o2 ci (L.getD i []) h256 hb2' hc2)
          have H256 := hide h256
          clear hvi hcell2 hc2 hb2 hb2' es elen hmem hlb hvcell hvb hne h256 hiL
          go_wp2_with fail
          refine (unhide Hta).mono ?_
          rintro e w3 ⟨v3, rfl, hO3, hb3⟩
          obtain ⟨sp3, c3, hv3⟩ := hO3.form
          rw [len_bvals] at hv3
          subst hv3
          have hsn := plAll_snoc L i (unhide HiL)
          obtain ⟨p, hp⟩ : ∃ p, (placesOf (L.getD i [])).length = p := ⟨_, rfl⟩
          have hpb : p ≤ 256 := by
            rw [← hp]
            have := plTo_len (L.getD i []) (L.getD i []).length
            rw [unhide H256] at this
            have e : plTo (L.getD i []) (L.getD i []).length = placesOf (L.getD i []) := rfl
            rw [unhide H256] at e
            rw [← e]; exact this
          have hln : (placesAll (L.take (i + 1))).length = u + p := by rw [hsn, List.length_append, unhide Hu, hp]
          have pb : (p : Int) ≤ 256 := by omega
          have HB3 := hide hb3
          have HO3 := hide hO3
          by_cases hM : u + p ≤ M
          · have dM : decide ((M : Int) < (u : Int) + (p : Int)) = false := by simp; omega
            have hrow3 := (unhide HI).row.below hb3
            have hol : (outTo M L.length (placesAll (L.take i)) (enTo L i)).length = M + n := by rw [outTo_len (unhide HI).most (by rw [enTo_len]; exact Nat.le_of_lt (unhide HiL)), unhide Hn]
            obtain ⟨W4, hcp, hrow4, hg4⟩ := copy_in w3 O (M + n) u (outTo M L.length (placesAll (L.take i)) (enTo L i)) (placesOf (L.getD i [])) sp3 c3 hrow3 hO3.vals hol (by omega)
            have eo := outTo_copy (M := M) (n := L.length) (P := placesAll (L.take i)) (E := enTo L i) (p := placesOf (L.getD i [])) (by rw [unhide Hu, hp]; exact hM)
            rw [unhide Hu, ← hsn] at eo
            rw [eo] at hrow4
            have hsl := slice_from O (M + n) u (u : Int) rfl (by omega)
            have HI2 := hide ((unhide HI).step (unhide HiL) (Nat.le_of_eq hO) (unhide H256) hb3 hrow4 hg4 (by rw [hln]; exact hM))
            have hc4 := hrow4.cell (M + i) (by rw [len_bvals, outTo_len (by rw [hln]; exact hM) (by rw [enTo_len]; exact Nat.le_of_lt (unhide HiL)), unhide Hn]; omega)
            have hf4 := hrow4.frozen (M + i)
            generalize (bvals (outTo M L.length (placesAll (L.take (i + 1))) (enTo L i))).getD (M + i) undef = old at hc4
            rw [hp] at hcp ⊢
            have cvb : IntKind.u8.wrap ((u : Int) + (p : Int)) = (u : Int) + (p : Int) := by rw [IntKind.wrap_u8']; omega
            have mi0 : (0 : Int) ≤ (M : Int) + (i : Int) := by omega
            have mi1 : (M : Int) + (i : Int) < ((M + n : Nat) : Int) := by omega
            have mt : ((M : Int) + (i : Int)).toNat = M + i := by omega
            have Hln := hide hln
            rw [hln] at HI2
            have HNe := hide (show ((u + p : Nat) : Int) = (u : Int) + (p : Int) by simp)
            rw [unhide HNe] at HI2
            obtain ⟨W5, hW5⟩ : ∃ W5, W4.setCell ⟨O, M + i, none⟩ (.int .u8 ((u : Int) + (p : Int))) = W5 := ⟨_, rfl⟩
            rw [hW5] at HI2
            clear hb3 hO3 hsn hln hp hrow3 hol eo hrow4 hg4 HI HO3 HB3 Hta
            go_wp2
            exact ⟨⟨i + 1, by omega, by go_num, by rw [unhide Hln, unhide HNe], HI2⟩, by simp [intOf]; omega⟩
          · have dM : decide ((M : Int) < (u : Int) + (p : Int)) = true := by simp; omega
            have HNO : Hid (¬ Hintable (M : Int) L) := fun h => by
              have h4 := h.2.2.2.2
              have := plAll_mono L (i + 1)
              omega
            have HB4 := hide ((unhide HI).b.trans (hb3.mono (unhide HI).b.size))
            rw [hp]
            clear hb3 hO3 hsn hln hp HI HO3 HB3 Hta
            go_wp2
            go_ret2
            exact Or.inr ⟨unhide HNO, _, rfl, vals_nil _, unhide HB4⟩
        · have dl : (((L.getD i []).length : Int) != 256) = true := bne_iff_ne.2 (by omega)
          have HNO : Hid (¬ Hintable (M : Int) L) := fun h => h256 (h.2.2.2.1 _ hmem)
          have HB := hide (unhide HI).b
          generalize (L.getD i []).length = li at e2 dl hlb
          have lib : (li : Int) ≤ 1000 := by omega
          clear hvi es elen hmem hvcell hvb hne h256 HI hiL
          go_wp2
          go_ret2
          exact Or.inr ⟨unhide HNO, _, rfl, vals_nil _, unhide HB⟩
      · obtain rfl : i = n := by omega
        have hall : Hintable (M : Int) L := by
          refine ⟨by omega, by omega, by rw [unhide Hn]; omega, fun l hl => ?_, ?_⟩
          · obtain ⟨j, hj, rfl⟩ := List.getElem_of_mem hl
            have := (unhide HI).all j (by rw [← unhide Hn]; exact hj)
            rwa [List.getD_eq_getElem?_getD, List.getElem?_eq_getElem hj] at this
          · have := (unhide HI).most
            rw [List.take_of_length_le (by rw [unhide Hn]; exact Nat.le_refl _)] at this
            omega
        have hrow := (unhide HI).row
        rw [List.take_of_length_le (by rw [unhide Hn]; exact Nat.le_refl _), outTo_full (by rw [enTo_len, unhide Hn])] at hrow
        have hend : enTo L i = endsOf L := by unfold enTo endsOf; rw [unhide Hn]
        rw [hend] at hrow
        have hml := hall.2.2.2.2
        have hlen : (hintBytes M L).length = M + i := by rw [len_hint (by omega), unhide Hn]
        have HO : Hid (OwnV 5 wr w1.heap.size (.slice (some ⟨O, 0, none⟩) (M + i) (M + i)) (bvals (hintBytes M L))) :=
          RowAt.own (B := O) hrow (Nat.le_of_eq hO) (M + i) (M + i) (by have e : bvals (placesAll L ++ List.replicate (M - (placesAll L).length) 0 ++ endsOf L) = bvals (hintBytes M L) := rfl; rw [e, len_bvals, hlen]) (by simp) (by simp only [maxLen]; omega)
        have HB := hide (unhide HI).b
        have HH := hide hall
        clear hrow hend hml hlen HI hall
        go_wp2
        go_ret2
        exact Or.inl ⟨unhide HH, _, rfl, unhide HO, unhide HB⟩
  · have d : decide (0 ≤ (L.length : Int) ∧ (L.length : Int) ≤ 16 ∧ 0 ≤ most ∧ most ≤ 255) = false := by simp; omega
    rw [d] at Hal
    have HNO : Hid (¬ Hintable most L) := fun h => by
      have h1 := h.1
      have h2 := h.2.1
      have h3 := h.2.2.1
      omega
    clear d hA HV
    go_enter Try.func26, Try.ntmps26
    go_wp2_with fail
    refine (unhide Hal w).mono ?_
    rintro e w1 ⟨rfl, rfl⟩
    go_wp2
    go_ret2
    exact Or.inr ⟨unhide HNO, _, rfl, vals_nil _, Below.refl _ _⟩
end Go.Proofs.Ythciafobknaipaa
