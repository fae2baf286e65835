/-
  The walk of the reference's UnpackHints: the lists where the bytes are such, else nothing.
-/
import Derived.Test.YthciafobknaipaaHintsP
namespace Go.Proofs.Ythciafobknaipaa
open Go.RowKit
theorem Et : Elem Try.prog 45 4 (.bool false) 1 := elem_of Try.underlying45 (by kernel_rfl) rfl (by omega)
theorem El : Elem Try.prog 44 45 (.slice none 0 0) 24 := elem_of Try.underlying44 (by kernel_rfl) rfl (by omega)
theorem ListsAt.below {a b : World} {x : Value} {L : List (List Bool)} (h : ListsAt a x L) (hb : Below a.heap.size a b) : ListsAt b x L := by
  obtain ⟨vs, h1, h2, h3⟩ := h
  exact ⟨vs, h1, h2.below hb, fun i hi => (h3 i hi).below hb⟩
theorem listB_get (b : List Nat) (m f e k : Nat) (hk : k < 256) : (listB b m f e).getD k false = (List.range m).any fun t => decide (f ≤ t) && decide (t < e) && b.getD t 0 == k := by simp [listB, List.getD_eq_getElem?_getD, hk]
theorem listB_none (b : List Nat) (m f e : Nat) (h : e ≤ f) : listB b m f e = List.replicate 256 false := by
  apply List.ext_getElem
  · rw [len_listB, List.length_replicate]
  · intro k h1 h2
    simp only [listB, List.getElem_map, List.getElem_range, List.getElem_replicate]
    rw [List.any_eq_false]
    intro t _
    simp only [Bool.and_eq_true, decide_eq_true_eq, beq_iff_eq, not_and]
    intro h3
    omega
theorem listB_step (b : List Nat) (m f t : Nat) (hf : f ≤ t) (ht : t < m) : (listB b m f t).set (b.getD t 0) true = listB b m f (t + 1) := by
  apply List.ext_getElem
  · simp [listB]
  · intro k h1 h2
    rw [List.getElem_set]
    simp only [listB, List.getElem_map, List.getElem_range]
    split
    · rename_i e
      symm
      rw [List.any_eq_true]
      exact ⟨t, List.mem_range.2 ht, by simp only [Bool.and_eq_true, decide_eq_true_eq, beq_iff_eq]; exact ⟨⟨hf, by omega⟩, e⟩⟩
    · rename_i e
      rw [Bool.eq_iff_iff, List.any_eq_true, List.any_eq_true]
      constructor
      · rintro ⟨s, hs, hc⟩
        simp only [Bool.and_eq_true, decide_eq_true_eq, beq_iff_eq] at hc
        exact ⟨s, hs, by simp only [Bool.and_eq_true, decide_eq_true_eq, beq_iff_eq]; exact ⟨⟨hc.1.1, by omega⟩, hc.2⟩⟩
      · rintro ⟨s, hs, hc⟩
        simp only [Bool.and_eq_true, decide_eq_true_eq, beq_iff_eq] at hc
        refine ⟨s, hs, ?_⟩
        simp only [Bool.and_eq_true, decide_eq_true_eq, beq_iff_eq]
        refine ⟨⟨hc.1.1, ?_⟩, hc.2⟩
        have : s ≠ t := by rintro rfl; exact e hc.2
        omega
theorem listB_stop (b : List Nat) (m f e t : Nat) (_hft : f ≤ t) (ht : t = f ∨ (t ≤ e ∧ t ≤ m)) (hs : ¬ (t < e ∧ t < m)) : listB b m f t = listB b m f e := by
  unfold listB
  apply List.map_congr_left
  intro k _
  rw [Bool.eq_iff_iff, List.any_eq_true, List.any_eq_true]
  constructor
  · rintro ⟨s, hs', hc⟩
    rw [List.mem_range] at hs'
    simp only [Bool.and_eq_true, decide_eq_true_eq, beq_iff_eq] at hc
    exact ⟨s, List.mem_range.2 hs', by simp only [Bool.and_eq_true, decide_eq_true_eq, beq_iff_eq]; exact ⟨⟨hc.1.1, by omega⟩, hc.2⟩⟩
  · rintro ⟨s, hs', hc⟩
    rw [List.mem_range] at hs'
    simp only [Bool.and_eq_true, decide_eq_true_eq, beq_iff_eq] at hc
    exact ⟨s, List.mem_range.2 hs', by simp only [Bool.and_eq_true, decide_eq_true_eq, beq_iff_eq]; exact ⟨⟨hc.1.1, by omega⟩, hc.2⟩⟩
/-- What stands when the lists ahead of i are made. -/
structure UnH (w : World) (b : List Nat) (n m i : Nat) (O : Nat) (vs : List Value) (wr : World) : Prop where
  row : RowAt 45 wr O [] vs
  len : vs.length = n
  done : ∀ j, j < i → ∃ B, vs.getD j undef = .slice (some ⟨B, 0, none⟩) 256 256 ∧ O < B ∧ B < wr.heap.size ∧ RowAt 4 wr B [] (tvals (listB b m (fromB b m j) (endB b m j)))
  bel : Below w.heap.size w wr
/-- And the list i is being made. -/
structure UnL (w : World) (b : List Nat) (n m i f t : Nat) (O B : Nat) (vs : List Value) (wr : World) : Prop where
  row : RowAt 45 wr O [] vs
  len : vs.length = n
  here : vs.getD i undef = .slice (some ⟨B, 0, none⟩) 256 256
  lt : O < B
  list : RowAt 4 wr B [] (tvals (listB b m f t))
  done : ∀ j, j < i → ∃ B', vs.getD j undef = .slice (some ⟨B', 0, none⟩) 256 256 ∧ O < B' ∧ B' < B ∧ RowAt 4 wr B' [] (tvals (listB b m (fromB b m j) (endB b m j)))
  bel : Below w.heap.size w wr
theorem tvals_set (l : List Bool) (i : Nat) (v : Bool) : (tvals l).set i (.bool v) = tvals (l.set i v) := by unfold tvals; rw [List.map_set]
theorem UnL.step {w : World} {b : List Nat} {n m i f t O B : Nat} {vs : List Value} {wr : World} (h : UnL w b n m i f t O B vs wr) (hf : f ≤ t) (ht : t < m) (hb : b.getD t 0 < 256) (hw : w.heap.size ≤ O) : UnL w b n m i f (t + 1) O B vs (wr.setCell ⟨B, b.getD t 0, none⟩ (.bool true)) := by
  have hr := h.list.set (b.getD t 0) (by rw [len_tvals, len_listB]; exact hb) (.bool true)
  rw [tvals_set, listB_step b m f t hf ht] at hr
  refine ⟨h.row.other _ _ (by have := h.lt; show O ≠ B; omega), h.len, h.here, h.lt, hr, fun j hj => ?_, h.bel.setCell (p := ⟨B, _, none⟩) (by have := h.lt; show _ ≤ B; omega) _⟩
  obtain ⟨B', h1, h2, h3, h4⟩ := h.done j hj
  exact ⟨B', h1, h2, h3, h4.other _ _ (by show B' ≠ B; omega)⟩
theorem UnL.drew {w : World} {b : List Nat} {n m i f t O B : Nat} {vs : List Value} {wr : World} (h : UnL w b n m i f t O B vs wr) : UnL w b n m i f t O B vs wr.drew := ⟨h.row, h.len, h.here, h.lt, h.list, h.done, h.bel.drew⟩
theorem UnL.stop {w : World} {b : List Nat} {n m i f t O B : Nat} {vs : List Value} {wr : World} (h : UnL w b n m i f t O B vs wr) (hf : f = fromB b m i) (hl : listB b m f t = listB b m f (endB b m i)) : UnH w b n m (i + 1) O vs wr := by
  refine ⟨h.row, h.len, fun j hj => ?_, h.bel⟩
  rcases Nat.lt_or_ge j i with hji | hji
  · obtain ⟨B', h1, h2, h3, h4⟩ := h.done j hji
    exact ⟨B', h1, h2, by have := h.list.lt; omega, h4⟩
  · obtain rfl : j = i := by omega
    refine ⟨B, h.here, h.lt, h.list.lt, ?_⟩
    have := h.list
    rw [hl, hf] at this
    exact this
theorem UnH.begin {w : World} {b : List Nat} {n m i O : Nat} {vs : List Value} {wr W : World} (h : UnH w b n m i O vs wr) (hi : i < n) (hw : w.heap.size ≤ O) (hr : RowAt 4 W wr.heap.size [] (List.replicate 256 (.bool false))) (hb : Below wr.heap.size wr W) (f : Nat) :
    UnL w b n m i f f O wr.heap.size (vs.set i (.slice (some ⟨wr.heap.size, 0, none⟩) 256 256)) (W.setCell ⟨O, i, none⟩ (.slice (some ⟨wr.heap.size, 0, none⟩) 256 256)) := by
  have hO := h.row.lt
  have hlen := h.len
  refine ⟨(h.row.below hb).set i (by omega) _, by rw [List.length_set]; exact hlen, by simp [List.getD_eq_getElem?_getD, hlen, hi], hO, ?_, fun j hj => ?_, ?_⟩
  · rw [listB_none b m f f (Nat.le_refl _)]
    have e : tvals (List.replicate 256 false) = List.replicate 256 (.bool false) := by unfold tvals; rw [List.map_replicate]
    rw [e]
    exact hr.other _ _ (by show wr.heap.size ≠ O; omega)
  · obtain ⟨B', h1, h2, h3, h4⟩ := h.done j hj
    refine ⟨B', ?_, h2, h3, (h4.below hb).other _ _ (by show B' ≠ O; omega)⟩
    rw [← h1, List.getD_eq_getElem?_getD, List.getD_eq_getElem?_getD, List.getElem?_set_ne (by omega)]
  · exact (h.bel.trans (hb.mono h.bel.size)).setCell (p := ⟨O, i, none⟩) hw _
theorem UnH.lists {w : World} {b : List Nat} {n m O : Nat} {vs : List Value} {wr : World} (h : UnH w b n m n O vs wr) (hn : n ≤ 16) : ListsAt wr (.slice (some ⟨O, 0, none⟩) n n) (outB b n m) := by
  refine ⟨vs, by rw [len_outB]; exact h.len, ?_, fun i hi => ?_⟩
  · exact (h.row.own (Nat.le_refl O) n n h.len (by simp) (by simp only [maxLen]; omega)).vals
  · rw [len_outB] at hi
    obtain ⟨B, h1, _, _, h4⟩ := h.done i hi
    rw [h1, outB_get _ _ _ _ hi]
    exact (h4.own (Nat.le_refl B) 256 256 (by rw [len_tvals, len_listB]) (by simp) (by simp only [maxLen]; omega)).vals
/-- What the call answers. -/
def UnAnswer (w : World) (b : List Nat) (n m : Int) (e : Ending) (w' : World) : Prop :=
  (∃ L, HintsOf b n m L ∧ ∃ v, e = .returned (.tuple #[v, .bool true]) ∧ ListsAt w' v L ∧ Below w.heap.size w w') ∨ ((∀ L, ¬ HintsOf b n m L) ∧ ∃ v, e = .returned (.tuple #[v, .bool false]) ∧ ValsAt w' v [] ∧ Below w.heap.size w w')
theorem no_hints_len {b : List Nat} {n m : Int} (h : (b.length : Int) ≠ m + n) : ∀ L, ¬ HintsOf b n m L := fun L ⟨⟨h0, _, _, _, h4⟩, h5, h6⟩ => by
  rw [h6, len_hint (by omega)] at h
  omega
set_option maxRecDepth 100000 in
set_option maxHeartbeats 4000000 in
theorem refUnpackH_main (w : World) (sp : Option Addr) (c : Nat) (b : List Nat) (n m : Nat) (hx : ValsAt w (.slice sp b.length c) (bvals b)) (h8 : ∀ z ∈ b, z < 256) (hn : n ≤ 16) (hm : m ≤ 255) (hl : b.length = m + n) :
    Calls Try.prog 30 #[.slice sp b.length c, .int .i64 (n : Int), .int .i64 (m : Int)] w fun e w' => UnAnswer w b (n : Int) (m : Int) e w' := by
  have H8 := hide h8
  have HX := hide hx
  obtain ⟨sp', c', ex, _, _, hc⟩ := bytes_open hx
  simp only [Value.slice.injEq] at ex
  obtain ⟨rfl, _, rfl⟩ := ex
  have Hc := hide hc
  have m1 : decide ((n : Int) < 0) = false := by simp
  have m2 : decide (16 < (n : Int)) = false := by simp; omega
  have m2' : decide (16 < n) = false := by simp; omega
  have m3 : decide ((m : Int) < 0) = false := by simp
  have m4 : decide (255 < (m : Int)) = false := by simp; omega
  have m4' : decide (255 < m) = false := by simp; omega
  have m5 : ((b.length : Int) != (m : Int) + (n : Int)) = false := by simp; omega
  obtain ⟨W, hmk, hrow, hbel⟩ := made_vals El rfl w .i64 .i64 n (n : Int) (n : Int) rfl rfl (by omega)
  have HI : Hid (UnH w b n m 0 w.heap.size (List.replicate n (.slice none 0 0)) W) := ⟨hrow, by simp, fun j hj => by omega, hbel⟩
  have nb : (n : Int) ≤ 16 := by omega
  have mb : (m : Int) ≤ 255 := by omega
  have HL := hide hl
  clear hx hc h8 hrow hbel hl
  go_enter Try.func30, Try.ntmps30
  go_wp2
  clear hmk m1 m2 m2' m3 m4 m4' m5
  generalize hO : w.heap.size = O at HI ⊢
  go_loopw [9, 10] (fun fr ii wr => ∃ (i f : Nat) (vs : List Value), i ≤ n ∧ ii = .int .i64 (i : Int) ∧ f ≤ 255 ∧ fr = .int .i64 (f : Int) ∧ Hid (f = fromB b m i) ∧ Hid (UnH w b n m i O vs wr)) (fun _ ii _ => n - (intOf ii).toNat)
  case atStart => exact ⟨0, 0, _, by omega, rfl, by omega, rfl, rfl, HI⟩
  case round =>
    clear HI
    obtain ⟨i, f, vs, hi, rfl, hf, rfl, Hf, HI⟩ := hrel
    have fb : (f : Int) ≤ 255 := by omega
    by_cases hlt : i < n
    · obtain ⟨W, hmk, hrow, hbel⟩ := made_vals Et rfl wr .i64 .i64 256 256 256 rfl rfl (by omega)
      have HU := hide ((unhide HI).begin hlt (Nat.le_of_eq hO) hrow hbel f)
      have hcO : W.cell? ⟨O, i, none⟩ = some (vs.getD i undef) := ((unhide HI).row.below hbel).cell i (by rw [(unhide HI).len]; exact hlt)
      have hfO : W.frozen? ⟨O, i, none⟩ = false := ((unhide HI).row.below hbel).frozen i
      have hlb := unhide HL
      have hj : m + i < b.length := by omega
      obtain ⟨bb, bo, rfl, hbb, hcell⟩ := unhide Hc (by intro e; rw [e] at hj; simp at hj)
      have HCE := hide hcell
      have Hbb := hide hbb
      obtain ⟨W2, hW2⟩ : ∃ W2, W.setCell ⟨O, i, none⟩ (.slice (some ⟨wr.heap.size, 0, none⟩) 256 256) = W2 := ⟨_, rfl⟩
      rw [hW2] at HU
      have he : W2.cell? ⟨bb, bo + (m + i), none⟩ = some (.int .u8 ((b.getD (m + i) 0 : Nat) : Int)) := by rw [(unhide HU).bel.cell hbb]; exact hcell _ hj
      have hEb : endB b m i < 256 := by
        show b.getD (m + i) 0 < 256
        rw [List.getD_eq_getElem?_getD, List.getElem?_eq_getElem hj]; exact unhide H8 _ (List.getElem_mem hj)
      have hEe : b.getD (m + i) 0 = endB b m i := rfl
      rw [hEe] at he
      obtain ⟨E, hE⟩ : ∃ E, endB b m i = E := ⟨_, rfl⟩
      rw [hE] at he hEb
      have HE := hide hE
      generalize vs.getD i undef = old at hcO
      generalize hBn : wr.heap.size = Bn at *
      have i0 : (0 : Int) ≤ (i : Int) := by omega
      have i1 : (i : Int) < (n : Int) := by omega
      have mi0 : (0 : Int) ≤ (m : Int) + (i : Int) := by omega
      have mi1 : (m : Int) + (i : Int) < (b.length : Int) := by omega
      have mt : ((m : Int) + (i : Int)).toNat = m + i := by omega
      have eb : (E : Int) ≤ 255 := by omega
      clear HI hrow hbel hcell hbb hE hEe hj hlb
      go_wp2
      clear hmk hcO hfO he hW2
      obtain ⟨vs', hvs⟩ : ∃ vs', vs.set i (.slice (some ⟨Bn, 0, none⟩) 256 256) = vs' := ⟨_, rfl⟩
      rw [hvs] at HU
      clear hvs
      go_loopw [12] (fun kk wq => ∃ t : Nat, f ≤ t ∧ t ≤ 255 ∧ Hid (t = f ∨ (t ≤ E ∧ t ≤ m)) ∧ kk = .int .i64 (t : Int) ∧ Hid (UnL w b n m i f t O Bn vs' wq)) (fun kk _ => 256 - (intOf kk).toNat)
      case atStart => exact ⟨f, Nat.le_refl _, hf, Or.inl rfl, rfl, HU⟩
      case round =>
        clear HU
        obtain ⟨t, hft, ht255, Ht, rfl, HU⟩ := hrel
        have tb : (t : Int) ≤ 255 := by omega
        by_cases hgo : t < E ∧ t < m
        · have hj : t < b.length := by have := unhide HL; omega
          have c1 : wr.cell? ⟨O, i, none⟩ = some (.slice (some ⟨Bn, 0, none⟩) 256 256) := by
            rw [(unhide HU).row.cell i (by rw [(unhide HU).len]; exact hlt), (unhide HU).here]
          have c2 : wr.cell? ⟨bb, bo + t, none⟩ = some (.int .u8 ((b.getD t 0 : Nat) : Int)) := by rw [(unhide HU).bel.cell (unhide Hbb)]; exact unhide HCE t hj
          have hz : b.getD t 0 < 256 := by
            rw [List.getD_eq_getElem?_getD, List.getElem?_eq_getElem hj]; exact unhide H8 _ (List.getElem_mem hj)
          have c3 := (unhide HU).list.cell (b.getD t 0) (by rw [len_tvals, len_listB]; exact hz)
          have f3 := (unhide HU).list.frozen (b.getD t 0)
          have HS := hide ((unhide HU).step hft hgo.2 hz (Nat.le_of_eq hO))
          generalize (tvals (listB b m f t)).getD (b.getD t 0) undef = old2 at c3
          generalize b.getD t 0 = z at c2 c3 f3 HS hz
          have t0 : (0 : Int) ≤ (t : Int) := by omega
          have t1 : (t : Int) < (E : Int) := by omega
          have t2 : (t : Int) < (m : Int) := by omega
          have t3 : (t : Int) < (b.length : Int) := by omega
          have z0 : (0 : Int) ≤ (z : Int) := by omega
          have z1 : (z : Int) < 256 := by omega
          have d1 : decide ((t : Int) < (E : Int)) = true := by simp; omega
          have d1' : decide (t < E) = true := by simp; omega
          have d2 : decide ((t : Int) < (m : Int)) = true := by simp; omega
          have d2' : decide (t < m) = true := by simp; omega
          have Ht2 : Hid (t + 1 = f ∨ (t + 1 ≤ E ∧ t + 1 ≤ m)) := Or.inr ⟨by omega, by omega⟩
          clear HU Ht
          go_wp2
          go_region
          go_wp2
          go_roundw
          case rel =>
            first
              | exact ⟨t + 1, by omega, by omega, Ht2, by go_num, (unhide HS).drew⟩
              | ((repeat apply Exists.intro); exact ⟨⟨t + 1, by omega, by omega, Ht2, by go_num, (unhide HS).drew⟩, rfl⟩)
          case measure => simp [intOf]; omega
        · have hst := listB_stop b m f E t hft (unhide Ht) hgo
          have HI2 : Hid (UnH w b n m (i + 1) O vs' wr) := (unhide HU).stop (unhide Hf) (by rw [unhide HE]; exact hst)
          have Hf2 : Hid (E = fromB b m (i + 1)) := by show E = _; unfold fromB; rw [if_neg (by omega), show i + 1 - 1 = i by omega]; exact (unhide HE).symm
          clear hst HU Ht Hf
          by_cases h1 : t < E
          · have h2 : ¬ t < m := fun h => hgo ⟨h1, h⟩
            have d1 : decide ((t : Int) < (E : Int)) = true := by simp; omega
            have d1' : decide (t < E) = true := by simp; omega
            have d2 : decide ((t : Int) < (m : Int)) = false := by simp; omega
            have d2' : decide (t < m) = false := by simp; omega
            go_wp2
            go_roundw
            case rel =>
              first
                | exact ⟨i + 1, E, vs', by omega, by go_num, by omega, rfl, Hf2, HI2⟩
                | ((repeat apply Exists.intro); exact ⟨⟨i + 1, E, vs', by omega, by go_num, by omega, rfl, Hf2, HI2⟩, rfl⟩)
            case measure => simp [intOf]; omega
          · have d1 : decide ((t : Int) < (E : Int)) = false := by simp; omega
            have d1' : decide (t < E) = false := by simp; omega
            go_wp2
            go_roundw
            case rel =>
              first
                | exact ⟨i + 1, E, vs', by omega, by go_num, by omega, rfl, Hf2, HI2⟩
                | ((repeat apply Exists.intro); exact ⟨⟨i + 1, E, vs', by omega, by go_num, by omega, rfl, Hf2, HI2⟩, rfl⟩)
            case measure => simp [intOf]; omega
    · obtain rfl : i = n := by omega
      have HLs := hide ((unhide HI).lists hn)
      have HB := hide (unhide HI).bel
      clear HI Hf
      go_wp2_with fail
      refine (refPackH_any wr _ (outB b i m) (m : Int) (unhide HLs) (by rw [len_outB]; omega) (fun l hl => by
        obtain ⟨j, hj, rfl⟩ := List.getElem_of_mem hl
        rw [len_outB] at hj
        have := outB_get b i m j hj
        rw [List.getD_eq_getElem?_getD, List.getElem?_eq_getElem (by rw [len_outB]; exact hj)] at this
        simp only [Option.getD_some] at this
        rw [this, len_listB]; omega)).mono ?_
      rintro e w2 (⟨hH, v2, rfl, hO2, hb2⟩ | ⟨hH, v2, rfl, hO2, hb2⟩)
      · have hb3 := (unhide HB).trans (hb2.mono (unhide HB).size)
        have HB3 := hide hb3
        have hpm : (placesAll (outB b i m)).length ≤ m := by have := hH.2.2.2.2; omega
        obtain ⟨sp2, c2, rfl, _, _, hc2⟩ := bytes_open hO2.vals
        obtain ⟨sp3, c3, e3, _, _, hc3⟩ := bytes_open ((unhide HX).below hb3)
        simp only [Value.slice.injEq] at e3
        obtain ⟨rfl, _, rfl⟩ := e3
        have hclen : (hintBytes (m : Int).toNat (outB b i m)).length = b.length := by rw [Int.toNat_natCast, len_hint hpm, len_outB, unhide HL]
        rw [hclen] at hc2 ⊢
        have HC2 := hide hc2
        have HC3 := hide hc3
        have HH := hide hH
        have HLs2 := hide ((unhide HLs).below hb2)
        have Hcl := hide hclen
        have bb255 : (b.length : Int) ≤ 271 := by have := unhide HL; omega
        clear hO2 hb2 hb3 hc2 hc3 HLs HB hH hpm hclen
        go_wp2
        go_loopw [15] (fun kk wq => ∃ k : Nat, k ≤ b.length ∧ kk = .int .i64 (k : Int) ∧ wq.heap = w2.heap ∧ Below w2.heap.size w2 wq ∧ Hid (∀ j, j < k → b.getD j 0 = (hintBytes (m : Int).toNat (outB b i m)).getD j 0)) (fun kk _ => b.length - (intOf kk).toNat)
        case atStart => exact ⟨0, by omega, rfl, rfl, Below.refl _ _, fun j hj => by omega⟩
        case round =>
          obtain ⟨k, hk, rfl, hh, hB, HE⟩ := hrel
          by_cases hkl : k < b.length
          · have hne : b ≠ [] := by intro e; rw [e] at hkl; simp at hkl
            have hne2 : hintBytes (m : Int).toNat (outB b i m) ≠ [] := by intro e; have := unhide Hcl; rw [e] at this; simp at this; omega
            obtain ⟨xb, xo, rfl, _, hxc⟩ := unhide HC3 hne
            obtain ⟨yb, yo, rfl, _, hyc⟩ := unhide HC2 hne2
            have c1 : wr.cell? ⟨xb, xo + k, none⟩ = some (.int .u8 ((b.getD k 0 : Nat) : Int)) := by rw [← hxc k hkl]; unfold World.cell?; rw [hh]
            have c2' : wr.cell? ⟨yb, yo + k, none⟩ = some (.int .u8 (((hintBytes (m : Int).toNat (outB b i m)).getD k 0 : Nat) : Int)) := by rw [← hyc k hkl]; unfold World.cell?; rw [hh]
            have k0 : (0 : Int) ≤ (k : Int) := by omega
            have k1 : (k : Int) < (b.length : Int) := by omega
            have HB := hide hB
            have Hh := hide hh
            by_cases heq : b.getD k 0 = (hintBytes (m : Int).toNat (outB b i m)).getD k 0
            · have HE2 : Hid (∀ j, j < k + 1 → b.getD j 0 = (hintBytes (m : Int).toNat (outB b i m)).getD j 0) := fun j hj => by
                rcases Nat.lt_or_ge j k with h | h
                · exact unhide HE j h
                · obtain rfl : j = k := by omega
                  exact heq
              rw [heq] at c1
              generalize (((hintBytes (m : Int).toNat (outB b i m)).getD k 0 : Nat) : Int) = q at c1 c2'
              clear hB hh hxc hyc HE heq hne hne2
              go_wp2
              go_region_held3 (fun w' => w'.cell? ⟨xb, xo + k, none⟩ = some (.int .u8 q) ∧ w'.cell? ⟨yb, yo + k, none⟩ = some (.int .u8 q)) (go_keep) (fail)
              go_wp2
              go_roundw
              case rel =>
                first
                  | exact ⟨k + 1, by omega, by go_num, unhide Hh, (unhide HB).drew, HE2⟩
                  | ((repeat apply Exists.intro); exact ⟨⟨k + 1, by omega, by go_num, unhide Hh, (unhide HB).drew, HE2⟩, rfl⟩)
              case measure => simp [intOf]; omega
            · have HNO : Hid (∀ L, ¬ HintsOf b (i : Int) (m : Int) L) := fun L h => by
                have := hintsOf_only h
                rw [Int.toNat_natCast, Int.toNat_natCast] at this
                rw [this] at h
                exact heq (congrArg (fun z => z.getD k 0) h.2.2)
              have hneq : (((b.getD k 0 : Nat) : Int) != (((hintBytes (m : Int).toNat (outB b i m)).getD k 0 : Nat) : Int)) = true := bne_iff_ne.2 (by omega)
              generalize (((hintBytes (m : Int).toNat (outB b i m)).getD k 0 : Nat) : Int) = q at c2' hneq
              generalize ((b.getD k 0 : Nat) : Int) = q1 at c1 hneq
              have HB4 := hide ((unhide HB3).trans ((unhide HB).mono (unhide HB3).size))
              clear hB hh hxc hyc HE heq hne hne2
              go_wp2
              go_region_held3 (fun w' => w'.cell? ⟨xb, xo + k, none⟩ = some (.int .u8 q1) ∧ w'.cell? ⟨yb, yo + k, none⟩ = some (.int .u8 q)) (go_keep) (fail)
              go_wp2
              go_ret2
              exact Or.inr ⟨unhide HNO, _, rfl, vals_nil _, (unhide HB4).drew⟩
          · obtain rfl : k = b.length := by omega
            have hbe : b = hintBytes (m : Int).toNat (outB b i m) := by
              apply List.ext_getElem (unhide Hcl).symm
              intro j h1 h2
              have := unhide HE j h1
              rwa [List.getD_eq_getElem?_getD, List.getElem?_eq_getElem h1, List.getD_eq_getElem?_getD, List.getElem?_eq_getElem h2] at this
            have HYES : Hid (HintsOf b (i : Int) (m : Int) (outB b i m)) := ⟨unhide HH, by rw [len_outB], hbe⟩
            have HLs4 := hide ((unhide HLs2).below hB)
            have HB4 := hide ((unhide HB3).trans (hB.mono (unhide HB3).size))
            clear hbe hB hh HE
            go_wp2
            go_ret2
            exact Or.inl ⟨_, unhide HYES, _, rfl, unhide HLs4, unhide HB4⟩
      · have HB2 := hide ((unhide HB).trans (hb2.mono (unhide HB).size))
        have HNO : Hid (∀ L, ¬ HintsOf b (i : Int) (m : Int) L) := fun L h => by
          have := hintsOf_only h
          rw [Int.toNat_natCast, Int.toNat_natCast] at this
          rw [this] at h
          exact hH h.1
        clear hO2 hb2 HLs HB hH
        go_wp2
        go_ret2
        exact Or.inr ⟨unhide HNO, _, rfl, vals_nil _, unhide HB2⟩
end Go.Proofs.Ythciafobknaipaa
