/-
  The walk of the landed UnpackHints.
-/
import Derived.Test.YthciafobknaipaaCodeE
import Derived.Test.YthciafobknaipaaHintsQ
namespace Go.Proofs.Ythciafobknaipaa
open Go.RowKit
/-- A part of a slice of bytes. -/
theorem slice_mid (sp : Option Addr) (K c f e : Nat) (x y : Int) (hx : x = (f : Int)) (hy : y = (e : Int)) (hf : f ≤ e) (he : e ≤ c) (w : World) : (Instr.sliceAt 34 (.slice sp K c) (some (.int .i64 x)) (some (.int .i64 y)) none).run Try.prog w = .ok (.slice (if c = f then sp else sp.map (·.add f)) (e - f) (c - f)) w := by
  subst hx
  subst hy
  rw [run_sliceAt_slice w 34 _ _ _ _ under_b, run_slice_lh w 34 sp K c under_b .i64 .i64 (f : Int) (e : Int) (by omega) (by omega) (by omega), elem_b, size5, Result.andThen_ok]
  simp only [sliced, Int.toNat_natCast, Nat.mul_one]
theorem vals_mid {w : World} {sp : Option Addr} {c : Nat} {b : List Nat} (h : ValsAt w (.slice sp b.length c) (bvals b)) (f e : Nat) (hf : f ≤ e) (he : e ≤ b.length) : ValsAt w (.slice (if c = f then sp else sp.map (·.add f)) (e - f) (c - f)) (bvals (segB b f e)) := by
  obtain ⟨sp', c', ex, h1, h2, h3⟩ := h
  simp only [Value.slice.injEq] at ex
  obtain ⟨rfl, _, rfl⟩ := ex
  rw [len_bvals] at h1
  have hl : (bvals (segB b f e)).length = e - f := by rw [len_bvals, len_segB hf he]
  refine ⟨_, _, by rw [hl], by omega, fun h => ?_, fun hne => ?_⟩
  · split at h
    · omega
    · have : sp = none := by cases sp with
        | none => rfl
        | some a => simp at h
      rw [h2 this]; omega
  · have hpos : 0 < e - f := by
      rcases Nat.eq_zero_or_pos (e - f) with h0 | h0
      · rw [h0] at hl; exact absurd (List.eq_nil_of_length_eq_zero hl) hne
      · exact h0
    obtain ⟨bb, o, rfl, hr⟩ := h3 (by intro e0; have := congrArg List.length e0; rw [len_bvals] at this; simp at this; rw [this] at he; simp at he; omega)
    rw [if_neg (by omega)]
    refine ⟨bb, o + f, by simp [Addr.add_mid], fun j v hv => ?_⟩
    have hj : j < e - f := by have := (List.getElem?_eq_some_iff.1 hv).1; omega
    have := hr (f + j) v (by
      rw [← hv]
      unfold bvals segB
      rw [List.getElem?_map, List.getElem?_map, List.getElem?_take, if_pos hj, List.getElem?_drop])
    rwa [← Nat.add_assoc] at this
theorem part_of {w : World} {sp : Option Addr} {c K : Nat} {b : List Nat} (h : ValsAt w (.slice sp b.length c) (bvals b)) (f e : Nat) (hf : f ≤ e) (he : e ≤ b.length) (hc : b.length ≤ c) :
    ∃ spf d cf, d = e - f ∧ (∀ w2, (Instr.sliceAt 34 (.slice sp K c) (some (.int .i64 (f : Int))) (some (.int .i64 (e : Int))) none).run Try.prog w2 = .ok (.slice spf d cf) w2) ∧ ValsAt w (.slice spf d cf) (bvals (segB b f e)) :=
  ⟨_, _, _, rfl, fun w2 => slice_mid sp K c f e _ _ rfl rfl hf (by omega) w2, vals_mid h f e hf he⟩
theorem rise_seg {b : List Nat} {f e : Nat} (hf : f ≤ e) (he : e ≤ b.length) : Rising (segB b f e) ↔ RiseB b f e := by
  have hl := len_segB hf he
  constructor
  · intro h t h1 h2
    have := h (t - f) (by omega) (by omega)
    rw [segB_get _ (by omega), segB_get _ (by omega)] at this
    rwa [show f + (t - f - 1) = t - 1 by omega, show f + (t - f) = t by omega] at this
  · intro h t h1 h2
    rw [segB_get _ (by omega), segB_get _ (by omega)]
    have := h (f + t) (by omega) (by omega)
    rwa [show f + t - 1 = f + (t - 1) by omega] at this
theorem UnH.put {w : World} {b : List Nat} {n m i O : Nat} {vs : List Value} {wr w2 w3 : World} (h : UnH w b n m i O vs wr) (hi : i < n) (hw : w.heap.size ≤ O) (hb2 : Below wr.heap.size wr w2) (hr : RowAt 4 w3 w2.heap.size [] (tvals (listB b m (fromB b m i) (endB b m i)))) (hb3 : Below w2.heap.size w2 w3) :
    UnH w b n m (i + 1) O (vs.set i (.slice (some ⟨w2.heap.size, 0, none⟩) 256 256)) (w3.setCell ⟨O, i, none⟩ (.slice (some ⟨w2.heap.size, 0, none⟩) 256 256)) := by
  have hO := h.row.lt
  have hlen := h.len
  have hs2 := hb2.size
  have hs3 := hr.lt
  have hb23 := hb2.trans (hb3.mono hs2)
  refine ⟨(h.row.below hb23).set i (by omega) _, by rw [List.length_set]; exact hlen, fun j hj => ?_, (h.bel.trans (hb23.mono h.bel.size)).setCell (p := ⟨O, i, none⟩) hw _⟩
  rcases Nat.lt_or_ge j i with hji | hji
  · obtain ⟨B', h1, h2, h3, h4⟩ := h.done j hji
    refine ⟨B', ?_, h2, ?_, (h4.below hb23).other _ _ (by show B' ≠ O; omega)⟩
    · rw [← h1, List.getD_eq_getElem?_getD, List.getD_eq_getElem?_getD, List.getElem?_set_ne (by omega)]
    · rw [World.size_setCell]; omega
  · obtain rfl : j = i := by omega
    refine ⟨w2.heap.size, by simp [List.getD_eq_getElem?_getD, hlen, hi], by omega, by rw [World.size_setCell]; exact hs3, hr.other _ _ (by show w2.heap.size ≠ O; omega)⟩
set_option maxRecDepth 100000 in
set_option maxHeartbeats 4000000 in
theorem unpackH_main (w : World) (sp : Option Addr) (c : Nat) (b : List Nat) (n m : Nat) (hx : ValsAt w (.slice sp b.length c) (bvals b)) (h8 : ∀ z ∈ b, z < 256) (hn : n ≤ 16) (hm : m ≤ 255) (hl : b.length = m + n) :
    Calls Try.prog 28 #[.slice sp b.length c, .int .i64 (n : Int), .int .i64 (m : Int)] w fun e w' => UnAnswer w b (n : Int) (m : Int) e w' := by
  have Hal := hide (allowed_any (n : Int) (m : Int))
  have d : decide (0 ≤ (n : Int) ∧ (n : Int) ≤ 16 ∧ 0 ≤ (m : Int) ∧ (m : Int) ≤ 255) = true := by simp; omega
  rw [d] at Hal
  have HX := hide hx
  have H8 := hide h8
  have HL := hide hl
  have hcb : b.length ≤ c := by
    obtain ⟨sp', c', ex, h1, _, _⟩ := hx
    simp only [Value.slice.injEq] at ex
    obtain ⟨_, _, rfl⟩ := ex
    rwa [len_bvals] at h1
  obtain ⟨sp', c', ex, _, _, hc⟩ := bytes_open hx
  simp only [Value.slice.injEq] at ex
  obtain ⟨rfl, _, rfl⟩ := ex
  have Hc := hide hc
  obtain ⟨K, hK⟩ : ∃ K, b.length = K := ⟨_, rfl⟩
  have HK := hide hK
  have hKl : K = m + n := by omega
  have Hcb : Hid (K ≤ c) := by show K ≤ c; omega
  have HKl := hide hKl
  have dl : ((K : Int) != (m : Int) + (n : Int)) = false := by simp; omega
  obtain ⟨W, hmk, hrow, hbel⟩ := made_vals El rfl w .i64 .i64 n (n : Int) (n : Int) rfl rfl (by omega)
  have HI : Hid (UnH w b n m 0 w.heap.size (List.replicate n (.slice none 0 0)) W) := ⟨hrow, by simp, fun j hj => by omega, hbel⟩
  have nb : (n : Int) ≤ 16 := by omega
  have mb : (m : Int) ≤ 255 := by omega
  have Kb : (K : Int) ≤ 271 := by omega
  rw [hK]
  clear hx h8 hl hcb hc hK hKl hrow hbel d
  go_enter Try.func28, Try.ntmps28
  go_wp2_with fail
  refine (unhide Hal w).mono ?_
  rintro e w1 ⟨rfl, rfl⟩
  go_wp2
  clear hmk dl
  generalize hO : w1.heap.size = O at HI ⊢
  go_loopw [9, 30] (fun uu ii wr => ∃ (i f : Nat) (vs : List Value), i ≤ n ∧ ii = .int .i64 (i : Int) ∧ f ≤ m ∧ uu = .int .i64 (f : Int) ∧ Hid (f = fromB b m i) ∧ Hid (GoodTo b m i) ∧ Hid (UnH w1 b n m i O vs wr)) (fun _ ii _ => n - (intOf ii).toNat)
  case atStart => exact ⟨0, 0, _, by omega, rfl, by omega, rfl, rfl, fun j hj => by omega, HI⟩
  case round =>
    clear HI
    obtain ⟨i, f, vs, hi, rfl, hf, rfl, Hf, HG, HI⟩ := hrel
    have fb : (f : Int) ≤ 255 := by omega
    by_cases hlt : i < n
    · have hj : m + i < b.length := by have := unhide HL; omega
      obtain ⟨bb, bo, rfl, hbb, hcell⟩ := unhide Hc (by intro e; rw [e] at hj; simp at hj)
      have he : wr.cell? ⟨bb, bo + (m + i), none⟩ = some (.int .u8 ((endB b m i : Nat) : Int)) := by rw [(unhide HI).bel.cell hbb]; exact hcell _ hj
      have hE8 : endB b m i < 256 := by
        show b.getD (m + i) 0 < 256
        rw [List.getD_eq_getElem?_getD, List.getElem?_eq_getElem hj]; exact unhide H8 _ (List.getElem_mem hj)
      obtain ⟨E, hE⟩ : ∃ E, endB b m i = E := ⟨_, rfl⟩
      rw [hE] at he hE8
      have HE := hide hE
      have i0 : (0 : Int) ≤ (i : Int) := by omega
      have i1 : (i : Int) < (n : Int) := by omega
      have mi0 : (0 : Int) ≤ (m : Int) + (i : Int) := by omega
      have mi1 : (m : Int) + (i : Int) < (K : Int) := by have := unhide HKl; omega
      have mt : ((m : Int) + (i : Int)).toNat = m + i := by omega
      have eb : (E : Int) ≤ 255 := by omega
      clear hcell hj hE
      by_cases h1 : E < f
      · have d1 : decide ((E : Int) < (f : Int)) = true := by simp; omega
        have d1' : decide (E < f) = true := by simp; omega
        have HNO : Hid (∀ L, ¬ HintsOf b (n : Int) (m : Int) L) := fun L h => by
          have := ((hints_good h).1 i hlt).1
          rw [unhide HE, ← unhide Hf] at this
          omega
        have HB := hide (unhide HI).bel
        clear HI hbb
        go_wp2
        go_ret2
        exact Or.inr ⟨unhide HNO, _, rfl, vals_nil _, unhide HB⟩
      · have d1 : decide ((E : Int) < (f : Int)) = false := by simp; omega
        have d1' : decide (E < f) = false := by simp; omega
        by_cases h2 : m < E
        · have d2 : decide ((m : Int) < (E : Int)) = true := by simp; omega
          have d2' : decide (m < E) = true := by simp; omega
          have HNO : Hid (∀ L, ¬ HintsOf b (n : Int) (m : Int) L) := fun L h => by
            have := ((hints_good h).1 i hlt).2.1
            rw [unhide HE] at this
            omega
          have HB := hide (unhide HI).bel
          clear HI hbb
          go_wp2
          go_ret2
          exact Or.inr ⟨unhide HNO, _, rfl, vals_nil _, unhide HB⟩
        · have d2 : decide ((m : Int) < (E : Int)) = false := by simp; omega
          have d2' : decide (m < E) = false := by simp; omega
          have hEK : E ≤ b.length := by have := unhide HL; omega
          obtain ⟨spf, dd, cf, hd, hsl, hval⟩ := part_of (K := K) ((unhide HX).below (unhide HI).bel) f E (by omega) hEK (by have := unhide Hcb; have := unhide HK; omega)
          have hsg := len_segB (b := b) (f := f) (e := E) (by omega) hEK
          have hrs := rise_seg (b := b) (f := f) (e := E) (by omega) hEK
          have Hris := hide (rising_any wr _ (segB b f E) hval (by omega))
          have Hval := hide hval
          have Hrs := hide hrs
          have Hsg := hide hsg
          have Hd := hide hd
          have hfE : f ≤ E := by omega
          have db : (dd : Int) ≤ 255 := by omega
          clear hval hrs hsg hd
          go_wp2_with fail
          refine (unhide Hris).mono ?_
          rintro e w2 ⟨hor, hb2⟩
          rcases hor with ⟨hR, rfl⟩ | ⟨hR, rfl⟩
          · have hRB := (unhide Hrs).1 hR
            have Hmk := hide (marked_any w2 (.slice spf dd cf) b m f dd (segB b f E) ((unhide Hval).below hb2) (by rw [unhide Hsg, unhide Hd]) (fun t ht => segB_get t (by have := unhide Hd; omega)) (fun t ht => by
              have h1 := unhide Hd
              have h2 := unhide HL
              rw [List.getD_eq_getElem?_getD, List.getElem?_eq_getElem (by omega)]; exact unhide H8 _ (List.getElem_mem _)) (by have := unhide Hd; omega) (by omega))
            have HG2 : Hid (GoodTo b m (i + 1)) := fun j hj => by
              rcases Nat.lt_or_ge j i with h | h
              · exact unhide HG j h
              · obtain rfl : j = i := by omega
                rw [unhide HE, ← unhide Hf]
                exact ⟨hfE, by omega, hRB⟩
            have Hf2 : Hid (E = fromB b m (i + 1)) := by show E = _; rw [from_succ, unhide HE]
            have HB2 := hide hb2
            have hcO : ∀ w3, Below w2.heap.size w2 w3 → w3.cell? ⟨O, i, none⟩ = some (vs.getD i undef) ∧ w3.frozen? ⟨O, i, none⟩ = false := fun w3 h3 => by
              have hr := ((unhide HI).row.below hb2).below h3
              exact ⟨hr.cell i (by rw [(unhide HI).len]; exact hlt), hr.frozen i⟩
            have HcO := hide hcO
            clear hb2 hR hRB hcO Hris
            go_wp2_with fail
            refine (unhide Hmk).mono ?_
            rintro e w3 ⟨rfl, hrow3, hb3⟩
            have hfd : f + dd = E := by have := unhide Hd; omega
            rw [hfd, unhide Hf, ← unhide HE] at hrow3
            have HI2 := hide ((unhide HI).put hlt (Nat.le_of_eq hO) (unhide HB2) hrow3 hb3)
            obtain ⟨hcO, hfO⟩ := unhide HcO w3 hb3
            generalize vs.getD i undef = old at hcO
            generalize w2.heap.size = Bn at HI2 ⊢
            clear hrow3 hb3 hfd HI HB2 HcO Hmk
            go_wp2
            exact ⟨⟨i + 1, E, _, by omega, by go_num, by omega, rfl, Hf2, HG2, HI2⟩, by simp [intOf]; omega⟩
          · have HNO : Hid (∀ L, ¬ HintsOf b (n : Int) (m : Int) L) := fun L h => by
              have := ((hints_good h).1 i hlt).2.2
              rw [unhide HE, ← unhide Hf] at this
              exact hR ((unhide Hrs).2 this)
            have HB2 := hide ((unhide HI).bel.trans (hb2.mono (unhide HI).bel.size))
            clear hb2 hR HI Hris
            go_wp2
            go_ret2
            exact Or.inr ⟨unhide HNO, _, rfl, vals_nil _, unhide HB2⟩
    · obtain rfl : i = n := by omega
      have hmK : m ≤ b.length := by have := unhide HL; omega
      obtain ⟨spf, dd, cf, hd, hsl, hval⟩ := part_of (K := K) ((unhide HX).below (unhide HI).bel) f m hf hmK (by have := unhide Hcb; have := unhide HK; omega)
      have hsg := len_segB (b := b) (f := f) (e := m) hf hmK
      obtain ⟨sp2, c2, ev, _, _, hc2⟩ := bytes_open hval
      simp only [Value.slice.injEq] at ev
      obtain ⟨rfl, _, rfl⟩ := ev
      have Hc2 := hide hc2
      have Hsg := hide hsg
      have Hd := hide hd
      have db : (dd : Int) ≤ 255 := by omega
      clear hval hsg hd hc2
      have dlt : decide ((i : Int) < (i : Int)) = false := by simp
      go_wp2
      clear hsl
      go_loopw [71] (fun kk wq => ∃ k : Nat, k ≤ dd ∧ kk = .int .i64 (k : Int) ∧ wq = wr ∧ Hid (∀ t, t < k → b.getD (f + t) 0 = 0)) (fun kk _ => dd - (intOf kk).toNat)
      case atStart => exact ⟨0, by omega, rfl, rfl, fun t ht => by omega⟩
      case round =>
        obtain ⟨k, hk, rfl, hwq, HZ⟩ := hrel
        subst hwq
        have kb : (k : Int) ≤ 255 := by omega
        by_cases hkd : k < dd
        · obtain ⟨sb, so, rfl, hsb, hcell⟩ := unhide Hc2 (by intro e; have := unhide Hsg; rw [e] at this; have h2 := unhide Hd; simp at this; omega)
          have hsl2 : k < (segB b f m).length := by have := unhide Hsg; have := unhide Hd; omega
          have c1 := hcell k hsl2
          rw [segB_get k (by have := unhide Hd; omega)] at c1
          have k0 : (0 : Int) ≤ (k : Int) := by omega
          have k1 : (k : Int) < (dd : Int) := by omega
          by_cases hz : b.getD (f + k) 0 = 0
          · have HZ2 : Hid (∀ t, t < k + 1 → b.getD (f + t) 0 = 0) := fun t ht => by
              rcases Nat.lt_or_ge t k with h | h
              · exact unhide HZ t h
              · obtain rfl : t = k := by omega
                exact hz
            rw [hz] at c1
            clear hcell hz hsl2 hsb
            go_wp2
            go_roundw
            case rel =>
              first
                | exact ⟨k + 1, by omega, by go_num, rfl, HZ2⟩
                | exact ⟨k + 1, by omega, by go_num, trivial, HZ2⟩
                | ((repeat apply Exists.intro); exact ⟨⟨k + 1, by omega, by go_num, rfl, HZ2⟩, rfl⟩)
            case measure => simp [intOf]; omega
          · have HNO : Hid (∀ L, ¬ HintsOf b (i : Int) (m : Int) L) := fun L h => by
              have h1 := (hints_good h).2 (f + k) (by rw [← unhide Hf]; omega) (by have := unhide Hd; omega)
              exact hz h1
            have HB := hide (unhide HI).bel
            generalize b.getD (f + k) 0 = z at c1 hz
            have hz2 : ((z : Int) != 0) = true := bne_iff_ne.2 (by omega)
            clear hcell hsl2 hsb HI
            go_wp2
            go_ret2
            exact Or.inr ⟨unhide HNO, _, rfl, vals_nil _, unhide HB⟩
        · obtain rfl : k = dd := by omega
          have HY := hide (hints_yes hn hm (unhide HL) (unhide H8) (unhide HG) (fun t h1 h2 => by
            have h3 := unhide Hd
            rw [← unhide Hf] at h1
            have := unhide HZ (t - f) (by omega)
            rwa [show f + (t - f) = t by omega] at this))
          have HLs := hide ((unhide HI).lists hn)
          have HB := hide (unhide HI).bel
          clear HI
          go_wp2
          go_ret2
          exact Or.inl ⟨_, unhide HY, _, rfl, unhide HLs, unhide HB⟩
set_option maxRecDepth 100000 in
set_option maxHeartbeats 2000000 in
theorem unpackH_any (w : World) (x : Value) (b : List Nat) (n m : Int) (hx : ValsAt w x (bvals b)) (h8 : ∀ z ∈ b, z < 256) (hl : b.length ≤ 1000) :
    Calls Try.prog 28 #[x, .int .i64 n, .int .i64 m] w fun e w' => UnAnswer w b n m e w' := by
  have hx' := hx
  obtain ⟨sp, c, rfl, _⟩ := bytes_open hx'
  have Hal := hide (allowed_any n m)
  by_cases h : 0 ≤ n ∧ n ≤ 16 ∧ 0 ≤ m ∧ m ≤ 255
  · by_cases h5 : (b.length : Int) = m + n
    · obtain ⟨N, rfl⟩ : ∃ N : Nat, n = (N : Int) := ⟨n.toNat, by omega⟩
      obtain ⟨M, rfl⟩ : ∃ M : Nat, m = (M : Int) := ⟨m.toNat, by omega⟩
      exact unpackH_main w sp c b N M hx h8 (by omega) (by omega) (by omega)
    · rw [show decide (0 ≤ n ∧ n ≤ 16 ∧ 0 ≤ m ∧ m ≤ 255) = true from decide_eq_true h] at Hal
      obtain ⟨a1, a2, a3, a4⟩ := h
      have m5 : ((b.length : Int) != m + n) = true := bne_iff_ne.2 h5
      have lb : (b.length : Int) ≤ 1000 := by omega
      have HNO := hide (no_hints_len h5)
      clear hx hx' h5 h8
      go_enter Try.func28, Try.ntmps28
      go_wp2_with fail
      refine (unhide Hal w).mono ?_
      rintro e w1 ⟨rfl, rfl⟩
      go_wp2
      go_ret2
      exact Or.inr ⟨unhide HNO, _, rfl, vals_nil _, Below.refl _ _⟩
  · rw [show decide (0 ≤ n ∧ n ≤ 16 ∧ 0 ≤ m ∧ m ≤ 255) = false from decide_eq_false h] at Hal
    have HNO : Hid (∀ L, ¬ HintsOf b n m L) := fun L hh => by
      have h1 := hh.1.1
      have h2 := hh.1.2.1
      have h3 := hh.1.2.2.1
      have h4 := hh.2.1
      omega
    clear hx hx' h h8
    go_enter Try.func28, Try.ntmps28
    go_wp2_with fail
    refine (unhide Hal w).mono ?_
    rintro e w1 ⟨rfl, rfl⟩
    go_wp2
    go_ret2
    exact Or.inr ⟨unhide HNO, _, rfl, vals_nil _, Below.refl _ _⟩
end Go.Proofs.Ythciafobknaipaa
