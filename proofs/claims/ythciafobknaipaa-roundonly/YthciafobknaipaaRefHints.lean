/-
  The walk of the reference's PackHints: the bytes where there are any, else nothing.
-/
import Derived.Test.YthciafobknaipaaSmall
import Derived.Test.YthciafobknaipaaHintsD
namespace Go.Proofs.Ythciafobknaipaa
open Go.RowKit
theorem len_tvals (l : List Bool) : (tvals l).length = l.length := by simp [tvals]
def placesTo (l : List Bool) (k : Nat) : List Nat := (List.range k).filter fun j => l.getD j false
theorem placesTo_succ (l : List Bool) (k : Nat) : placesTo l (k + 1) = placesTo l k ++ (if l.getD k false = true then [k] else []) := by
  unfold placesTo
  rw [List.range_succ, List.filter_append]
  congr 1
  rw [List.filter_cons, List.filter_nil]
theorem placesTo_len (l : List Bool) (k : Nat) : (placesTo l k).length ≤ k := Nat.le_trans (List.length_filter_le _ _) (by simp)
theorem placesAll_snoc (L : List (List Bool)) (i : Nat) (hi : i < L.length) : placesAll (L.take (i + 1)) = placesAll (L.take i) ++ placesOf (L.getD i []) := by
  unfold placesAll
  rw [List.take_succ_eq_append_getElem hi, List.flatMap_append, List.getD_eq_getElem?_getD, List.getElem?_eq_getElem hi]
  simp
theorem placesAll_mono (L : List (List Bool)) (i : Nat) : (placesAll (L.take i)).length ≤ (placesAll L).length := by
  conv => rhs; rw [← List.take_append_drop i L]
  unfold placesAll
  rw [List.flatMap_append, List.length_append]
  omega
def endsTo (L : List (List Bool)) (i : Nat) : List Nat := (List.range i).map fun j => (placesAll (L.take (j + 1))).length
theorem endsTo_succ (L : List (List Bool)) (i : Nat) : endsTo L (i + 1) = endsTo L i ++ [(placesAll (L.take (i + 1))).length] := by simp [endsTo, List.range_succ]
/-- Two rows of the call's own, apart. -/
structure Two (e : TypeId) (w : World) (base : Nat) (p q : Value) (ps qs : List Value) : Prop where
  own1 : OwnV e w base p ps
  own2 : OwnV e w base q qs
  apart : ∀ k, p.ownBlock = some k → q.ownBlock ≠ some k
theorem Two.symm {e : TypeId} {w : World} {base : Nat} {p q : Value} {ps qs : List Value} (h : Two e w base p q ps qs) : Two e w base q p qs ps := ⟨h.own2, h.own1, fun k h1 h2 => h.apart k h2 h1⟩
theorem Two.grow {e : TypeId} {w w' : World} {base : Nat} {p q p' : Value} {ps qs rs : List Value} (h : Two e w base p q ps qs) (ho : OwnV e w' base p' rs) (hg : w.grownBy w' p.ownBlock) (hb : p'.ownBlock = p.ownBlock ∨ p'.ownBlock = some w.heap.size) : Two e w' base p' q rs qs := by
  refine ⟨ho, h.own2.kept hg ?_, fun k hk hq => ?_⟩
  · cases hq : q.ownBlock with
    | none => exact Or.inl rfl
    | some k => exact Or.inr fun e => h.apart k e.symm hq
  · rcases hb with hb | hb
    · rw [hb] at hk; exact h.apart k hk hq
    · rw [hb] at hk
      have := (World.ownsRow.lt h.own2 k hq).2
      simp only [Option.some.injEq] at hk
      omega
theorem Two.alloc {e : TypeId} {w : World} {base : Nat} {p q : Value} {ps qs : List Value} (h : Two e w base p q ps qs) (o : Obj) : Two e (w.alloc o) base p q ps qs := ⟨h.own1.alloc o, h.own2.alloc o, h.apart⟩
theorem lists_open {w : World} {x : Value} {L : List (List Bool)} (h : ListsAt w x L) : ∃ sp c, x = .slice sp L.length c ∧ (L ≠ [] → ∃ b o, sp = some ⟨b, o, none⟩ ∧ b < w.heap.size ∧ ∀ i, i < L.length → ∃ s ci, w.cell? ⟨b, o + i, none⟩ = some (.slice s (L.getD i []).length ci) ∧ ((L.getD i []) ≠ [] → ∃ b2 o2, s = some ⟨b2, o2, none⟩ ∧ b2 < w.heap.size ∧ ∀ k, k < (L.getD i []).length → w.cell? ⟨b2, o2 + k, none⟩ = some (.bool ((L.getD i []).getD k false)))) := by
  obtain ⟨vs, hl, hv, hi⟩ := h
  have hv' := hv
  obtain ⟨sp, c, rfl, h1, h2, _⟩ := hv'
  refine ⟨sp, c, by rw [hl], fun hne => ?_⟩
  obtain ⟨b, o, c2, e, _, hb, hc⟩ := hv.cell (by intro e; rw [e] at hl; exact hne (List.eq_nil_of_length_eq_zero hl.symm))
  simp only [Value.slice.injEq] at e
  obtain ⟨rfl, _, _⟩ := e
  refine ⟨b, o, rfl, hb, fun i hil => ?_⟩
  have hvi := hi i hil
  obtain ⟨s, ci, es⟩ := hvi.form
  rw [len_tvals] at es
  refine ⟨s, ci, by rw [hc i (by rw [hl]; exact hil), es], fun hne2 => ?_⟩
  obtain ⟨b2, o2, c3, e3, _, hb2, hc2⟩ := hvi.cell (by simpa [tvals] using hne2)
  rw [es] at e3
  simp only [Value.slice.injEq] at e3
  obtain ⟨rfl, _, _⟩ := e3
  refine ⟨b2, o2, rfl, hb2, fun k hk => ?_⟩
  rw [hc2 k (by rw [len_tvals]; exact hk)]
  generalize L.getD i [] = l at hk
  simp [tvals, List.getD_eq_getElem?_getD, hk]
structure HintsIn (w : World) (L : List (List Bool)) (i k : Nat) (p q : Value) (wr : World) : Prop where
  two : Two 5 wr w.heap.size p q (bvals (placesAll (L.take i) ++ placesTo (L.getD i []) k)) (bvals (endsTo L i))
  b : Below w.heap.size w wr
theorem bvals_append (a b : List Nat) : bvals (a ++ b) = bvals a ++ bvals b := by simp [bvals]
set_option maxRecDepth 100000 in
set_option maxHeartbeats 4000000 in
theorem refPackH_any (w : World) (x : Value) (L : List (List Bool)) (most : Int) (hx : ListsAt w x L) (hL : L.length ≤ 4611686018427387904) (hLl : ∀ l ∈ L, l.length ≤ 4611686018427387904) :
    Calls Try.prog 27 #[x, .int .i64 most] w fun e w' => HintsAnswer w most L e w' := by
  obtain ⟨sp, c, rfl, hc⟩ := lists_open hx
  have Hc := hide hc
  have Lb : (L.length : Int) ≤ 4611686018427387904 := by omega
  have HLl := hide hLl
  clear hx hc hLl
  by_cases h1 : most < 0
  · go_enter Try.func27, Try.ntmps27
    go_wp2
    go_ret2
    exact Or.inr ⟨fun h => by have := h.1; omega, _, rfl, vals_nil _, Below.refl _ _⟩
  · have m1 : decide (most < 0) = false := by simp; omega
    by_cases h2 : 255 < most
    · go_enter Try.func27, Try.ntmps27
      go_wp2
      go_ret2
      exact Or.inr ⟨fun h => by have := h.2.1; omega, _, rfl, vals_nil _, Below.refl _ _⟩
    · have m2 : decide (255 < most) = false := by simp; omega
      by_cases h3 : 16 < (L.length : Int)
      · have m3 : decide (16 < L.length) = true := by simp; omega
        go_enter Try.func27, Try.ntmps27
        go_wp2
        go_ret2
        exact Or.inr ⟨fun h => by have := h.2.2.1; omega, _, rfl, vals_nil _, Below.refl _ _⟩
      · have m3 : decide (16 < (L.length : Int)) = false := by simp; omega
        have m4 : decide (16 < L.length) = false := by simp; omega
        obtain ⟨M, rfl⟩ : ∃ M : Nat, most = (M : Int) := ⟨most.toNat, by omega⟩
        have hM : M ≤ 255 := by omega
        have hL16 : L.length ≤ 16 := by omega
        have HI : Hid (HintsIn w L 0 0 (.slice none 0 0) (.slice none 0 0) w) := ⟨⟨by simpa [placesAll, placesTo, bvals] using own_nil 5 w w.heap.size, by simpa [endsTo, bvals] using own_nil 5 w w.heap.size, fun k h => by cases h⟩, Below.refl _ _⟩
        clear h1 h2 h3 hL Lb
        go_enter Try.func27, Try.ntmps27
        go_wp2
        go_loopw [6, 7, 8] (fun p q ii wr => ∃ i : Nat, i ≤ L.length ∧ ii = .int .i64 (i : Int) ∧ Hid (HintsIn w L i 0 p q wr) ∧ Hid (∀ j, j < i → (L.getD j []).length = 256) ∧ Hid ((placesAll (L.take i)).length ≤ M)) (fun _ _ ii _ => L.length - (intOf ii).toNat)
        case atStart => exact ⟨0, by omega, rfl, HI, fun j hj => by omega, by show _ ≤ _; simp [placesAll]⟩
        case round =>
          clear HI
          obtain ⟨i, hi, rfl, HI, HF, HT⟩ := hrel
          have ib : (i : Int) ≤ 16 := by omega
          by_cases hlt : i < L.length
          · obtain ⟨b, o, rfl, hb, hcell⟩ := unhide Hc (by intro e; rw [e] at hlt; simp at hlt)
            obtain ⟨s, ci, hci, hin⟩ := hcell i hlt
            have hci' : wr.cell? ⟨b, o + i, none⟩ = some (.slice s (L.getD i []).length ci) := by rw [(unhide HI).b.cell hb]; exact hci
            have Hin := hide hin
            have HCI := hide hci
            have Hb := hide hb
            have i0 : (0 : Int) ≤ (i : Int) := by omega
            have i1 : (i : Int) < (L.length : Int) := by omega
            have hll := unhide HLl (L.getD i []) (by rw [List.getD_eq_getElem?_getD, List.getElem?_eq_getElem hlt]; exact List.getElem_mem hlt)
            clear hcell hin hci hb
            by_cases h256 : (L.getD i []).length = 256
            · rw [h256] at hci' HCI
              obtain ⟨b2, o2, rfl, hb2, hcell2⟩ := unhide Hin (by intro e; rw [e] at h256; simp at h256)
              rw [h256] at hcell2
              have HC2 := hide hcell2
              have Hb2 := hide hb2
              have hpb := unhide HT
              clear hll Hin hcell2 hb2
              go_wp2
              clear hci'
              go_loopw [6, 9] (fun p kk wr => ∃ k : Nat, k ≤ 256 ∧ kk = .int .i64 (k : Int) ∧ Hid (HintsIn w L i k p u7 wr)) (fun _ kk _ => 256 - (intOf kk).toNat)
              case atStart => exact ⟨0, by omega, rfl, HI⟩
              case round =>
                clear HI
                obtain ⟨k, hk, rfl, HI⟩ := hrel
                by_cases hk2 : k < 256
                · have c1 : wr.cell? ⟨b, o + i, none⟩ = some (.slice (some ⟨b2, o2, none⟩) 256 ci) := by rw [(unhide HI).b.cell (unhide Hb)]; exact unhide HCI
                  have c2 : wr.cell? ⟨b2, o2 + k, none⟩ = some (.bool ((L.getD i []).getD k false)) := by rw [(unhide HI).b.cell (unhide Hb2)]; exact unhide HC2 k hk2
                  have hsucc := placesTo_succ (L.getD i []) k
                  have hpl := placesTo_len (L.getD i []) k
                  have k0 : (0 : Int) ≤ (k : Int) := by omega
                  have k1 : (k : Int) < 256 := by omega
                  by_cases hbit : (L.getD i []).getD k false = true
                  · rw [hbit] at c2
                    rw [if_pos hbit] at hsucc
                    have cv : (k : Int) % 256 = (k : Int) := by omega
                    have HTw := hide ((unhide HI).two.alloc (.cells #[.int .u8 (k : Int)] 5))
                    have HV := hide (vals_new wr [.int .u8 (k : Int)] 5)
                    have hbA : Below w.heap.size w (wr.alloc (.cells #[.int .u8 (k : Int)] 5)) := (unhide HI).b.alloc (unhide HI).b.size _
                    have HbA := hide hbA
                    have Hs := hide hbA.size
                    have Hl := hide (show (bvals (placesAll (L.take i) ++ placesTo (L.getD i []) k)).length + [Value.int .u8 (k : Int)].length ≤ 1073741824 by rw [len_bvals, List.length_append, List.length_singleton]; omega)
                    have HN : Hid (bvals (placesAll (L.take i) ++ placesTo (L.getD i []) k) ++ [Value.int .u8 (k : Int)] = bvals (placesAll (L.take i) ++ placesTo (L.getD i []) (k + 1))) := by
                      show _ = _
                      rw [hsucc, ← List.append_assoc, bvals_append]
                      simp [bvals]
                    clear hsucc hpl HI hbA hbit
                    go_wp2_with (at_builtin; refine wpList_append_vals Eb rfl _ _ rfl w.heap.size _ _ (bvals (placesAll (L.take i) ++ placesTo (L.getD i []) k)) [.int .u8 (k : Int)] rfl (unhide HTw).own1 rfl (unhide HV) (by simp [Value.oneCell']) (unhide Hs) (unhide Hl) ?_
                                 intro v2 w2 hO2 hg2 hbl2
                                 rw [unhide HN] at hO2
                                 have HI2 : Hid (HintsIn w L i (k + 1) v2 u7 w2) := ⟨(unhide HTw).grow hO2 hg2 hbl2, own_below (unhide HTw).own1 hg2 (unhide HbA) (unhide Hs)⟩
                                 clear hO2 hg2 hbl2)
                    go_roundw
                    case rel =>
                      first
                        | exact ⟨k + 1, by omega, by go_num, HI2⟩
                        | ((repeat apply Exists.intro); exact ⟨⟨k + 1, by omega, by go_num, HI2⟩, rfl⟩)
                    case measure => simp [intOf]; omega
                  · have hbf : (L.getD i []).getD k false = false := by simpa using hbit
                    rw [hbf] at c2
                    rw [if_neg hbit, List.append_nil] at hsucc
                    have HI2 : Hid (HintsIn w L i (k + 1) u6 u7 wr) := ⟨by rw [hsucc]; exact (unhide HI).two, (unhide HI).b⟩
                    clear hsucc hpl HI hbit hbf
                    go_wp2
                    go_roundw
                    case rel =>
                      first
                        | exact ⟨k + 1, by omega, by go_num, HI2⟩
                        | ((repeat apply Exists.intro); exact ⟨⟨k + 1, by omega, by go_num, HI2⟩, rfl⟩)
                    case measure => simp [intOf]; omega
                · obtain rfl : k = 256 := by omega
                  have hsn := placesAll_snoc L i hlt
                  have hpo : placesOf (L.getD i []) = placesTo (L.getD i []) 256 := by unfold placesOf placesTo; rw [h256]
                  rw [hpo] at hsn
                  have hT2 : Two 5 wr w.heap.size u6 u7 (bvals (placesAll (L.take (i + 1)))) (bvals (endsTo L i)) := by rw [hsn]; exact (unhide HI).two
                  have hTl : (placesAll (L.take (i + 1))).length ≤ 511 := by
                    have := placesTo_len (L.getD i []) 256
                    rw [hsn, List.length_append]; omega
                  obtain ⟨spP, cP, hP⟩ := hT2.own1.form
                  rw [len_bvals] at hP
                  obtain ⟨T, hT⟩ : ∃ T, (placesAll (L.take (i + 1))).length = T := ⟨_, rfl⟩
                  rw [hT] at hP hTl
                  subst hP
                  obtain ⟨u, hu⟩ : ∃ u : Int, (T : Int) % 256 = u := ⟨_, rfl⟩
                  have HTw := hide (hT2.symm.alloc (.cells #[.int .u8 u] 5))
                  have HV := hide (vals_new wr [.int .u8 u] 5)
                  have hbA : Below w.heap.size w (wr.alloc (.cells #[.int .u8 u] 5)) := (unhide HI).b.alloc (unhide HI).b.size _
                  have HbA := hide hbA
                  have Hs := hide hbA.size
                  have Hl := hide (show (bvals (endsTo L i)).length + [Value.int .u8 u].length ≤ 1073741824 by rw [len_bvals, List.length_singleton]; simp [endsTo]; omega)
                  have tb : (T : Int) ≤ 511 := by omega
                  by_cases hTM : T ≤ M
                  · have hu2 : u = (T : Int) := by omega
                    subst hu2
                    have d : decide ((M : Int) < (T : Int)) = false := by simp; omega
                    have d' : decide (M < T) = false := by simp; omega
                    have HN : Hid (bvals (endsTo L i) ++ [Value.int .u8 (T : Int)] = bvals (endsTo L (i + 1))) := by
                      show _ = _
                      rw [endsTo_succ, hT, bvals_append]
                      simp [bvals]
                    have HT' : Hid ((placesAll (L.take (i + 1))).length ≤ M) := by show _ ≤ _; rw [hT]; exact hTM
                    have HF' : Hid (∀ j, j < i + 1 → (L.getD j []).length = 256) := fun j hj => by
                      rcases Nat.lt_or_ge j i with h | h
                      · exact unhide HF j h
                      · obtain rfl : j = i := by omega
                        exact h256
                    have HPE : Hid (placesAll (L.take (i + 1)) = placesAll (L.take (i + 1)) ++ placesTo (L.getD (i + 1) []) 0) := by show _ = _; simp [placesTo]
                    clear hsn hpo hT2 hT hbA HI HF HT h256
                    go_wp2_with (at_builtin; refine wpList_append_vals Eb rfl _ _ rfl w.heap.size _ _ (bvals (endsTo L i)) [.int .u8 (T : Int)] rfl (unhide HTw).own1 rfl (unhide HV) (by simp [Value.oneCell']) (unhide Hs) (unhide Hl) ?_
                                 intro v2 w2 hO2 hg2 hbl2
                                 rw [unhide HN] at hO2
                                 have HI2 : Hid (HintsIn w L (i + 1) 0 (.slice spP T cP) v2 w2) := ⟨by rw [← unhide HPE]; exact ((unhide HTw).grow hO2 hg2 hbl2).symm, own_below (unhide HTw).own1 hg2 (unhide HbA) (unhide Hs)⟩
                                 clear hO2 hg2 hbl2)
                    go_roundw
                    case rel =>
                      first
                        | exact ⟨i + 1, by omega, by go_num, HI2, HF', HT'⟩
                        | ((repeat apply Exists.intro); exact ⟨⟨i + 1, by omega, by go_num, HI2, HF', HT'⟩, rfl⟩)
                    case measure => simp [intOf]; omega
                  · have d : decide ((M : Int) < (T : Int)) = true := by simp; omega
                    have d' : decide (M < T) = true := by simp; omega
                    have HNO : Hid (¬ Hintable (M : Int) L) := fun h => by
                      have h5 := h.2.2.2.2
                      have := placesAll_mono L (i + 1)
                      omega
                    clear hsn hpo hT2 hT hbA HI HF HT h256
                    go_wp2_with (at_builtin; refine wpList_append_vals Eb rfl _ _ rfl w.heap.size _ _ (bvals (endsTo L i)) [.int .u8 u] rfl (unhide HTw).own1 rfl (unhide HV) (by simp [Value.oneCell']) (unhide Hs) (unhide Hl) ?_
                                 intro v2 w2 hO2 hg2 hbl2
                                 have HB2 := hide (own_below (unhide HTw).own1 hg2 (unhide HbA) (unhide Hs))
                                 clear hO2 hg2 hbl2)
                    go_ret2
                    exact Or.inr ⟨unhide HNO, _, rfl, vals_nil _, unhide HB2⟩
            · have d : (((L.getD i []).length : Int) != 256) = true := bne_iff_ne.2 (by omega)
              have HNO : Hid (¬ Hintable (M : Int) L) := fun h => h256 (h.2.2.2.1 _ (by rw [List.getD_eq_getElem?_getD, List.getElem?_eq_getElem hlt]; exact List.getElem_mem hlt))
              generalize (L.getD i []).length = ll at hci' d hll
              go_wp2
              go_ret2
              exact Or.inr ⟨unhide HNO, _, rfl, vals_nil _, (unhide HI).b⟩
          · obtain rfl : i = L.length := by omega
            have hT0 : Two 5 wr w.heap.size u6 u7 (bvals (placesAll L)) (bvals (endsOf L)) := by
              have := (unhide HI).two
              rw [List.take_length, show placesTo (L.getD L.length []) 0 = [] by simp [placesTo], List.append_nil] at this
              exact this
            have hM' : (placesAll L).length ≤ M := by have := unhide HT; rwa [List.take_length] at this
            have HOK : Hid (Hintable (M : Int) L) := ⟨by omega, by omega, hL16, fun l hl => by
              obtain ⟨j, hj, rfl⟩ := List.getElem_of_mem hl
              have := unhide HF j hj
              rwa [List.getD_eq_getElem?_getD, List.getElem?_eq_getElem hj] at this, by omega⟩
            have HFIN : Hid (∃ t, t ≤ M ∧ (placesAll L).length ≤ t ∧ Two 5 wr w.heap.size u6 u7 (bvals (placesAll L ++ List.replicate (t - (placesAll L).length) 0)) (bvals (endsOf L)) ∧ Below w.heap.size w wr) := ⟨(placesAll L).length, hM', Nat.le_refl _, by rw [Nat.sub_self, List.replicate_zero, List.append_nil]; exact hT0, (unhide HI).b⟩
            have he16 : (endsOf L).length ≤ 16 := by simp [endsOf]; exact hL16
            have HE16 := hide he16
            clear hT0 HI HF HT hM' he16 hlt
            go_wp2
            go_loopw [6] (fun p wr => Hid (∃ t, t ≤ M ∧ (placesAll L).length ≤ t ∧ Two 5 wr w.heap.size p u7 (bvals (placesAll L ++ List.replicate (t - (placesAll L).length) 0)) (bvals (endsOf L)) ∧ Below w.heap.size w wr)) (fun p _ => M - (match p with | .slice _ n _ => n | _ => 0))
            case atStart => exact HFIN
            case round =>
              clear HFIN
              obtain ⟨t, ht, htl, hTw, hB⟩ := unhide hrel
              obtain ⟨spP, cP, hP⟩ := hTw.own1.form
              rw [len_bvals, List.length_append, List.length_replicate, Nat.add_sub_cancel' htl] at hP
              subst hP
              have tb : (t : Int) ≤ 255 := by omega
              have hs := hB.size
              have HB := hide hB
              have hlenP : (bvals (placesAll L ++ List.replicate (t - (placesAll L).length) 0)).length = t := by rw [len_bvals, List.length_append, List.length_replicate]; omega
              clear hrel hB
              by_cases hlt : t < M
              · have d : (t : Int) < (M : Int) := by omega
                have HTw := hide (hTw.alloc (.cells #[.int .u8 0] 5))
                have HV := hide (vals_new wr [.int .u8 0] 5)
                have hbA : Below w.heap.size w (wr.alloc (.cells #[.int .u8 0] 5)) := (unhide HB).alloc hs _
                have HbA := hide hbA
                have Hs := hide hbA.size
                have Hl := hide (show (bvals (placesAll L ++ List.replicate (t - (placesAll L).length) 0)).length + [Value.int .u8 0].length ≤ 1073741824 by rw [hlenP, List.length_singleton]; omega)
                have HN : Hid (bvals (placesAll L ++ List.replicate (t - (placesAll L).length) 0) ++ [Value.int .u8 0] = bvals (placesAll L ++ List.replicate (t + 1 - (placesAll L).length) 0)) := by
                  show _ = _
                  rw [show t + 1 - (placesAll L).length = t - (placesAll L).length + 1 by omega, List.replicate_succ', ← List.append_assoc, bvals_append (placesAll L ++ _)]
                  rfl
                clear hTw hbA hs hlenP
                go_wp2_with (at_builtin; refine wpList_append_vals Eb rfl _ _ rfl w.heap.size _ _ (bvals (placesAll L ++ List.replicate (t - (placesAll L).length) 0)) [.int .u8 0] rfl (unhide HTw).own1 rfl (unhide HV) (by simp [Value.oneCell']) (unhide Hs) (unhide Hl) ?_
                             intro v2 w2 hO2 hg2 hbl2
                             rw [unhide HN] at hO2
                             have HI2 : Hid (∃ t, t ≤ M ∧ (placesAll L).length ≤ t ∧ Two 5 w2 w.heap.size v2 u7 (bvals (placesAll L ++ List.replicate (t - (placesAll L).length) 0)) (bvals (endsOf L)) ∧ Below w.heap.size w w2) := ⟨t + 1, by omega, by omega, (unhide HTw).grow hO2 hg2 hbl2, own_below (unhide HTw).own1 hg2 (unhide HbA) (unhide Hs)⟩
                             obtain ⟨sp2, c2, hP2⟩ := hO2.form
                             rw [len_bvals, List.length_append, List.length_replicate, Nat.add_sub_cancel' (by omega)] at hP2
                             subst hP2
                             clear hO2 hg2 hbl2)
                go_roundw
                case rel =>
                  first
                    | exact HI2
                    | ((repeat apply Exists.intro); exact ⟨HI2, rfl⟩)
                case measure => simp; omega
              · obtain rfl : t = M := by omega
                have HO := hide hTw.own1
                have HV := hide hTw.own2.vals
                have Hs := hide hs
                have Hl := hide (show (bvals (placesAll L ++ List.replicate (t - (placesAll L).length) 0)).length + (bvals (endsOf L)).length ≤ 1073741824 by have := unhide HE16; rw [hlenP, len_bvals]; omega)
                have HN : Hid (bvals (placesAll L ++ List.replicate (t - (placesAll L).length) 0) ++ bvals (endsOf L) = bvals (hintBytes (t : Int).toNat L)) := by
                  show _ = _
                  rw [← bvals_append]
                  rfl
                have Hone : Hid (∀ u ∈ bvals (endsOf L), u.oneCell' = true) := fun u hu => by obtain ⟨z, _, rfl⟩ := List.mem_map.1 hu; rfl
                clear hTw hs hlenP
                go_wp2_with (at_builtin; refine wpList_append_vals Eb rfl _ _ rfl w.heap.size _ _ (bvals (placesAll L ++ List.replicate (t - (placesAll L).length) 0)) (bvals (endsOf L)) rfl (unhide HO) rfl (unhide HV) (unhide Hone) (unhide Hs) (unhide Hl) ?_
                             intro v2 w2 hO2 hg2 _
                             rw [unhide HN] at hO2
                             have HO2 := hide hO2
                             have HB2 := hide (own_below (unhide HO) hg2 (unhide HB) (unhide Hs))
                             clear hO2 hg2)
                go_ret2
                exact Or.inl ⟨unhide HOK, _, rfl, unhide HO2, unhide HB2⟩
end Go.Proofs.Ythciafobknaipaa
