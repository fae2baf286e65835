/-
  The walk of the landed compare.
-/
import Derived.Test.YtngkidlgcdofhabDoorKt
import Derived.Deep.RegionWith
namespace Go.Proofs.YtngkidlgcdofhabDoor
open Go.RowKit
namespace K
/-- What a right value's bytes are, part by part. -/
theorem body_parts {f : Nat} {c t : Int} {m : Bool} {b : Bs} {ks : List DV} {W X : Bs} {N : Nat} (h : writeP formD (f + 1) (.mk c t m b ks) = .yes W) (hN : N < 4294967296) (hW : W.length < 4294967296) (hB : Body (.mk c t m b ks) W N X) : ∃ xs, allP (writeP formD f) ks = .yes xs ∧ X = b ++ xs.flatten ∧ (m = true → b = []) ∧ (m = false → ks = []) := by
  obtain ⟨g1, g2, g3, g4, _, g5, g6, xs, hxs, _, hWe⟩ := write_open h
  obtain ⟨hW2, hX⟩ := hB
  have hl : (b ++ xs.flatten).length < 4294967296 := by
    have := congrArg List.length hWe
    simp only [List.length_append] at this ⊢
    omega
  simp only [DV.cls, DV.tag, DV.made] at hW2
  rw [hW2] at hWe
  obtain ⟨_, _, _, _, e⟩ := head_free (by omega) (by omega) (by omega) (by omega) hN hl hWe
  exact ⟨xs, hxs, e, g5, g6⟩
set_option maxRecDepth 100000 in
set_option maxHeartbeats 40000000 in
theorem cmp_step (n : Nat) (hsc : SCmpC n) : CmpC (n + 1) := fun f S1 S2 v1 v2 w cs1 cs2 W1 W2 hv1 hv2 hw1 hw2 hW1 hW2 => by
  cases f with
  | zero => simp [writeP] at hW1
  | succ f =>
  obtain ⟨c1, t1, hc1, ht1, hc13, ht12⟩ := right_nums hW1
  obtain ⟨c2, t2, hc2, ht2, hc23, ht22⟩ := right_nums hW2
  have hW1l : W1.length ≤ 9000000 := by have := out_le _ v1 W1 hw1 hW1; omega
  have hW2l : W2.length ≤ 9000000 := by have := out_le _ v2 W2 hw2 hW2; omega
  obtain ⟨s1, p1, u1, q1, e1⟩ := hv1.form
  obtain ⟨s2, p2, u2, q2, e2⟩ := hv2.form
  have Hin1 : Hid (∀ W, Below w.heap.size w W → Calls Tryd.prog 21 #[.agg cs1.toArray] W fun e w' => ∃ (N : Nat) (X : Bs), e = .returned (.int .i64 (N : Int)) ∧ Body v1 W1 N X ∧ N ≤ 9000000 ∧ Below W.heap.size W w') := fun W hb => inner_all (n + 1) _ S1 v1 W cs1 W1 (hv1.below hb) hw1 hW1
  have Hin2 : Hid (∀ W, Below w.heap.size w W → Calls Tryd.prog 21 #[.agg cs2.toArray] W fun e w' => ∃ (N : Nat) (X : Bs), e = .returned (.int .i64 (N : Int)) ∧ Body v2 W2 N X ∧ N ≤ 9000000 ∧ Below W.heap.size W w') := fun W hb => inner_all (n + 1) _ S2 v2 W cs2 W2 (hv2.below hb) hw2 hW2
  obtain ⟨x1, k1, sb1, hx1, hrk1⟩ : ∃ (x1 : Value) (ks1 : List DV) (bs1 : Bs), v1.kids = ks1 ∧ (∀ W, Below w.heap.size w W → RowK n S1 W (.slice u1 ks1.length q1) ks1 ∧ BytesAt W (.slice s1 v1.bytes.length p1) v1.bytes) := ⟨.nilFunc, v1.kids, [], rfl, fun W hb => ⟨⟨u1, q1, rfl, fun i k hk => by
      have h1 := hv1.below hb
      rw [e1] at h1
      obtain ⟨c, t, m, b, ks⟩ := v1
      exact kid_at h1 i k hk⟩, by
      have h1 := hv1.below hb
      rw [e1] at h1
      obtain ⟨xb, _, _, e, h2, _⟩ := h1
      simp only [dcells, List.cons.injEq] at e
      rw [e.2.2.2.1]
      exact h2⟩⟩
  obtain ⟨x2, k2, sb2, hx2, hrk2⟩ : ∃ (x2 : Value) (ks2 : List DV) (bs2 : Bs), v2.kids = ks2 ∧ (∀ W, Below w.heap.size w W → RowK n S2 W (.slice u2 ks2.length q2) ks2 ∧ BytesAt W (.slice s2 v2.bytes.length p2) v2.bytes) := ⟨.nilFunc, v2.kids, [], rfl, fun W hb => ⟨⟨u2, q2, rfl, fun i k hk => by
      have h1 := hv2.below hb
      rw [e2] at h1
      obtain ⟨c, t, m, b, ks⟩ := v2
      exact kid_at h1 i k hk⟩, by
      have h1 := hv2.below hb
      rw [e2] at h1
      obtain ⟨xb, _, _, e, h2, _⟩ := h1
      simp only [dcells, List.cons.injEq] at e
      rw [e.2.2.2.1]
      exact h2⟩⟩
  clear x1 x2 sb1 sb2
  obtain ⟨m1, hm1⟩ : ∃ m1, v1.made = m1 := ⟨_, rfl⟩
  obtain ⟨m2, hm2⟩ : ∃ m2, v2.made = m2 := ⟨_, rfl⟩
  obtain ⟨bb1, hb1⟩ : ∃ bb1, v1.bytes = bb1 := ⟨_, rfl⟩
  obtain ⟨bb2, hb2⟩ : ∃ bb2, v2.bytes = bb2 := ⟨_, rfl⟩
  rw [hc1, ht1, hm1, hb1, hx1] at e1
  rw [hc2, ht2, hm2, hb2, hx2] at e2
  rw [hb1] at hrk1
  rw [hb2] at hrk2
  have hv1e : v1 = .mk (c1 : Int) (t1 : Int) m1 bb1 k1 := by rw [v1.eta, hc1, ht1, hm1, hb1, hx1]
  have hv2e : v2 = .mk (c2 : Int) (t2 : Int) m2 bb2 k2 := by rw [v2.eta, hc2, ht2, hm2, hb2, hx2]
  -- what the parts say
  have HPure : Hid (∀ N1 X1 N2 X2, Body v1 W1 N1 X1 → N1 ≤ 9000000 → Body v2 W2 N2 X2 → N2 ≤ 9000000 →
      (cb (tagB c1 t1 m1 ++ lenB N1) (tagB c2 t2 m2 ++ lenB N2) ≠ 0 → cb W1 W2 = cb (tagB c1 t1 m1 ++ lenB N1) (tagB c2 t2 m2 ++ lenB N2)) ∧
      (cb (tagB c1 t1 m1 ++ lenB N1) (tagB c2 t2 m2 ++ lenB N2) = 0 → (cb bb1 bb2 ≠ 0 → cb W1 W2 = cb bb1 bb2) ∧
        (cb bb1 bb2 = 0 → ∃ xs ys, allP (writeP formD f) k1 = .yes xs ∧ allP (writeP formD f) k2 = .yes ys ∧ cb W1 W2 = cbL xs ys))) := fun N1 X1 N2 X2 h1 h1n h2 h2n => by
    subst hv1e hv2e
    obtain ⟨xs, hxs, eX1, g1, g1'⟩ := body_parts hW1 (by omega) (by omega) h1
    obtain ⟨ys, hys, eX2, g2, g2'⟩ := body_parts hW2 (by omega) (by omega) h2
    have hh1 : W1 = tagB c1 t1 m1 ++ lenB N1 ++ X1 := h1.1
    have hh2 : W2 = tagB c2 t2 m2 ++ lenB N2 ++ X2 := h2.1
    have hx1l : ∀ x ∈ xs, x.length < 4294967296 := fun x hx => by
      have a := all_len hx
      have b := congrArg List.length hh1
      have d := congrArg List.length eX1
      simp only [List.length_append] at b d
      omega
    have hy1l : ∀ x ∈ ys, x.length < 4294967296 := fun x hx => by
      have a := all_len hx
      have b := congrArg List.length hh2
      have d := congrArg List.length eX2
      simp only [List.length_append] at b d
      omega
    refine ⟨fun hne => ?_, fun h0 => ?_⟩
    · rw [hh1, hh2]
      exact cb_app _ _ _ _ hne (fun z hz => by
        have := head_free (N := N2) (N' := N1) hc23 hc13 ht22 ht12 (by omega) (by omega) (x := []) (y := z) (by rw [List.append_nil]; exact hz)
        exact this.2.2.2.2.symm) (fun z hz => by
        have := head_free (N := N1) (N' := N2) hc13 hc23 ht12 ht22 (by omega) (by omega) (x := []) (y := z) (by rw [List.append_nil]; exact hz)
        exact this.2.2.2.2.symm)
    · have hh := cb_eq _ _ h0
      have hf := head_free (N := N1) (N' := N2) hc13 hc23 ht12 ht22 (by omega) (by omega) (x := []) (y := []) (by rw [List.append_nil, List.append_nil]; exact hh)
      have hcb : cb W1 W2 = cb X1 X2 := by rw [hh1, hh2, ← hh, cb_pre]
      have hmm := hf.2.2.1
      refine ⟨fun hne => ?_, fun hb0 => ⟨xs, ys, hxs, hys, ?_⟩⟩
      · cases hm : m1 with
        | true => rw [g1 hm, g2 (by rw [← hmm, hm])] at hne; exact absurd rfl hne
        | false =>
          have e1 := g1' hm
          have e2 := g2' (by rw [← hmm, hm])
          subst e1 e2
          unfold allP at hxs hys
          cases hxs
          cases hys
          rw [hcb, eX1, eX2]
          simp
      · have e := cb_eq _ _ hb0
        rw [hcb, eX1, eX2, e, cb_pre, cbL_flat k1 k2 xs ys hxs hys hx1l hy1l]
  have HK1 : Hid (∀ W xs ys, Below w.heap.size w W → allP (writeP formD f) k1 = .yes xs → allP (writeP formD f) k2 = .yes ys → Calls Tryd.prog 55 #[.slice u1 k1.length q1, .slice u2 k2.length q2, .func (.func 46) #[] #[]] W fun e w' => e = .returned (.int .i64 (cbL xs ys)) ∧ Below W.heap.size W w') := fun W xs ys hb hxs hys => by
    have a1 : weights k1 ≤ 1000000 := by rw [hv1e] at hw1; simp only [weight] at hw1; omega
    have a2 : weights k2 ≤ 1000000 := by rw [hv2e] at hw2; simp only [weight] at hw2; omega
    exact hsc f S1 S2 k1 k2 W _ _ xs ys (hrk1 W hb).1 (hrk2 W hb).1 a1 a2 hxs hys
  have HBy1 : Hid (∀ W, Below w.heap.size w W → BytesAt W (.slice s1 bb1.length p1) bb1 ∧ BytesAt W (.slice s2 bb2.length p2) bb2) := fun W hb => ⟨(hrk1 W hb).2, (hrk2 W hb).2⟩
  obtain ⟨L1, hL1⟩ : ∃ L1, bb1.length = L1 := ⟨_, rfl⟩
  obtain ⟨L2, hL2⟩ : ∃ L2, bb2.length = L2 := ⟨_, rfl⟩
  obtain ⟨K1, hK1⟩ : ∃ K1, k1.length = K1 := ⟨_, rfl⟩
  obtain ⟨K2, hK2⟩ : ∃ K2, k2.length = K2 := ⟨_, rfl⟩
  rw [hL1, hK1] at e1
  rw [hL2, hK2] at e2
  rw [hL1, hL2] at HBy1
  rw [hK1, hK2] at HK1
  subst e1 e2
  have Hhd1 : Hid (∀ (N : Nat) (W : World), N ≤ 9000000 → GivesB W 22 #[.agg #[.int .i64 (c1 : Int), .int .i64 (t1 : Int), .bool m1, .slice s1 L1 p1, .slice u1 K1 q1], .int .i64 (N : Int)] (tagB c1 t1 m1 ++ lenB N)) := fun N W hN => head_c c1 t1 N m1 s1 u1 L1 p1 K1 q1 W hc13 ht12 (by omega)
  have Hhd2 : Hid (∀ (N : Nat) (W : World), N ≤ 9000000 → GivesB W 22 #[.agg #[.int .i64 (c2 : Int), .int .i64 (t2 : Int), .bool m2, .slice s2 L2 p2, .slice u2 K2 q2], .int .i64 (N : Int)] (tagB c2 t2 m2 ++ lenB N)) := fun N W hN => head_c c2 t2 N m2 s2 u2 L2 p2 K2 q2 W hc23 ht22 (by omega)
  unfold GivesB at Hhd1 Hhd2
  unfold dcells at Hin1 Hin2 ⊢
  have hA0 := Blk.new (Below.refl w.heap.size w) #[.int .i64 (c1 : Int), .int .i64 (t1 : Int), .bool m1, .slice s1 L1 p1, .slice u1 K1 q1] 26
  obtain ⟨w1, ew1⟩ : ∃ w1, w.alloc (.cells #[.int .i64 (c1 : Int), .int .i64 (t1 : Int), .bool m1, .slice s1 L1 p1, .slice u1 K1 q1] 26) = w1 := ⟨_, rfl⟩
  rw [ew1] at hA0
  have hB0 := Blk.new hA0.b #[.int .i64 (c2 : Int), .int .i64 (t2 : Int), .bool m2, .slice s2 L2 p2, .slice u2 K2 q2] 26
  have hA1 := hA0.lit (.cells #[.int .i64 (c2 : Int), .int .i64 (t2 : Int), .bool m2, .slice s2 L2 p2, .slice u2 K2 q2] 26)
  obtain ⟨w2, ew2⟩ : ∃ w2, w1.alloc (.cells #[.int .i64 (c2 : Int), .int .i64 (t2 : Int), .bool m2, .slice s2 L2 p2, .slice u2 K2 q2] 26) = w2 := ⟨_, rfl⟩
  rw [ew2] at hB0 hA1
  obtain ⟨A, eA⟩ : ∃ A, w.heap.size = A := ⟨_, rfl⟩
  obtain ⟨B, eB⟩ : ∃ B, w1.heap.size = B := ⟨_, rfl⟩
  rw [eA] at hA1
  rw [eB] at hB0
  obtain ⟨R, hR⟩ : ∃ R, cb W1 W2 = R := ⟨_, rfl⟩
  rw [hR] at HPure
  rw [hR]
  have HA := hide hA1.drew
  have HB := hide hB0.drew
  have a0 := hA1.cell 0 _ rfl
  have a1 := hA1.cell 1 _ rfl
  have a2 := hA1.cell 2 _ rfl
  have a3 := hA1.cell 3 _ rfl
  have a4 := hA1.cell 4 _ rfl
  have b0 := hB0.cell 0 _ rfl
  have b1 := hB0.cell 1 _ rfl
  have b2 := hB0.cell 2 _ rfl
  have b3 := hB0.cell 3 _ rfl
  have b4 := hB0.cell 4 _ rfl
  clear hA0 hB0 hA1 hv1 hv2 hw1 hw2 hW1 hW2 hW1l hW2l hc1 ht1 hc2 ht2 hx1 hx2 hrk1 hrk2 hb1 hb2 hm1 hm2 hv1e hv2e hL1 hL2 hK1 hK2 hR hsc
  go_enter Tryd.func46, Tryd.ntmps46
  go_wp2
  go_region_held3 (fun w' => w'.cell? ⟨A, 0, none⟩ = some (.int .i64 (c1 : Int)) ∧ w'.cell? ⟨A, 1, none⟩ = some (.int .i64 (t1 : Int)) ∧ w'.cell? ⟨A, 2, none⟩ = some (.bool m1) ∧ w'.cell? ⟨A, 3, none⟩ = some (.slice s1 L1 p1) ∧ w'.cell? ⟨A, 4, none⟩ = some (.slice u1 K1 q1) ∧ w'.cell? ⟨B, 0, none⟩ = some (.int .i64 (c2 : Int)) ∧ w'.cell? ⟨B, 1, none⟩ = some (.int .i64 (t2 : Int)) ∧ w'.cell? ⟨B, 2, none⟩ = some (.bool m2) ∧ w'.cell? ⟨B, 3, none⟩ = some (.slice s2 L2 p2) ∧ w'.cell? ⟨B, 4, none⟩ = some (.slice u2 K2 q2)) (go_keep)
    ((first
          | (go_at_call_of 21 (Value.agg #[Value.int IntKind.i64 (c1 : Int), Value.int IntKind.i64 (t1 : Int), Value.bool m1, Value.slice s1 L1 p1, Value.slice u1 K1 q1])
             refine (unhide Hin1 _ (unhide HA).b).mono ?_
             rintro e Wn ⟨N1, X1, rfl, hbo1, hN1, hbn⟩
             have HBo1 := hide hbo1
             clear hbo1
             replace HA := hide ((unhide HA).call hbn)
             replace HB := hide ((unhide HB).call hbn)
             (try replace HH1 := hide ((unhide HH1).below hbn))
             (try replace HH2 := hide ((unhide HH2).below hbn))
             clear a0 a1 a2 a3 a4 b0 b1 b2 b3 b4 hbn
             have a0 := (unhide HA).cell 0 _ rfl; have a1 := (unhide HA).cell 1 _ rfl; have a2 := (unhide HA).cell 2 _ rfl; have a3 := (unhide HA).cell 3 _ rfl; have a4 := (unhide HA).cell 4 _ rfl
             have b0 := (unhide HB).cell 0 _ rfl; have b1 := (unhide HB).cell 1 _ rfl; have b2 := (unhide HB).cell 2 _ rfl; have b3 := (unhide HB).cell 3 _ rfl; have b4 := (unhide HB).cell 4 _ rfl)
          | (go_at_call_of 21 (Value.agg #[Value.int IntKind.i64 (c2 : Int), Value.int IntKind.i64 (t2 : Int), Value.bool m2, Value.slice s2 L2 p2, Value.slice u2 K2 q2])
             refine (unhide Hin2 _ (unhide HA).b).mono ?_
             rintro e Wn ⟨N2, X2, rfl, hbo2, hN2, hbn⟩
             have HBo2 := hide hbo2
             clear hbo2
             replace HA := hide ((unhide HA).call hbn)
             replace HB := hide ((unhide HB).call hbn)
             (try replace HH1 := hide ((unhide HH1).below hbn))
             (try replace HH2 := hide ((unhide HH2).below hbn))
             clear a0 a1 a2 a3 a4 b0 b1 b2 b3 b4 hbn
             have a0 := (unhide HA).cell 0 _ rfl; have a1 := (unhide HA).cell 1 _ rfl; have a2 := (unhide HA).cell 2 _ rfl; have a3 := (unhide HA).cell 3 _ rfl; have a4 := (unhide HA).cell 4 _ rfl
             have b0 := (unhide HB).cell 0 _ rfl; have b1 := (unhide HB).cell 1 _ rfl; have b2 := (unhide HB).cell 2 _ rfl; have b3 := (unhide HB).cell 3 _ rfl; have b4 := (unhide HB).cell 4 _ rfl)
          | (go_at_call_of 22 (Value.agg #[Value.int IntKind.i64 (c1 : Int), Value.int IntKind.i64 (t1 : Int), Value.bool m1, Value.slice s1 L1 p1, Value.slice u1 K1 q1])
             refine (unhide Hhd1 N1 _ hN1).mono ?_
             rintro e Wn ⟨z1, rfl, hRn⟩
             have hbn := hRn.b
             have HH1n := hide hRn.bytes
             clear hRn
             replace HA := hide ((unhide HA).call hbn)
             replace HB := hide ((unhide HB).call hbn)
             (try replace HH2 := hide ((unhide HH2).below hbn))
             have HH1 := HH1n
             clear HH1n
             clear a0 a1 a2 a3 a4 b0 b1 b2 b3 b4 hbn
             have a0 := (unhide HA).cell 0 _ rfl; have a1 := (unhide HA).cell 1 _ rfl; have a2 := (unhide HA).cell 2 _ rfl; have a3 := (unhide HA).cell 3 _ rfl; have a4 := (unhide HA).cell 4 _ rfl
             have b0 := (unhide HB).cell 0 _ rfl; have b1 := (unhide HB).cell 1 _ rfl; have b2 := (unhide HB).cell 2 _ rfl; have b3 := (unhide HB).cell 3 _ rfl; have b4 := (unhide HB).cell 4 _ rfl)
          | (go_at_call_of 22 (Value.agg #[Value.int IntKind.i64 (c2 : Int), Value.int IntKind.i64 (t2 : Int), Value.bool m2, Value.slice s2 L2 p2, Value.slice u2 K2 q2])
             refine (unhide Hhd2 N2 _ hN2).mono ?_
             rintro e Wn ⟨z2, rfl, hRn⟩
             have hbn := hRn.b
             have HH2n := hide hRn.bytes
             clear hRn
             replace HA := hide ((unhide HA).call hbn)
             replace HB := hide ((unhide HB).call hbn)
             (try replace HH1 := hide ((unhide HH1).below hbn))
             have HH2 := HH2n
             clear HH2n
             clear a0 a1 a2 a3 a4 b0 b1 b2 b3 b4 hbn
             have a0 := (unhide HA).cell 0 _ rfl; have a1 := (unhide HA).cell 1 _ rfl; have a2 := (unhide HA).cell 2 _ rfl; have a3 := (unhide HA).cell 3 _ rfl; have a4 := (unhide HA).cell 4 _ rfl
             have b0 := (unhide HB).cell 0 _ rfl; have b1 := (unhide HB).cell 1 _ rfl; have b2 := (unhide HB).cell 2 _ rfl; have b3 := (unhide HB).cell 3 _ rfl; have b4 := (unhide HB).cell 4 _ rfl)
          | (go_at_call 54
             refine (bcmp_c (unhide HH1) (unhide HH2)).mono ?_
             rintro e Wn ⟨rfl, rfl⟩)))
  all_goals as_aux_lemma =>
    obtain ⟨gh, gb⟩ := unhide HPure N1 X1 N2 X2 (unhide HBo1) hN1 (unhide HBo2) hN2
    obtain ⟨r, hr⟩ : ∃ r, cb (tagB c1 t1 m1 ++ lenB N1) (tagB c2 t2 m2 ++ lenB N2) = r := ⟨_, rfl⟩
    rw [hr] at gh gb ⊢
    have Hgb := hide gb
    have Hgh := hide gh
    clear HPure HBo1 HBo2 hr gb gh Hin1 Hin2 Hhd1 Hhd2 HH1 HH2
    by_cases hr0 : r = 0
    case neg =>
      have e0 : (r == 0) = false := by simp [hr0]
      have e0' : (r != 0) = true := by simp [hr0]
      have HT := hide (unhide Hgh hr0)
      clear Hgb Hgh hr0
      go_wp2
      go_ret
      exact ⟨by rw [unhide HT]; rfl, (unhide HA).b⟩
    have e0 : (r == 0) = true := by simp [hr0]
    have e0' : (r != 0) = false := by simp [hr0]
    have Hg2 := hide (unhide Hgb hr0)
    clear Hgb Hgh hr0
    obtain ⟨hy1, hy2⟩ := unhide HBy1 _ (unhide HA).b
    have Hcm := hide (bcmp_c hy1 hy2)
    obtain ⟨r2, hr2⟩ : ∃ r2, cb bb1 bb2 = r2 := ⟨_, rfl⟩
    rw [hr2] at Hcm Hg2
    clear hy1 hy2 hr2
    go_wp2_with fail
    refine (unhide Hcm).mono ?_
    rintro e Wm ⟨rfl, rfl⟩
    clear Hcm
    by_cases hr0 : r2 = 0
    case neg =>
      have f0 : (r2 == 0) = false := by simp [hr0]
      have f0' : (r2 != 0) = true := by simp [hr0]
      have HT := hide ((unhide Hg2).1 hr0)
      clear Hg2 hr0
      go_wp2
      go_ret
      exact ⟨by rw [unhide HT]; rfl, (unhide HA).b⟩
    have f0 : (r2 == 0) = true := by simp [hr0]
    have f0' : (r2 != 0) = false := by simp [hr0]
    obtain ⟨xs, ys, hxs, hys, hT⟩ := (unhide Hg2).2 hr0
    have Hsc := hide (unhide HK1 _ xs ys (unhide HA).b hxs hys)
    rw [← hT] at Hsc
    clear Hg2 hr0 hxs hys hT HK1 HBy1
    go_wp2_with fail
    refine (unhide Hsc).mono ?_
    rintro e Wz ⟨rfl, hbz⟩
    have HBz := hide ((unhide HA).call hbz).b
    clear hbz Hsc
    go_wp2
    go_ret
    exact ⟨rfl, unhide HBz⟩
theorem cmp_all : ∀ n, CmpC n
  | 0 => fun _ _ _ _ _ _ _ _ _ _ h => h.elim
  | n + 1 => cmp_step n (scmp_step n (cmp_all n))
end K
end Go.Proofs.YtngkidlgcdofhabDoor
