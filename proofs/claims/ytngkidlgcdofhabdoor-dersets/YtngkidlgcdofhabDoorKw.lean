/-
  The walk of the landed check: a value's first error.
-/
import Derived.Test.YtngkidlgcdofhabDoorKv
namespace Go.Proofs.YtngkidlgcdofhabDoor
open Go.RowKit
namespace K
theorem form_ok (c t : Nat) (m : Bool) (b : Bs) : formD c t m b = if okT c t m = false then 21 else if m = false ∧ rightC c t b = false then 24 else 0 := by
  unfold formD okT rightC
  by_cases hc : c = 0
  · rw [if_neg (by omega), if_pos hc, if_pos hc]
    have hdis : madeT t = true → plainT t = false := fun h => by
      unfold madeT at h
      unfold plainT
      simp at h ⊢
      omega
    cases hm : madeT t with
    | false =>
      cases hp : plainT t with
      | false => cases m <;> simp
      | true => cases m <;> cases hr : rightP t b <;> simp
    | true =>
      rw [hdis hm]
      cases m <;> simp
  · rw [if_pos hc, if_neg hc, if_neg hc]
    simp
theorem write_succ (f : Nat) (c t : Int) (m : Bool) (b : Bs) (ks : List DV) : writeP formD (f + 1) (.mk c t m b ks) =
    if c < 0 ∨ 3 < c ∨ t < 0 ∨ 2097152 ≤ t then .no 21 else
    if formD c.toNat t.toNat m b = 21 then .no 21 else
    if formD c.toNat t.toNat m b ≠ 0 ∨ (m = true ∧ 0 < b.length) ∨ (m = false ∧ 0 < ks.length) then .no 24 else
    match allP (writeP formD f) ks with
    | .no e => .no e
    | .yes bs => if (fallsP bs && decide (c = 0) && decide (t = 17)) = true then .no 25 else .yes (tagB c.toNat t.toNat m ++ lenB (b ++ bs.flatten).length ++ (b ++ bs.flatten)) := by
  show writeP formD (f + 1) (.mk c t m b ks) = _
  unfold writeP
  rfl
def CheckC (f : Nat) : Prop := ∀ (n : Nat) (S : Nat → Prop) (v : DV) (w : World) (cs : List Value) (D : Nat), VAt n S w cs v → weight v ≤ 1000000 → Tabs w → D + f = 17 → Calls Tryd.prog 16 #[.agg cs.toArray, .int .i64 (D : Int)] w fun e w' => e = .returned (.int .i64 (errOf (writeP formD f v) : Int)) ∧ Below w.heap.size w w'
set_option maxRecDepth 100000 in
set_option maxHeartbeats 16000000 in
theorem check_zero : CheckC 0 := fun n S v w cs D hv hw hT hD => by
  obtain ⟨s1, c1, s2, c2, e⟩ := hv.form
  obtain ⟨c, hc⟩ : ∃ c, v.cls = c := ⟨_, rfl⟩
  obtain ⟨t, ht⟩ : ∃ t, v.tag = t := ⟨_, rfl⟩
  obtain ⟨m, hm⟩ : ∃ m, v.made = m := ⟨_, rfl⟩
  obtain ⟨L, hL⟩ : ∃ L, v.bytes.length = L := ⟨_, rfl⟩
  obtain ⟨K, hK⟩ : ∃ K, v.kids.length = K := ⟨_, rfl⟩
  rw [hc, ht, hm, hL, hK] at e
  subst e
  obtain rfl : D = 17 := by omega
  have HE : Hid (errOf (writeP formD 0 v) = 23) := by show _ = _; unfold writeP; rfl
  have Hb : Hid (Below w.heap.size w (w.alloc (.cells #[.int .i64 c, .int .i64 t, .bool m, .slice s1 L c1, .slice s2 K c2] 26))) := (Below.refl _ _).alloc (Nat.le_refl _) _
  clear hv hw hT hD hc ht hm hL hK
  unfold dcells
  go_enter Tryd.func16, Tryd.ntmps16
  go_wp2
  go_ret
  exact ⟨by rw [unhide HE]; rfl, unhide Hb⟩
set_option maxRecDepth 100000 in
set_option maxHeartbeats 16000000 in
theorem check_succ (f : Nat) (hf : CheckC f) : CheckC (f + 1) := fun n S v w cs D hv hw hT hD => by
  cases n with
  | zero => exact hv.elim
  | succ n =>
  obtain ⟨c, t, m, bs, ks⟩ := v
  obtain ⟨s1, c1, sk, ck, e⟩ := hv.form
  simp only [DV.cls, DV.tag, DV.made, DV.bytes, DV.kids] at e
  subst e
  have hby : BytesAt w (.slice s1 bs.length c1) bs := by
    obtain ⟨xb, _, _, e, h2, _⟩ := hv
    simp only [dcells, List.cons.injEq] at e
    rw [e.2.2.2.1]
    exact h2
  have hwt : bs.length ≤ 1000000 ∧ weights ks ≤ 1000000 := by simp only [weight] at hw; omega
  have hkl := weights_len ks
  have HBy : Hid (∀ W, Below w.heap.size w W → BytesAt W (.slice s1 bs.length c1) bs) := fun W hb => hby.below hb
  have HRow : Hid (∀ W, Below w.heap.size w W → RowK n S W (.slice sk ks.length ck) ks) := fun W hb => ⟨sk, ck, rfl, fun i k hk => kid_at (hv.below hb) i k hk⟩
  have HT := hide hT
  have HU := hide (write_succ f c t m bs ks)
  unfold dcells
  have HF := hide hf
  have HW := hide hwt
  obtain ⟨R, hR⟩ : ∃ R, writeP formD (f + 1) (.mk c t m bs ks) = R := ⟨_, rfl⟩
  rw [hR] at HU
  rw [hR]
  obtain ⟨L, hL⟩ : ∃ L, bs.length = L := ⟨_, rfl⟩
  obtain ⟨K, hK⟩ : ∃ K, ks.length = K := ⟨_, rfl⟩
  have HL := hide hL
  have HK := hide hK
  rw [hL] at HBy
  rw [hK] at HRow hkl
  rw [hL, hK]
  have hA := Blk.new (Below.refl w.heap.size w) #[.int .i64 c, .int .i64 t, .bool m, .slice s1 L c1, .slice sk K ck] 26
  obtain ⟨w1, hw1⟩ : ∃ w1, w.alloc (.cells #[.int .i64 c, .int .i64 t, .bool m, .slice s1 L c1, .slice sk K ck] 26) = w1 := ⟨_, rfl⟩
  obtain ⟨A, eA⟩ : ∃ A, w.heap.size = A := ⟨_, rfl⟩
  rw [hw1, eA] at hA
  have k0 := hA.cell 0 _ rfl
  have k1 := hA.cell 1 _ rfl
  have k2 := hA.cell 2 _ rfl
  have k3 := hA.cell 3 _ rfl
  have k4 := hA.cell 4 _ rfl
  have HA := hide hA
  have dD : decide ((16 : Int) < (D : Int)) = false := by simp; omega
  have dDn : decide (16 < D) = false := by simp; omega
  clear hA hv hw hT hby hR hL hK hf
  by_cases hbad : c < 0 ∨ 3 < c ∨ t < 0 ∨ 2097152 ≤ t
  · have HE : Hid (errOf R = 21) := by show _ = _; rw [unhide HU, if_pos hbad]; rfl
    clear HU
    by_cases h1 : c < 0
    · have e1 : decide (c < 0) = true := by simp; omega
      clear hbad
      go_enter Tryd.func16, Tryd.ntmps16
      go_wp2
      go_ret
      exact ⟨by rw [unhide HE]; rfl, by first | exact (unhide HA).b | (rw [← eA]; exact (unhide HA).b)⟩
    have e1 : decide (c < 0) = false := by simp; omega
    by_cases h2 : 3 < c
    · have e2 : decide (3 < c) = true := by simp; omega
      clear hbad
      go_enter Tryd.func16, Tryd.ntmps16
      go_wp2
      go_ret
      exact ⟨by rw [unhide HE]; rfl, by first | exact (unhide HA).b | (rw [← eA]; exact (unhide HA).b)⟩
    have e2 : decide (3 < c) = false := by simp; omega
    by_cases h3 : t < 0
    · have e3 : decide (t < 0) = true := by simp; omega
      clear hbad
      go_enter Tryd.func16, Tryd.ntmps16
      go_wp2
      go_ret
      exact ⟨by rw [unhide HE]; rfl, by first | exact (unhide HA).b | (rw [← eA]; exact (unhide HA).b)⟩
    have e3 : decide (t < 0) = false := by simp; omega
    have e4 : decide (2097151 < t) = true := by simp; omega
    clear hbad
    go_enter Tryd.func16, Tryd.ntmps16
    go_wp2
    go_ret
    exact ⟨by rw [unhide HE]; rfl, by first | exact (unhide HA).b | (rw [← eA]; exact (unhide HA).b)⟩
  have HU1 : Hid (R = if formD c.toNat t.toNat m bs = 21 then .no 21 else
    if formD c.toNat t.toNat m bs ≠ 0 ∨ (m = true ∧ 0 < bs.length) ∨ (m = false ∧ 0 < ks.length) then .no 24 else
    match allP (writeP formD f) ks with
    | .no e => .no e
    | .yes bs' => if (fallsP bs' && decide (c = 0) && decide (t = 17)) = true then .no 25 else .yes (tagB c.toNat t.toNat m ++ lenB (bs ++ bs'.flatten).length ++ (bs ++ bs'.flatten))) := by show _ = _; rw [unhide HU, if_neg hbad]
  have e1 : decide (c < 0) = false := by simp; omega
  have e2 : decide (3 < c) = false := by simp; omega
  have e3 : decide (t < 0) = false := by simp; omega
  have e4 : decide (2097151 < t) = false := by simp; omega
  obtain ⟨C, hC⟩ : ∃ C : Nat, c = (C : Int) := ⟨c.toNat, by omega⟩
  obtain ⟨T, hTT⟩ : ∃ T : Nat, t = (T : Int) := ⟨t.toNat, by omega⟩
  subst hC hTT
  rw [Int.toNat_natCast, Int.toNat_natCast, form_ok] at HU1
  have hTb : T < 2097152 := by omega
  have Hru := hide (rule_c C T m s1 sk L c1 K ck w1)
  clear HU hbad
  have g1 : ¬ ((C : Int) < 0) := by omega
  have g3 : ¬ ((T : Int) < 0) := by omega
  go_enter Tryd.func16, Tryd.ntmps16
  go_wp2_with fail
  refine (unhide Hru).mono ?_
  rintro e w2 ⟨mm, fb, fk, rfl, hfb, hfk, htold, hb2⟩
  have hA2 := (unhide HA).call hb2
  have hQ := Blk.new hA2.b #[.bool false, .nilFunc, .nilFunc] 52
  have hA3 := hA2.lit (.cells #[.bool false, .nilFunc, .nilFunc] 52)
  obtain ⟨w3, hw3⟩ : ∃ w3, w2.alloc (.cells #[.bool false, .nilFunc, .nilFunc] 52) = w3 := ⟨_, rfl⟩
  have hAQ : A ≠ w2.heap.size := by have := hA2.lt; omega
  rw [hw3] at hQ hA3
  obtain ⟨Q, eQ⟩ : ∃ Q, w2.heap.size = Q := ⟨_, rfl⟩
  rw [eQ] at hQ hAQ
  have ofn : ∀ {v : Value}, FnV v → v.oneCell' = true := fun h => by rcases h with rfl | ⟨f, rfl⟩ <;> rfl
  have HO := hide (one3 (.bool mm) fb fk rfl (ofn hfb) (ofn hfk))
  have HQ := hide hQ
  have HQ4 := hide (hQ.set #[.bool mm, fb, fk])
  have HA4 := hide (hA3.other hQ.ge hAQ #[.bool mm, fb, fk])
  have HTold := hide htold
  clear hA2 hQ hA3 hb2 htold hfb hfk Hru ofn k0 k1 k2 k3 k4 HA
  obtain ⟨ok, hok⟩ : ∃ ok, okT C T m = ok := ⟨_, rfl⟩
  rw [hok] at HU1 ⊢
  have Hok := hide hok
  clear hok
  go_upto_region 6 with (refine wpList_store_row rfl 52 _ _ rfl Q #[.bool mm, fb, fk] rfl rfl 52 _ (unhide HQ).res rule3 rfl (unhide HO) ?_)
  obtain ⟨w4, hw4⟩ : ∃ w4, w3.setRow Q #[.bool mm, fb, fk] = w4 := ⟨_, rfl⟩
  rw [hw4] at HQ4 HA4 ⊢
  have k0 := (unhide HA4).cell 0 _ rfl
  have k1 := (unhide HA4).cell 1 _ rfl
  have k2 := (unhide HA4).cell 2 _ rfl
  have k3 := (unhide HA4).cell 3 _ rfl
  have k4 := (unhide HA4).cell 4 _ rfl
  have q0 := (unhide HQ4).cell 0 _ rfl
  have q1 := (unhide HQ4).cell 1 _ rfl
  have q2 := (unhide HQ4).cell 2 _ rfl
  clear hw4 hw3 HQ HO
  cases ok with
  | false =>
    have HE : Hid (errOf R = 21) := by show _ = _; rw [unhide HU1]; simp [errOf]
    clear HU1 HTold
    go_wp2
    go_ret
    exact ⟨by rw [unhide HE]; rfl, (unhide HA4).b⟩
  | true =>
    have Hb4 : Hid (Below w.heap.size w w4) := (unhide HA4).b
    cases m with
    | false =>
      obtain ⟨fn, hfn, hen0, hbf⟩ := (unhide HTold (unhide Hok)).1 rfl
      subst hfn
      have hen : ∀ args W, (callFunc fn args).run Tryd.prog W = .ok (.enter fn args) W := hen0
      clear hen0
      have HU2 : Hid (R = if rightC C T bs = false ∨ 0 < K then .no 24 else .yes (tagB C T false ++ lenB bs.length ++ bs)) := by
        show _ = _
        rw [unhide HU1]
        have hkk := unhide HK
        cases hrc : rightC C T bs with
        | false => simp
        | true =>
          by_cases h0 : 0 < K
          · simp [h0, hkk]
          · have hnil : ks = [] := List.eq_nil_of_length_eq_zero (by omega)
            subst hnil
            simp [h0, allP, fallsP]
      clear HU1 HTold
      by_cases h0 : 0 < K
      · have f1 : decide ((0 : Int) < (K : Int)) = true := by simp; omega
        have f1n : decide (0 < K) = true := by simp; omega
        have HE : Hid (errOf R = 24) := by show _ = _; rw [unhide HU2, if_pos (Or.inr h0)]; rfl
        clear HU2 hen hbf
        go_wp2
        go_ret
        exact ⟨by rw [unhide HE]; rfl, unhide Hb4⟩
      have f1 : decide ((0 : Int) < (K : Int)) = false := by simp; omega
      have f1n : decide (0 < K) = false := by simp; omega
      have Hcl := hide (hbf w4 (.slice s1 L c1) bs ((unhide HT).below (unhide Hb4)) (unhide HBy w4 (unhide Hb4)) (unhide HW).1)
      obtain ⟨u, hu⟩ : ∃ u, rightC C T bs = u := ⟨_, rfl⟩
      rw [hu] at Hcl HU2
      clear hbf hu
      go_wp2_with fail
      refine (unhide Hcl).mono ?_
      rintro e w5 ⟨rfl, hb5⟩
      have HB5 := hide ((unhide HA4).call hb5).b
      clear hb5 Hcl
      cases u with
      | false =>
        have HE : Hid (errOf R = 24) := by show _ = _; rw [unhide HU2, if_pos (Or.inl rfl)]; rfl
        go_wp2
        go_ret
        exact ⟨by rw [unhide HE]; rfl, unhide HB5⟩
      | true =>
        have HE : Hid (errOf R = 0) := by show _ = _; rw [unhide HU2, if_neg (by simp; omega)]; rfl
        go_wp2
        go_ret
        exact ⟨by rw [unhide HE]; rfl, unhide HB5⟩
    | true =>
      have hkr := (unhide HTold (unhide Hok)).2 rfl
      unfold KidsRule at hkr
      obtain ⟨g, hg⟩ : ∃ g, (if C = 0 ∧ T = 17 then 38 else 27) = g := ⟨_, rfl⟩
      rw [hg] at hkr
      subst hkr
      have Hg := hide hg
      have HU2 : Hid (R = if 0 < L then .no 24 else match allP (writeP formD f) ks with
          | .no e => .no e
          | .yes bs' => if (fallsP bs' && decide (C = 0 ∧ T = 17)) = true then .no 25 else .yes (tagB C T true ++ lenB (bs ++ bs'.flatten).length ++ (bs ++ bs'.flatten))) := by
        show _ = _
        rw [unhide HU1]
        have hll := unhide HL
        by_cases h0 : 0 < L
        · simp [h0, hll]
        · have e17 : ∀ bs' : List Bs, (fallsP bs' && decide ((C : Int) = 0) && decide ((T : Int) = 17)) = (fallsP bs' && decide (C = 0 ∧ T = 17)) := fun bs' => by
            rw [Bool.and_assoc, ← Bool.decide_and]
            congr 2
            exact propext ⟨fun h => ⟨by omega, by omega⟩, fun h => ⟨by omega, by omega⟩⟩
          simp only [e17]
          simp [h0, hll]
      clear HU1 HTold hg
      by_cases h0 : 0 < L
      · have f1 : decide ((0 : Int) < (L : Int)) = true := by simp; omega
        have f1n : decide (0 < L) = true := by simp; omega
        have HE : Hid (errOf R = 24) := by show _ = _; rw [unhide HU2, if_pos h0]; rfl
        clear HU2
        go_wp2
        go_ret
        exact ⟨by rw [unhide HE]; rfl, unhide Hb4⟩
      have f1 : decide ((0 : Int) < (L : Int)) = false := by simp; omega
      have f1n : decide (0 < L) = false := by simp; omega
      obtain ⟨D1, hD1⟩ : ∃ D1, D + 1 = D1 := ⟨_, rfl⟩
      have eD1 : (D : Int) + 1 = (D1 : Int) := by omega
      have uD1 : IntKind.i64.wrap (D1 : Int) = (D1 : Int) := IntWalk.i64_in _ (by omega)
      have HGk : Hid (∀ (i : Nat) (wr : World), i < K → Below w.heap.size w wr → ∃ (k : DV) (ba oa : Nat) (ds : List Value), sk = some ⟨ba, oa, none⟩ ∧ ks[i]? = some k ∧ CellsAt wr ba (oa + i * 5) ds ∧ VAt n S wr ds k ∧ weight k ≤ 1000000) := fun i wr hi hb => by
        have hi2 : i < ks.length := by rw [unhide HK]; exact hi
        have hik : ks[i]? = some ks[i] := List.getElem?_eq_getElem hi2
        obtain ⟨sk', ck', e, h⟩ := unhide HRow wr hb
        simp only [Value.slice.injEq] at e
        obtain ⟨rfl, _, _⟩ := e
        obtain ⟨ba, oa, ds, q1, q2, q3⟩ := h i _ hik
        have := weight_kid hik
        exact ⟨_, ba, oa, ds, q1, hik, q2, q3, by have := (unhide HW).2; omega⟩
      have HU3 : Hid (R = match allP (writeP formD f) ks with
          | .no e => .no e
          | .yes bs' => if (fallsP bs' && decide (C = 0 ∧ T = 17)) = true then .no 25 else .yes (tagB C T true ++ lenB (bs ++ bs'.flatten).length ++ (bs ++ bs'.flatten))) := by show _ = _; rw [unhide HU2, if_neg h0]
      have HD1 := hide hD1
      clear HU2 hD1
      go_wp2
      go_loopw [59] (fun ii wr => ∃ (i : Nat) (dn : List Bs), i ≤ K ∧ ii = .int .i64 (i : Int) ∧ Hid (allP (writeP formD f) ks = prepA dn (allP (writeP formD f) (ks.drop i))) ∧ Hid (Blk w wr A #[.int .i64 (C : Int), .int .i64 (T : Int), .bool true, .slice s1 L c1, .slice sk K ck] 26) ∧ Hid (Blk w wr Q #[.bool mm, fb, .func (.func g) #[] #[]] 52)) (fun ii _ => K - (intOf ii).toNat)
      case atStart => exact ⟨0, [], by omega, rfl, by show _ = _; rw [prepA_nil, List.drop_zero], HA4, HQ4⟩
      case round =>
        obtain ⟨i, dn, hi, rfl, HEq, HA5, HQ5⟩ := hrel
        clear k0 k1 k2 k3 k4 q0 q1 q2 HA4 HQ4 Hb4
        by_cases hlt : i < K
        · obtain ⟨k, ba, oa, ds, rfl, hik, g1, v1, hkw⟩ := unhide HGk i wr hlt (unhide HA5).b
          obtain ⟨p1, q1, p2, q2, rfl⟩ := v1.form
          obtain ⟨x0, x1, x2, x3, x4⟩ := g1.five
          have d1 : decide ((i : Int) < (K : Int)) = true := by simp; omega
          have d1n : decide (i < K) = true := by simp; omega
          have i0 : (0 : Int) ≤ (i : Int) := by omega
          have i1 : (i : Int) < (K : Int) := by omega
          obtain ⟨kc, hkc⟩ : ∃ kc, k.cls = kc := ⟨_, rfl⟩
          obtain ⟨kt, hkt⟩ : ∃ kt, k.tag = kt := ⟨_, rfl⟩
          obtain ⟨km, hkm⟩ : ∃ km, k.made = km := ⟨_, rfl⟩
          obtain ⟨kl, hkl3⟩ : ∃ kl, k.bytes.length = kl := ⟨_, rfl⟩
          obtain ⟨kn, hkk⟩ : ∃ kn, k.kids.length = kn := ⟨_, rfl⟩
          simp only [hkc, hkt, hkm, hkl3, hkk] at x0 x1 x2 x3 x4 v1
          have hCk := Blk.new (unhide HA5).b #[.int .i64 kc, .int .i64 kt, .bool km, .slice p1 kl q1, .slice p2 kn q2] 26
          have hb6 : Below wr.heap.size wr (wr.alloc (.cells #[.int .i64 kc, .int .i64 kt, .bool km, .slice p1 kl q1, .slice p2 kn q2] 26)) := (Below.refl _ _).alloc (Nat.le_refl _) _
          have hA6 := (unhide HA5).call hb6
          have hQ6 := (unhide HQ5).call hb6
          obtain ⟨w6, hw6⟩ : ∃ w6, wr.alloc (.cells #[.int .i64 kc, .int .i64 kt, .bool km, .slice p1 kl q1, .slice p2 kn q2] 26) = w6 := ⟨_, rfl⟩
          obtain ⟨E, eE⟩ : ∃ E, wr.heap.size = E := ⟨_, rfl⟩
          rw [hw6] at hb6 hA6 hQ6 hCk
          rw [eE] at hCk
          have Hck := hide (unhide HF n S k w6 _ D1 (v1.below hb6) hkw ((unhide HT).below hA6.b) (by have := unhide HD1; omega))
          unfold dcells at Hck
          obtain ⟨er, her⟩ : ∃ er, errOf (writeP formD f k) = er := ⟨_, rfl⟩
          rw [her] at Hck
          have y0 := hCk.cell 0 _ rfl
          have y1 := hCk.cell 1 _ rfl
          have y2 := hCk.cell 2 _ rfl
          have y3 := hCk.cell 3 _ rfl
          have y4 := hCk.cell 4 _ rfl
          have HA6 := hide hA6
          have HQ6 := hide hQ6
          have HCk := hide hCk
          have Her := hide her
          have Hik := hide hik
          clear hCk hb6 hA6 hQ6 g1 v1 hkw hik her hkc hkt hkm hkl3 hkk HA5 HQ5 HGk
          go_wp2_with fail
          refine (unhide Hck).mono ?_
          rintro e w7 ⟨rfl, hb7⟩
          have HA7 := hide ((unhide HA6).call hb7)
          have HQ7 := hide ((unhide HQ6).call hb7)
          clear hb7 Hck x0 x1 x2 x3 x4 y0 y1 y2 y3 y4
          cases hg : writeP formD f k with
          | no e' =>
            have h1 := unhide Her
            rw [hg] at h1
            have h2 : e' = er := h1
            have hne := write_pos formD f k e' hg
            have HE : Hid (errOf R = er) := by
              show _ = _
              rw [unhide HU3, unhide HEq, all_no dn (unhide Hik) hg]
              exact h2
            have z0 : ((er : Int) == 0) = false := by simp; omega
            have z0' : ((er : Int) != 0) = true := by simp; omega
            clear HU3 HEq hg h1 h2 hne
            go_wp2
            go_ret
            exact ⟨by rw [unhide HE]; rfl, (unhide HA7).b⟩
          | yes x =>
            have h1 := unhide Her
            rw [hg] at h1
            have h2 : 0 = er := h1
            have HEq2 : Hid (allP (writeP formD f) ks = prepA (dn ++ [x]) (allP (writeP formD f) (ks.drop (i + 1)))) := by show _ = _; rw [unhide HEq, all_yes dn (unhide Hik) hg]
            have z0 : ((er : Int) == 0) = true := by simp; omega
            have z0' : ((er : Int) != 0) = false := by simp; omega
            clear HEq hg h1 h2
            go_wp2
            go_roundw
            case rel =>
              first
                | exact ⟨i + 1, dn ++ [x], by omega, by go_num, HEq2, HA7, HQ7⟩
                | exact ⟨⟨i + 1, dn ++ [x], by omega, by go_num, HEq2, HA7, HQ7⟩, rfl⟩
            case measure => simp [intOf]; omega
        · have hiK : i = ks.length := by rw [unhide HK]; omega
          have HAll : Hid (allP (writeP formD f) ks = .yes dn) := by show _ = _; rw [unhide HEq, hiK, all_done]
          have d1 : decide ((i : Int) < (K : Int)) = false := by simp; omega
          have d1n : decide (i < K) = false := by simp; omega
          have HU4 : Hid (errOf R = if (fallsP dn && decide (C = 0 ∧ T = 17)) = true then 25 else 0) := by
            show _ = _
            rw [unhide HU3, unhide HAll]
            show errOf (if (fallsP dn && decide (C = 0 ∧ T = 17)) = true then _ else _) = _
            split <;> rfl
          have k4 := (unhide HA5).cell 4 _ rfl
          have q2 := (unhide HQ5).cell 2 _ rfl
          clear hiK HEq HU3
          by_cases h17 : C = 0 ∧ T = 17
          · have hgv : g = 38 := by rw [← unhide Hg, if_pos h17]
            have HU5 : Hid (errOf R = if fallsP dn = true then 25 else 0) := by show _ = _; rw [unhide HU4, decide_eq_true h17, Bool.and_true]
            have Hfa := hide (fall_all n f S ks wr _ dn (unhide HRow wr (unhide HA5).b) (unhide HW).2 (unhide HAll))
            obtain ⟨u, hu⟩ : ∃ u, fallsP dn = u := ⟨_, rfl⟩
            rw [hu] at Hfa HU5
            subst hgv
            clear HU4 h17 hu HAll
            go_wp2_with fail
            refine (unhide Hfa).mono ?_
            rintro e w8 ⟨rfl, hb8⟩
            have HB8 := hide ((unhide HA5).call hb8).b
            clear hb8 Hfa
            cases u with
            | false =>
              have HE : Hid (errOf R = 0) := by show _ = _; rw [unhide HU5]; rfl
              go_wp2
              go_ret
              exact ⟨by rw [unhide HE]; rfl, unhide HB8⟩
            | true =>
              have HE : Hid (errOf R = 25) := by show _ = _; rw [unhide HU5]; rfl
              go_wp2
              go_ret
              exact ⟨by rw [unhide HE]; rfl, unhide HB8⟩
          · have hgv : g = 27 := by rw [← unhide Hg, if_neg h17]
            have HE : Hid (errOf R = 0) := by show _ = _; rw [unhide HU4, decide_eq_false h17, Bool.and_false]; rfl
            have Hfa := hide (anyk_c wr (.slice sk K ck))
            subst hgv
            clear HU4 h17 HAll
            go_wp2_with fail
            refine (unhide Hfa).mono ?_
            rintro e w8 ⟨rfl, hb8⟩
            have HB8 := hide ((unhide HA5).call hb8).b
            clear hb8 Hfa
            go_wp2
            go_ret
            exact ⟨by rw [unhide HE]; rfl, unhide HB8⟩
theorem check_all : ∀ f, CheckC f
  | 0 => check_zero
  | f + 1 => check_succ f (check_all f)
end K
end Go.Proofs.YtngkidlgcdofhabDoor
