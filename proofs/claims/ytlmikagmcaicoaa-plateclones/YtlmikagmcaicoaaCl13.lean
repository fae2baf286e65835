/-
  The statement PlateClones, walked out of the record Plate.
-/
import Derived.Test.YtlmikagmcaicoaaPm13
namespace Go.Proofs.Ytlmikagmcaicoaa
open Go.RowKit
section
variable {PAt : Set_ → Set_ → World → Value → PS → Prop} (HP : Plate PAt)
include HP in
/-- Two that stand aside are kept while two others are played with. -/
theorem aside_two {B : Nat} {w w' : World} {p r q l : Value} {S R Q S2 R2 Q2 : Set_} {s t s2 t2 s' t' : PS} (h : Both PAt B w p r S R Q s t) (h2 : Both PAt B w q l S2 R2 Q2 s2 t2) (hd : ∀ k, S k ∨ Q k → ¬ S2 k ∧ ¬ R2 k ∧ ¬ Q2 k) (hst : StepTo PAt B w w' p r S R Q s' t') :
    ∃ S' R' Q', Both PAt B w' p r S' R' Q' s' t' ∧ Both PAt B w' q l S2 R2 Q2 s2 t2 ∧ (∀ k, S' k ∨ Q' k → ¬ S2 k ∧ ¬ R2 k ∧ ¬ Q2 k) ∧ Below B w w' := by
  obtain ⟨S', R', Q', hB, hu, _, ha⟩ := hst
  refine ⟨S', R', Q', hB, h2.kept HP ha hd, fun k hk => ?_, ha.below h.le fun k hk => h.ge k (hk.imp id Or.inr)⟩
  rcases hu k hk with h1 | h1
  · exact hd k h1
  · have := h2.old HP
    exact ⟨fun hx => by have := this k (Or.inl hx); omega, fun hx => by have := this k (Or.inr (Or.inl hx)); omega, fun hx => by have := this k (Or.inr (Or.inr hx)); omega⟩
set_option maxRecDepth 100000 in
set_option maxHeartbeats 16000000 in
include HP in
theorem clones_true (w : World) (sec : Int) (x y z : Value) (l1 l2 l3 : List OpP) (h1 : OpsAt w.heap.size w x l1) (h2 : OpsAt w.heap.size w y l2) (h3 : OpsAt w.heap.size w z l3) :
    Calls Try.prog 4 #[.int .i64 sec, x, y, z] w fun e w' => e = .returned (.bool true) ∧ Below w.heap.size w w' := by
  obtain ⟨sp1, c1_, rfl, _⟩ := id h1
  obtain ⟨n1, hn1⟩ : ∃ n, l1.length = n := ⟨_, rfl⟩
  rw [hn1] at h1 ⊢
  have HX1 := hide h1
  have HN1 := hide hn1
  clear h1 hn1
  obtain ⟨sp2, c2_, rfl, _⟩ := id h2
  obtain ⟨n2, hn2⟩ : ∃ n, l2.length = n := ⟨_, rfl⟩
  rw [hn2] at h2 ⊢
  have HX2 := hide h2
  have HN2 := hide hn2
  clear h2 hn2
  obtain ⟨sp3, c3_, rfl, _⟩ := id h3
  obtain ⟨n3, hn3⟩ : ∃ n, l3.length = n := ⟨_, rfl⟩
  rw [hn3] at h3 ⊢
  have HX3 := hide h3
  have HN3 := hide hn3
  clear h3 hn3
  have Ha := hide (anchor_c HP w)
  go_enter Try.func4, Try.ntmps4
  go_wp2_with fail
  refine (unhide Ha).mono ?_
  rintro e w1 ⟨rfl, hb1⟩
  have HB1 := hide hb1
  clear hb1 Ha
  by_cases g1 : sec < 8
  · have d1 : decide (sec < 8) = true := decide_eq_true g1
    go_wp2
    go_ret
    exact ⟨rfl, unhide HB1⟩
  have d1 : decide (sec < 8) = false := decide_eq_false g1
  by_cases g2 : 100 < sec
  · have d2 : decide (100 < sec) = true := decide_eq_true g2
    go_wp2
    go_ret
    exact ⟨rfl, unhide HB1⟩
  have d2 : decide (100 < sec) = false := decide_eq_false g2
  obtain ⟨N, rfl⟩ : ∃ N : Nat, sec = (N : Int) := ⟨sec.toNat, by omega⟩
  have hN8 : 8 ≤ N := by omega
  have hN100 : N ≤ 100 := by omega
  have Hsm := hide (small_c w.heap.size w1 _ l1 ((unhide HX1).low (unhide HB1)) (unhide HB1).size)
  obtain ⟨SM1, hSM1⟩ : ∃ y, smallP l1 = y := ⟨_, rfl⟩
  rw [hSM1] at Hsm
  go_wp2_with fail
  refine (unhide Hsm).mono ?_
  rintro e w2 ⟨rfl, hb⟩
  have HC1 := hide ((unhide HB1).trans (hb.mono (unhide HB1).size))
  clear hb Hsm HB1 d1 d2 g1 g2
  cases SM1 with
  | false =>
    clear hSM1
    go_wp2
    go_ret
    exact ⟨rfl, unhide HC1⟩
  | true =>
  have HSM1 := hide hSM1
  have hl1 : n1 ≤ 200 := by have := small_len hSM1; have := unhide HN1; omega
  clear hSM1
  have Hsm := hide (small_c w.heap.size w2 _ l2 ((unhide HX2).low (unhide HC1)) (unhide HC1).size)
  obtain ⟨SM2, hSM2⟩ : ∃ y, smallP l2 = y := ⟨_, rfl⟩
  rw [hSM2] at Hsm
  go_wp2_with fail
  refine (unhide Hsm).mono ?_
  rintro e w3 ⟨rfl, hb⟩
  have HC2 := hide ((unhide HC1).trans (hb.mono (unhide HC1).size))
  clear hb Hsm HC1 
  cases SM2 with
  | false =>
    clear hSM2
    go_wp2
    go_ret
    exact ⟨rfl, unhide HC2⟩
  | true =>
  have HSM2 := hide hSM2
  have hl2 : n2 ≤ 200 := by have := small_len hSM2; have := unhide HN2; omega
  clear hSM2
  have Hsm := hide (small_c w.heap.size w3 _ l3 ((unhide HX3).low (unhide HC2)) (unhide HC2).size)
  obtain ⟨SM3, hSM3⟩ : ∃ y, smallP l3 = y := ⟨_, rfl⟩
  rw [hSM3] at Hsm
  go_wp2_with fail
  refine (unhide Hsm).mono ?_
  rintro e w4 ⟨rfl, hb⟩
  have HC3 := hide ((unhide HC2).trans (hb.mono (unhide HC2).size))
  clear hb Hsm HC2 
  cases SM3 with
  | false =>
    clear hSM3
    go_wp2
    go_ret
    exact ⟨rfl, unhide HC3⟩
  | true =>
  have HSM3 := hide hSM3
  have hl3 : n3 ≤ 200 := by have := small_len hSM3; have := unhide HN3; omega
  clear hSM3
  have Hn := hide (HP.new_yes w4 N hN8 (by omega))
  go_wp2_with fail
  refine (unhide Hn).mono ?_
  rintro e w5 ⟨p, rfl, S, R, hp, hge, hb⟩
  obtain ⟨pa, rfl⟩ := HP.ptr hp
  have HO5 : Hid (One PAt w4 w5 (.pointer (some pa)) S R (newS N)) := ⟨hp, hge, hb⟩
  clear hp hge hb Hn
  have Hn := hide (rnew_yes w5 N hN8 (by omega))
  go_wp2_with fail
  refine (unhide Hn).mono ?_
  rintro e w6 ⟨r, rfl, Q, hr, hge, hb⟩
  obtain ⟨RR, A0, D0, vs0, lv0, ls0, er, _, _⟩ := id hr
  subst er
  have HB6 : Hid (Below w.heap.size w w6) := by
    have h1 := (unhide HO5).b
    exact ((unhide HC3).trans (h1.mono (unhide HC3).size)).trans (hb.mono (Nat.le_trans (unhide HC3).size h1.size))
  have HBo : Hid (Both PAt w.heap.size w6 (.pointer (some pa)) (.pointer (some ⟨RR, 0, none⟩)) S R Q (newS N) (newS N)) := by
    have h0 := (unhide HC3).size
    have h1 := (unhide HO5).b.size
    have hk := (unhide HO5).below HP hb
    refine ⟨hk.p, hr, fun k hQ => ⟨fun h => ?_, fun h => ?_⟩, ?_, Nat.le_trans (Nat.le_trans h0 h1) hb.size⟩
    · have := HP.old (unhide HO5).p k (Or.inl h); have := hge k hQ; omega
    · have := HP.old (unhide HO5).p k (Or.inr h); have := hge k hQ; omega
    · rintro k (hk | hk | hk)
      · have := (unhide HO5).ge k (Or.inl hk); omega
      · have := (unhide HO5).ge k (Or.inr hk); omega
      · have := hge k hk; omega
  clear hr hge hb Hn HO5 HC3
  go_wp2
  go_loopw [55] (fun ii wr => ∃ (i : Nat) (S R Q : Set_), i ≤ n1 ∧ ii = .int .i64 (i : Int) ∧ Hid (Both PAt w.heap.size wr (.pointer (some pa)) (.pointer (some ⟨RR, 0, none⟩)) S R Q (playS (newS N) (l1.take i)) (playS (newS N) (l1.take i))) ∧ Hid (Below w.heap.size w wr)) (fun ii _ => n1 - (intOf ii).toNat)
  case atStart => exact ⟨0, S, R, Q, by omega, rfl, by show Both _ _ _ _ _ _ _ _ _ _; rw [List.take_zero]; exact unhide HBo, unhide HB6⟩
  case round =>
    clear HBo HB6
    obtain ⟨i, S1, R1, Q1, hi, rfl, Hbo, Hb⟩ := hrel
    by_cases hlt : i < n1
    · obtain ⟨op, b, o, sk, nk, ck, hop, rfl, c0, c1, c2, c3, c4, hkv, hkB, hat0, hat1⟩ := ((unhide HX1).low (unhide Hb)).at (i := i) (by have := unhide HN1; omega)
      have f1 : decide ((i : Int) < (n1 : Int)) = true := by simp; omega
      have f1n : decide (i < n1) = true := by simp; omega
      have j0 : (0 : Int) ≤ (i : Int) := by omega
      have j1 : (i : Int) < (n1 : Int) := by omega
      have hok := small_ok (unhide HSM1) hop hat0 hat1
      obtain ⟨F, hF⟩ : ∃ y, op.fill.toNat = y := ⟨_, rfl⟩
      obtain ⟨Z, hZ⟩ : ∃ y, op.size = y := ⟨_, rfl⟩
      obtain ⟨KD, hKD⟩ : ∃ y, op.kind = y := ⟨_, rfl⟩
      obtain ⟨AT, hAT⟩ : ∃ y, op.at_ = y := ⟨_, rfl⟩
      rw [hF] at c3
      rw [hZ] at c2
      rw [hKD] at c0
      rw [hAT] at c1
      have hr3 := heap_alloc_new wr (.cells [.int .i64 KD, .int .i64 AT, .int .i64 Z, .int .u8 (F : Int), .slice sk nk ck].toArray 32)
      have hb3 : Below wr.heap.size wr (wr.alloc (.cells [.int .i64 KD, .int .i64 AT, .int .i64 Z, .int .u8 (F : Int), .slice sk nk ck].toArray 32)) := (Below.refl _ _).alloc (Nat.le_refl _) _
      obtain ⟨w3, hw3⟩ : ∃ y, wr.alloc (.cells #[.int .i64 KD, .int .i64 AT, .int .i64 Z, .int .u8 (F : Int), .slice sk nk ck] 32) = y := ⟨_, rfl⟩
      obtain ⟨A, hA⟩ : ∃ y, wr.heap.size = y := ⟨_, rfl⟩
      rw [show wr.alloc (.cells [.int .i64 KD, .int .i64 AT, .int .i64 Z, .int .u8 (F : Int), .slice sk nk ck].toArray 32) = w3 from hw3] at hr3 hb3
      rw [hA] at hr3
      obtain ⟨a0, a1, a2, a3, a4⟩ := five_row hr3
      have Hb3 := hide ((unhide Hb).trans (hb3.mono (unhide Hb).size))
      have HBo3 := hide ((unhide Hbo).below HP hb3)
      have hnx := play_next (s := newS N) hop
      have hlo := play_take (newS N) l1 i
      rw [loose_new, Nat.zero_add] at hlo
      have hst := step_c HP (unhide HBo3) op (.slice sk nk ck) hok (hkv.below hb3) hkB (by omega) (by omega)
      rw [ok_same, ← hnx] at hst
      unfold ocells at hst
      rw [hF, hZ, hKD, hAT] at hst
      have Hst := hide hst
      clear hr3 hb3 hst hok hnx hlo hF hZ hKD hAT hop hkv hkB hat0 hat1 Hbo Hb
      go_wp2_with fail
      refine (unhide Hst).mono ?_
      rintro e w4 ⟨rfl, S4, R4, Q4, hB4, _, _, ha4⟩
      have HB4 := hide hB4
      have Hb4 : Hid (Below w.heap.size w w4) := (unhide Hb3).trans (ha4.below (unhide HBo3).le fun k hk => (unhide HBo3).ge k (hk.imp id Or.inr))
      clear hB4 ha4 Hst HBo3 Hb3 hw3 hA a0 a1 a2 a3 a4
      go_wp2
      refine ⟨⟨i + 1, S4, R4, Q4, by omega, ?_, HB4, Hb4⟩, ?_⟩
      · simp
      · simp [intOf]; omega
    · obtain rfl : i = n1 := by omega
      have f1 : decide ((i : Int) < (i : Int)) = false := by simp
      have hlo := play_take (newS N) l1 i
      rw [loose_new, Nat.zero_add] at hlo
      obtain ⟨s, hs⟩ : ∃ y, playS (newS N) (l1.take i) = y := ⟨_, rfl⟩
      rw [hs] at Hbo hlo
      clear hs
      have Hc := hide (HP.clone (unhide Hbo).p (by omega))
      go_wp2_with fail
      refine (unhide Hc).mono ?_
      rintro e w5 ⟨q, rfl, S5, R5, hq, hS5, hR5, hb5⟩
      obtain ⟨qa, rfl⟩ := HP.ptr hq
      have HBp := hide ((unhide Hbo).below HP hb5)
      have Hb5 := hide ((unhide Hb).trans (hb5.mono (unhide Hb).size))
      have HBq : Hid (Both PAt w.heap.size w5 (.pointer (some qa)) (.pointer (some ⟨RR, 0, none⟩)) S5 R5 Q1 s s) := by
        have hle := (unhide Hbo).le
        refine ⟨hq, (unhide HBp).r, fun k hQ => ⟨fun h => ?_, fun h => ?_⟩, ?_, (unhide HBp).le⟩
        · have := (unhide Hbo).r.old k hQ; have := hS5 k h; omega
        · rcases hR5 k h with h | h
          · exact ((unhide Hbo).sep k hQ).2 h
          · have := (unhide Hbo).r.old k hQ; omega
        · rintro k (hk | hk | hk)
          · have := hS5 k hk; omega
          · rcases hR5 k hk with h | h
            · exact (unhide Hbo).ge k (Or.inr (Or.inl h))
            · omega
          · exact (unhide Hbo).ge k (Or.inr (Or.inr hk))
      have HD : Hid (∀ k, S1 k → ¬ S5 k ∧ ¬ R5 k ∧ ¬ Q1 k) := fun k hk => by
        have hlt := HP.old (unhide Hbo).p k (Or.inl hk)
        refine ⟨fun h => by have := hS5 k h; omega, fun h => ?_, fun h => ((unhide Hbo).sep k h).1 hk⟩
        rcases hR5 k h with h | h
        · exact HP.apart (unhide Hbo).p k hk h
        · omega
      clear hq hS5 hR5 hb5 Hc Hbo Hb
      have Hn := hide (rnew_yes w5 N hN8 (by omega))
      go_wp2_with fail
      refine (unhide Hn).mono ?_
      rintro e w6 ⟨r2, rfl, Q6, hr, hge, hb⟩
      obtain ⟨RL, A2, D2, vs2, lv2, ls2, er, _, _⟩ := id hr
      subst er
      have HBq6 := hide ((unhide HBq).below HP hb)
      have Hb6 := hide ((unhide Hb5).trans (hb.mono (unhide Hb5).size))
      have HBp6 : Hid (Both PAt w.heap.size w6 (.pointer (some pa)) (.pointer (some ⟨RL, 0, none⟩)) S1 R1 Q6 s (newS N)) := by
        have hk := (unhide HBp).below HP hb
        refine ⟨hk.p, hr, fun k hQ => ⟨fun h => ?_, fun h => ?_⟩, ?_, hk.le⟩
        · have := (unhide HBp).old HP k (Or.inl h); have := hge k hQ; omega
        · have := (unhide HBp).old HP k (Or.inr (Or.inl h)); have := hge k hQ; omega
        · have := (unhide HBp).le
          rintro k (hk | hk | hk)
          · exact (unhide HBp).ge k (Or.inl hk)
          · exact (unhide HBp).ge k (Or.inr (Or.inl hk))
          · have := hge k hk; omega
      have HD6 : Hid (∀ k, S1 k ∨ Q6 k → ¬ S5 k ∧ ¬ R5 k ∧ ¬ Q1 k) := fun k hk => by
        rcases hk with hk | hk
        · exact unhide HD k hk
        · have h1 := hge k hk
          have h2 := (unhide HBq).old HP
          exact ⟨fun h => by have := h2 k (Or.inl h); omega, fun h => by have := h2 k (Or.inr (Or.inl h)); omega, fun h => by have := h2 k (Or.inr (Or.inr h)); omega⟩
      clear hr hge hb Hn HBq HBp HD Hb5 f1 hlt
      go_wp2
      go_loopw [76] (fun ii wr => ∃ (j : Nat) (S R Q : Set_) (s' t' : PS), j ≤ n3 ∧ ii = .int .i64 (j : Int) ∧ Hid (Both PAt w.heap.size wr (.pointer (some pa)) (.pointer (some ⟨RL, 0, none⟩)) S R Q s' t') ∧ Hid (Both PAt w.heap.size wr (.pointer (some qa)) (.pointer (some ⟨RR, 0, none⟩)) S5 R5 Q1 s s) ∧ Hid (∀ k, S k ∨ Q k → ¬ S5 k ∧ ¬ R5 k ∧ ¬ Q1 k) ∧ Hid (s'.loose.length ≤ 200 + j ∧ t'.loose.length ≤ j) ∧ Hid (Below w.heap.size w wr)) (fun ii _ => n3 - (intOf ii).toNat)
      case atStart => exact ⟨0, S1, R1, Q6, s, newS N, by omega, rfl, HBp6, HBq6, HD6, ⟨by omega, by rw [loose_new]; omega⟩, Hb6⟩
      case round =>
        clear HBp6 HBq6 HD6 Hb6
        rename World => wq
        obtain ⟨j, S2, R2, Q2, s2, t2, hj, rfl, Hbo, HBq, HDd, Hlo, Hb⟩ := hrel
        by_cases hlt : j < n3
        · obtain ⟨op, b, o, sk, nk, ck, hop, rfl, c0, c1, c2, c3, c4, hkv, hkB, hat0, hat1⟩ := ((unhide HX3).low (unhide Hb)).at (i := j) (by have := unhide HN3; omega)
          have f1 : decide ((j : Int) < (n3 : Int)) = true := by simp; omega
          have f1n : decide (j < n3) = true := by simp; omega
          have j0 : (0 : Int) ≤ (j : Int) := by omega
          have j1 : (j : Int) < (n3 : Int) := by omega
          have hok := small_ok (unhide HSM3) hop hat0 hat1
          obtain ⟨F, hF⟩ : ∃ y, op.fill.toNat = y := ⟨_, rfl⟩
          obtain ⟨Z, hZ⟩ : ∃ y, op.size = y := ⟨_, rfl⟩
          obtain ⟨KD, hKD⟩ : ∃ y, op.kind = y := ⟨_, rfl⟩
          obtain ⟨AT, hAT⟩ : ∃ y, op.at_ = y := ⟨_, rfl⟩
          rw [hF] at c3
          rw [hZ] at c2
          rw [hKD] at c0
          rw [hAT] at c1
          have hr3 := heap_alloc_new wq (.cells [.int .i64 KD, .int .i64 AT, .int .i64 Z, .int .u8 (F : Int), .slice sk nk ck].toArray 32)
          have hb3 : Below wq.heap.size wq (wq.alloc (.cells [.int .i64 KD, .int .i64 AT, .int .i64 Z, .int .u8 (F : Int), .slice sk nk ck].toArray 32)) := (Below.refl _ _).alloc (Nat.le_refl _) _
          obtain ⟨w3, hw3⟩ : ∃ y, wq.alloc (.cells #[.int .i64 KD, .int .i64 AT, .int .i64 Z, .int .u8 (F : Int), .slice sk nk ck] 32) = y := ⟨_, rfl⟩
          obtain ⟨A, hA⟩ : ∃ y, wq.heap.size = y := ⟨_, rfl⟩
          rw [show wq.alloc (.cells [.int .i64 KD, .int .i64 AT, .int .i64 Z, .int .u8 (F : Int), .slice sk nk ck].toArray 32) = w3 from hw3] at hr3 hb3
          rw [hA] at hr3
          obtain ⟨a0, a1, a2, a3, a4⟩ := five_row hr3
          have Hb3 := hide ((unhide Hb).trans (hb3.mono (unhide Hb).size))
          have HBo3 := hide ((unhide Hbo).below HP hb3)
          have HBq3 := hide ((unhide HBq).below HP hb3)
          have hst := step_c HP (unhide HBo3) op (.slice sk nk ck) hok (hkv.below hb3) hkB (by have := (unhide Hlo).1; omega) (by have := (unhide Hlo).2; omega)
          obtain ⟨OK, hOK⟩ : ∃ y, okStep s2 t2 op = y := ⟨_, rfl⟩
          rw [hOK] at hst
          unfold ocells at hst
          rw [hF, hZ, hKD, hAT] at hst
          have Hst := hide hst
          have Hlo2 : Hid ((stepS s2 op).loose.length ≤ 200 + (j + 1) ∧ (stepS t2 op).loose.length ≤ j + 1) := by
            have h1 := step_loose s2 op
            have h2 := step_loose t2 op
            have h3 := unhide Hlo
            exact ⟨by omega, by omega⟩
          clear hr3 hb3 hst hok hF hZ hKD hAT hop hkv hkB hat0 hat1 Hbo Hb HBq Hlo hOK
          go_wp2_with fail
          refine (unhide Hst).mono ?_
          rintro e w4 ⟨rfl, hst4⟩
          obtain ⟨S4, R4, Q4, hB4, hq4, hd4, hb4⟩ := aside_two HP (unhide HBo3) (unhide HBq3) (unhide HDd) hst4
          have HB4 := hide hB4
          have HQ4 := hide hq4
          have HD4 := hide hd4
          have Hb4 := hide ((unhide Hb3).trans hb4)
          clear hst4 hB4 hq4 hd4 hb4 Hst HBo3 HBq3 HDd Hb3 hw3 hA a0 a1 a2 a3 a4
          go_wp2
          refine ⟨⟨j + 1, S4, R4, Q4, _, _, by omega, ?_, HB4, HQ4, HD4, Hlo2, Hb4⟩, ?_⟩
          · simp
          · simp [intOf]; omega
        · obtain rfl : j = n3 := by omega
          have f1 : decide ((j : Int) < (j : Int)) = false := by simp
          clear Hbo HDd Hlo hlt
          go_wp2
          clear f1
          go_loopw [87] (fun ii wr => ∃ (g : Nat) (S R Q : Set_), g ≤ n2 ∧ ii = .int .i64 (g : Int) ∧ Hid (Both PAt w.heap.size wr (.pointer (some qa)) (.pointer (some ⟨RR, 0, none⟩)) S R Q (playS s (l2.take g)) (playS s (l2.take g))) ∧ Hid (Below w.heap.size w wr)) (fun ii _ => n2 - (intOf ii).toNat)
          case atStart => exact ⟨0, S5, R5, Q1, by omega, rfl, by show Both _ _ _ _ _ _ _ _ _ _; rw [List.take_zero]; exact unhide HBq, Hb⟩
          case round =>
            clear HBq Hb
            rename World => wz
            obtain ⟨g, S6, R6, Q6, hg, rfl, Hbo, Hb⟩ := hrel
            by_cases hlt : g < n2
            · obtain ⟨op, b, o, sk, nk, ck, hop, rfl, c0, c1, c2, c3, c4, hkv, hkB, hat0, hat1⟩ := ((unhide HX2).low (unhide Hb)).at (i := g) (by have := unhide HN2; omega)
              have f1 : decide ((g : Int) < (n2 : Int)) = true := by simp; omega
              have f1n : decide (g < n2) = true := by simp; omega
              have j0 : (0 : Int) ≤ (g : Int) := by omega
              have j1 : (g : Int) < (n2 : Int) := by omega
              have hok := small_ok (unhide HSM2) hop hat0 hat1
              obtain ⟨F, hF⟩ : ∃ y, op.fill.toNat = y := ⟨_, rfl⟩
              obtain ⟨Z, hZ⟩ : ∃ y, op.size = y := ⟨_, rfl⟩
              obtain ⟨KD, hKD⟩ : ∃ y, op.kind = y := ⟨_, rfl⟩
              obtain ⟨AT, hAT⟩ : ∃ y, op.at_ = y := ⟨_, rfl⟩
              rw [hF] at c3
              rw [hZ] at c2
              rw [hKD] at c0
              rw [hAT] at c1
              have hr3 := heap_alloc_new wz (.cells [.int .i64 KD, .int .i64 AT, .int .i64 Z, .int .u8 (F : Int), .slice sk nk ck].toArray 32)
              have hb3 : Below wz.heap.size wz (wz.alloc (.cells [.int .i64 KD, .int .i64 AT, .int .i64 Z, .int .u8 (F : Int), .slice sk nk ck].toArray 32)) := (Below.refl _ _).alloc (Nat.le_refl _) _
              obtain ⟨w3, hw3⟩ : ∃ y, wz.alloc (.cells #[.int .i64 KD, .int .i64 AT, .int .i64 Z, .int .u8 (F : Int), .slice sk nk ck] 32) = y := ⟨_, rfl⟩
              obtain ⟨A, hA⟩ : ∃ y, wz.heap.size = y := ⟨_, rfl⟩
              rw [show wz.alloc (.cells [.int .i64 KD, .int .i64 AT, .int .i64 Z, .int .u8 (F : Int), .slice sk nk ck].toArray 32) = w3 from hw3] at hr3 hb3
              rw [hA] at hr3
              obtain ⟨a0, a1, a2, a3, a4⟩ := five_row hr3
              have Hb3 := hide ((unhide Hb).trans (hb3.mono (unhide Hb).size))
              have HBo3 := hide ((unhide Hbo).below HP hb3)
              have hnx := play_next (s := s) hop
              have hlo2 := play_take s l2 g
              have hst := step_c HP (unhide HBo3) op (.slice sk nk ck) hok (hkv.below hb3) hkB (by omega) (by omega)
              rw [ok_same, ← hnx] at hst
              unfold ocells at hst
              rw [hF, hZ, hKD, hAT] at hst
              have Hst := hide hst
              clear hr3 hb3 hst hok hnx hlo2 hF hZ hKD hAT hop hkv hkB hat0 hat1 Hbo Hb
              go_wp2_with fail
              refine (unhide Hst).mono ?_
              rintro e w4 ⟨rfl, S4, R4, Q4, hB4, _, _, ha4⟩
              have HB4 := hide hB4
              have Hb4 : Hid (Below w.heap.size w w4) := (unhide Hb3).trans (ha4.below (unhide HBo3).le fun k hk => (unhide HBo3).ge k (hk.imp id Or.inr))
              clear hB4 ha4 Hst HBo3 Hb3 hw3 hA a0 a1 a2 a3 a4
              go_wp2
              refine ⟨⟨g + 1, S4, R4, Q4, by omega, ?_, HB4, Hb4⟩, ?_⟩
              · simp
              · simp [intOf]; omega
            · obtain rfl : g = n2 := by omega
              have f1 : decide ((g : Int) < (g : Int)) = false := by simp
              obtain ⟨u, hu⟩ : ∃ y, playS s (l2.take g) = y := ⟨_, rfl⟩
              rw [hu] at Hbo
              clear hu
              obtain ⟨K2, hK2⟩ : ∃ y, u.loose.length = y := ⟨_, rfl⟩
              obtain ⟨D2, hD2⟩ : ∃ y, u.down = y := ⟨_, rfl⟩
              obtain ⟨sl, cl, q2, q4⟩ := (unhide Hbo).r.looks
              rw [hK2] at q2
              rw [hD2] at q4
              have HC : Hid (∀ w', Below wz.heap.size wz w' → w'.cell? ⟨RR, 2, none⟩ = some (.slice sl K2 cl) ∧ w'.cell? ⟨RR, 4, none⟩ = some (.bool D2)) := by
                have h2 := q2
                have h4 := q4
                exact fun w' hb => ⟨by rw [hb.cell (World.block_lt_of_cell? _ _ h2)]; exact h2, by rw [hb.cell (World.block_lt_of_cell? _ _ h4)]; exact h4⟩
              have HLo : Hid (∀ w', Below wz.heap.size wz w' → Calls Try.prog 14 #[.pointer (some qa)] w' fun e w'' => e = .returned (.int .i64 (K2 : Int)) ∧ Below w'.heap.size w' w'') := fun w' hb => by
                have := HP.loose ((unhide Hbo).below HP hb).p
                rwa [hK2] at this
              have HDo : Hid (∀ w', Below wz.heap.size wz w' → Calls Try.prog 13 #[.pointer (some qa)] w' fun e w'' => e = .returned (.bool D2) ∧ Below w'.heap.size w' w'') := fun w' hb => by
                have := HP.down ((unhide Hbo).below HP hb).p
                rwa [hD2] at this
              have x1 : ((K2 : Int) == (K2 : Int)) = true := by simp
              have x2 : (D2 == D2) = true := by simp
              clear hK2 hD2 Hbo
              go_wp2
              go_region_held3 (fun w' => w'.cell? ⟨RR, 2, none⟩ = some (.slice sl K2 cl) ∧ w'.cell? ⟨RR, 4, none⟩ = some (.bool D2)) (go_keep)
                ((first
                  | (go_at_call 14
                     refine (unhide HLo wz.drew (Below.refl _ _).drew).mono ?_
                     rintro e w5 ⟨rfl, hb5⟩
                     have Hb5 : Hid (Below wz.heap.size wz w5) := (Below.refl wz.heap.size wz).drew.trans hb5
                     obtain ⟨p2, p4⟩ := unhide HC w5 (unhide Hb5)
                     clear hb5)
                  | (go_at_call 13
                     refine (unhide HDo w5 (unhide Hb5)).mono ?_
                     rintro e w6 ⟨rfl, hb6⟩
                     have Hb6 : Hid (Below wz.heap.size wz w6) := (unhide Hb5).trans (hb6.mono (unhide Hb5).size)
                     obtain ⟨p2, p4⟩ := unhide HC w6 (unhide Hb6)
                     clear hb6)))
              have HBf := hide ((unhide Hb).trans ((unhide Hb6).mono (unhide Hb).size))
              go_wp2
              go_ret
              exact ⟨rfl, unhide HBf⟩
end
end Go.Proofs.Ytlmikagmcaicoaa
