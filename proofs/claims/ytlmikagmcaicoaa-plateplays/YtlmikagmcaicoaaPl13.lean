/-
  The statement PlatePlays, walked out of the record Plate.
-/
import Derived.Test.YtlmikagmcaicoaaPm13
namespace Go.Proofs.Ytlmikagmcaicoaa
open Go.RowKit
section
variable {PAt : Set_ → Set_ → World → Value → PS → Prop} (HP : Plate PAt)
set_option maxRecDepth 100000 in
set_option maxHeartbeats 16000000 in
include HP in
theorem plays_true (w : World) (sec : Int) (x : Value) (l : List OpP) (h : OpsAt w.heap.size w x l) (hs0 : -9223372036854775808 ≤ sec) (hs1 : sec ≤ 9223372036854775807) :
    Calls Try.prog 3 #[.int .i64 sec, x] w fun e w' => e = .returned (.bool true) ∧ Below w.heap.size w w' := by
  obtain ⟨sp, c, rfl, _⟩ := id h
  obtain ⟨n, hn⟩ : ∃ n, l.length = n := ⟨_, rfl⟩
  rw [hn] at h ⊢
  have H := hide h
  have HN := hide hn
  clear h hn
  have Ha := hide (anchor_c HP w)
  by_cases hr : sec < 8 ∨ 16384 < sec
  · go_enter Try.func3, Try.ntmps3
    go_wp2_with fail
    refine (unhide Ha).mono ?_
    rintro e w1 ⟨rfl, hb1⟩
    have H1 := hide (HP.new_no w1 sec hr)
    have HB1 := hide hb1
    clear hb1 Ha
    go_wp2_with fail
    refine (unhide H1).mono ?_
    rintro e w2 ⟨rfl, hb2⟩
    have H2 := hide (rnew_no w2 sec hr)
    have HB2 := hide ((unhide HB1).trans (hb2.mono (unhide HB1).size))
    clear hb2 H1
    go_wp2_with fail
    refine (unhide H2).mono ?_
    rintro e w3 ⟨rfl, hb3⟩
    have HB3 := hide ((unhide HB2).trans (hb3.mono (unhide HB2).size))
    clear hb3 H2 hr
    go_wp2
    go_ret
    exact ⟨rfl, unhide HB3⟩
  · obtain ⟨N, rfl⟩ : ∃ N : Nat, sec = (N : Int) := ⟨sec.toNat, by omega⟩
    have hN8 : 8 ≤ N := by omega
    have hN16 : N ≤ 16384 := by omega
    clear hr
    go_enter Try.func3, Try.ntmps3
    go_wp2_with fail
    refine (unhide Ha).mono ?_
    rintro e w1 ⟨rfl, hb1⟩
    have H1 := hide (HP.new_yes w1 N hN8 hN16)
    have HB1 := hide hb1
    clear hb1 Ha
    go_wp2_with fail
    refine (unhide H1).mono ?_
    rintro e w2 ⟨p, rfl, S, R, hp, hge, hb2⟩
    obtain ⟨pa, rfl⟩ := HP.ptr hp
    have H2 := hide (rnew_yes w2 N hN8 hN16)
    have HO2 : Hid (One PAt w1 w2 (.pointer (some pa)) S R (newS N)) := ⟨hp, hge, hb2⟩
    clear hp hge hb2 H1
    go_wp2_with fail
    refine (unhide H2).mono ?_
    rintro e w3 ⟨r, rfl, Q, hr, hge, hb3⟩
    obtain ⟨RR, A0, D0, vs0, lv0, ls0, er, _, _⟩ := id hr
    subst er
    have HB3 : Hid (Below w.heap.size w w3) := by
      have h1 := (unhide HO2).b
      exact ((unhide HB1).trans (h1.mono (unhide HB1).size)).trans (hb3.mono (Nat.le_trans (unhide HB1).size h1.size))
    have HBo : Hid (Both PAt w.heap.size w3 (.pointer (some pa)) (.pointer (some ⟨RR, 0, none⟩)) S R Q (newS N) (newS N)) := by
      have h0 := (unhide HB1).size
      have h1 := (unhide HO2).b.size
      have hk := (unhide HO2).below HP hb3
      refine ⟨hk.p, hr, fun k hQ => ⟨fun h => ?_, fun h => ?_⟩, ?_, Nat.le_trans (Nat.le_trans h0 h1) hb3.size⟩
      · have := HP.old (unhide HO2).p k (Or.inl h); have := hge k hQ; omega
      · have := HP.old (unhide HO2).p k (Or.inr h); have := hge k hQ; omega
      · rintro k (hk | hk | hk)
        · have := (unhide HO2).ge k (Or.inl hk); omega
        · have := (unhide HO2).ge k (Or.inr hk); omega
        · have := hge k hk; omega
    clear hr hge hb3 H2 HO2 HB1
    by_cases h200 : 200 < N
    · have d1 : decide ((200 : Int) < (N : Int)) = true := by simp; omega
      have d1n : decide (200 < N) = true := by simp; omega
      have d2 : (200 : Int) < (N : Int) := by omega
      go_wp2
      go_ret
      exact ⟨rfl, unhide HB3⟩
    have d1 : decide ((200 : Int) < (N : Int)) = false := by simp; omega
    have d1n : decide (200 < N) = false := by simp; omega
    have d2 : ¬ (200 : Int) < (N : Int) := by omega
    have Hsm := hide (small_c w.heap.size w3 _ l ((unhide H).low (unhide HB3)) (unhide HB3).size)
    obtain ⟨SM, hSM⟩ : ∃ y, smallP l = y := ⟨_, rfl⟩
    rw [hSM] at Hsm
    go_wp2_with fail
    refine (unhide Hsm).mono ?_
    rintro e w4 ⟨rfl, hb4⟩
    have HB4 := hide ((unhide HB3).trans (hb4.mono (unhide HB3).size))
    have HBo4 := hide ((unhide HBo).below HP hb4)
    clear hb4 Hsm HBo HB3 d1 d1n d2
    cases SM with
    | false =>
      clear hSM
      go_wp2
      go_ret
      exact ⟨rfl, unhide HB4⟩
    | true =>
    have HSM := hide hSM
    have hn200 : n ≤ 200 := by have := small_len hSM; have := unhide HN; omega
    clear hSM
    go_wp2
    go_loopw [41] (fun ii wr => ∃ (i : Nat) (S R Q : Set_), i ≤ n ∧ ii = .int .i64 (i : Int) ∧ Hid (Both PAt w.heap.size wr (.pointer (some pa)) (.pointer (some ⟨RR, 0, none⟩)) S R Q (playS (newS N) (l.take i)) (playS (newS N) (l.take i))) ∧ Hid (Below w.heap.size w wr)) (fun ii _ => n - (intOf ii).toNat)
    case atStart => exact ⟨0, S, R, Q, by omega, rfl, by show Both _ _ _ _ _ _ _ _ _ _; rw [List.take_zero]; exact unhide HBo4, unhide HB4⟩
    case round =>
      clear HBo4 HB4
      obtain ⟨i, S1, R1, Q1, hi, rfl, Hbo, Hb⟩ := hrel
      by_cases hlt : i < n
      · obtain ⟨op, b, o, sk, nk, ck, hop, rfl, c0, c1, c2, c3, c4, hkv, hkB, hat0, hat1⟩ := ((unhide H).low (unhide Hb)).at (i := i) (by have := unhide HN; omega)
        have f1 : decide ((i : Int) < (n : Int)) = true := by simp; omega
        have f1n : decide (i < n) = true := by simp; omega
        have j0 : (0 : Int) ≤ (i : Int) := by omega
        have j1 : (i : Int) < (n : Int) := by omega
        have hok := small_ok (unhide HSM) hop hat0 hat1
        have hnx := play_next (s := newS N) hop
        have hlo := play_take (newS N) l i
        have hle2 := play_len (newS N) (l.take (i + 1))
        obtain ⟨s, hs⟩ : ∃ y, playS (newS N) (l.take i) = y := ⟨_, rfl⟩
        rw [hs] at hnx hlo Hbo
        rw [anc_len, hnx] at hle2
        rw [loose_new, Nat.zero_add] at hlo
        obtain ⟨F, hF⟩ : ∃ y, op.fill.toNat = y := ⟨_, rfl⟩
        obtain ⟨Z, hZ⟩ : ∃ y, op.size = y := ⟨_, rfl⟩
        obtain ⟨KD, hKD⟩ : ∃ y, op.kind = y := ⟨_, rfl⟩
        obtain ⟨AT, hAT⟩ : ∃ y, op.at_ = y := ⟨_, rfl⟩
        rw [hF] at c3
        rw [hZ] at c2
        rw [hKD] at c0
        rw [hAT] at c1
        have hr3 := heap_alloc_new wr (.cells [.int .i64 KD, .int .i64 AT, .int .i64 Z, .int .u8 (F : Int), .slice sk nk ck].toArray 32)
        have hb3 : Below wr.heap.size wr (wr.alloc (.cells [.int .i64 KD, .int .i64 AT, .int .i64 Z, .int .u8 (F : Int), .slice sk nk ck].toArray 32)) := (Below.refl _ _).alloc (Nat.le_refl _) _
        obtain ⟨w3, hw3⟩ : ∃ y, wr.alloc (.cells #[.int .i64 KD, .int .i64 AT, .int .i64 Z, .int .u8 (F : Int), .slice sk nk ck] 32) = y := ⟨_, rfl⟩
        obtain ⟨A, hA⟩ : ∃ y, wr.heap.size = y := ⟨_, rfl⟩
        rw [show wr.alloc (.cells [.int .i64 KD, .int .i64 AT, .int .i64 Z, .int .u8 (F : Int), .slice sk nk ck].toArray 32) = w3 from hw3] at hr3 hb3
        rw [hA] at hr3
        obtain ⟨a0, a1, a2, a3, a4⟩ := five_row hr3
        have HBo3 := hide ((unhide Hbo).below HP hb3)
        have Hb3 := hide ((unhide Hb).trans (hb3.mono (unhide Hb).size))
        have hst := step_c HP ((unhide HBo3).below HP (Below.refl _ _).drew) op (.slice sk nk ck) hok ((hkv.below hb3).below (Below.refl _ _).drew) hkB (by omega) (by omega)
        rw [ok_same] at hst
        unfold ocells at hst
        rw [hF, hZ, hKD, hAT] at hst
        have Hst := hide hst
        have Hle2 := hide hle2
        have Hnx := hide hnx
        obtain ⟨s2, hs2⟩ : ∃ y, stepS s op = y := ⟨_, rfl⟩
        rw [hs2] at Hst Hle2 Hnx
        clear hr3 hb3 hst hok hnx hle2 hlo hF hZ hKD hAT hop hkv hkB hat0 hat1 Hbo Hb hs2
        obtain ⟨N2, hN2⟩ : ∃ y, s2.safe.length = y := ⟨_, rfl⟩
        obtain ⟨K2, hK2⟩ : ∃ y, s2.loose.length = y := ⟨_, rfl⟩
        obtain ⟨D2, hD2⟩ : ∃ y, s2.down = y := ⟨_, rfl⟩
        obtain rfl : N = N2 := by rw [← hN2]; exact (unhide Hle2).symm
        have HN2 := hide hN2
        have HK2 := hide hK2
        have HD2 := hide hD2
        clear hN2 hK2 hD2 Hle2
        have x1 : (D2 != D2) = false := by simp
        have x2 : ((K2 : Int) != (K2 : Int)) = false := by simp
        have x3 : ((N : Int) != (N : Int)) = false := by simp
        go_wp2
        clear hw3 hA
        go_region_law (first
          | (go_simp; go_at_call 12; refine (unhide Hst).mono ?_
             rintro e w4 ⟨rfl, S4, R4, Q4, hB4, _, _, ha4⟩
             obtain ⟨sp4, c4', q2, q4⟩ := hB4.r.looks
             rw [unhide HK2] at q2
             rw [unhide HD2] at q4
             have HB4 := hide hB4
             have Hb4 : Hid (Below w.heap.size w w4) := (unhide Hb3).drew.trans (ha4.below (unhide HBo3).le fun k hk => (unhide HBo3).ge k (hk.imp id Or.inr))
             clear hB4 ha4
             go_simp)
          | (go_simp; go_at_call 13; refine (HP.down (unhide HB4).p).mono ?_
             rintro e w5 ⟨rfl, hb5⟩
             rw [unhide HD2]
             have HB5 := hide ((unhide HB4).below HP hb5)
             have Hb5 := hide ((unhide Hb4).trans (hb5.mono (unhide Hb4).size))
             obtain ⟨sp5, c5, q2, q4⟩ := (unhide HB5).r.looks
             rw [unhide HK2] at q2
             rw [unhide HD2] at q4
             clear hb5
             go_simp)
          | (go_simp; go_at_call 14; refine (HP.loose (unhide HB5).p).mono ?_
             rintro e w6 ⟨rfl, hb6⟩
             rw [unhide HK2]
             have HB6 := hide ((unhide HB5).below HP hb6)
             have Hb6 := hide ((unhide Hb5).trans (hb6.mono (unhide Hb5).size))
             obtain ⟨sp6, c6, q2, q4⟩ := (unhide HB6).r.looks
             rw [unhide HK2] at q2
             rw [unhide HD2] at q4
             clear hb6
             go_simp)
          | (go_simp; go_at_call 15; refine (HP.sectors (unhide HB6).p).mono ?_
             rintro e w7 ⟨rfl, hb7⟩
             rw [unhide HN2]
             have HB7 := hide ((unhide HB6).below HP hb7)
             have Hb7 := hide ((unhide Hb6).trans (hb7.mono (unhide Hb6).size))
             clear hb7
             go_simp))
        all_goals
          have Hn7 : Hid (Both PAt w.heap.size w7 (.pointer (some pa)) (.pointer (some ⟨RR, 0, none⟩)) S4 R4 Q4 (playS (newS N) (l.take (i + 1))) (playS (newS N) (l.take (i + 1)))) := by show Both _ _ _ _ _ _ _ _ _ _; rw [unhide Hnx]; exact unhide HB7
          have Hn8 := hide ((unhide Hn7).below HP (Below.refl _ _).drew)
          have Hb8 := hide (unhide Hb7).drew
          clear q2 q4 a0 a1 a2 a3 a4 x1 x2 x3 HB4 HB5 HB6 HB7 Hb4 Hb5 Hb6 HN2 HK2 HD2 Hst
          go_wp2
          first
            | exact ⟨⟨i + 1, S4, R4, Q4, by omega, by simp, Hn7, Hb7⟩, by simp [intOf]; omega⟩
            | exact ⟨⟨i + 1, S4, R4, Q4, by omega, by simp, Hn8, Hb8⟩, by simp [intOf]; omega⟩
      · obtain rfl : i = n := by omega
        have f1 : decide ((i : Int) < (i : Int)) = false := by simp
        obtain ⟨s, hs⟩ : ∃ y, playS (newS N) (l.take i) = y := ⟨_, rfl⟩
        have hlo := play_take (newS N) l i
        have hle := play_len (newS N) (l.take i)
        rw [hs] at Hbo hlo hle
        rw [loose_new] at hlo
        rw [anc_len] at hle
        have HLE := hide hle
        clear hs hle
        have Hp := hide (HP.revive (.slice none 0 0) [] (unhide Hbo).p (vals_nil _) (fun h => absurd rfl h) (by omega))
        go_wp2_with fail
        refine (unhide Hp).mono ?_
        rintro e w5 ⟨rfl, S5, R5, hp5, hS5, hR5, ha5⟩
        have HB5 := hide ((unhide Hbo).setP hp5 hS5 hR5 ha5)
        have Hb5 := hide ((unhide Hb).trans (ha5.below (unhide Hbo).le fun k hk => (unhide Hbo).ge k (Or.inl hk)))
        clear hp5 hS5 hR5 ha5 Hp Hbo Hb
        have Hq := hide (rrevive_c Q1 w5 _ s (.slice none 0 0) [] (unhide HB5).r (vals_nil _) (fun h => absurd rfl h) (by omega))
        go_wp2_with fail
        refine (unhide Hq).mono ?_
        rintro e w6 ⟨rfl, Q6, hp6, hQ6, ha6⟩
        have HB6 := hide ((unhide HB5).setR HP hp6 (fun k hk => Or.inl (hQ6 k hk)) ha6)
        have Hb6 := hide ((unhide Hb5).trans (ha6.below (unhide HB5).le fun k hk => (unhide HB5).ge k (Or.inr (Or.inr hk))))
        obtain ⟨t, ht⟩ : ∃ y, reviveS s [] = y := ⟨_, rfl⟩
        have hl0 : t.loose.length ≤ 100000 := by rw [← ht]; show ([] : List (Nat × Bs)).length ≤ _; simp
        have hd0 : t.down = false := by rw [← ht]; rfl
        have hsl : t.safe.length = N := by rw [← ht]; show (applyL _ _).length = _; rw [apply_len]; exact unhide HLE
        rw [ht] at HB6
        have HL0 := hide hl0
        have Hread : Hid (∀ a, a < N → readE t (a : Int) = 0 ∧ (readB t (a : Int)).length = 64) := fun a ha => by
          have h1 : readE t (a : Int) = 0 := by
            unfold readE
            rw [hd0]
            have : rightAt t (a : Int) = true := by unfold rightAt; simp; omega
            rw [this]; rfl
          exact ⟨h1, (HP.ok (unhide HB6).p).readLen h1⟩
        clear hp6 hQ6 ha6 Hq HB5 Hb5 hlo ht hl0 hd0 hsl f1 hlt
        go_wp2
        go_loopw [81] (fun ii wr => ∃ (a : Nat), a ≤ N ∧ ii = .int .i64 (a : Int) ∧ Hid (Both PAt w.heap.size wr (.pointer (some pa)) (.pointer (some ⟨RR, 0, none⟩)) S5 R5 Q6 t t) ∧ Hid (Below w.heap.size w wr)) (fun ii _ => N - (intOf ii).toNat)
        case atStart => exact ⟨0, by omega, rfl, HB6, Hb6⟩
        case round =>
          clear HB6 Hb6
          rename World => wz
          obtain ⟨a, ha, rfl, Hbo, Hb⟩ := hrel
          by_cases hlt2 : a < N
          · have f1 : decide ((a : Int) < (N : Int)) = true := by simp; omega
            have f1n : decide (a < N) = true := by simp; omega
            have j1 : (a : Int) < (N : Int) := by omega
            obtain ⟨hre, hrl⟩ := unhide Hread a hlt2
            have Hp := hide (HP.read (a : Int) (unhide Hbo).p (unhide HL0) (by omega) (by omega))
            obtain ⟨RB, hRB⟩ : ∃ y, readB t (a : Int) = y := ⟨_, rfl⟩
            rw [hre, hRB] at Hp
            rw [hRB] at hrl
            go_wp2_with fail
            refine (unhide Hp).mono ?_
            rintro e w7 ⟨v, rfl, hO7, hb7⟩
            obtain ⟨sv, cv, rfl⟩ := hO7.form
            rw [hrl] at hO7 ⊢
            have HB7 := hide ((unhide Hbo).below HP hb7)
            have Hb7 := hide ((unhide Hb).trans (hb7.mono (unhide Hb).size))
            have HO7 := hide hO7
            have Hq := hide (rread_c Q6 w7 _ t (a : Int) (unhide HB7).r (unhide HL0))
            rw [hre, hRB] at Hq
            have HRL := hide hrl
            clear hO7 hb7 Hp Hbo Hb hre hRB hrl
            go_wp2_with fail
            refine (unhide Hq).mono ?_
            rintro e w8 ⟨v2, rfl, hO8, hb8⟩
            obtain ⟨sv2, cv2, rfl⟩ := hO8.form
            rw [unhide HRL] at hO8 ⊢
            have HB8 := hide ((unhide HB7).below HP hb8)
            have Hb8 := hide ((unhide Hb7).trans (hb8.mono (unhide Hb7).size))
            have Hsame := hide (same_any w8 _ _ RB RB ((unhide HO7).below hb8).bytes hO8.bytes (by have := unhide HRL; omega))
            rw [decide_eq_true (rfl : RB = RB)] at Hsame
            clear hO8 hb8 Hq HB7 Hb7 HO7
            go_wp2_with fail
            refine (unhide Hsame).mono ?_
            rintro e w9 ⟨rfl, hb9⟩
            have HB9 := hide ((unhide HB8).below HP hb9)
            have Hb9 := hide ((unhide Hb8).trans (hb9.mono (unhide Hb8).size))
            clear hb9 HB8 Hb8 Hsame
            go_wp2
            refine ⟨⟨a + 1, by omega, ?_, HB9, Hb9⟩, ?_⟩
            · simp
            · simp [intOf]; omega
          · obtain rfl : a = N := by omega
            have f1 : decide ((a : Int) < (a : Int)) = false := by simp
            go_wp2
            go_ret
            exact ⟨rfl, unhide Hb⟩
end
end Go.Proofs.Ytlmikagmcaicoaa
