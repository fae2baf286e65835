/-
  StoreAsOne out of the records.
-/
import Derived.Test.YtbjgknoipbekoabQ24
namespace Go.Proofs.Ytbjgknoipbekoab
open Go.RowKit
section
variable {PAt : Set_ → Set_ → World → Value → PS → Prop} {SAt : Set_ → Set_ → World → Value → Value → SS → Prop} (HP : Plate PAt) (HS : Store PAt SAt)
include HP HS in
set_option maxRecDepth 100000 in
set_option maxHeartbeats 8000000 in
theorem asone_true (w : World) (x : Value) (l : List Ch) (hx : ChsAt (fun j => j < w.heap.size) w x l) : Calls Try.prog 3 #[x] w fun e w' => e = .returned (.bool true) ∧ Below w.heap.size w w' := by
  have Han := hide (sanchor_c HP HS w)
  obtain ⟨sp, c, rfl, _⟩ := hx.form
  obtain ⟨n, hn⟩ : ∃ n, l.length = n := ⟨_, rfl⟩
  rw [hn] at hx ⊢
  have HX := hide hx
  have HN := hide hn
  clear hx hn
  by_cases hbig : 30 < n
  · have d1 : decide ((30 : Int) < (n : Int)) = true := by simp; omega
    have d1n : decide (30 < n) = true := by simp; omega
    go_enter Try.func3, Try.ntmps3
    go_wp2_with (go_at_call 4; refine (unhide Han).mono ?_; rintro e w1 ⟨rfl, hb1⟩; have HB1 := hide hb1; clear hb1)
    go_ret
    exact ⟨rfl, unhide HB1⟩
  have d1 : decide ((30 : Int) < (n : Int)) = false := by simp; omega
  have d1n : decide (30 < n) = false := by simp; omega
  have hn30 : n ≤ 30 := by omega
  clear hbig
  have Hnew : Hid (∀ w1, Below w.heap.size w w1 → Calls Try.prog 5 #[.int .i64 4000] w1 fun e w' => ∃ pa, e = .returned (.pointer (some pa)) ∧ ∃ S R, On PAt w w' (.pointer (some pa)) S R (newS 4000)) := fun w1 hb => by
    refine (HP.new_yes w1 4000 (by omega) (by omega)).mono ?_
    rintro e w' ⟨p1, rfl, S1, R1, q1, q2, q3⟩
    obtain ⟨pa, rfl⟩ := HP.ptr q1
    exact ⟨pa, rfl, S1, R1, q1, fun j hj => Nat.le_trans hb.size (q2 j hj), hb.trans (q3.mono hb.size)⟩
  have Hnew2 : Hid (∀ w1 p S R, On PAt w w1 p S R (newS 4000) → Calls Try.prog 5 #[.int .i64 4000] w1 fun e w' => ∃ a, e = .returned (.pointer (some a)) ∧ OnTwo PAt 4000 w w' p (.pointer (some a))) := fun w1 p S R h => OnTwo.second HP (n := 4000) h (by decide) (by decide)
  go_enter Try.func3, Try.ntmps3
  go_upto_region 6 with (first
    | (go_at_call 4; refine (unhide Han).mono ?_; rintro e w1 ⟨rfl, hb1⟩; have HB1 := hide hb1; clear hb1)
    | (go_at_call 5; refine (unhide Hnew _ (unhide HB1)).mono ?_; rintro e w2 ⟨pa, rfl, S1, R1, h2⟩; have HO2 := hide h2; clear h2))
  go_upto_region 10 with (first
    | (go_at_call 5; refine (unhide Hnew2 _ _ _ _ (unhide HO2)).mono ?_; rintro e w3 ⟨qa, rfl, h3⟩; have H3 := hide h3; clear h3)
    | (go_at_call 6; refine (OnTwo.open_ HP HS (unhide H3) (by decide) (by decide)).mono ?_; rintro e w4 ⟨ta, rfl, h4⟩; have H4 := hide h4; clear h4))
  go_upto_region 13 with (first
    | (go_at_call 6; refine (OneTwo.open_ HP HS (unhide H4) (by decide) (by decide)).mono ?_; rintro e w5 ⟨ua, rfl, h5⟩; have H5 := hide h5; clear h5))
  clear Han HB1 Hnew Hnew2 HO2 H3 H4
  go_wp2
  go_loopw [9, 62] (fun rv ii wr => ∃ (i : Nat) (rt : Bool), i ≤ n ∧ ii = .int .i64 (i : Int) ∧ rv = .bool rt ∧ Hid (rt = true ↔ ∀ (j : Nat) (c : Ch), j < i → l[j]? = some c → 1 ≤ c.key.length ∧ c.key.length ≤ 32) ∧ Hid (∀ (j : Nat) (c : Ch), j < i → l[j]? = some c → c.val.length ≤ 1000) ∧ Hid (TwoAt PAt SAt 4000 w wr (.pointer (some pa)) (.pointer (some ta)) (.pointer (some qa)) (.pointer (some ua)) ⟨1999, 1, 1, []⟩ ⟨1999, 1, 1, []⟩ 1 1)) (fun _ ii _ => n - (intOf ii).toNat)
  case atStart => exact ⟨0, true, by omega, rfl, rfl, ⟨fun _ j c hj => absurd hj (by omega), fun _ => rfl⟩, fun j c hj => absurd hj (by omega), unhide H5⟩
  case round =>
    obtain ⟨i, rt, hi, rfl, rfl, HR, HV, HT⟩ := hrel
    clear H5
    by_cases hlt : i < n
    · obtain ⟨ch, g, o, s1, c1, s2, c2, hop, rfl, _, hgl, h3⟩ := ((unhide HX).below (unhide HT).b).one (i := i) (by have := unhide HN; omega)
      have f1 : decide ((i : Int) < (n : Int)) = true := by simp; omega
      have f1n : decide (i < n) = true := by simp; omega
      have j0 : (0 : Int) ≤ (i : Int) := by omega
      have j1 : (i : Int) < (n : Int) := by omega
      have k0 := h3.c0
      have k1 := h3.c1
      have k2 := h3.c2
      obtain ⟨KN, hKN⟩ : ∃ y, ch.key.length = y := ⟨_, rfl⟩
      obtain ⟨VN, hVN⟩ : ∃ y, ch.val.length = y := ⟨_, rfl⟩
      obtain ⟨gb, hgb⟩ : ∃ y, ch.gone = y := ⟨_, rfl⟩
      rw [hKN] at k0
      rw [hVN] at k1
      rw [hgb] at k2
      have HOP := hide hop
      have HKN := hide hKN
      have HVN := hide hVN
      obtain ⟨w1, hw1⟩ : ∃ y, wr.alloc (.cells #[.slice s1 KN c1, .slice s2 VN c2, .bool gb] 32) = y := ⟨_, rfl⟩
      obtain ⟨m0, m1, m2⟩ := cells_new3 wr (.slice s1 KN c1) (.slice s2 VN c2) (.bool gb) 32
      have HT1 : Hid (TwoAt PAt SAt 4000 w w1 (.pointer (some pa)) (.pointer (some ta)) (.pointer (some qa)) (.pointer (some ua)) ⟨1999, 1, 1, []⟩ ⟨1999, 1, 1, []⟩ 1 1) := (unhide HT).below HP HS (by rw [← hw1]; exact (Below.refl _ _).alloc (Nat.le_refl _) _)
      rw [hw1] at m0 m1 m2
      clear h3 hop hKN hVN hgb HT
      by_cases hv : 1000 < VN
      · have e1 : decide ((1000 : Int) < (VN : Int)) = true := by simp; omega
        have e1n : decide (1000 < VN) = true := by simp; omega
        go_wp2
        go_ret
        exact ⟨rfl, (unhide HT1).b⟩
      have e1 : decide ((1000 : Int) < (VN : Int)) = false := by simp; omega
      have e1n : decide (1000 < VN) = false := by simp; omega
      by_cases hk : 100 < KN
      · have e2 : decide ((100 : Int) < (KN : Int)) = true := by simp; omega
        have e2n : decide (100 < KN) = true := by simp; omega
        go_wp2
        go_ret
        exact ⟨rfl, (unhide HT1).b⟩
      have e2 : decide ((100 : Int) < (KN : Int)) = false := by simp; omega
      have e2n : decide (100 < KN) = false := by simp; omega
      have HV2 : Hid (∀ (j : Nat) (c : Ch), j < i + 1 → l[j]? = some c → c.val.length ≤ 1000) := fun j c hj hc => by
        by_cases hji : j < i
        · exact unhide HV j c hji hc
        · have hij : i = j := by omega
          subst hij
          have hc' := unhide HOP
          rw [hc] at hc'
          cases hc'
          have := unhide HVN
          omega
      have HRa : Hid ((rt && (decide (1 ≤ KN) && decide (KN ≤ 32))) = true ↔ ∀ (j : Nat) (c : Ch), j < i + 1 → l[j]? = some c → 1 ≤ c.key.length ∧ c.key.length ≤ 32) := by
        show _ ↔ _
        rw [Bool.and_eq_true, Bool.and_eq_true, decide_eq_true_iff, decide_eq_true_iff, unhide HR]
        constructor
        · rintro ⟨h1, h2⟩ j c hj hc
          by_cases hji : j < i
          · exact h1 j c hji hc
          · have hij : i = j := by omega
            subst hij
            have hc' := unhide HOP
            rw [hc] at hc'
            cases hc'
            rw [unhide HKN]
            exact h2
        · intro h
          refine ⟨fun j c hj hc => h j c (by omega) hc, ?_⟩
          have := h i ch (by omega) (unhide HOP)
          rw [unhide HKN] at this
          exact this
      clear HR HV HOP HKN HVN
      cases rt
      · go_wp2
        exact ⟨⟨i + 1, false, by omega, by simp, rfl, HRa, HV2, HT1⟩, by simp [intOf]; omega⟩
      · by_cases q1 : 1 ≤ KN
        · have g1 : decide ((1 : Int) ≤ (KN : Int)) = true := by simp; omega
          have g1n : decide (1 ≤ KN) = true := by simp; omega
          by_cases q2 : KN ≤ 32
          · have g2 : decide ((KN : Int) ≤ 32) = true := by simp; omega
            have g2n : decide (KN ≤ 32) = true := by simp; omega
            rw [g1n, g2n] at HRa
            go_wp2
            exact ⟨⟨i + 1, true, by omega, by simp, rfl, HRa, HV2, HT1⟩, by simp [intOf]; omega⟩
          · have g2 : decide ((KN : Int) ≤ 32) = false := by simp; omega
            have g2n : decide (KN ≤ 32) = false := by simp; omega
            rw [g1n, g2n] at HRa
            go_wp2
            exact ⟨⟨i + 1, false, by omega, by simp, rfl, HRa, HV2, HT1⟩, by simp [intOf]; omega⟩
        · have g1 : decide ((1 : Int) ≤ (KN : Int)) = false := by simp; omega
          have g1n : decide (1 ≤ KN) = false := by simp; omega
          rw [g1n] at HRa
          go_wp2
          exact ⟨⟨i + 1, false, by omega, by simp, rfl, HRa, HV2, HT1⟩, by simp [intOf]; omega⟩
    · have hin : n = i := by omega
      subst hin
      have f1 : decide ((n : Int) < (n : Int)) = false := by simp
      have HVa : Hid (∀ c ∈ l, c.val.length ≤ 1000) := fun c hc => by
        obtain ⟨j, hj⟩ := List.getElem?_of_mem hc
        exact unhide HV j c (by have := (List.getElem?_eq_some_iff.1 hj).1; have := unhide HN; omega) hj
      have HRa : Hid (rt = true ↔ RightL l) := by
        show _ ↔ _
        rw [unhide HR]
        constructor
        · intro h c hc
          obtain ⟨j, hj⟩ := List.getElem?_of_mem hc
          have h1 := h j c (by have := (List.getElem?_eq_some_iff.1 hj).1; have := unhide HN; omega) hj
          exact ⟨h1.1, h1.2, fun _ => Nat.le_trans (unhide HVa c hc) (by omega)⟩
        · intro h j c _ hj
          have h1 := h c (List.mem_of_getElem? hj)
          exact ⟨h1.1, h1.2.1⟩
      have HXr := hide ((unhide HX).below (unhide HT).b)
      have Hco : Hid (Calls Try.prog 7 #[.pointer (some ta), .slice sp n c] wr fun e w2 => e = .returned (.int .i64 (refC ⟨1999, 1, 1, []⟩ l).2) ∧ TwoAt PAt SAt 4000 w w2 (.pointer (some pa)) (.pointer (some ta)) (.pointer (some qa)) (.pointer (some ua)) (refC ⟨1999, 1, 1, []⟩ l).1 ⟨1999, 1, 1, []⟩ 2 1 ∧ Aside (fun j => w.heap.size ≤ j ∧ j < wr.heap.size) wr w2) :=
        (unhide HT).commit HP HS (unhide HXr) (Below.refl _ _) (fun j hj => Or.inl hj) (by have := unhide HN; omega) (by decide) (by decide)
      clear HR HV
      cases rt
      · have hnr : ¬ RightL l := fun h => by have := (unhide HRa).2 h; cases this
        have Hc2 := hide (unhide Hco)
        rw [ref_not hnr] at Hc2
        clear Hco hnr
        go_wp2_with (first
          | (go_at_call 7; refine (unhide Hc2).mono ?_; rintro e w6 ⟨rfl, h6, _⟩; have H6 := hide h6; clear h6)
          | (go_at_call 8; refine (TwoAt.keys HS (unhide H6)).mono ?_; rintro e w7 ⟨v7, vs7, rfl, hl7, hb7⟩
             have hvs : vs7.length = 0 := hl7.len
             obtain ⟨s7, c7, e7⟩ := hl7.row.form
             rw [hvs] at e7
             subst e7
             have HB7 := hide (TwoAt.below HP HS (unhide H6) hb7).b
             clear hl7 hb7 hvs))
        go_ret
        exact ⟨rfl, unhide HB7⟩
      · have hr := (unhide HRa).1 rfl
        obtain ⟨a1, a2⟩ := ref_all hr (unhide HVa) (by have := unhide HN; omega)
        obtain ⟨ra, hra⟩ : ∃ y, (refC ⟨1999, 1, 1, []⟩ l).1 = y := ⟨_, rfl⟩
        have Hc2 := hide (unhide Hco)
        rw [a1, hra] at Hc2
        rw [hra] at a2
        have HA2 := hide a2
        have HRR := hide hr
        clear Hco a1 a2 hra hr HRa
        go_upto_region 24 with (first
          | (go_at_call 7; refine (unhide Hc2).mono ?_; rintro e w6 ⟨rfl, h6, _⟩; have H6 := hide h6; clear h6))
        go_wp2
        clear HT Hc2
        rename World => wk
        go_loopw [105] (fun ii wr => ∃ i : Nat, i ≤ n ∧ ii = .int .i64 (i : Int) ∧ Hid (∃ r2 : RS, TwoAt PAt SAt 4000 w wr (.pointer (some pa)) (.pointer (some ta)) (.pointer (some qa)) (.pointer (some ua)) ra r2 2 (1 + i) ∧ r2.half = 1999 ∧ r2.gen = 1 ∧ r2.used ≤ 1 + 23 * i ∧ r2.pairs = withP [] (l.take i))) (fun ii _ => n - (intOf ii).toNat)
        case atStart => exact ⟨0, by omega, rfl, _, unhide H6, rfl, rfl, Nat.le_refl _, rfl⟩
        case round =>
          obtain ⟨i, hi, rfl, HT⟩ := hrel
          clear H6
          obtain ⟨r2, hT, hr2, hr3, hr4, hr5⟩ := unhide HT
          by_cases hlt : i < n
          · obtain ⟨ch, g, o, s1, c1, s2, c2, hop, rfl, _, hgl, h3⟩ := ((unhide HX).below hT.b).one (i := i) (by have := unhide HN; omega)
            have f1 : decide ((i : Int) < (n : Int)) = true := by simp; omega
            have f1n : decide (i < n) = true := by simp; omega
            have j0 : (0 : Int) ≤ (i : Int) := by omega
            have j1 : (i : Int) < (n : Int) := by omega
            have k0 := h3.c0
            have k1 := h3.c1
            have k2 := h3.c2
            obtain ⟨w1, hw1⟩ : ∃ y, wr.alloc (.cells #[.slice s1 ch.key.length c1, .slice s2 ch.val.length c2, .bool ch.gone] 32) = y := ⟨_, rfl⟩
            obtain ⟨m0, m1, m2⟩ := cells_new3 wr (.slice s1 ch.key.length c1) (.slice s2 ch.val.length c2) (.bool ch.gone) 32
            have hb1 : Below wr.heap.size wr w1 := by rw [← hw1]; exact (Below.refl _ _).alloc (Nat.le_refl _) _
            rw [hw1] at m0 m1 m2
            obtain ⟨W2, hW2⟩ : ∃ y, w1.alloc (.cells #[.slice s1 ch.key.length c1, .slice s2 ch.val.length c2, .bool ch.gone] 32) = y := ⟨_, rfl⟩
            have hb2 : Below w1.heap.size w1 W2 := by rw [← hW2]; exact (Below.refl _ _).alloc (Nat.le_refl _) _
            have hz : ChsAt (fun j => j < w.heap.size ∨ wr.heap.size ≤ j) W2 (.slice (some ⟨w1.heap.size, 0, none⟩) 1 1) [ch] := by
              rw [← hW2]
              exact chs_any ⟨h3.key.at_.below hb1, fun hne k hk => Or.inl (h3.key.blk hne k hk)⟩ ⟨h3.val.at_.below hb1, fun hne k hk => Or.inl (h3.val.blk hne k hk)⟩ (Or.inr hb1.size)
            obtain ⟨a1, a2, a3, a4, a5⟩ := ref_one (r := r2) (c := ch) (i := i) (unhide HRR ch (List.mem_of_getElem? hop)) (unhide HVa ch (List.mem_of_getElem? hop)) (by omega) hr2 hr3 hr4
            have Hc3 := hide (hT.swap.commit HP HS hz (hb1.trans (hb2.mono hb1.size)) (fun j hj => hj) (by simp) (by omega) (by omega))
            rw [a1] at Hc3
            rw [hr5, with_take hop] at a5
            have HF : Hid ((refC r2 [ch]).1.half = 1999 ∧ (refC r2 [ch]).1.gen = 1 ∧ (refC r2 [ch]).1.used ≤ 1 + 23 * (i + 1) ∧ (refC r2 [ch]).1.pairs = withP [] (l.take (i + 1))) := ⟨a2, a3, a4, a5⟩
            obtain ⟨rn, hrn⟩ : ∃ y, (refC r2 [ch]).1 = y := ⟨_, rfl⟩
            rw [hrn] at Hc3 HF
            obtain ⟨KN, hKN⟩ : ∃ y, ch.key.length = y := ⟨_, rfl⟩
            obtain ⟨VN, hVN⟩ : ∃ y, ch.val.length = y := ⟨_, rfl⟩
            obtain ⟨gb, hgb⟩ : ∃ y, ch.gone = y := ⟨_, rfl⟩
            rw [hKN] at k0 m0 hw1 hW2
            rw [hVN] at k1 m1 hw1 hW2
            rw [hgb] at k2 m2 hw1 hW2
            clear h3 hop hKN hVN hgb hb1 hb2 hz a1 a2 a3 a4 a5 hT hr2 hr3 hr4 hr5 HT hrn
            go_wp2_with (first
              | (go_at_call 7; refine (unhide Hc3).mono ?_; rintro e w7 ⟨rfl, h7, _⟩; have H7 := hide h7.swap; clear h7))
            refine ⟨⟨i + 1, by omega, by simp, rn, unhide H7, (unhide HF).1, (unhide HF).2.1, (unhide HF).2.2.1, (unhide HF).2.2.2⟩, by simp [intOf]; omega⟩
          · have hin : n = i := by omega
            subst hin
            have f1 : decide ((n : Int) < (n : Int)) = false := by simp
            rw [List.take_of_length_le (by have := unhide HN; omega)] at hr5
            have hNK := hT.right.2
            have hRP := hT.right.1
            rw [unhide HA2] at hNK hRP
            obtain ⟨P, hP⟩ : ∃ y, withP [] l = y := ⟨_, rfl⟩
            rw [hP] at hr5 hNK hRP
            have HPa : Hid (ra.pairs = P) := by show _ = _; rw [unhide HA2]; exact hP
            have HPb := hide hr5
            have HRP := hide hRP
            have H7 := hide hT
            obtain ⟨NK, hN⟩ : ∃ y, P.length = y := ⟨_, rfl⟩
            rw [hN] at hNK
            have HNK := hide hN
            clear hT hr2 hr3 hr4 hr5 HT hRP hP hN HA2
            go_upto_region 33 with (first
              | (go_at_call_of 8 (Value.pointer (some ta)); refine (TwoAt.keys HS (unhide H7)).mono ?_; rintro e w8 ⟨va, vas, rfl, hl8, hb8⟩
                 rw [unhide HPa] at hl8
                 have hvs : vas.length = NK := by rw [hl8.len, List.length_map]; exact unhide HNK
                 obtain ⟨sa, ca, e8⟩ := hl8.row.form
                 rw [hvs] at e8
                 subst e8
                 have HL8 := hide hl8
                 have H8 := hide (TwoAt.below HP HS (unhide H7) hb8)
                 clear hl8 hb8 hvs)
              | (go_at_call_of 8 (Value.pointer (some ua)); refine (TwoAt.keys HS (unhide H8).swap).mono ?_; rintro e w9 ⟨vb, vbs, rfl, hl9, hb9⟩
                 rw [unhide HPb] at hl9
                 have hvs : vbs.length = NK := by rw [hl9.len, List.length_map]; exact unhide HNK
                 obtain ⟨sb, cb, e9⟩ := hl9.row.form
                 rw [hvs] at e9
                 subst e9
                 have HL9 := hide hl9
                 have H9 := hide (TwoAt.below HP HS (unhide H8) hb9)
                 have HB9 := hide hb9
                 clear hl9 hb9 hvs))
            clear H7 H8
            go_wp2
            go_loopw [130] (fun ii wr => ∃ i : Nat, i ≤ NK ∧ ii = .int .i64 (i : Int) ∧ Hid (TwoAt PAt SAt 4000 w wr (.pointer (some pa)) (.pointer (some ta)) (.pointer (some qa)) (.pointer (some ua)) ra r2 2 (1 + n)) ∧ Hid (Below w9.heap.size w9 wr)) (fun ii _ => NK - (intOf ii).toNat)
            case atStart => exact ⟨0, by omega, rfl, unhide H9, Below.refl _ _⟩
            case round =>
              obtain ⟨i, hi, rfl, HT, HB⟩ := hrel
              clear H9
              by_cases hlt : i < NK
              · have hiP : i < P.length := by have := unhide HNK; omega
                have hkey : (P.map (·.1))[i]? = some (P[i]).1 := by simp [hiP]
                obtain ⟨g1, o1, s1, c1, rfl, k1, hb1⟩ := (unhide HL8).key hkey
                obtain ⟨g2, o2, s2, c2, rfl, k2, hb2⟩ := (unhide HL9).key hkey
                have hR := unhide HRP P[i] (List.getElem_mem hiP)
                have hmem : (P[i]).1 ∈ P.map (·.1) := List.mem_map_of_mem (List.getElem_mem hiP)
                obtain ⟨kk, hkk⟩ : ∃ y, (P[i]).1 = y := ⟨_, rfl⟩
                rw [hkk] at k1 hb1 k2 hb2 hR hmem
                have c1' := cell_aside (S := none_) (cell_aside (S := none_) k1 (Aside.of_below (unhide HB9)) (fun h => h)) (Aside.of_below (unhide HB)) (fun h => h)
                have HK2 := hide (cell_aside (S := none_) k2 (Aside.of_below (unhide HB)) (fun h => h))
                have HB1 := hide ((hb1.below (unhide HB9)).below (unhide HB))
                have HB2 := hide (hb2.below (unhide HB))
                have HG1 := hide (TwoAt.get HS (unhide HT) (unhide HB1) (by omega))
                have HG2 : Hid (∀ w', TwoAt PAt SAt 4000 w w' (.pointer (some pa)) (.pointer (some ta)) (.pointer (some qa)) (.pointer (some ua)) ra r2 2 (1 + n) → Below wr.heap.size wr w' → Calls Try.prog 9 #[.pointer (some ua), .slice s1 kk.length c1] w' fun e w2 => ∃ v, e = .returned (.tuple #[v, .bool (getP r2.pairs kk).isSome]) ∧ OwnB w2 w'.heap.size v ((getP r2.pairs kk).getD []) ∧ Below w'.heap.size w' w2) := fun w' h hb => TwoAt.get HS h.swap ((unhide HB1).below hb) (by omega)
                rw [unhide HPa, get_key hmem] at HG1
                rw [unhide HPb, get_key hmem] at HG2
                have hvl : ((getP P kk).getD []).length ≤ 8192 := by
                  cases hg : getP P kk with
                  | none => simp
                  | some b =>
                    show b.length ≤ 8192
                    exact (unhide HRP _ (get_in hg)).2.2
                obtain ⟨vv, hvv⟩ : ∃ y, (getP P kk).getD [] = y := ⟨_, rfl⟩
                rw [hvv] at HG1 HG2 hvl
                obtain ⟨KL, hKL⟩ : ∃ y, kk.length = y := ⟨_, rfl⟩
                obtain ⟨VL, hVL⟩ : ∃ y, vv.length = y := ⟨_, rfl⟩
                have HKL := hide (show kk.length ≤ 1099511627776 by omega)
                have HVL := hide (show vv.length ≤ 1099511627776 by omega)
                have HVV := hide hVL
                rw [hKL] at c1' HK2 HB1 HB2 HG1 HG2
                have f1 : decide ((i : Int) < (NK : Int)) = true := by simp; omega
                have f1n : decide (i < NK) = true := by simp; omega
                have j0 : (0 : Int) ≤ (i : Int) := by omega
                have j1 : (i : Int) < (NK : Int) := by omega
                clear hkk hkey hR hmem hb1 hb2 k1 k2 hvv hKL hVL hvl hiP
                go_upto_region 37 with (first
                  | (go_at_call 9; refine (unhide HG1).mono ?_; rintro e w10 ⟨v10, rfl, ho10, hb10⟩; obtain ⟨s10, c10, e10⟩ := ho10.form; rw [unhide HVV] at e10; subst e10
                     have HO10 := hide ho10.bytes
                     have H10 := hide (TwoAt.below HP HS (unhide HT) hb10)
                     have HB10 := hide hb10
                     clear ho10 hb10))
                go_upto_region 38 with (first
                  | (go_at_call 9; refine (unhide HG2 _ (unhide H10) (unhide HB10)).mono ?_; rintro e w11 ⟨v11, rfl, ho11, hb11⟩; obtain ⟨s11, c11, e11⟩ := ho11.form; rw [unhide HVV] at e11; subst e11
                     have HO11 := hide ho11.bytes
                     have HO10b := hide ((unhide HO10).below hb11)
                     have H11 := hide (TwoAt.below HP HS (unhide H10) hb11)
                     have HB11 := hide ((unhide HB10).trans (hb11.mono (unhide HB10).size))
                     clear ho11 hb11))
                have c2' := cell_aside (S := none_) (unhide HK2) (Aside.of_below (unhide HB11)) (fun h => h)
                have HB1b := hide ((unhide HB1).below (unhide HB11))
                have HB2b := hide ((unhide HB2).below (unhide HB11))
                clear HK2 HB1 HB2 HG1 HG2 HB10 HO10 H10 c1'
                go_wp2_with (first
                  | (go_at_call_of 10 (Value.slice s1 KL c1); refine (same_any _ _ _ kk kk (unhide HB1b) (unhide HB2b) (unhide HKL)).mono ?_; rw [decide_eq_true (rfl : kk = kk)]; rintro e w12 ⟨rfl, hb12⟩
                     have H12 := hide (TwoAt.below HP HS (unhide H11) hb12)
                     have HO10c := hide ((unhide HO10b).below hb12)
                     have HO11c := hide ((unhide HO11).below hb12)
                     have HB12 := hide ((unhide HB11).trans (hb12.mono (unhide HB11).size))
                     clear hb12)
                  | (go_at_call 10; refine (same_any _ _ _ vv vv (unhide HO10c) (unhide HO11c) (unhide HVL)).mono ?_; rw [decide_eq_true (rfl : vv = vv)]; rintro e w13 ⟨rfl, hb13⟩
                     have H13 := hide (TwoAt.below HP HS (unhide H12) hb13)
                     have HB13 := hide ((unhide HB).trans (((unhide HB12).trans (hb13.mono (unhide HB12).size)).mono (unhide HB).size))
                     clear hb13))
                exact ⟨⟨i + 1, by omega, by simp, H13, HB13⟩, by simp [intOf]; omega⟩
              · have hin : NK = i := by omega
                subst hin
                have f1 : decide ((NK : Int) < (NK : Int)) = false := by simp
                have HBe := hide (unhide HT).b
                clear HT HB
                go_wp2
                go_ret
                exact ⟨rfl, unhide HBe⟩
end
end Go.Proofs.Ytbjgknoipbekoab
