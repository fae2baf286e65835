/-
  StoreTurns out of the records.
-/
import Derived.Test.YtbjgknoipbekoaaQ32
import Derived.Test.YtbjgknoipbekoaaQ24
namespace Go.Proofs.Ytbjgknoipbekoaa
open Go.RowKit
section
variable {PAt : Set_ → Set_ → World → Value → PS → Prop} {SAt : Set_ → Set_ → World → Value → Value → SS → Prop} (HP : Plate PAt) (HS : Store PAt SAt)
include HP HS in
set_option maxRecDepth 100000 in
set_option maxHeartbeats 8000000 in
theorem turns_true (w : World) (N M Z : Int) : Calls Try.prog 4 #[.int .i64 N, .int .i64 M, .int .i64 Z] w fun e w' => e = .returned (.bool true) ∧ Below w.heap.size w w' := by
  have Han := hide (sanchor_c HP HS w)
  by_cases c0 : N < 12
  · have d0 : decide (N < 12) = true := decide_eq_true c0
    go_enter Try.func4, Try.ntmps4
    go_wp2_with (go_at_call 5; refine (unhide Han).mono ?_; rintro e w1 ⟨rfl, hb1⟩; have HB1 := hide hb1; clear hb1)
    go_ret
    exact ⟨rfl, unhide HB1⟩
  have d0 : decide (N < 12) = false := decide_eq_false c0
  by_cases c1 : 100 < N
  · have d1 : decide (100 < N) = true := decide_eq_true c1
    go_enter Try.func4, Try.ntmps4
    go_wp2_with (go_at_call 5; refine (unhide Han).mono ?_; rintro e w1 ⟨rfl, hb1⟩; have HB1 := hide hb1; clear hb1)
    go_ret
    exact ⟨rfl, unhide HB1⟩
  have d1 : decide (100 < N) = false := decide_eq_false c1
  by_cases c2 : M < 0
  · have d2 : decide (M < 0) = true := decide_eq_true c2
    go_enter Try.func4, Try.ntmps4
    go_wp2_with (go_at_call 5; refine (unhide Han).mono ?_; rintro e w1 ⟨rfl, hb1⟩; have HB1 := hide hb1; clear hb1)
    go_ret
    exact ⟨rfl, unhide HB1⟩
  have d2 : decide (M < 0) = false := decide_eq_false c2
  by_cases c3 : 60 < M
  · have d3 : decide (60 < M) = true := decide_eq_true c3
    go_enter Try.func4, Try.ntmps4
    go_wp2_with (go_at_call 5; refine (unhide Han).mono ?_; rintro e w1 ⟨rfl, hb1⟩; have HB1 := hide hb1; clear hb1)
    go_ret
    exact ⟨rfl, unhide HB1⟩
  have d3 : decide (60 < M) = false := decide_eq_false c3
  by_cases c4 : Z < 0
  · have d4 : decide (Z < 0) = true := decide_eq_true c4
    go_enter Try.func4, Try.ntmps4
    go_wp2_with (go_at_call 5; refine (unhide Han).mono ?_; rintro e w1 ⟨rfl, hb1⟩; have HB1 := hide hb1; clear hb1)
    go_ret
    exact ⟨rfl, unhide HB1⟩
  have d4 : decide (Z < 0) = false := decide_eq_false c4
  by_cases c5 : 40 < Z
  · have d5 : decide (40 < Z) = true := decide_eq_true c5
    go_enter Try.func4, Try.ntmps4
    go_wp2_with (go_at_call 5; refine (unhide Han).mono ?_; rintro e w1 ⟨rfl, hb1⟩; have HB1 := hide hb1; clear hb1)
    go_ret
    exact ⟨rfl, unhide HB1⟩
  have d5 : decide (40 < Z) = false := decide_eq_false c5
  obtain ⟨n, rfl⟩ := Int.eq_ofNat_of_zero_le (show 0 ≤ N by omega)
  obtain ⟨m, rfl⟩ := Int.eq_ofNat_of_zero_le (show 0 ≤ M by omega)
  obtain ⟨z, rfl⟩ := Int.eq_ofNat_of_zero_le (show 0 ≤ Z by omega)
  have n0 : decide (n < 12) = false := decide_eq_false (by omega)
  have n1 : decide (100 < n) = false := decide_eq_false (by omega)
  have n3 : decide (60 < m) = false := decide_eq_false (by omega)
  have n5 : decide (40 < z) = false := decide_eq_false (by omega)
  have hn1 : 12 ≤ n := by omega
  have hn2 : n ≤ 100 := by omega
  have hm : m ≤ 60 := by omega
  have hz : z ≤ 40 := by omega
  clear c0 c1 c2 c3 c4 c5
  have Hnew : Hid (∀ w1, Below w.heap.size w w1 → Calls Try.prog 6 #[.int .i64 (n : Int)] w1 fun e w' => ∃ pa, e = .returned (.pointer (some pa)) ∧ ∃ S R, On PAt w w' (.pointer (some pa)) S R (newS n)) := fun w1 hb => by
    refine (HP.new_yes w1 n (by omega) (by omega)).mono ?_
    rintro e w' ⟨p1, rfl, S1, R1, q1, q2, q3⟩
    obtain ⟨pa, rfl⟩ := HP.ptr q1
    exact ⟨pa, rfl, S1, R1, q1, fun j hj => Nat.le_trans hb.size (q2 j hj), hb.trans (q3.mono hb.size)⟩
  have Hn := hide hn1
  go_enter Try.func4, Try.ntmps4
  go_upto_region 11 with (first
    | (go_at_call 5; refine (unhide Han).mono ?_; rintro e w1 ⟨rfl, hb1⟩; have HB1 := hide hb1; clear hb1)
    | (go_at_call 6; refine (unhide Hnew _ (unhide HB1)).mono ?_; rintro e w2 ⟨pa, rfl, S1, R1, h2⟩; have HO2 := hide h2; clear h2)
    | (go_at_call 7; refine (TurnAt.first HS (unhide HO2) (by omega) (by omega)).mono ?_; rintro e w3 ⟨ta, rfl, h3⟩; have H3 := hide h3; clear h3))
  clear Hnew Han HO2 HB1
  go_wp2
  go_loopw [10, 58] (fun lv kv wr => ∃ i gn : Nat, i ≤ m ∧ kv = .int .i64 (i : Int) ∧ lv = .int .i64 (gn : Int) ∧ gn ≤ i + 1 ∧ Hid (∃ ps, TurnAt PAt SAt n w wr (.pointer (some pa)) (.pointer (some ta)) gn (1 + 2 * i) ps none_ ∧ (ps = [] ∨ ∃ u, ps = [([107], u)]))) (fun _ kv _ => m - (intOf kv).toNat)
  case atStart => exact ⟨0, 1, by omega, rfl, rfl, by omega, [], unhide H3, Or.inl rfl⟩
  case round =>
    obtain ⟨i, gn, hi, rfl, rfl, hgn, HT⟩ := hrel
    by_cases hlt : i < m
    · have f1 : decide ((i : Int) < (m : Int)) = true := by simp; omega
      have f1n : decide (i < m) = true := by simp; omega
      rename World => wo
      obtain ⟨W1, hmk, hown, hbm⟩ := made_zeros wo z (by omega)
      obtain ⟨ps, hT, hps⟩ := unhide HT
      have HT0 := hide hT
      have HPS := hide hps
      obtain ⟨g, hg⟩ : ∃ y, wo.heap.size = y := ⟨_, rfl⟩
      have HG := hide hg
      have HF0 : Hid (Fl W1 (.slice (some ⟨g, 0, none⟩) z z) z) := by
        rw [← hg]
        have := Fl.of hown
        rw [List.length_replicate] at this
        exact this
      have HB0 : Hid (Below g wo W1) := by rw [← hg]; exact hbm
      rw [hg] at hmk
      clear hT hps hown hbm hg HT
      go_wp2
      go_loopw [65] (fun ii wr => ∃ j : Nat, j ≤ z ∧ ii = .int .i64 (j : Int) ∧ Hid (Fl wr (.slice (some ⟨g, 0, none⟩) z z) z) ∧ Hid (Below g wo wr)) (fun ii _ => z - (intOf ii).toNat)
      case atStart => exact ⟨0, by omega, rfl, unhide HF0, unhide HB0⟩
      case round =>
        obtain ⟨j, hj, rfl, HF, HB⟩ := hrel
        by_cases hlt2 : j < z
        · obtain ⟨⟨ux, c1⟩, z1, hF2, hA2⟩ := (unhide HF).put hlt2 (UInt8.ofNat i)
          have hu : (UInt8.ofNat i).toNat = i := by rw [UInt8.toNat_ofNat']; exact Nat.mod_eq_of_lt (by omega)
          rw [hu] at hF2 hA2
          have f2 : decide ((j : Int) < (z : Int)) = true := by simp; omega
          have f2n : decide (j < z) = true := by simp; omega
          have j0 : (0 : Int) ≤ (j : Int) := by omega
          have j1 : (j : Int) < (z : Int) := by omega
          obtain ⟨pb, hpb⟩ : ∃ q, ux.toNat = q := ⟨_, rfl⟩
          rw [hpb] at c1
          obtain ⟨W2, hW2⟩ : ∃ y, wr.setCell ⟨g, j, none⟩ (.int .u8 (i : Int)) = y := ⟨_, rfl⟩
          rw [hW2] at hF2 hA2
          have HF2 := hide hF2
          have HB2 : Hid (Below g wo W2) := (unhide HB).trans (hA2.below (by have := (unhide HB).size; have := unhide HG; omega) fun k hk => by omega)
          clear hF2 hA2 hpb HF HB hu
          go_wp2
          refine ⟨⟨j + 1, by omega, ?_, HF2, HB2⟩, ?_⟩
          · simp
          · simp [intOf]; omega
        · have hjz : z = j := by omega
          subst hjz
          have f2 : decide ((z : Int) < (z : Int)) = false := by simp
          obtain ⟨v, hv, hvb, _⟩ := unhide HF
          have HV := hide hv
          have HVB := hide hvb
          clear hv hvb HF HF0 HB0 hmk
          rename World => wq
          obtain ⟨wb1, wb2, hwb1, hcvb, hxb, hbb⟩ := const_one wq 107
          rw [show ((107 : UInt8).toNat : Int) = 107 from rfl] at hwb1
          obtain ⟨W7, hW7⟩ : ∃ y, wb2.alloc (.cells #[.slice (some ⟨wq.heap.size, 0, none⟩) 1 1, .slice (some ⟨g, 0, none⟩) z z, .bool false] 32) = y := ⟨_, rfl⟩
          have hb67 : Below wb2.heap.size wb2 W7 := by rw [← hW7]; exact (Below.refl _ _).alloc (Nat.le_refl _) _
          have hgq := (unhide HB).size
          have hgo := unhide HG
          have hqb := hbb.size
          have hcv : ChV g wb2 ⟨[107], v, false⟩ (.slice (some ⟨wq.heap.size, 0, none⟩) 1 1) (.slice (some ⟨g, 0, none⟩) z z) := ⟨hxb, (unhide HVB).below hbb, fun _ j hj => by simp only [Value.ownBlock, Option.some.injEq] at hj; omega, fun _ j hj => by simp only [Value.ownBlock, Option.some.injEq] at hj; omega⟩
          have HZ7 : Hid (ChsAt (fun j => wo.heap.size ≤ j) W7 (.slice (some ⟨wb2.heap.size, 0, none⟩) 1 1) [⟨[107], v, false⟩]) := by rw [← hW7, unhide HG]; exact chs_single hcv (by omega)
          have HB37 : Hid (Below wo.heap.size wo W7) := by rw [unhide HG]; exact ((unhide HB).trans (hbb.mono (by omega))).trans (hb67.mono (by omega))
          have HL7 : Hid (g < W7.heap.size) := by
            have := World.block_lt_of_cell? _ _ (S3.new wb2 (.slice (some ⟨wq.heap.size, 0, none⟩) 1 1) (.slice (some ⟨g, 0, none⟩) z z) (.bool false)).c0
            rw [hW7] at this
            exact Nat.lt_of_le_of_lt (show g ≤ wb2.heap.size by omega) this
          have HVB7 := hide (((unhide HVB).below hbb).below hb67)
          clear hb67 hgq hgo hqb hcv hxb hbb HVB
          go_upto_region 24 with (first
            | (go_at_call 8; refine (TurnAt.commit HP HS (unhide HT0) (unhide HB37) (unhide HZ7) (by rw [unhide HV]; omega) (unhide HPS) (by omega) (by omega) (by omega)).mono ?_
               rintro e w8 ⟨rfl, ⟨gq, hq1, hq2, h8⟩, ha8⟩
               have H8 := hide h8
               have HVB8 := hide ((unhide HVB7).aside ha8 (fun k hk => by simp only [Value.ownBlock, Option.some.injEq] at hk; have := unhide HG; omega))
               have e1 : decide ((gq : Int) < (gn : Int)) = false := by simp; omega
               have e1n : decide (gq < gn) = false := by simp; omega
               have e2 : decide ((gn : Int) + 1 < (gq : Int)) = false := by simp; omega
               have e2n : decide (gn + 1 < gq) = false := by simp; omega
               clear h8 ha8)
            | (go_at_call 12; refine (TurnAt.gen HS (unhide H8)).mono ?_; rintro e w9 ⟨rfl, hb9⟩; have H8x := hide (TurnAt.below HP HS (unhide H8) hb9); have HVBx := hide ((unhide HVB8).below hb9); clear hb9 H8 HVB8; have H8 := H8x; have HVB8 := HVBx; clear H8x HVBx))
          clear HZ7 HB37 HVB7 hwb1 hcvb hW7 HT0 HPS
          go_upto_region 27 with (first
            | (go_at_call 7; refine (TurnAt.second HS (unhide H8) (by omega)).mono ?_
               rintro e w10 ⟨oa, rfl, h10, k10, ha10⟩
               have H10 := hide h10
               have K10 := hide k10
               have HVB10 := hide ((unhide HVB8).aside ha10 (fun k hk h => h (by simp only [Value.ownBlock, Option.some.injEq] at hk; have := unhide HG; have := unhide HL7; constructor <;> omega)))
               clear h10 k10 ha10)
            | (go_at_call 12; refine (TurnAt.gen HS (unhide K10)).mono ?_; rintro e w11 ⟨rfl, hb11⟩; have H11 := hide (TurnAt.below HP HS (unhide H10) hb11); have K11 := hide (TurnAt.below HP HS (unhide K10) hb11); have HVB11 := hide ((unhide HVB10).below hb11); clear hb11))
          clear H8 HVB8 H10 K10 HVB10 HL7 HG
          obtain ⟨wc1, wc2, hwc1, hcvc, hxc, hbc⟩ := const_one w11 107
          rw [show ((107 : UInt8).toNat : Int) = 107 from rfl] at hwc1
          have HXc := hide hxc
          have H12 := hide (TurnAt.below HP HS (unhide H11) hbc)
          have K12 := hide (TurnAt.below HP HS (unhide K11) hbc)
          have HVB12 := hide ((unhide HVB11).below hbc)
          clear hxc hbc H11 K11 HVB11
          go_upto_region 28 with (first
            | (go_at_call 9; refine (TurnAt.get HS (unhide K12) (unhide HXc)).mono ?_; rintro e w13 ⟨u13', rfl, ho13, hb13⟩; obtain ⟨s13, c13, e13⟩ := ho13.form; rw [unhide HV] at e13; subst e13; have HO13 := hide ho13.bytes; have H13 := hide (TurnAt.below HP HS (unhide H12) hb13); have K13 := hide (TurnAt.below HP HS (unhide K12) hb13); have HVB13 := hide ((unhide HVB12).below hb13); clear ho13 hb13))
          clear H12 K12 HVB12 hwc1 hcvc HXc
          go_wp2_with (first
            | (go_at_call 10; refine (same_any _ _ _ v v (unhide HO13) (unhide HVB13) (by rw [unhide HV]; omega)).mono ?_; rw [decide_eq_true (rfl : v = v)]; rintro e w14 ⟨rfl, hb14⟩; have H14 := hide (TurnAt.below HP HS (unhide H13) hb14); have K14 := hide (TurnAt.below HP HS (unhide K13) hb14); clear hb14)
            | (go_at_call 11; refine (TurnAt.keys HS (unhide K14)).mono ?_; rintro e w15 ⟨s15, c15, rfl, hb15⟩; have H15 := hide (TurnAt.below HP HS (unhide H14) hb15); clear hb15))
          refine ⟨⟨i + 1, gq, by omega, ?_, rfl, by omega, _, unhide H15, Or.inr ⟨v, rfl⟩⟩, ?_⟩
          · simp
          · simp [intOf]; omega
    · have him : m = i := by omega
      subst him
      have f1 : decide ((m : Int) < (m : Int)) = false := by simp
      obtain ⟨ps, hT, hps⟩ := unhide HT
      have HB := hide hT.b
      clear HT hT hps
      go_wp2
      go_ret
      exact ⟨rfl, unhide HB⟩
end
end Go.Proofs.Ytbjgknoipbekoaa
