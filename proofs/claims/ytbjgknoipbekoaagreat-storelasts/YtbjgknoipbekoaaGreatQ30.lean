/-
  StoreLasts out of the records.
-/
import Derived.Test.YtbjgknoipbekoaaGreatQ28
namespace Go.Proofs.YtbjgknoipbekoaaGreat
open Go.RowKit
section
variable {PAt : Set_ → Set_ → World → Value → PS → Prop} {SAt : Set_ → Set_ → World → Value → Value → SS → Prop} (HP : Plate PAt) (HS : Store PAt SAt)
include HP HS in
set_option maxRecDepth 100000 in
set_option maxHeartbeats 16000000 in
theorem lasts_true (w : World) (sec : Int) (x : Value) (ts : List TurnQ) (hx : TsAt w x ts) : Calls Tryz.prog 4 #[.int .i64 sec, x] w fun e w' => e = .returned (.bool true) ∧ Below w.heap.size w w' := by
  have Han := hide (sanchor_c HP HS w)
  obtain ⟨sp, c, rfl, _⟩ := id hx
  obtain ⟨N, hN⟩ : ∃ n, ts.length = n := ⟨_, rfl⟩
  rw [hN] at hx ⊢
  have HX := hide hx
  have HN := hide hN
  clear hx hN
  by_cases g1 : sec < 8
  · have d1 : decide (sec < 8) = true := by simp; omega
    go_enter Tryz.func4, Tryz.ntmps4
    go_wp2_with (go_at_call 7; refine (unhide Han).mono ?_; rintro e w1 ⟨rfl, hb1⟩; have HB1 := hide hb1; clear hb1)
    go_ret
    exact ⟨rfl, unhide HB1⟩
  have d1 : decide (sec < 8) = false := by simp; omega
  by_cases g2 : 300 < sec
  · have d2 : decide ((300 : Int) < sec) = true := by simp; omega
    go_enter Tryz.func4, Tryz.ntmps4
    go_wp2_with (go_at_call 7; refine (unhide Han).mono ?_; rintro e w1 ⟨rfl, hb1⟩; have HB1 := hide hb1; clear hb1)
    go_ret
    exact ⟨rfl, unhide HB1⟩
  obtain ⟨n, rfl⟩ : ∃ n : Nat, sec = (n : Int) := ⟨sec.toNat, by omega⟩
  have d2 : decide ((300 : Int) < (n : Int)) = false := by simp; omega
  have d2n : decide (300 < n) = false := by simp; omega
  have hn8 : 8 ≤ n := by omega
  have hn300 : n ≤ 300 := by omega
  have d1n : decide (n < 8) = false := by simp; omega
  clear g1 g2
  by_cases g3 : 8 < N
  · have d3 : decide ((8 : Int) < (N : Int)) = true := by simp; omega
    have d3n : decide (8 < N) = true := by simp; omega
    go_enter Tryz.func4, Tryz.ntmps4
    go_wp2_with (go_at_call 7; refine (unhide Han).mono ?_; rintro e w1 ⟨rfl, hb1⟩; have HB1 := hide hb1; clear hb1)
    go_ret
    exact ⟨rfl, unhide HB1⟩
  have d3 : decide ((8 : Int) < (N : Int)) = false := by simp; omega
  have d3n : decide (8 < N) = false := by simp; omega
  have hN8 : N ≤ 8 := by omega
  clear g3
  have Hnew : Hid (∀ w1, Below w.heap.size w w1 → Calls Tryz.prog 9 #[.int .i64 (n : Int)] w1 fun e w' => ∃ pa, e = .returned (.pointer (some pa)) ∧ ∃ B, RestAt PAt n w w' (.pointer (some pa)) [] 0 true B) := fun w1 hb => by
    refine (HP.new_yes w1 n (by omega) (by omega)).mono ?_
    rintro e w' ⟨p1, rfl, S1, R1, q1, q2, q3⟩
    obtain ⟨pa, rfl⟩ := HP.ptr q1
    exact ⟨pa, rfl, RestAt.new HP ⟨q1, fun j hj => Nat.le_trans hb.size (q2 j hj), hb.trans (q3.mono hb.size)⟩ (by omega) (by omega)⟩
  have Hrn := hide (fun w1 => rnew15_c w1 n (by omega) (by omega))
  obtain ⟨H, hH⟩ : ∃ y, (n - 2) / 2 = y := ⟨_, rfl⟩
  rw [hH] at Hrn
  clear hH
  go_enter Tryz.func4, Tryz.ntmps4
  go_upto_region 8 with (first
    | (go_at_call 7; refine (unhide Han).mono ?_; rintro e w1 ⟨rfl, hb1⟩; have HB1 := hide hb1; clear hb1)
    | (go_at_call 9; refine (unhide Hnew _ (unhide HB1)).mono ?_; rintro e w2 ⟨pa, rfl, B2, h2⟩; have HO2 := hide h2; clear h2))
  go_upto_region 9 with (first
    | (go_at_call 11; refine (unhide Hrn _).mono ?_; rintro e w3 ⟨rfl, hb3⟩; have HO3 := hide ((unhide HO2).below HP hb3); clear hb3))
  obtain ⟨W4, hW4⟩ : ∃ y, w3.alloc (.cells #[.int .i64 (H : Int), .int .i64 1, .int .i64 1, .slice none 0 0] 34) = y := ⟨_, rfl⟩
  have hb4 : Below w3.heap.size w3 W4 := by rw [← hW4]; exact (Below.refl _ _).alloc (Nat.le_refl _) _
  have hI3 := (unhide HO3).inb
  have HO4 := hide ((unhide HO3).below HP hb4)
  have HR4 : Hid (RV w W4 B2 (fun j => j = w3.heap.size) w3.heap.size [] H 1 1 (.slice none 0 0)) := ⟨by rw [← hW4]; exact (MapKept.heap_alloc w3 _).1, fun hB => by have := (hI3 _ hB).2; omega, (unhide HO3).b.size, prs_nil _ _⟩
  rw [hW4]
  obtain ⟨A6, hA6⟩ : ∃ y, w3.heap.size = y := ⟨_, rfl⟩
  rw [hA6] at HR4 ⊢
  clear hW4 hb4 hI3 HO3 HO2 HB1 Hrn Hnew Han hA6
  go_wp2
  go_loopw [41] (fun ii wr => ∃ (i g u n6 c6 : Nat) (s6 : Option Addr) (B : Set_) (ps : List (Bs × Bs)), i ≤ N ∧ ii = .int .i64 (i : Int) ∧ Hid (RestAt PAt n w wr (.pointer (some pa)) ps (20 * i) false B) ∧ Hid (RV w wr B (fun j => j = A6) A6 ps H g u (.slice s6 n6 c6))) (fun ii _ => N - (intOf ii).toNat)
  case atStart => exact ⟨0, 1, 1, 0, 0, none, B2, [], by omega, rfl, (unhide HO4).uncalm (by omega), unhide HR4⟩
  case round =>
    obtain ⟨i, g, u, n6, c6, s6, B, ps, hi, rfl, HO, HR⟩ := hrel
    clear HO4 HR4
    by_cases hlt : i < N
    · obtain ⟨t, gg, o, lv, kv, hv, hop, rfl, ht⟩ := (unhide HX).one (unhide HO).b (i := i) (by have := unhide HN; omega)
      obtain ⟨sl, cl, rfl, _⟩ := id ht.lists.form
      obtain ⟨sk, ck, rfl⟩ := ht.keep.form
      obtain ⟨sh, ch, rfl⟩ := ht.hold.form
      obtain ⟨NL, hNL⟩ : ∃ y, t.lists.length = y := ⟨_, rfl⟩
      obtain ⟨NK, hNK⟩ : ∃ y, (t.keep.map Value.bool).length = y := ⟨_, rfl⟩
      obtain ⟨NH, hNH⟩ : ∃ y, (t.hold.map Value.bool).length = y := ⟨_, rfl⟩
      rw [hNL, hNK, hNH] at ht
      obtain ⟨arm, harm⟩ : ∃ y, t.arm = y := ⟨_, rfl⟩
      obtain ⟨again, hag⟩ : ∃ y, t.again = y := ⟨_, rfl⟩
      have k0 := ht.c0
      have k1 := ht.c1
      have k2 := ht.c2
      have k3 := ht.c3
      have k4 := ht.c4
      rw [harm] at k1
      rw [hag] at k3
      have HArm : Hid (-9223372036854775808 ≤ arm ∧ arm ≤ 9223372036854775807) := by have := ht.arm; rw [harm] at this; exact this
      have HAg : Hid (-9223372036854775808 ≤ again ∧ again ≤ 9223372036854775807) := by have := ht.again; rw [hag] at this; exact this
      have HLi := hide ht.lists
      have HKe := hide ht.keep
      have HHo := hide ht.hold
      have HNL := hide hNL
      have f1 : decide ((i : Int) < (N : Int)) = true := by simp; omega
      have f1n : decide (i < N) = true := by simp; omega
      have j0 : (0 : Int) ≤ (i : Int) := by omega
      have j1 : (i : Int) < (N : Int) := by omega
      obtain ⟨w1, hw1⟩ : ∃ y, wr.alloc (.cells #[.slice sl NL cl, .int .i64 arm, .slice sk NK ck, .int .i64 again, .slice sh NH ch] 53) = y := ⟨_, rfl⟩
      have hb1 : Below wr.heap.size wr w1 := by rw [← hw1]; exact (Below.refl _ _).alloc (Nat.le_refl _) _
      have HO1 := hide ((unhide HO).below HP hb1)
      have HR1 := hide ((unhide HR).below hb1)
      have HT1 : Hid (TV B w1 wr.heap.size [.slice sl NL cl, .int .i64 arm, .slice sk NK ck, .int .i64 again, .slice sh NH ch]) := ⟨by rw [← hw1]; exact (MapKept.heap_alloc wr _).1, fun hB => by have := ((unhide HO).inb _ hB).2; omega⟩
      have HA86 : Hid (A6 < wr.heap.size) := lt_of_row (unhide HR).row
      clear ht hop hNL hNK hNH harm hag hb1 HO HR
      obtain ⟨A8, hA8⟩ : ∃ y, wr.heap.size = y := ⟨_, rfl⟩
      rw [hA8] at HT1 HA86
      have m0 := (unhide HT1).cell 0 _ rfl
      go_upto_region 12 with (fail)
      have Hsm := hide (small_c ((unhide HLi).below (unhide HO1).b))
      by_cases hsm : SmallLL t.lists
      · rw [decide_eq_true hsm] at Hsm
        have HSM := hide hsm
        clear hsm hw1 k0 k1 k2 k3 k4 hA8
        go_upto_region 14 with (first
          | (go_at_call 8; refine (unhide Hsm).mono ?_; rintro e w2 ⟨rfl, hb2⟩
             have HO2 := hide ((unhide HO1).below HP hb2)
             have HR2 := hide ((unhide HR1).below hb2)
             have HT2 := hide ((unhide HT1).below hb2)
             have m3 := (unhide HT2).cell 3 _ rfl
             clear hb2))
        clear Hsm HO1 HR1 HT1 m0
        go_upto_region 15 with (first
          | (go_at_call 23; refine (RestAt.arm HP (unhide HO2) again (unhide HAg).1 (unhide HAg).2).mono ?_; rintro e w3 ⟨rfl, h3, a3⟩
             have HO3 := hide h3
             have HR3 := hide ((unhide HR2).call a3)
             have HT3 := hide ((unhide HT2).call a3)
             clear h3 a3))
        clear HO2 HR2 HT2 m3
        go_upto_region 16 with (first
          | (go_at_call 10; refine (RestAt.try_ HP HS (unhide HO3) (by omega)).mono ?_; rintro e w4 ⟨v4, c4, rfl, hc4, h4, a4⟩
             have HO4 := hide h4
             have HR4 := hide ((unhide HR3).call a4)
             have HT4 := hide ((unhide HT3).call a4)
             have HC4 := hide hc4
             clear h4 a4 hc4))
        clear HO3 HR3 HT3
        have m4 := (unhide HT4).cell 4 _ rfl
        rcases unhide HC4 with rfl | rfl
        all_goals
          clear HC4
          go_upto_region 19 with (first
            | (go_at_call 24; refine (CrashAt.revive HP (unhide HO4) ((unhide HHo).below (unhide HO4).b) (vals_low (unhide HHo) (unhide HO4).inb)).mono ?_; rintro e w5 ⟨rfl, h5, a5⟩
               have HO5 := hide h5
               have HR5 := hide ((unhide HR4).call a5)
               have HT5 := hide ((unhide HT4).call a5)
               clear h5 a5))
          clear HO4 HR4 HT4 m4
          go_upto_region 20 with (first
            | (go_at_call 10; refine (RestAt.open_ HP HS (unhide HO5) (by omega)).mono ?_; rintro e w6 ⟨ta, rfl, h6, a6⟩
               have HO6 := hide h6
               have HR6 := hide ((unhide HR5).call a6)
               have HT6 := hide ((unhide HT5).call a6)
               clear h6 a6))
          clear HO5 HR5 HT5
          obtain ⟨r0, r1, r2, r3⟩ := (unhide HR6).cells
          have Hsa := hide (LifeAt.same HS (unhide HO6) (unhide HR6).prs (unhide HO6).right.1 H g u)
          rw [decide_eq_true (rfl : ps = ps)] at Hsa
          go_upto_region 22 with (first
            | (go_at_call 21; refine (unhide Hsa).mono ?_; rintro e w7 ⟨rfl, b7⟩
               have HO7 := hide ((unhide HO6).below HP HS b7)
               have HR7 := hide ((unhide HR6).below b7)
               have HT7 := hide ((unhide HT6).below b7)
               clear b7))
          clear HO6 HR6 HT6 r0 r1 r2 r3 Hsa
          go_upto_region 23 with (first
            | (go_at_call 20; refine (LifeAt.gen HS (unhide HO7)).mono ?_; rintro e w8 ⟨g8, rfl, b8⟩
               have HO8 := hide ((unhide HO7).below HP HS b8)
               have HR8 := hide ((unhide HR7).below b8)
               have HT8 := hide ((unhide HT7).below b8)
               have fz := row_frozen (unhide HR8).row 1
               have HOs : Hid (LifeAt PAt SAt n w (w8.setCell ⟨A6, 1, none⟩ (.int .i64 (g8 : Int))) (.pointer (some pa)) (.pointer (some ta)) ps ps false (20 * i + 1 + 1) _) := (unhide HO8).aside HP HS (set_aside _ _ _ _) (fun j hj => hj ▸ (unhide HR8).out) fun j hj => hj ▸ (unhide HR8).ge
               have HRs := hide ((unhide HR8).gen rfl g8)
               have HTs := hide ((unhide HT8).other (set_aside w8 A6 1 (.int .i64 (g8 : Int))) (by have := unhide HA86; omega))
               have q1 := (unhide HR8).cells.2.1
               clear b8))
          clear HO7 HR7 HT7
          obtain ⟨W9, hW9⟩ : ∃ y, w8.setCell ⟨A6, 1, none⟩ (.int .i64 (g8 : Int)) = y := ⟨_, rfl⟩
          rw [hW9] at HOs HRs HTs ⊢
          clear hW9 HO8 HR8 HT8 fz q1
          have m1 := (unhide HTs).cell 1 _ rfl
          go_upto_region 24 with (first
            | (go_at_call 23; refine (LifeAt.arm HP HS (unhide HOs) arm (unhide HArm).1 (unhide HArm).2).mono ?_; rintro e w10 ⟨rfl, h10, a10⟩
               have HO10 := hide h10
               have HR10 := hide ((unhide HRs).call a10)
               have HT10 := hide ((unhide HTs).call a10)
               clear h10 a10))
          clear HOs HRs HTs m1
          obtain ⟨r0, r1, r2, r3⟩ := (unhide HR10).cells
          obtain ⟨W11, hW11⟩ : ∃ y, w10.alloc (.cells #[.int .i64 (H : Int), .int .i64 (g8 : Int), .int .i64 (u : Int), .slice s6 n6 c6] 34) = y := ⟨_, rfl⟩
          have hb11 : Below w10.heap.size w10 W11 := by rw [← hW11]; exact (Below.refl _ _).alloc (Nat.le_refl _) _
          have hPK : ∃ B11 : Set_, LifeAt PAt SAt n w W11 (.pointer (some pa)) (.pointer (some ta)) ps ps false (20 * i + 2) B11 ∧ RV w W11 B11 (fun j => j = A6 ∨ j = w10.heap.size) A6 ps H g8 u (.slice s6 n6 c6) ∧ RV w W11 B11 (fun j => j = A6 ∨ j = w10.heap.size) w10.heap.size ps H g8 u (.slice s6 n6 c6) ∧ TV B11 W11 A8 [.slice sl NL cl, .int .i64 arm, .slice sk NK ck, .int .i64 again, .slice sh NH ch] := by
            have hR : RV w w10 _ (fun j => j = A6 ∨ j = w10.heap.size) A6 ps H g8 u (.slice s6 n6 c6) := (unhide HR10).turn fun j hj h => h.elim id fun h => by omega
            refine ⟨_, (unhide HO10).below HP HS hb11, hR.below hb11, ⟨by rw [← hW11]; exact (MapKept.heap_alloc w10 _).1, fun hB => by have := ((unhide HO10).inb _ hB).2; omega, (unhide HO10).b.size, hR.prs.below hb11⟩, (unhide HT10).below hb11⟩
          obtain ⟨B11, pk1, pk2, pk3, pk4⟩ := hPK
          have HA12 : Hid (A6 < w10.heap.size ∧ A8 < w10.heap.size) := ⟨lt_of_row (unhide HR10).row, lt_of_row (unhide HT10).row⟩
          obtain ⟨A12, hA12⟩ : ∃ y, w10.heap.size = y := ⟨_, rfl⟩
          rw [hA12] at pk2 pk3 HA12
          have HO11 := hide pk1
          have HR11 := hide pk2
          have HQ11 := hide pk3
          have HT11 := hide pk4
          clear pk1 pk2 pk3 pk4 hb11 HO10 HR10 HT10
          have m0 := (unhide HT11).cell 0 _ rfl
          have hNL12 : NL ≤ 12 := by have h4 := (unhide HSM).1; have h5 := unhide HNL; omega
          go_wp2
          rename World => wo
          go_loopw [13, 96] (fun cc jj wr => ∃ (j g1 u1 n1 c1 g2 u2 n2 c2 : Nat) (s1 s2 : Option Addr) (cut : Bool) (B : Set_) (rp ap : List (Bs × Bs)), j ≤ NL ∧ jj = .int .i64 (j : Int) ∧ cc = .bool cut ∧ Hid (LifeAt PAt SAt n w wr (.pointer (some pa)) (.pointer (some ta)) rp ap cut (20 * i + 2 + j) B) ∧ Hid (RV w wr B (fun j => j = A6 ∨ j = A12) A6 rp H g1 u1 (.slice s1 n1 c1)) ∧ Hid (RV w wr B (fun j => j = A6 ∨ j = A12) A12 ap H g2 u2 (.slice s2 n2 c2)) ∧ Hid (TV B wr A8 [.slice sl NL cl, .int .i64 arm, .slice sk NK ck, .int .i64 again, .slice sh NH ch])) (fun _ jj _ => NL - (intOf jj).toNat)
          case atStart => exact ⟨0, _, _, _, _, _, _, _, _, _, _, false, B11, ps, ps, by omega, rfl, rfl, unhide HO11, unhide HR11, unhide HQ11, unhide HT11⟩
          case round =>
            obtain ⟨j, g1, u1, n1, c1, g2, u2, n2, c2, s1, s2, cut, B, rp, ap, hj, rfl, rfl, HL, HR, HQ, HT⟩ := hrel
            clear HO11 HR11 HQ11 HT11 m0 r0 r1 r2 r3
            by_cases hlt2 : j < NL
            · obtain ⟨l, g3, o3, s15, c15, hop, hsl, k0, hch⟩ := ((unhide HLi).below (unhide HL).b).one (i := j) (by have := unhide HNL; omega)
              subst hsl
              have hsl2 : SmallL l := (unhide HSM).2 l (List.mem_of_getElem? hop)
              obtain ⟨M, hM⟩ : ∃ y, l.length = y := ⟨_, rfl⟩
              rw [hM] at k0 hch
              have HM := hide hM
              have HCH := hide hch
              have HSl := hide hsl2
              have f2 : decide ((j : Int) < (NL : Int)) = true := by simp; omega
              have f2n : decide (j < NL) = true := by simp; omega
              have l0 : (0 : Int) ≤ (j : Int) := by omega
              have l1 : (j : Int) < (NL : Int) := by omega
              have HRp := hide (unhide HL).right
              have Hco := hide (LifeAt.commit HP HS (unhide HL) (unhide HCH) (fun q hq hB => by have h4 := ((unhide HL).inb q hB).1; have h5 : q < w.heap.size := hq; omega) (unhide HSl).1 (by omega))
              clear hM hch hsl2 hop
              go_upto_region 29 with (first
                | (go_at_call 14; refine (unhide Hco).mono ?_; rintro e w2 ⟨cd, rfl, hd, a2⟩
                   have HD := hide hd
                   have HR2 := hide ((unhide HR).call a2)
                   have HQ2 := hide ((unhide HQ).call a2)
                   have HT2 := hide ((unhide HT).call a2)
                   have HCH2 : Hid (ChsAt (fun q => q < w.heap.size) w2 (.slice s15 M c15) l) := (unhide HCH).aside a2 fun q hq hl => by have h4 := ((unhide HL).inb q hq).1; have h5 : q < w.heap.size := hl; omega
                   clear hd a2))
              obtain ⟨B2, hB2⟩ : ∃ y, BN B wr w2 = y := ⟨_, rfl⟩
              rw [hB2] at HD HR2 HQ2 HT2
              have HRp2 : Hid (RightP rp ∧ RightP ap ∧ rp.length ≤ 65536) := HRp
              clear hB2 Hco HL HR HQ HT HCH k0
              cases unhide HD with
              | closed hL =>
                have HL2 := hide hL
                clear hL HD
                go_wp2
                exact ⟨⟨j + 1, _, _, _, _, _, _, _, _, _, _, true, B2, rp, ap, by omega, by simp, rfl, unhide HL2, HR2, HQ2, HT2⟩, by simp [intOf]; omega⟩
              | ok hL hr =>
                have HL2 := hide hL
                clear hL HD
                obtain ⟨r0, r1, r2, r3⟩ := (unhide HR2).cells
                go_upto_region 36 with (fail)
                obtain ⟨W3, hW3⟩ : ∃ y, w2.alloc (.cells #[.int .i64 (H : Int), .int .i64 (g1 : Int), .int .i64 (u1 : Int), .slice s1 n1 c1] 34) = y := ⟨_, rfl⟩
                have hb3 : Below w2.heap.size w2 W3 := by rw [← hW3]; exact (Below.refl _ _).alloc (Nat.le_refl _) _
                have HV3 : Hid (RV w W3 B2 (fun j => (j = A6 ∨ j = A12) ∨ j = w2.heap.size) w2.heap.size rp H g1 u1 (.slice s1 n1 c1)) := ⟨by rw [← hW3]; exact (MapKept.heap_alloc w2 _).1, fun hB => by have := ((unhide HL2).inb _ hB).2; omega, (unhide HL2).b.size, ((unhide HR2).turn fun q hq h => h.elim id fun h => by omega).prs.below hb3⟩
                have HL3 := hide ((unhide HL2).below HP HS hb3)
                have HR3 : Hid (RV w W3 B2 (fun j => (j = A6 ∨ j = A12) ∨ j = w2.heap.size) A6 rp H g1 u1 (.slice s1 n1 c1)) := ((unhide HR2).turn fun q hq h => h.elim id fun h => by omega).below hb3
                have HQ3 : Hid (RV w W3 B2 (fun j => (j = A6 ∨ j = A12) ∨ j = w2.heap.size) A12 ap H g2 u2 (.slice s2 n2 c2)) := ((unhide HQ2).turn fun q hq h => h.elim id fun h => by omega).below hb3
                have HT3 := hide ((unhide HT2).below hb3)
                have HC3 := hide ((unhide HCH2).below hb3)
                have HAn : Hid (A6 < w2.heap.size ∧ A12 < w2.heap.size ∧ A8 < w2.heap.size) := ⟨lt_of_row (unhide HR2).row, lt_of_row (unhide HQ2).row, lt_of_row (unhide HT2).row⟩
                obtain ⟨A17, hA17⟩ : ∃ y, w2.heap.size = y := ⟨_, rfl⟩
                rw [hA17] at HV3 HAn HR3 HQ3
                rw [hA17, hW3]
                clear r0 r1 r2 r3 hW3 hb3 HL2 HR2 HQ2 HT2 HCH2 hA17
                have HLQ := HL3
                have Hwp := hide (with_plain (X := (fun j => (j = A6 ∨ j = A12) ∨ j = A17)) (w := W3.drew) (unhide HL3).inb (fun q hq => by rcases hq with (rfl | rfl) | rfl; exact ⟨(unhide HR3).ge, lt_of_row (unhide HR3).row⟩; exact ⟨(unhide HQ3).ge, lt_of_row (unhide HQ3).row⟩; exact ⟨(unhide HV3).ge, lt_of_row (unhide HV3).row⟩) ((unhide HV3).prs.below (Below.refl _ _).drew) ((unhide HC3).below (Below.refl _ _).drew) (unhide HSl) (unhide HRp).1 (by have := (unhide HRp).2.2; omega))
                obtain ⟨QP, hQP⟩ : ∃ y, withP rp l = y := ⟨_, rfl⟩
                rw [hQP] at Hwp HLQ
                clear hQP
                obtain ⟨NW, hNW⟩ : ∃ y, QP.length = y := ⟨_, rfl⟩
                have HNW := hide hNW
                clear hNW
                have x3 : W3.drew.cell? ⟨A6, 3, none⟩ = some (.slice s1 n1 c1) := (unhide HR3).cells.2.2.2
                go_region_law (first
                  | (go_simp
                     go_at_call 13
                     refine (unhide Hwp).1.mono ?_
                     rintro e w5 ⟨v5, rfl, hc5, hb5⟩
                     obtain ⟨s5, c5, e5, _⟩ := id hc5.form
                     rw [unhide HM] at e5
                     subst e5
                     have HC5 := hide hc5
                     have HB5 := hide hb5
                     have x35 := cell_low x3 hb5
                     clear hc5 hb5
                     go_simp)
                  | (go_simp
                     go_at_call 25
                     refine ((unhide Hwp).2 _ _ (unhide HC5) (unhide HB5)).mono ?_
                     rintro e w6 ⟨v6, rfl, hq6, hb6⟩
                     obtain ⟨s6', c6', e6, _⟩ := id hq6.form
                     rw [unhide HNW] at e6
                     subst e6
                     have HQ6 := hide hq6
                     have HB6 : Hid (Below W3.heap.size W3 w6) := (Below.refl _ _).drew.trans ((unhide HB5).trans (hb6.mono (unhide HB5).size))
                     have z3 := row_frozen ((unhide HV3).below (unhide HB6)).row 3
                     have y3 := ((unhide HV3).below (unhide HB6)).cells.2.2.2
                     clear hq6 hb6
                     go_simp))
                all_goals
                  have hA17n := unhide HAn
                  have HL7 := hide (((unhide HLQ).below HP HS (unhide HB6)).aside HP HS (set_aside w6 A17 3 (.slice s6' NW c6')) (fun q hq => hq ▸ (unhide HV3).out) fun q hq => hq ▸ (unhide HV3).ge)
                  have HR7 := hide (((unhide HR3).below (unhide HB6)).other (set_aside w6 A17 3 (.slice s6' NW c6')) (by omega) (Or.inr rfl))
                  have HQ7 := hide (((unhide HQ3).below (unhide HB6)).other (set_aside w6 A17 3 (.slice s6' NW c6')) (by omega) (Or.inr rfl))
                  have HT7 := hide (((unhide HT3).below (unhide HB6)).other (set_aside w6 A17 3 (.slice s6' NW c6')) (by omega))
                  have HV7 := hide (((unhide HV3).below (unhide HB6)).pairs (Or.inr rfl) (unhide HQ6))
                  obtain ⟨W7, hW7⟩ : ∃ y, w6.setCell ⟨A17, 3, none⟩ (.slice s6' NW c6') = y := ⟨_, rfl⟩
                  rw [hW7] at HL7 HR7 HQ7 HT7 HV7 ⊢
                  clear hW7 hA17n HL3 HLQ HR3 HQ3 HT3 HV3 HC3 HQ6 HB6 z3 y3 x3 x35 HB5 HC5 Hwp
                  go_upto_region 39 with (fail)
                  obtain ⟨r0, r1, r2, r3⟩ := (unhide HV7).cells
                  have z0 := row_frozen (unhide HR7).row 0
                  have z1 := row_frozen (unhide HR7).row 1
                  have z2 := row_frozen (unhide HR7).row 2
                  have z3 := row_frozen (unhide HR7).row 3
                  have y0 := row_frozen (unhide HQ7).row 0
                  have y1 := row_frozen (unhide HQ7).row 1
                  have y2 := row_frozen (unhide HQ7).row 2
                  have y3 := row_frozen (unhide HQ7).row 3
                  obtain ⟨x0, x1, x2, x3⟩ := (unhide HR7).cells
                  obtain ⟨v0, v1, v2, v3⟩ := (unhide HQ7).cells
                  have n1' : ¬ A17 = A6 := by have := unhide HAn; omega
                  have n2' : ¬ A17 = A12 := by have := unhide HAn; omega
                  have n3' : ¬ A12 = A6 := by have := unhide HA12; omega
                  have n1'' : ¬ A6 = A17 := fun h => n1' h.symm
                  have n2'' : ¬ A12 = A17 := fun h => n2' h.symm
                  have n3'' : ¬ A6 = A12 := fun h => n3' h.symm
                  go_region
                  as_aux_lemma =>
                    obtain ⟨W9, hW9, b1, b2, b3, b4⟩ := both_put HP HS (h3 := H) (g3 := g1) (u3 := u1) (unhide HL7) (unhide HR7) (unhide HQ7) (unhide HT7) (Or.inl (Or.inl rfl)) (Or.inl (Or.inr rfl)) n3'' (by have := unhide HA86; omega) (by have := unhide HA12; omega) (unhide HV7).prs
                    unfold put4 at hW9
                    rw [← hW9]
                    have HL9 := hide b1.evened
                    have HR9 : Hid (RV w W9 B2 (fun j => j = A6 ∨ j = A12) A6 QP H g1 u1 (.slice s6' NW c6')) := b2.turn fun _ _ h => Or.inl h
                    have HQ9 : Hid (RV w W9 B2 (fun j => j = A6 ∨ j = A12) A12 QP H g1 u1 (.slice s6' NW c6')) := b3.turn fun _ _ h => Or.inl h
                    have HT9 := hide b4
                    clear hW9 b1 b2 b3 b4 r0 r1 r2 r3 z0 z1 z2 z3 y0 y1 y2 y3 x0 x1 x2 x3 v0 v1 v2 v3 n1' n2' n3' n1'' n2'' n3'' HL7 HR7 HQ7 HT7 HV7 HAn
                    go_wp2
                    exact ⟨⟨j + 1, _, _, _, _, _, _, _, _, _, _, false, B2, QP, QP, by omega, by simp, rfl, unhide HL9, HR9, HQ9, HT9⟩, by simp [intOf]; omega⟩
              | cut hL hr =>
                as_aux_lemma =>
                  have HL2 := hide hL
                  have HLQ := hide hL
                  clear hL HD
                  go_upto_region 33 with (fail)
                  have Hwp := hide (with_plain (X := (fun j => j = A6 ∨ j = A12)) (w := w2.drew) (unhide HL2).inb (fun q hq => by rcases hq with rfl | rfl; exact ⟨(unhide HR2).ge, lt_of_row (unhide HR2).row⟩; exact ⟨(unhide HQ2).ge, lt_of_row (unhide HQ2).row⟩) ((unhide HR2).prs.below (Below.refl _ _).drew) ((unhide HCH2).below (Below.refl _ _).drew) (unhide HSl) (unhide HRp).1 (by have := (unhide HRp).2.2; omega))
                  obtain ⟨QP, hQP⟩ : ∃ y, withP rp l = y := ⟨_, rfl⟩
                  rw [hQP] at Hwp HLQ
                  clear hQP
                  obtain ⟨NW, hNW⟩ : ∃ y, QP.length = y := ⟨_, rfl⟩
                  have HNW := hide hNW
                  clear hNW
                  have x3 : w2.drew.cell? ⟨A6, 3, none⟩ = some (.slice s1 n1 c1) := (unhide HR2).cells.2.2.2
                  go_region_law (first
                    | (go_simp
                       go_at_call 13
                       refine (unhide Hwp).1.mono ?_
                       rintro e w5 ⟨v5, rfl, hc5, hb5⟩
                       obtain ⟨s5, c5, e5, _⟩ := id hc5.form
                       rw [unhide HM] at e5
                       subst e5
                       have HC5 := hide hc5
                       have HB5 := hide hb5
                       have x35 := cell_low x3 hb5
                       clear hc5 hb5
                       go_simp)
                    | (go_simp
                       go_at_call 25
                       refine ((unhide Hwp).2 _ _ (unhide HC5) (unhide HB5)).mono ?_
                       rintro e w6 ⟨v6, rfl, hq6, hb6⟩
                       obtain ⟨s6', c6', e6, _⟩ := id hq6.form
                       rw [unhide HNW] at e6
                       subst e6
                       have HQ6 := hide hq6
                       have HB6 : Hid (Below w2.heap.size w2 w6) := (Below.refl _ _).drew.trans ((unhide HB5).trans (hb6.mono (unhide HB5).size))
                       have z3 := row_frozen ((unhide HQ2).below (unhide HB6)).row 3
                       have y3 := ((unhide HQ2).below (unhide HB6)).cells.2.2.2
                       clear hq6 hb6
                       go_simp))
                  all_goals
                    have h612 := unhide HA12
                    have HL7 := hide (((unhide HLQ).below HP HS (unhide HB6)).aside HP HS (set_aside w6 A12 3 (.slice s6' NW c6')) (fun q hq => hq ▸ (unhide HQ2).out) fun q hq => hq ▸ (unhide HQ2).ge)
                    have HR7 := hide (((unhide HR2).below (unhide HB6)).other (set_aside w6 A12 3 (.slice s6' NW c6')) (by omega) (Or.inr rfl))
                    have HQ7 := hide (((unhide HQ2).below (unhide HB6)).pairs (Or.inr rfl) (unhide HQ6))
                    have HT7 := hide (((unhide HT2).below (unhide HB6)).other (set_aside w6 A12 3 (.slice s6' NW c6')) (by omega))
                    obtain ⟨W7, hW7⟩ : ∃ y, w6.setCell ⟨A12, 3, none⟩ (.slice s6' NW c6') = y := ⟨_, rfl⟩
                    rw [hW7] at HL7 HR7 HQ7 HT7 ⊢
                    clear hW7 h612 HL2 HLQ HR2 HQ2 HT2 HCH2 HQ6 HB6 z3 y3 x3 x35 HB5 HC5 Hwp
                    go_wp2
                    exact ⟨⟨j + 1, _, _, _, _, _, _, _, _, _, _, true, B2, rp, QP, by omega, by simp, rfl, unhide HL7, HR7, HQ7, HT7⟩, by simp [intOf]; omega⟩
              | full hL =>
                have HL2 := hide hL
                clear hL HD
                obtain ⟨r0, r1, r2, r3⟩ := (unhide HR2).cells
                go_upto_region 39 with (fail)
                obtain ⟨W3, hW3⟩ : ∃ y, w2.alloc (.cells #[.int .i64 (H : Int), .int .i64 (g1 : Int), .int .i64 (u1 : Int), .slice s1 n1 c1] 34) = y := ⟨_, rfl⟩
                have hb3 : Below w2.heap.size w2 W3 := by rw [← hW3]; exact (Below.refl _ _).alloc (Nat.le_refl _) _
                have HV3 : Hid (RV w W3 B2 (fun j => (j = A6 ∨ j = A12) ∨ j = w2.heap.size) w2.heap.size rp H g1 u1 (.slice s1 n1 c1)) := ⟨by rw [← hW3]; exact (MapKept.heap_alloc w2 _).1, fun hB => by have := ((unhide HL2).inb _ hB).2; omega, (unhide HL2).b.size, ((unhide HR2).turn fun q hq h => h.elim id fun h => by omega).prs.below hb3⟩
                have HL3 := hide ((unhide HL2).below HP HS hb3)
                have HR3 : Hid (RV w W3 B2 (fun j => (j = A6 ∨ j = A12) ∨ j = w2.heap.size) A6 rp H g1 u1 (.slice s1 n1 c1)) := ((unhide HR2).turn fun q hq h => h.elim id fun h => by omega).below hb3
                have HQ3 : Hid (RV w W3 B2 (fun j => (j = A6 ∨ j = A12) ∨ j = w2.heap.size) A12 ap H g2 u2 (.slice s2 n2 c2)) := ((unhide HQ2).turn fun q hq h => h.elim id fun h => by omega).below hb3
                have HT3 := hide ((unhide HT2).below hb3)
                have HC3 := hide ((unhide HCH2).below hb3)
                have HAn : Hid (A6 < w2.heap.size ∧ A12 < w2.heap.size ∧ A8 < w2.heap.size) := ⟨lt_of_row (unhide HR2).row, lt_of_row (unhide HQ2).row, lt_of_row (unhide HT2).row⟩
                obtain ⟨A17, hA17⟩ : ∃ y, w2.heap.size = y := ⟨_, rfl⟩
                rw [hA17] at HV3 HAn HR3 HQ3
                rw [hA17, hW3]
                clear r0 r1 r2 r3 hW3 hb3 HL2 HR2 HQ2 HT2 HCH2 hA17
                obtain ⟨r0, r1, r2, r3⟩ := (unhide HV3).cells
                have z0 := row_frozen (unhide HR3).row 0
                have z1 := row_frozen (unhide HR3).row 1
                have z2 := row_frozen (unhide HR3).row 2
                have z3 := row_frozen (unhide HR3).row 3
                have y0 := row_frozen (unhide HQ3).row 0
                have y1 := row_frozen (unhide HQ3).row 1
                have y2 := row_frozen (unhide HQ3).row 2
                have y3 := row_frozen (unhide HQ3).row 3
                obtain ⟨x0, x1, x2, x3⟩ := (unhide HR3).cells
                obtain ⟨v0, v1, v2, v3⟩ := (unhide HQ3).cells
                have n1' : ¬ A17 = A6 := by have := unhide HAn; omega
                have n2' : ¬ A17 = A12 := by have := unhide HAn; omega
                have n3' : ¬ A12 = A6 := by have := unhide HA12; omega
                have n1'' : ¬ A6 = A17 := fun h => n1' h.symm
                have n2'' : ¬ A12 = A17 := fun h => n2' h.symm
                have n3'' : ¬ A6 = A12 := fun h => n3' h.symm
                go_region
                as_aux_lemma =>
                  obtain ⟨W9, hW9, b1, b2, b3, b4⟩ := both_put HP HS (h3 := H) (g3 := g1) (u3 := u1) (unhide HL3) (unhide HR3) (unhide HQ3) (unhide HT3) (Or.inl (Or.inl rfl)) (Or.inl (Or.inr rfl)) n3'' (by have := unhide HA86; omega) (by have := unhide HA12; omega) (unhide HV3).prs
                  unfold put4 at hW9
                  rw [← hW9]
                  have HL9 := hide b1.evened
                  have HR9 : Hid (RV w W9 B2 (fun j => j = A6 ∨ j = A12) A6 rp H g1 u1 (.slice s1 n1 c1)) := b2.turn fun _ _ h => Or.inl h
                  have HQ9 : Hid (RV w W9 B2 (fun j => j = A6 ∨ j = A12) A12 rp H g1 u1 (.slice s1 n1 c1)) := b3.turn fun _ _ h => Or.inl h
                  have HT9 := hide b4
                  clear hW9 b1 b2 b3 b4 r0 r1 r2 r3 z0 z1 z2 z3 y0 y1 y2 y3 x0 x1 x2 x3 v0 v1 v2 v3 n1' n2' n3' n1'' n2'' n3'' HL3 HR3 HQ3 HT3 HV3 HAn
                  go_wp2
                  exact ⟨⟨j + 1, _, _, _, _, _, _, _, _, _, _, false, B2, rp, rp, by omega, by simp, rfl, unhide HL9, HR9, HQ9, HT9⟩, by simp [intOf]; omega⟩
              | form hL =>
                have HL2 := hide hL
                clear hL HD
                obtain ⟨r0, r1, r2, r3⟩ := (unhide HR2).cells
                go_upto_region 39 with (fail)
                obtain ⟨W3, hW3⟩ : ∃ y, w2.alloc (.cells #[.int .i64 (H : Int), .int .i64 (g1 : Int), .int .i64 (u1 : Int), .slice s1 n1 c1] 34) = y := ⟨_, rfl⟩
                have hb3 : Below w2.heap.size w2 W3 := by rw [← hW3]; exact (Below.refl _ _).alloc (Nat.le_refl _) _
                have HV3 : Hid (RV w W3 B2 (fun j => (j = A6 ∨ j = A12) ∨ j = w2.heap.size) w2.heap.size rp H g1 u1 (.slice s1 n1 c1)) := ⟨by rw [← hW3]; exact (MapKept.heap_alloc w2 _).1, fun hB => by have := ((unhide HL2).inb _ hB).2; omega, (unhide HL2).b.size, ((unhide HR2).turn fun q hq h => h.elim id fun h => by omega).prs.below hb3⟩
                have HL3 := hide ((unhide HL2).below HP HS hb3)
                have HR3 : Hid (RV w W3 B2 (fun j => (j = A6 ∨ j = A12) ∨ j = w2.heap.size) A6 rp H g1 u1 (.slice s1 n1 c1)) := ((unhide HR2).turn fun q hq h => h.elim id fun h => by omega).below hb3
                have HQ3 : Hid (RV w W3 B2 (fun j => (j = A6 ∨ j = A12) ∨ j = w2.heap.size) A12 ap H g2 u2 (.slice s2 n2 c2)) := ((unhide HQ2).turn fun q hq h => h.elim id fun h => by omega).below hb3
                have HT3 := hide ((unhide HT2).below hb3)
                have HC3 := hide ((unhide HCH2).below hb3)
                have HAn : Hid (A6 < w2.heap.size ∧ A12 < w2.heap.size ∧ A8 < w2.heap.size) := ⟨lt_of_row (unhide HR2).row, lt_of_row (unhide HQ2).row, lt_of_row (unhide HT2).row⟩
                obtain ⟨A17, hA17⟩ : ∃ y, w2.heap.size = y := ⟨_, rfl⟩
                rw [hA17] at HV3 HAn HR3 HQ3
                rw [hA17, hW3]
                clear r0 r1 r2 r3 hW3 hb3 HL2 HR2 HQ2 HT2 HCH2 hA17
                obtain ⟨r0, r1, r2, r3⟩ := (unhide HV3).cells
                have z0 := row_frozen (unhide HR3).row 0
                have z1 := row_frozen (unhide HR3).row 1
                have z2 := row_frozen (unhide HR3).row 2
                have z3 := row_frozen (unhide HR3).row 3
                have y0 := row_frozen (unhide HQ3).row 0
                have y1 := row_frozen (unhide HQ3).row 1
                have y2 := row_frozen (unhide HQ3).row 2
                have y3 := row_frozen (unhide HQ3).row 3
                obtain ⟨x0, x1, x2, x3⟩ := (unhide HR3).cells
                obtain ⟨v0, v1, v2, v3⟩ := (unhide HQ3).cells
                have n1' : ¬ A17 = A6 := by have := unhide HAn; omega
                have n2' : ¬ A17 = A12 := by have := unhide HAn; omega
                have n3' : ¬ A12 = A6 := by have := unhide HA12; omega
                have n1'' : ¬ A6 = A17 := fun h => n1' h.symm
                have n2'' : ¬ A12 = A17 := fun h => n2' h.symm
                have n3'' : ¬ A6 = A12 := fun h => n3' h.symm
                go_region
                as_aux_lemma =>
                  obtain ⟨W9, hW9, b1, b2, b3, b4⟩ := both_put HP HS (h3 := H) (g3 := g1) (u3 := u1) (unhide HL3) (unhide HR3) (unhide HQ3) (unhide HT3) (Or.inl (Or.inl rfl)) (Or.inl (Or.inr rfl)) n3'' (by have := unhide HA86; omega) (by have := unhide HA12; omega) (unhide HV3).prs
                  unfold put4 at hW9
                  rw [← hW9]
                  have HL9 := hide b1.evened
                  have HR9 : Hid (RV w W9 B2 (fun j => j = A6 ∨ j = A12) A6 rp H g1 u1 (.slice s1 n1 c1)) := b2.turn fun _ _ h => Or.inl h
                  have HQ9 : Hid (RV w W9 B2 (fun j => j = A6 ∨ j = A12) A12 rp H g1 u1 (.slice s1 n1 c1)) := b3.turn fun _ _ h => Or.inl h
                  have HT9 := hide b4
                  clear hW9 b1 b2 b3 b4 r0 r1 r2 r3 z0 z1 z2 z3 y0 y1 y2 y3 x0 x1 x2 x3 v0 v1 v2 v3 n1' n2' n3' n1'' n2'' n3'' HL3 HR3 HQ3 HT3 HV3 HAn
                  go_wp2
                  exact ⟨⟨j + 1, _, _, _, _, _, _, _, _, _, _, false, B2, rp, rp, by omega, by simp, rfl, unhide HL9, HR9, HQ9, HT9⟩, by simp [intOf]; omega⟩
            · have hjn : NL = j := by omega
              subst hjn
              have f2 : decide ((NL : Int) < (NL : Int)) = false := by simp
              have f2n : decide (NL < NL) = false := by simp
              have m2 := (unhide HT).cell 2 _ rfl
              have HRi := hide (unhide HL).right
              go_upto_region 42 with (first
                | (go_at_call 24; refine (LifeAt.revive HP (unhide HL) ((unhide HKe).below (unhide HL).b) (vals_low (unhide HKe) (unhide HL).inb)).mono ?_; rintro e w3 ⟨rfl, ⟨qs, hqs, h3⟩, a3⟩
                   have HO3 := hide h3
                   have HR3 := hide ((unhide HR).call a3)
                   have HQ3 := hide ((unhide HQ).call a3)
                   have HE3 := hide hqs
                   clear h3 a3 hqs))
              clear HL HR HQ HT m2
              go_upto_region 43 with (first
                | (go_at_call 10; refine (RestAt.open_ HP HS (unhide HO3) (by omega)).mono ?_; rintro e w4 ⟨tb, rfl, h4, a4⟩
                   have HO4 := hide h4
                   have HR4 := hide ((unhide HR3).call a4)
                   have HQ4 := hide ((unhide HQ3).call a4)
                   clear h4 a4))
              clear HO3 HR3 HQ3
              obtain ⟨r0, r1, r2, r3⟩ := (unhide HR4).cells
              obtain ⟨q0, q1, q2, q3⟩ := (unhide HQ4).cells
              have HSa := hide (fun w' (hb : Below w4.heap.size w4 w') => LifeAt.same HS ((unhide HO4).below HP HS hb) ((unhide HR4).below hb).prs (unhide HRi).1 H g1 u1)
              by_cases hq : qs = rp
              · as_aux_lemma =>
                rw [decide_eq_true hq] at HSa
                subst hq
                go_upto_region 45 with (first
                  | (go_at_call 21; refine (unhide HSa _ (Below.refl _ _)).mono ?_; rintro e w5 ⟨rfl, b5⟩
                     have HB5 := hide b5
                     clear b5))
                obtain ⟨r0', r1', r2', r3'⟩ := ((unhide HR4).below (unhide HB5)).cells
                go_wp2_with (first
                  | (go_at_call 21; refine (unhide HSa _ (unhide HB5)).mono ?_; rintro e w6 ⟨rfl, b6⟩
                     have HB6 := hide ((unhide HB5).trans (b6.mono (unhide HB5).size))
                     clear b6))
                have HO6 := hide (((unhide HO4).below HP HS (unhide HB6)).rest.uncalm (k' := 20 * (i + 1)) (by omega))
                have HR6 : Hid (RV w w6 _ (fun j => j = A6) A6 qs H g1 u1 (.slice s1 n1 c1)) := ((unhide HR4).below (unhide HB6)).turn fun _ _ h => Or.inl h
                exact ⟨⟨i + 1, _, _, _, _, _, _, _, by omega, by simp, HO6, HR6⟩, by simp [intOf]; omega⟩
              · have hqa : qs = ap := (unhide HE3).resolve_left hq
                rw [decide_eq_false hq] at HSa
                subst hqa
                clear hq HE3
                have HSb := hide (fun w' (hb : Below w4.heap.size w4 w') => LifeAt.same HS ((unhide HO4).below HP HS hb) ((unhide HQ4).below hb).prs (unhide HRi).2.1 H g2 u2)
                rw [decide_eq_true (rfl : qs = qs)] at HSb
                go_upto_region 45 with (first
                  | (go_at_call_of 21 (Value.slice s1 n1 c1); refine (unhide HSa _ (Below.refl _ _)).mono ?_; rintro e w5 ⟨rfl, b5⟩
                     have HB5 := hide b5
                     obtain ⟨q0', q1', q2', q3'⟩ := ((unhide HQ4).below (unhide HB5)).cells
                     clear b5)
                  | (go_at_call_of 21 (Value.slice s2 n2 c2); refine (unhide HSb _ (unhide HB5)).mono ?_; rintro e w6 ⟨rfl, b6⟩
                     have HB6 := hide ((unhide HB5).trans (b6.mono (unhide HB5).size))
                     clear b6))
                obtain ⟨r0', r1', r2', r3'⟩ := ((unhide HR4).below (unhide HB6)).cells
                go_upto_region 46 with (first
                  | (go_at_call 21; refine (unhide HSa _ (unhide HB6)).mono ?_; rintro e w7 ⟨rfl, b7⟩
                     have HB7 := hide ((unhide HB6).trans (b7.mono (unhide HB6).size))
                     clear b7))
                clear q0 q1 q2 q3 q0' q1' q2' q3' r0 r1 r2 r3 r0' r1' r2' r3'
                have HR7 := hide ((unhide HR4).below (unhide HB7))
                have HQ7 := hide ((unhide HQ4).below (unhide HB7))
                have HO7 := hide ((unhide HO4).below HP HS (unhide HB7)).rest
                clear HSa HSb HO4 HR4 HQ4 HB5 HB6 HB7
                obtain ⟨q0, q1, q2, q3⟩ := (unhide HQ7).cells
                obtain ⟨r0, r1, r2, r3⟩ := (unhide HR7).cells
                have z0 := row_frozen (unhide HR7).row 0
                have z1 := row_frozen (unhide HR7).row 1
                have z2 := row_frozen (unhide HR7).row 2
                have z3 := row_frozen (unhide HR7).row 3
                go_wp2
                have HR8 := hide (((unhide HR7).put (h' := H) (g' := g2) (u' := u2) (Or.inl rfl) (unhide HQ7).prs).turn (Y := fun j => j = A6) fun _ _ h => Or.inl h)
                have HO8 := hide ((RestAt.aside HP (unhide HO7) (put4_aside w7 A6 (.int .i64 (H : Int)) (.int .i64 (g2 : Int)) (.int .i64 (u2 : Int)) (.slice s2 n2 c2)) (fun q hq => hq ▸ (unhide HR7).out) fun q hq => hq ▸ (unhide HR7).ge).uncalm (k' := 20 * (i + 1)) (by omega))
                unfold put4 at HR8 HO8
                exact ⟨⟨i + 1, _, _, _, _, _, _, _, by omega, by simp, HO8, HR8⟩, by simp [intOf]; omega⟩
      · rw [decide_eq_false hsm] at Hsm
        clear hsm
        go_wp2_with (go_at_call 8; refine (unhide Hsm).mono ?_; rintro e w2 ⟨rfl, hb2⟩; have HO2 := hide ((unhide HO1).below HP hb2); clear hb2)
        go_ret
        exact ⟨rfl, (unhide HO2).b⟩
    · have hin : N = i := by omega
      subst hin
      have f1 : decide ((N : Int) < (N : Int)) = false := by simp
      have f1n : decide (N < N) = false := by simp
      go_wp2
      go_ret
      exact ⟨rfl, (unhide HO).b⟩
end
end Go.Proofs.YtbjgknoipbekoaaGreat
