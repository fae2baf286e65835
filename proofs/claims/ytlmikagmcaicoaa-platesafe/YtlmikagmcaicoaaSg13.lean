/-
  The statement PlateSafe, walked out of the record Plate.
-/
import Derived.Test.YtlmikagmcaicoaaSf13
namespace Go.Proofs.Ytlmikagmcaicoaa
open Go.RowKit
section
variable {PAt : Set_ → Set_ → World → Value → PS → Prop} (HP : Plate PAt)
set_option maxRecDepth 100000 in
set_option maxHeartbeats 16000000 in
include HP in
theorem safe_true (w : World) (x y z : Value) (old fresh : Bs) (sync : Bool) (keep : List Bool) (hx : BytesAt w x old) (hy : BytesAt w y fresh) (hz : ValsAt w z (keep.map .bool)) :
    Calls Try.prog 5 #[x, y, .bool sync, z] w fun e w' => e = .returned (.bool true) ∧ Below w.heap.size w w' := by
  obtain ⟨sx, cx, rfl, _, _, _⟩ := bytes_open hx
  obtain ⟨sy, cy, rfl, _, _, _⟩ := bytes_open hy
  obtain ⟨sz, cz, rfl⟩ := hz.form
  obtain ⟨lo, hlo⟩ : ∃ n, old.length = n := ⟨_, rfl⟩
  obtain ⟨lf, hlf⟩ : ∃ n, fresh.length = n := ⟨_, rfl⟩
  obtain ⟨m, hm⟩ : ∃ m, (keep.map Value.bool).length = m := ⟨_, rfl⟩
  have hm2 : keep.length = m := by rw [← hm, List.length_map]
  rw [hlo] at hx
  rw [hlf] at hy
  rw [hm] at hz
  rw [hlo, hlf, hm]
  obtain ⟨n, hn⟩ : ∃ n, min lo lf = n := ⟨_, rfl⟩
  have hmin : min (lo : Int) (lf : Int) = (n : Int) := by omega
  have HX := hide hx
  have HY := hide hy
  have HZ := hide hz
  have HM := hide hm2
  have HL : Hid (n ≤ old.length ∧ n ≤ fresh.length) := ⟨by omega, by omega⟩
  have HMin := hide hmin
  clear hx hy hz hlo hlf hm hm2 hn hmin
  have Ha := hide (anchor_c HP w)
  go_enter Try.func5, Try.ntmps5
  go_wp2_with fail
  refine (unhide Ha).mono ?_
  rintro e w1 ⟨rfl, hb1⟩
  have HB1 := hide hb1
  clear hb1 Ha
  have Hcase : Hid (((lf : Int) < (lo : Int) ∧ n = lf) ∨ (¬ (lf : Int) < (lo : Int) ∧ n = lo)) := by
    have := unhide HMin
    show _ ∨ _
    omega
  by_cases g1 : 60 < n
  · have d1 : decide ((60 : Int) < (n : Int)) = true := by simp; omega
    have d1n : decide (60 < n) = true := by simp; omega
    have d2 : (60 : Int) < (n : Int) := by omega
    rcases unhide Hcase with ⟨q1, q2⟩ | ⟨q1, q2⟩
    · subst q2
      have q3 : decide ((n : Int) < (lo : Int)) = true := decide_eq_true q1
      go_wp2
      go_ret
      exact ⟨rfl, unhide HB1⟩
    · subst q2
      have q3 : decide ((lf : Int) < (n : Int)) = false := decide_eq_false q1
      go_wp2
      go_ret
      exact ⟨rfl, unhide HB1⟩
  have Hn : Hid (Calls Try.prog 9 #[.int .i64 64] w1 fun e w' => ∃ p, e = .returned p ∧ ∃ S R, PAt S R w' p (newS 64) ∧ (∀ k, S k ∨ R k → w1.heap.size ≤ k) ∧ Below w1.heap.size w1 w') := HP.new_yes w1 64 (by omega) (by omega)
  have d1 : decide ((60 : Int) < (n : Int)) = false := by simp; omega
  have d1n : decide (60 < n) = false := by simp; omega
  have d2 : ¬ (60 : Int) < (n : Int) := by omega
  have hn60 : n ≤ 60 := by omega
  rcases unhide Hcase with ⟨q1, q2⟩ | ⟨q1, q2⟩
  · subst q2
    have q3 : decide ((n : Int) < (lo : Int)) = true := decide_eq_true q1
    have HLe : Hid (n ≤ lo) := by show _ ≤ _; omega
    clear Hcase HMin
    go_wp2_with fail
    refine (unhide Hn).mono ?_
    rintro e w2 ⟨p, rfl, S, R, hp, hge, hb⟩
    obtain ⟨pa, rfl⟩ := HP.ptr hp
    have H1 : Hid (One PAt w w2 (.pointer (some pa)) S R (genS (List.replicate 64 zeros) old 0)) := ⟨hp, fun k hk => Nat.le_trans (unhide HB1).size (hge k hk), (unhide HB1).trans (hb.mono (unhide HB1).size)⟩
    clear hp hge hb Hn HB1 d1 d1n d2 g1
    go_wp2
    clear q1 q3
    go_loopw [30] (fun ii wr => ∃ (i : Nat) (S R : Set_), i ≤ n ∧ ii = .int .i64 (i : Int) ∧ Hid (One PAt w wr (.pointer (some pa)) S R (genS (List.replicate 64 zeros) old i))) (fun ii _ => n - (intOf ii).toNat)
    case atStart => exact ⟨0, S, R, by omega, rfl, H1⟩
    case round =>
      clear H1
      obtain ⟨i, S1, R1, hi, rfl, Ho⟩ := hrel
      by_cases hlt : i < n
      · obtain ⟨bx, ox, rfl, c1⟩ := byte_arg ((unhide HX).below (unhide Ho).b) (i := i) (by have := (unhide HL).1; omega)
        obtain ⟨C, hC⟩ : ∃ q, old.getD i 0 = q := ⟨_, rfl⟩
        have hwe := gen_we (sf := (List.replicate 64 zeros)) (List.length_replicate) old (i := i) (by omega)
        have hws := gen_ws (sf := (List.replicate 64 zeros)) (List.length_replicate) old (i := i) (by omega)
        rw [hC] at c1 hwe hws
        obtain ⟨C2, hC2⟩ : ∃ q, C.toNat = q := ⟨_, rfl⟩
        rw [hC2] at c1
        have f1 : decide ((i : Int) < (n : Int)) = true := by simp; omega
        have f1n : decide (i < n) = true := by simp; omega
        have j0 : (0 : Int) ≤ (i : Int) := by omega
        have j1 : (i : Int) < (n : Int) := by omega
        have j2 : (i : Int) < (lo : Int) := by have := unhide HLe; omega
        have Hf := hide (fill_c wr C 64 (by omega))
        rw [hC2] at Hf
        have Hwe := hide hwe
        have Hws := hide hws
        clear hC hC2 hwe hws
        go_wp2_with fail
        refine (unhide Hf).mono ?_
        rintro e w3 ⟨O, rfl, hO, hb⟩
        have hOw := (World.ownsRow.lt hO O rfl).1
        have Hs := hide (HP.write (i : Int) _ _ ((unhide Ho).below HP hb).p hO.bytes (fun _ k hk => (unhide Ho).new HP (by simp only [Value.ownBlock, Option.some.injEq] at hk; omega)) (by simp) (by show (seqW _ _).length ≤ _; rw [seq_len]; omega) (by omega) (by omega))
        rw [unhide Hwe, unhide Hws] at Hs
        have H3 := hide ((unhide Ho).below HP hb)
        clear hO hb hOw Hf Ho Hwe Hws
        go_wp2_with fail
        refine (unhide Hs).mono ?_
        rintro e w4 ⟨rfl, S4, R4, hp, hS, hR, ha⟩
        have H4 := hide ((unhide H3).call hp hS hR ha)
        clear hp hS hR ha Hs H3
        go_wp2
        refine ⟨⟨i + 1, S4, R4, by omega, ?_, H4⟩, ?_⟩
        · simp
        · simp [intOf]; omega
      · obtain rfl : i = n := by omega
        have f1 : decide ((i : Int) < (i : Int)) = false := by simp
        have Hs := hide (HP.sync (unhide Ho).p (by show (seqW _ _).length ≤ _; rw [seq_len]; omega))
        rw [gen_se, gen_ss _ _ fresh] at Hs
        go_wp2_with fail
        refine (unhide Hs).mono ?_
        rintro e w2 ⟨rfl, S2, R2, hp, hS, hR, ha⟩
        have H2 : Hid (One PAt w w2 (.pointer (some pa)) S2 R2 (genS (safeSF old i) fresh 0)) := (unhide Ho).call hp hS hR ha
        clear hp hS hR ha Hs Ho f1 hlt hi
        obtain ⟨n, hn⟩ : ∃ n, i = n := ⟨_, rfl⟩
        subst hn
        go_wp2
        go_loopw [47] (fun ii wr => ∃ (j : Nat) (S R : Set_), j ≤ i ∧ ii = .int .i64 (j : Int) ∧ Hid (One PAt w wr (.pointer (some pa)) S R (genS (safeSF old i) fresh j))) (fun ii _ => i - (intOf ii).toNat)
        case atStart => exact ⟨0, S2, R2, by omega, rfl, H2⟩
        case round =>
          clear H2
          rename World => wq
          obtain ⟨j, S1, R1, hi, rfl, Ho⟩ := hrel
          by_cases hlt : j < i
          · obtain ⟨bx, ox, rfl, c1⟩ := byte_arg ((unhide HY).below (unhide Ho).b) (i := j) (by have := (unhide HL).2; omega)
            obtain ⟨C, hC⟩ : ∃ q, fresh.getD j 0 = q := ⟨_, rfl⟩
            have hwe := gen_we (sf := (safeSF old i)) (safeSF_len _ _) fresh (i := j) (by omega)
            have hws := gen_ws (sf := (safeSF old i)) (safeSF_len _ _) fresh (i := j) (by omega)
            rw [hC] at c1 hwe hws
            obtain ⟨C2, hC2⟩ : ∃ q, C.toNat = q := ⟨_, rfl⟩
            rw [hC2] at c1
            have f1 : decide ((j : Int) < (i : Int)) = true := by simp; omega
            have f1n : decide (j < i) = true := by simp; omega
            have j0 : (0 : Int) ≤ (j : Int) := by omega
            have j1 : (j : Int) < (i : Int) := by omega
            have j2 : (j : Int) < (i : Int) := by have := unhide HLe; omega
            have Hf := hide (fill_c wq C 64 (by omega))
            rw [hC2] at Hf
            have Hwe := hide hwe
            have Hws := hide hws
            clear hC hC2 hwe hws
            go_wp2_with fail
            refine (unhide Hf).mono ?_
            rintro e w3 ⟨O, rfl, hO, hb⟩
            have hOw := (World.ownsRow.lt hO O rfl).1
            have Hs := hide (HP.write (j : Int) _ _ ((unhide Ho).below HP hb).p hO.bytes (fun _ k hk => (unhide Ho).new HP (by simp only [Value.ownBlock, Option.some.injEq] at hk; omega)) (by simp) (by show (seqW _ _).length ≤ _; rw [seq_len]; omega) (by omega) (by omega))
            rw [unhide Hwe, unhide Hws] at Hs
            have H3 := hide ((unhide Ho).below HP hb)
            clear hO hb hOw Hf Ho Hwe Hws
            go_wp2_with fail
            refine (unhide Hs).mono ?_
            rintro e w4 ⟨rfl, S4, R4, hp, hS, hR, ha⟩
            have H4 := hide ((unhide H3).call hp hS hR ha)
            clear hp hS hR ha Hs H3
            go_wp2
            refine ⟨⟨j + 1, S4, R4, by omega, ?_, H4⟩, ?_⟩
            · simp
            · simp [intOf]; omega
          · obtain rfl : j = i := by omega
            have f1 : decide ((j : Int) < (j : Int)) = false := by simp
            have hfew : (genS (safeSF old j) fresh j).loose.length ≤ 100000 := by show (seqW _ _).length ≤ _; rw [seq_len]; omega
            have Hfew := hide hfew
            clear hfew
            cases sync
            case' true =>
              have Hs := hide (HP.sync (unhide Ho).p (unhide Hfew))
              go_wp2_with fail
              refine (unhide Hs).mono ?_
              rintro e w3 ⟨rfl, S3, R3, hp, hS, hR, ha⟩
              have H3 : Hid (One PAt w w3 (.pointer (some pa)) S3 R3 (if true = true then syncS (genS (safeSF old j) fresh j) else genS (safeSF old j) fresh j)) := (unhide Ho).call hp hS hR ha
              have Hl3 : Hid ((if true = true then syncS (genS (safeSF old j) fresh j) else genS (safeSF old j) fresh j).loose.length ≤ 100000) := by show ([] : List (Nat × Bs)).length ≤ _; simp
              clear hp hS hR ha Hs Ho Hfew
              have Hr := hide (HP.revive _ keep (unhide H3).p ((unhide HZ).below (unhide H3).b) (fun hne k hk hS => by
                have h1 := (unhide H3).ge k (Or.inl hS)
                have h2 := ValsAt.old (unhide HZ) (by simpa using hne) k hk
                omega) (unhide Hl3))
              go_wp2_with fail
              refine (unhide Hr).mono ?_
              rintro e w4 ⟨rfl, S4, R4, hp, hS, hR, ha⟩
              have H4 : Hid (One PAt w w4 (.pointer (some pa)) S4 R4 (safeT old fresh j true keep)) := (unhide H3).call hp hS hR ha
              clear hp hS hR ha Hr H3 Hl3
            case' false =>
              have Hr := hide (HP.revive _ keep (unhide Ho).p ((unhide HZ).below (unhide Ho).b) (fun hne k hk hS => by
                have h1 := (unhide Ho).ge k (Or.inl hS)
                have h2 := ValsAt.old (unhide HZ) (by simpa using hne) k hk
                omega) (unhide Hfew))
              go_wp2_with fail
              refine (unhide Hr).mono ?_
              rintro e w4 ⟨rfl, S4, R4, hp, hS, hR, ha⟩
              have H4 : Hid (One PAt w w4 (.pointer (some pa)) S4 R4 (safeT old fresh j false keep)) := (unhide Ho).call hp hS hR ha
              clear hp hS hR ha Hr Ho Hfew
            case' true =>
              go_wp2
              go_loopw [66] (fun ii wr => ∃ (q : Nat), q ≤ j ∧ ii = .int .i64 (q : Int) ∧ Hid (One PAt w wr (.pointer (some pa)) S4 R4 (safeT old fresh j true keep))) (fun ii _ => j - (intOf ii).toNat)
              case atStart => exact ⟨0, by omega, rfl, H4⟩
              case round =>
                clear H4
                rename World => wz
                obtain ⟨q, hq, rfl, Ho⟩ := hrel
                by_cases hlt2 : q < j
                · obtain ⟨bo, oo, rfl, co⟩ := byte_arg ((unhide HX).below (unhide Ho).b) (i := q) (by have := (unhide HL).1; omega)
                  obtain ⟨bf, of_, rfl, cf⟩ := byte_arg ((unhide HY).below (unhide Ho).b) (i := q) (by have := (unhide HL).2; omega)
                  have hre := safeT_e old fresh j true keep (i := q) (by omega)
                  have hrb := safe40 old fresh (n := j) (by omega) true keep (i := q) hlt2
                  obtain ⟨CO, hCO⟩ : ∃ y, (old.getD q 0).toNat = y := ⟨_, rfl⟩
                  obtain ⟨CF, hCF⟩ : ∃ y, (fresh.getD q 0).toNat = y := ⟨_, rfl⟩
                  rw [hCO] at co
                  rw [hCF] at cf
                  obtain ⟨WW, hWW⟩ : ∃ y, safeW old fresh true keep q = y := ⟨_, rfl⟩
                  rw [hWW] at hrb
                  have Hp := hide (HP.read (q : Int) (unhide Ho).p (by show ([] : List (Nat × Bs)).length ≤ _; simp) (by omega) (by omega))
                  rw [hre, hrb] at Hp
                  have f1 : decide ((q : Int) < (j : Int)) = true := by simp; omega
                  have f1n : decide (q < j) = true := by simp; omega
                  have j0 : (0 : Int) ≤ (q : Int) := by omega
                  have j1 : (q : Int) < (j : Int) := by omega
                  have j2 : (q : Int) < (lo : Int) := by have := unhide HLe; omega
                  have j3 : (q : Int) < (j : Int) := by have := unhide HLe; omega
                  have HWv : Hid (WW.toNat = CF) := by show _ = _; rw [← hWW, ← hCF]; rfl
                  clear hWW hCO hCF
                  all_goals
                    obtain ⟨W1, hW1⟩ : ∃ y, WW.toNat = y := ⟨_, rfl⟩
                    have HW1 := hide hW1
                    rw [hW1] at HWv
                    have Hwv2 := unhide HWv
                    subst Hwv2
                    clear hre hrb hW1 HWv
                    go_wp2_with fail
                    refine (unhide Hp).mono ?_
                    rintro e w5 ⟨v, rfl, hO, hb⟩
                    obtain ⟨sv, cv, rfl⟩ := hO.form
                    rw [List.length_replicate] at hO ⊢
                    have H5 := hide ((unhide Ho).below HP hb)
                    have HO5 := hide hO
                    have Hf := hide (fill_c w5 WW 64 (by omega))
                    rw [unhide HW1] at Hf
                    clear hO hb Hp Ho
                    go_wp2_with fail
                    refine (unhide Hf).mono ?_
                    rintro e w6 ⟨O, rfl, hO, hb⟩
                    have H6 := hide ((unhide H5).below HP hb)
                    have Hsame := hide (same_any w6 _ _ (List.replicate 64 WW) (List.replicate 64 WW) ((unhide HO5).below hb).bytes hO.bytes (by simp))
                    rw [decide_eq_true (rfl : List.replicate 64 WW = List.replicate 64 WW)] at Hsame
                    clear hO hb Hf H5 HO5
                    go_wp2_with fail
                    refine (unhide Hsame).mono ?_
                    rintro e w7 ⟨rfl, hb⟩
                    have H7 := hide ((unhide H6).below HP hb)
                    clear hb Hsame H6
                    go_wp2
                    refine ⟨⟨q + 1, by omega, ?_, H7⟩, ?_⟩
                    · simp
                    · simp [intOf]; omega
                · obtain rfl : q = j := by omega
                  have f1 : decide ((q : Int) < (q : Int)) = false := by simp
                  have Hl := hide (HP.loose (unhide Ho).p)
                  rw [show (safeT old fresh q true keep).loose.length = 0 from rfl] at Hl
                  go_wp2_with fail
                  refine (unhide Hl).mono ?_
                  rintro e w5 ⟨rfl, hb⟩
                  have H5 := hide ((unhide Ho).below HP hb)
                  clear hb Hl Ho
                  have Hd := hide (HP.down (unhide H5).p)
                  rw [show (safeT old fresh q true keep).down = false from rfl] at Hd
                  go_wp2_with fail
                  refine (unhide Hd).mono ?_
                  rintro e w6 ⟨rfl, hb⟩
                  have H6 := hide ((unhide H5).below HP hb)
                  clear hb Hd H5
                  go_wp2
                  go_ret
                  exact ⟨rfl, (unhide H6).b⟩
            case' false =>
              go_wp2
              go_loopw [66] (fun ii wr => ∃ (q : Nat), q ≤ j ∧ ii = .int .i64 (q : Int) ∧ Hid (One PAt w wr (.pointer (some pa)) S4 R4 (safeT old fresh j false keep))) (fun ii _ => j - (intOf ii).toNat)
              case atStart => exact ⟨0, by omega, rfl, H4⟩
              case round =>
                clear H4
                rename World => wz
                obtain ⟨q, hq, rfl, Ho⟩ := hrel
                by_cases hlt2 : q < j
                · obtain ⟨bo, oo, rfl, co⟩ := byte_arg ((unhide HX).below (unhide Ho).b) (i := q) (by have := (unhide HL).1; omega)
                  obtain ⟨bf, of_, rfl, cf⟩ := byte_arg ((unhide HY).below (unhide Ho).b) (i := q) (by have := (unhide HL).2; omega)
                  have hre := safeT_e old fresh j false keep (i := q) (by omega)
                  have hrb := safe40 old fresh (n := j) (by omega) false keep (i := q) hlt2
                  obtain ⟨CO, hCO⟩ : ∃ y, (old.getD q 0).toNat = y := ⟨_, rfl⟩
                  obtain ⟨CF, hCF⟩ : ∃ y, (fresh.getD q 0).toNat = y := ⟨_, rfl⟩
                  rw [hCO] at co
                  rw [hCF] at cf
                  obtain ⟨WW, hWW⟩ : ∃ y, safeW old fresh false keep q = y := ⟨_, rfl⟩
                  rw [hWW] at hrb
                  have Hp := hide (HP.read (q : Int) (unhide Ho).p (by show ([] : List (Nat × Bs)).length ≤ _; simp) (by omega) (by omega))
                  rw [hre, hrb] at Hp
                  have f1 : decide ((q : Int) < (j : Int)) = true := by simp; omega
                  have f1n : decide (q < j) = true := by simp; omega
                  have j0 : (0 : Int) ≤ (q : Int) := by omega
                  have j1 : (q : Int) < (j : Int) := by omega
                  have j2 : (q : Int) < (lo : Int) := by have := unhide HLe; omega
                  have j3 : (q : Int) < (j : Int) := by have := unhide HLe; omega
                  by_cases hk : q < m
                  case' pos =>
                    obtain ⟨bk, ok, rfl, ck⟩ := flag_at ((unhide HZ).below (unhide Ho).b) (i := q) (by have := unhide HM; omega)
                    have f2 : decide ((q : Int) < (m : Int)) = true := by simp; omega
                    have f2n : decide (q < m) = true := by simp; omega
                    have j4 : (q : Int) < (m : Int) := by omega
                    cases hkk : keep.getD q false
                    case' true =>
                      rw [hkk] at ck
                      have HWv : Hid (WW.toNat = CF) := by show _ = _; rw [← hWW, ← hCF]; unfold safeW; rw [hkk]; rfl
                      clear hWW hCO hCF hkk
                    case' false =>
                      rw [hkk] at ck
                      have HWv : Hid (WW.toNat = CO) := by show _ = _; rw [← hWW, ← hCO]; unfold safeW; rw [hkk]; rfl
                      clear hWW hCO hCF hkk
                  case' neg =>
                    have f2 : decide ((q : Int) < (m : Int)) = false := by simp; omega
                    have f2n : decide (q < m) = false := by simp; omega
                    have j4 : ¬ (q : Int) < (m : Int) := by omega
                    have hkk : keep.getD q false = false := by rw [List.getD_eq_getElem?_getD, List.getElem?_eq_none (by have := unhide HM; omega)]; rfl
                    have HWv : Hid (WW.toNat = CO) := by show _ = _; rw [← hWW, ← hCO]; unfold safeW; rw [hkk]; rfl
                    clear hWW hCO hCF hkk
                  all_goals
                    obtain ⟨W1, hW1⟩ : ∃ y, WW.toNat = y := ⟨_, rfl⟩
                    have HW1 := hide hW1
                    rw [hW1] at HWv
                    have Hwv2 := unhide HWv
                    subst Hwv2
                    clear hre hrb hW1 HWv
                    go_wp2_with fail
                    refine (unhide Hp).mono ?_
                    rintro e w5 ⟨v, rfl, hO, hb⟩
                    obtain ⟨sv, cv, rfl⟩ := hO.form
                    rw [List.length_replicate] at hO ⊢
                    have H5 := hide ((unhide Ho).below HP hb)
                    have HO5 := hide hO
                    have Hf := hide (fill_c w5 WW 64 (by omega))
                    rw [unhide HW1] at Hf
                    clear hO hb Hp Ho
                    go_wp2_with fail
                    refine (unhide Hf).mono ?_
                    rintro e w6 ⟨O, rfl, hO, hb⟩
                    have H6 := hide ((unhide H5).below HP hb)
                    have Hsame := hide (same_any w6 _ _ (List.replicate 64 WW) (List.replicate 64 WW) ((unhide HO5).below hb).bytes hO.bytes (by simp))
                    rw [decide_eq_true (rfl : List.replicate 64 WW = List.replicate 64 WW)] at Hsame
                    clear hO hb Hf H5 HO5
                    go_wp2_with fail
                    refine (unhide Hsame).mono ?_
                    rintro e w7 ⟨rfl, hb⟩
                    have H7 := hide ((unhide H6).below HP hb)
                    clear hb Hsame H6
                    go_wp2
                    refine ⟨⟨q + 1, by omega, ?_, H7⟩, ?_⟩
                    · simp
                    · simp [intOf]; omega
                · obtain rfl : q = j := by omega
                  have f1 : decide ((q : Int) < (q : Int)) = false := by simp
                  have Hl := hide (HP.loose (unhide Ho).p)
                  rw [show (safeT old fresh q false keep).loose.length = 0 from rfl] at Hl
                  go_wp2_with fail
                  refine (unhide Hl).mono ?_
                  rintro e w5 ⟨rfl, hb⟩
                  have H5 := hide ((unhide Ho).below HP hb)
                  clear hb Hl Ho
                  have Hd := hide (HP.down (unhide H5).p)
                  rw [show (safeT old fresh q false keep).down = false from rfl] at Hd
                  go_wp2_with fail
                  refine (unhide Hd).mono ?_
                  rintro e w6 ⟨rfl, hb⟩
                  have H6 := hide ((unhide H5).below HP hb)
                  clear hb Hd H5
                  go_wp2
                  go_ret
                  exact ⟨rfl, (unhide H6).b⟩
  · subst q2
    have q3 : decide ((lf : Int) < (n : Int)) = false := decide_eq_false q1
    have HLe : Hid (n ≤ lf) := by show _ ≤ _; omega
    clear Hcase HMin
    go_wp2_with fail
    refine (unhide Hn).mono ?_
    rintro e w2 ⟨p, rfl, S, R, hp, hge, hb⟩
    obtain ⟨pa, rfl⟩ := HP.ptr hp
    have H1 : Hid (One PAt w w2 (.pointer (some pa)) S R (genS (List.replicate 64 zeros) old 0)) := ⟨hp, fun k hk => Nat.le_trans (unhide HB1).size (hge k hk), (unhide HB1).trans (hb.mono (unhide HB1).size)⟩
    clear hp hge hb Hn HB1 d1 d1n d2 g1
    go_wp2
    clear q1 q3
    go_loopw [30] (fun ii wr => ∃ (i : Nat) (S R : Set_), i ≤ n ∧ ii = .int .i64 (i : Int) ∧ Hid (One PAt w wr (.pointer (some pa)) S R (genS (List.replicate 64 zeros) old i))) (fun ii _ => n - (intOf ii).toNat)
    case atStart => exact ⟨0, S, R, by omega, rfl, H1⟩
    case round =>
      clear H1
      obtain ⟨i, S1, R1, hi, rfl, Ho⟩ := hrel
      by_cases hlt : i < n
      · obtain ⟨bx, ox, rfl, c1⟩ := byte_arg ((unhide HX).below (unhide Ho).b) (i := i) (by have := (unhide HL).1; omega)
        obtain ⟨C, hC⟩ : ∃ q, old.getD i 0 = q := ⟨_, rfl⟩
        have hwe := gen_we (sf := (List.replicate 64 zeros)) (List.length_replicate) old (i := i) (by omega)
        have hws := gen_ws (sf := (List.replicate 64 zeros)) (List.length_replicate) old (i := i) (by omega)
        rw [hC] at c1 hwe hws
        obtain ⟨C2, hC2⟩ : ∃ q, C.toNat = q := ⟨_, rfl⟩
        rw [hC2] at c1
        have f1 : decide ((i : Int) < (n : Int)) = true := by simp; omega
        have f1n : decide (i < n) = true := by simp; omega
        have j0 : (0 : Int) ≤ (i : Int) := by omega
        have j1 : (i : Int) < (n : Int) := by omega
        have j2 : (i : Int) < (n : Int) := by have := unhide HLe; omega
        have Hf := hide (fill_c wr C 64 (by omega))
        rw [hC2] at Hf
        have Hwe := hide hwe
        have Hws := hide hws
        clear hC hC2 hwe hws
        go_wp2_with fail
        refine (unhide Hf).mono ?_
        rintro e w3 ⟨O, rfl, hO, hb⟩
        have hOw := (World.ownsRow.lt hO O rfl).1
        have Hs := hide (HP.write (i : Int) _ _ ((unhide Ho).below HP hb).p hO.bytes (fun _ k hk => (unhide Ho).new HP (by simp only [Value.ownBlock, Option.some.injEq] at hk; omega)) (by simp) (by show (seqW _ _).length ≤ _; rw [seq_len]; omega) (by omega) (by omega))
        rw [unhide Hwe, unhide Hws] at Hs
        have H3 := hide ((unhide Ho).below HP hb)
        clear hO hb hOw Hf Ho Hwe Hws
        go_wp2_with fail
        refine (unhide Hs).mono ?_
        rintro e w4 ⟨rfl, S4, R4, hp, hS, hR, ha⟩
        have H4 := hide ((unhide H3).call hp hS hR ha)
        clear hp hS hR ha Hs H3
        go_wp2
        refine ⟨⟨i + 1, S4, R4, by omega, ?_, H4⟩, ?_⟩
        · simp
        · simp [intOf]; omega
      · obtain rfl : i = n := by omega
        have f1 : decide ((i : Int) < (i : Int)) = false := by simp
        have Hs := hide (HP.sync (unhide Ho).p (by show (seqW _ _).length ≤ _; rw [seq_len]; omega))
        rw [gen_se, gen_ss _ _ fresh] at Hs
        go_wp2_with fail
        refine (unhide Hs).mono ?_
        rintro e w2 ⟨rfl, S2, R2, hp, hS, hR, ha⟩
        have H2 : Hid (One PAt w w2 (.pointer (some pa)) S2 R2 (genS (safeSF old i) fresh 0)) := (unhide Ho).call hp hS hR ha
        clear hp hS hR ha Hs Ho f1 hlt hi
        obtain ⟨n, hn⟩ : ∃ n, i = n := ⟨_, rfl⟩
        subst hn
        go_wp2
        go_loopw [47] (fun ii wr => ∃ (j : Nat) (S R : Set_), j ≤ i ∧ ii = .int .i64 (j : Int) ∧ Hid (One PAt w wr (.pointer (some pa)) S R (genS (safeSF old i) fresh j))) (fun ii _ => i - (intOf ii).toNat)
        case atStart => exact ⟨0, S2, R2, by omega, rfl, H2⟩
        case round =>
          clear H2
          rename World => wq
          obtain ⟨j, S1, R1, hi, rfl, Ho⟩ := hrel
          by_cases hlt : j < i
          · obtain ⟨bx, ox, rfl, c1⟩ := byte_arg ((unhide HY).below (unhide Ho).b) (i := j) (by have := (unhide HL).2; omega)
            obtain ⟨C, hC⟩ : ∃ q, fresh.getD j 0 = q := ⟨_, rfl⟩
            have hwe := gen_we (sf := (safeSF old i)) (safeSF_len _ _) fresh (i := j) (by omega)
            have hws := gen_ws (sf := (safeSF old i)) (safeSF_len _ _) fresh (i := j) (by omega)
            rw [hC] at c1 hwe hws
            obtain ⟨C2, hC2⟩ : ∃ q, C.toNat = q := ⟨_, rfl⟩
            rw [hC2] at c1
            have f1 : decide ((j : Int) < (i : Int)) = true := by simp; omega
            have f1n : decide (j < i) = true := by simp; omega
            have j0 : (0 : Int) ≤ (j : Int) := by omega
            have j1 : (j : Int) < (i : Int) := by omega
            have j2 : (j : Int) < (lf : Int) := by have := unhide HLe; omega
            have Hf := hide (fill_c wq C 64 (by omega))
            rw [hC2] at Hf
            have Hwe := hide hwe
            have Hws := hide hws
            clear hC hC2 hwe hws
            go_wp2_with fail
            refine (unhide Hf).mono ?_
            rintro e w3 ⟨O, rfl, hO, hb⟩
            have hOw := (World.ownsRow.lt hO O rfl).1
            have Hs := hide (HP.write (j : Int) _ _ ((unhide Ho).below HP hb).p hO.bytes (fun _ k hk => (unhide Ho).new HP (by simp only [Value.ownBlock, Option.some.injEq] at hk; omega)) (by simp) (by show (seqW _ _).length ≤ _; rw [seq_len]; omega) (by omega) (by omega))
            rw [unhide Hwe, unhide Hws] at Hs
            have H3 := hide ((unhide Ho).below HP hb)
            clear hO hb hOw Hf Ho Hwe Hws
            go_wp2_with fail
            refine (unhide Hs).mono ?_
            rintro e w4 ⟨rfl, S4, R4, hp, hS, hR, ha⟩
            have H4 := hide ((unhide H3).call hp hS hR ha)
            clear hp hS hR ha Hs H3
            go_wp2
            refine ⟨⟨j + 1, S4, R4, by omega, ?_, H4⟩, ?_⟩
            · simp
            · simp [intOf]; omega
          · obtain rfl : j = i := by omega
            have f1 : decide ((j : Int) < (j : Int)) = false := by simp
            have hfew : (genS (safeSF old j) fresh j).loose.length ≤ 100000 := by show (seqW _ _).length ≤ _; rw [seq_len]; omega
            have Hfew := hide hfew
            clear hfew
            cases sync
            case' true =>
              have Hs := hide (HP.sync (unhide Ho).p (unhide Hfew))
              go_wp2_with fail
              refine (unhide Hs).mono ?_
              rintro e w3 ⟨rfl, S3, R3, hp, hS, hR, ha⟩
              have H3 : Hid (One PAt w w3 (.pointer (some pa)) S3 R3 (if true = true then syncS (genS (safeSF old j) fresh j) else genS (safeSF old j) fresh j)) := (unhide Ho).call hp hS hR ha
              have Hl3 : Hid ((if true = true then syncS (genS (safeSF old j) fresh j) else genS (safeSF old j) fresh j).loose.length ≤ 100000) := by show ([] : List (Nat × Bs)).length ≤ _; simp
              clear hp hS hR ha Hs Ho Hfew
              have Hr := hide (HP.revive _ keep (unhide H3).p ((unhide HZ).below (unhide H3).b) (fun hne k hk hS => by
                have h1 := (unhide H3).ge k (Or.inl hS)
                have h2 := ValsAt.old (unhide HZ) (by simpa using hne) k hk
                omega) (unhide Hl3))
              go_wp2_with fail
              refine (unhide Hr).mono ?_
              rintro e w4 ⟨rfl, S4, R4, hp, hS, hR, ha⟩
              have H4 : Hid (One PAt w w4 (.pointer (some pa)) S4 R4 (safeT old fresh j true keep)) := (unhide H3).call hp hS hR ha
              clear hp hS hR ha Hr H3 Hl3
            case' false =>
              have Hr := hide (HP.revive _ keep (unhide Ho).p ((unhide HZ).below (unhide Ho).b) (fun hne k hk hS => by
                have h1 := (unhide Ho).ge k (Or.inl hS)
                have h2 := ValsAt.old (unhide HZ) (by simpa using hne) k hk
                omega) (unhide Hfew))
              go_wp2_with fail
              refine (unhide Hr).mono ?_
              rintro e w4 ⟨rfl, S4, R4, hp, hS, hR, ha⟩
              have H4 : Hid (One PAt w w4 (.pointer (some pa)) S4 R4 (safeT old fresh j false keep)) := (unhide Ho).call hp hS hR ha
              clear hp hS hR ha Hr Ho Hfew
            case' true =>
              go_wp2
              go_loopw [66] (fun ii wr => ∃ (q : Nat), q ≤ j ∧ ii = .int .i64 (q : Int) ∧ Hid (One PAt w wr (.pointer (some pa)) S4 R4 (safeT old fresh j true keep))) (fun ii _ => j - (intOf ii).toNat)
              case atStart => exact ⟨0, by omega, rfl, H4⟩
              case round =>
                clear H4
                rename World => wz
                obtain ⟨q, hq, rfl, Ho⟩ := hrel
                by_cases hlt2 : q < j
                · obtain ⟨bo, oo, rfl, co⟩ := byte_arg ((unhide HX).below (unhide Ho).b) (i := q) (by have := (unhide HL).1; omega)
                  obtain ⟨bf, of_, rfl, cf⟩ := byte_arg ((unhide HY).below (unhide Ho).b) (i := q) (by have := (unhide HL).2; omega)
                  have hre := safeT_e old fresh j true keep (i := q) (by omega)
                  have hrb := safe40 old fresh (n := j) (by omega) true keep (i := q) hlt2
                  obtain ⟨CO, hCO⟩ : ∃ y, (old.getD q 0).toNat = y := ⟨_, rfl⟩
                  obtain ⟨CF, hCF⟩ : ∃ y, (fresh.getD q 0).toNat = y := ⟨_, rfl⟩
                  rw [hCO] at co
                  rw [hCF] at cf
                  obtain ⟨WW, hWW⟩ : ∃ y, safeW old fresh true keep q = y := ⟨_, rfl⟩
                  rw [hWW] at hrb
                  have Hp := hide (HP.read (q : Int) (unhide Ho).p (by show ([] : List (Nat × Bs)).length ≤ _; simp) (by omega) (by omega))
                  rw [hre, hrb] at Hp
                  have f1 : decide ((q : Int) < (j : Int)) = true := by simp; omega
                  have f1n : decide (q < j) = true := by simp; omega
                  have j0 : (0 : Int) ≤ (q : Int) := by omega
                  have j1 : (q : Int) < (j : Int) := by omega
                  have j2 : (q : Int) < (j : Int) := by have := unhide HLe; omega
                  have j3 : (q : Int) < (lf : Int) := by have := unhide HLe; omega
                  have HWv : Hid (WW.toNat = CF) := by show _ = _; rw [← hWW, ← hCF]; rfl
                  clear hWW hCO hCF
                  all_goals
                    obtain ⟨W1, hW1⟩ : ∃ y, WW.toNat = y := ⟨_, rfl⟩
                    have HW1 := hide hW1
                    rw [hW1] at HWv
                    have Hwv2 := unhide HWv
                    subst Hwv2
                    clear hre hrb hW1 HWv
                    go_wp2_with fail
                    refine (unhide Hp).mono ?_
                    rintro e w5 ⟨v, rfl, hO, hb⟩
                    obtain ⟨sv, cv, rfl⟩ := hO.form
                    rw [List.length_replicate] at hO ⊢
                    have H5 := hide ((unhide Ho).below HP hb)
                    have HO5 := hide hO
                    have Hf := hide (fill_c w5 WW 64 (by omega))
                    rw [unhide HW1] at Hf
                    clear hO hb Hp Ho
                    go_wp2_with fail
                    refine (unhide Hf).mono ?_
                    rintro e w6 ⟨O, rfl, hO, hb⟩
                    have H6 := hide ((unhide H5).below HP hb)
                    have Hsame := hide (same_any w6 _ _ (List.replicate 64 WW) (List.replicate 64 WW) ((unhide HO5).below hb).bytes hO.bytes (by simp))
                    rw [decide_eq_true (rfl : List.replicate 64 WW = List.replicate 64 WW)] at Hsame
                    clear hO hb Hf H5 HO5
                    go_wp2_with fail
                    refine (unhide Hsame).mono ?_
                    rintro e w7 ⟨rfl, hb⟩
                    have H7 := hide ((unhide H6).below HP hb)
                    clear hb Hsame H6
                    go_wp2
                    refine ⟨⟨q + 1, by omega, ?_, H7⟩, ?_⟩
                    · simp
                    · simp [intOf]; omega
                · obtain rfl : q = j := by omega
                  have f1 : decide ((q : Int) < (q : Int)) = false := by simp
                  have Hl := hide (HP.loose (unhide Ho).p)
                  rw [show (safeT old fresh q true keep).loose.length = 0 from rfl] at Hl
                  go_wp2_with fail
                  refine (unhide Hl).mono ?_
                  rintro e w5 ⟨rfl, hb⟩
                  have H5 := hide ((unhide Ho).below HP hb)
                  clear hb Hl Ho
                  have Hd := hide (HP.down (unhide H5).p)
                  rw [show (safeT old fresh q true keep).down = false from rfl] at Hd
                  go_wp2_with fail
                  refine (unhide Hd).mono ?_
                  rintro e w6 ⟨rfl, hb⟩
                  have H6 := hide ((unhide H5).below HP hb)
                  clear hb Hd H5
                  go_wp2
                  go_ret
                  exact ⟨rfl, (unhide H6).b⟩
            case' false =>
              go_wp2
              go_loopw [66] (fun ii wr => ∃ (q : Nat), q ≤ j ∧ ii = .int .i64 (q : Int) ∧ Hid (One PAt w wr (.pointer (some pa)) S4 R4 (safeT old fresh j false keep))) (fun ii _ => j - (intOf ii).toNat)
              case atStart => exact ⟨0, by omega, rfl, H4⟩
              case round =>
                clear H4
                rename World => wz
                obtain ⟨q, hq, rfl, Ho⟩ := hrel
                by_cases hlt2 : q < j
                · obtain ⟨bo, oo, rfl, co⟩ := byte_arg ((unhide HX).below (unhide Ho).b) (i := q) (by have := (unhide HL).1; omega)
                  obtain ⟨bf, of_, rfl, cf⟩ := byte_arg ((unhide HY).below (unhide Ho).b) (i := q) (by have := (unhide HL).2; omega)
                  have hre := safeT_e old fresh j false keep (i := q) (by omega)
                  have hrb := safe40 old fresh (n := j) (by omega) false keep (i := q) hlt2
                  obtain ⟨CO, hCO⟩ : ∃ y, (old.getD q 0).toNat = y := ⟨_, rfl⟩
                  obtain ⟨CF, hCF⟩ : ∃ y, (fresh.getD q 0).toNat = y := ⟨_, rfl⟩
                  rw [hCO] at co
                  rw [hCF] at cf
                  obtain ⟨WW, hWW⟩ : ∃ y, safeW old fresh false keep q = y := ⟨_, rfl⟩
                  rw [hWW] at hrb
                  have Hp := hide (HP.read (q : Int) (unhide Ho).p (by show ([] : List (Nat × Bs)).length ≤ _; simp) (by omega) (by omega))
                  rw [hre, hrb] at Hp
                  have f1 : decide ((q : Int) < (j : Int)) = true := by simp; omega
                  have f1n : decide (q < j) = true := by simp; omega
                  have j0 : (0 : Int) ≤ (q : Int) := by omega
                  have j1 : (q : Int) < (j : Int) := by omega
                  have j2 : (q : Int) < (j : Int) := by have := unhide HLe; omega
                  have j3 : (q : Int) < (lf : Int) := by have := unhide HLe; omega
                  by_cases hk : q < m
                  case' pos =>
                    obtain ⟨bk, ok, rfl, ck⟩ := flag_at ((unhide HZ).below (unhide Ho).b) (i := q) (by have := unhide HM; omega)
                    have f2 : decide ((q : Int) < (m : Int)) = true := by simp; omega
                    have f2n : decide (q < m) = true := by simp; omega
                    have j4 : (q : Int) < (m : Int) := by omega
                    cases hkk : keep.getD q false
                    case' true =>
                      rw [hkk] at ck
                      have HWv : Hid (WW.toNat = CF) := by show _ = _; rw [← hWW, ← hCF]; unfold safeW; rw [hkk]; rfl
                      clear hWW hCO hCF hkk
                    case' false =>
                      rw [hkk] at ck
                      have HWv : Hid (WW.toNat = CO) := by show _ = _; rw [← hWW, ← hCO]; unfold safeW; rw [hkk]; rfl
                      clear hWW hCO hCF hkk
                  case' neg =>
                    have f2 : decide ((q : Int) < (m : Int)) = false := by simp; omega
                    have f2n : decide (q < m) = false := by simp; omega
                    have j4 : ¬ (q : Int) < (m : Int) := by omega
                    have hkk : keep.getD q false = false := by rw [List.getD_eq_getElem?_getD, List.getElem?_eq_none (by have := unhide HM; omega)]; rfl
                    have HWv : Hid (WW.toNat = CO) := by show _ = _; rw [← hWW, ← hCO]; unfold safeW; rw [hkk]; rfl
                    clear hWW hCO hCF hkk
                  all_goals
                    obtain ⟨W1, hW1⟩ : ∃ y, WW.toNat = y := ⟨_, rfl⟩
                    have HW1 := hide hW1
                    rw [hW1] at HWv
                    have Hwv2 := unhide HWv
                    subst Hwv2
                    clear hre hrb hW1 HWv
                    go_wp2_with fail
                    refine (unhide Hp).mono ?_
                    rintro e w5 ⟨v, rfl, hO, hb⟩
                    obtain ⟨sv, cv, rfl⟩ := hO.form
                    rw [List.length_replicate] at hO ⊢
                    have H5 := hide ((unhide Ho).below HP hb)
                    have HO5 := hide hO
                    have Hf := hide (fill_c w5 WW 64 (by omega))
                    rw [unhide HW1] at Hf
                    clear hO hb Hp Ho
                    go_wp2_with fail
                    refine (unhide Hf).mono ?_
                    rintro e w6 ⟨O, rfl, hO, hb⟩
                    have H6 := hide ((unhide H5).below HP hb)
                    have Hsame := hide (same_any w6 _ _ (List.replicate 64 WW) (List.replicate 64 WW) ((unhide HO5).below hb).bytes hO.bytes (by simp))
                    rw [decide_eq_true (rfl : List.replicate 64 WW = List.replicate 64 WW)] at Hsame
                    clear hO hb Hf H5 HO5
                    go_wp2_with fail
                    refine (unhide Hsame).mono ?_
                    rintro e w7 ⟨rfl, hb⟩
                    have H7 := hide ((unhide H6).below HP hb)
                    clear hb Hsame H6
                    go_wp2
                    refine ⟨⟨q + 1, by omega, ?_, H7⟩, ?_⟩
                    · simp
                    · simp [intOf]; omega
                · obtain rfl : q = j := by omega
                  have f1 : decide ((q : Int) < (q : Int)) = false := by simp
                  have Hl := hide (HP.loose (unhide Ho).p)
                  rw [show (safeT old fresh q false keep).loose.length = 0 from rfl] at Hl
                  go_wp2_with fail
                  refine (unhide Hl).mono ?_
                  rintro e w5 ⟨rfl, hb⟩
                  have H5 := hide ((unhide Ho).below HP hb)
                  clear hb Hl Ho
                  have Hd := hide (HP.down (unhide H5).p)
                  rw [show (safeT old fresh q false keep).down = false from rfl] at Hd
                  go_wp2_with fail
                  refine (unhide Hd).mono ?_
                  rintro e w6 ⟨rfl, hb⟩
                  have H6 := hide ((unhide H5).below HP hb)
                  clear hb Hd H5
                  go_wp2
                  go_ret
                  exact ⟨rfl, (unhide H6).b⟩
end
end Go.Proofs.Ytlmikagmcaicoaa
