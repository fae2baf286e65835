/-
  WalGenerations, walked out of the records Plate and Wal.
-/
import Derived.Test.YtfpndphfibfdiaaQ17
namespace Go.Proofs.Ytfpndphfibfdiaa
open Go.RowKit
section
variable {PAt : Set_ → Set_ → World → Value → PS → Prop} {LAt : Set_ → Set_ → World → Value → Value → LS → Prop} (HP : Plate PAt) (HW : Wal PAt LAt)
set_option maxRecDepth 100000 in
set_option maxHeartbeats 8000000 in
include HP HW in
theorem gens_true (w : World) (z : Int) (x : Value) (vs : List Value) (ls : List (List Bs)) (hx : LLAt w x vs ls) (hz1 : -9223372036854775808 ≤ z) (hz2 : z ≤ 9223372036854775807) (hlong : ∀ l ∈ ls, l.length ≤ 9223372036854775807) : Calls Try.prog 5 #[.int .i64 z, x] w fun e w' => e = .returned (.bool true) ∧ Below w.heap.size w w' := by
  obtain ⟨sx, cx, hsx, _, _, hcx⟩ := hx.row
  subst hsx
  obtain ⟨M, hM⟩ : ∃ M, vs.length = M := ⟨_, rfl⟩
  rw [hM]
  have HX := hide hx
  have HM := hide hM
  have HLong := hide hlong
  have Hanc := hide (anchor_c HP HW w)
  by_cases hbad : z < 1 ∨ 60 < z ∨ 10 < M
  · clear hx hM hcx hlong
    by_cases h1 : z < 1
    · have d1 : decide (z < 1) = true := by simp; omega
      go_enter Try.func5, Try.ntmps5
      go_wp2_with fail
      refine (unhide Hanc).mono ?_
      rintro e w1 ⟨rfl, hb⟩
      have HB := hide hb
      clear hb Hanc
      go_wp2
      go_ret
      exact ⟨rfl, unhide HB⟩
    · have d1 : decide (z < 1) = false := by simp; omega
      by_cases h2 : 60 < z
      · have d2 : decide (60 < z) = true := by simp; omega
        go_enter Try.func5, Try.ntmps5
        go_wp2_with fail
        refine (unhide Hanc).mono ?_
        rintro e w1 ⟨rfl, hb⟩
        have HB := hide hb
        clear hb Hanc
        go_wp2
        go_ret
        exact ⟨rfl, unhide HB⟩
      · have d2 : decide (60 < z) = false := by simp; omega
        have d3 : decide (10 < (M : Int)) = true := by simp; omega
        have d3n : decide (10 < M) = true := by simp; omega
        have j3 : 10 < (M : Int) := by omega
        go_enter Try.func5, Try.ntmps5
        go_wp2_with fail
        refine (unhide Hanc).mono ?_
        rintro e w1 ⟨rfl, hb⟩
        have HB := hide hb
        clear hb Hanc
        go_wp2
        go_ret
        exact ⟨rfl, unhide HB⟩
  · obtain ⟨sz, hsz⟩ : ∃ n : Nat, z = (n : Int) := ⟨z.toNat, by omega⟩
    subst hsz
    have hs6 : sz ≤ 60 := by omega
    have hs1 : 1 ≤ sz := by omega
    have hM6 : M ≤ 10 := by omega
    have d1 : decide ((sz : Int) < 1) = false := by simp; omega
    have d1n : decide (sz < 1) = false := by simp; omega
    have d2 : decide (60 < (sz : Int)) = false := by simp; omega
    have d2n : decide (60 < sz) = false := by simp; omega
    have d3 : decide (10 < (M : Int)) = false := by simp; omega
    have d3n : decide (10 < M) = false := by simp; omega
    have j1 : ¬ (sz : Int) < 1 := by omega
    have j2 : ¬ 60 < (sz : Int) := by omega
    have j3 : ¬ 10 < (M : Int) := by omega
    obtain ⟨tz, htz⟩ : ∃ a, 2 + sz = a := ⟨_, rfl⟩
    have HTz := hide htz
    have e1 : 2 + (sz : Int) = (tz : Int) := by omega
    have b1 : tz ≤ 62 := by omega
    have Hcx := hide hcx
    clear hx hM hbad hcx htz hlong
    go_enter Try.func5, Try.ntmps5
    go_wp2_with fail
    refine (unhide Hanc).mono ?_
    rintro e w1 ⟨rfl, hb1⟩
    have HB1 := hide hb1
    have Hn : Hid (Calls Try.prog 9 #[.int .i64 64] w1 fun e w' => ∃ p, e = .returned p ∧ ∃ S R, PAt S R w' p (newS 64) ∧ (∀ k, S k ∨ R k → w1.heap.size ≤ k) ∧ Below w1.heap.size w1 w') := HP.new_yes w1 64 (by omega) (by omega)
    clear hb1 Hanc
    go_wp2_with fail
    refine (unhide Hn).mono ?_
    rintro e w2 ⟨p, rfl, S, R, hp, hge, hb⟩
    obtain ⟨pa, rfl⟩ := HP.ptr hp
    have H2 : Hid (On PAt w w2 (.pointer (some pa)) S R (newS 64)) := ⟨hp, fun k hk => Nat.le_trans (unhide HB1).size (hge k hk), (unhide HB1).trans (hb.mono (unhide HB1).size)⟩
    have HG0 : Hid (GenB 0 (W.partOf (newS 64).safe 2 sz)) := fun y hy => by
      have := List.eq_of_mem_replicate (List.mem_of_mem_drop (List.mem_of_mem_take hy))
      subst this
      exact ⟨zeros_len, by decide +kernel⟩
    have HQ0 : Hid ((newS 64).Ok ∧ (newS 64).safe.length = 64 ∧ (newS 64).loose = [] ∧ (newS 64).left < 0 ∧ (newS 64).down = false) := ⟨ok_new (by omega), List.length_replicate, rfl, by decide, rfl⟩
    clear hp hge hb Hn HB1
    go_wp2
    go_loopw [33] (fun ii wr => ∃ (g : Nat) (s : PS) (S R : Set_), g ≤ M ∧ ii = .int .i64 (g : Int) ∧ Hid (On PAt w wr (.pointer (some pa)) S R s) ∧ Hid (GenB g (W.partOf s.safe 2 sz)) ∧ Hid (s.Ok ∧ s.safe.length = 64 ∧ s.loose = [] ∧ s.left < 0 ∧ s.down = false)) (fun ii _ => M - (intOf ii).toNat)
    case atStart => exact ⟨0, newS 64, S, R, by omega, rfl, H2, HG0, HQ0⟩
    case round =>
      obtain ⟨g, s, S', R', hg, rfl, Ho, Hgb, Hq⟩ := hrel
      clear H2 HG0 HQ0
      by_cases hlt : g < M
      · have f1 : decide ((g : Int) < (M : Int)) = true := by simp; omega
        have f1n : decide (g < M) = true := by simp; omega
        have q0 : (0 : Int) ≤ (g : Int) := by omega
        have q1 : (g : Int) < (M : Int) := by omega
        obtain ⟨kv, hkv⟩ : ∃ v, vs[g]? = some v := ⟨_, List.getElem?_eq_getElem (by have := unhide HM; omega)⟩
        obtain ⟨l, hl⟩ : ∃ v, ls[g]? = some v := ⟨_, List.getElem?_eq_getElem (by have := unhide HM; have := (unhide HX).len; omega)⟩
        obtain ⟨xg, xo, hsx, hcell⟩ := unhide Hcx (by intro e; have := unhide HM; rw [e] at this; simp at this; omega)
        subst hsx
        have hcell0 := hcell g kv hkv
        have ck : wr.cell? ⟨xg, xo + g, none⟩ = some kv := by rw [(unhide Ho).b.cell (World.block_lt_of_cell? _ _ hcell0)]; exact hcell0
        have hlw := (unhide HX).each g kv l hkv hl
        have hl64 := unhide HLong l (List.mem_of_getElem? hl)
        obtain ⟨lsp, lc, hlf⟩ := hlw.form
        obtain ⟨NL, hNL⟩ : ∃ y, l.length = y := ⟨_, rfl⟩
        rw [hNL] at hlf hl64
        subst hlf
        have HLw := hide hlw
        have HNL := hide hNL
        have hre := rest_fresh (unhide Hq).1 (unhide Hq).2.2.1 (unhide Hq).2.2.2.2 (by have := (unhide Hq).2.1; omega) (by omega) (unhide Hgb)
        obtain ⟨hop1, hop2, hI⟩ := hre.open_ (by omega) (by omega) (by omega)
        have hop3 : (openL s 2 sz (g + 1)).opening = 1 := by have := hI.op0; omega
        have HGn : Hid (GnI g sz s (openL s 2 sz (g + 1)) []) := ⟨hI, rfl, rfl, rfl, rfl, by rw [hop1]; rfl, (unhide Hgb).mono (by omega), (unhide Hq).2.2.2.1, (unhide Hq).2.1, hop3⟩
        have Hop1 := hide hop1
        have Hop3 := hide hop3
        have Hop : Hid (Calls Try.prog 10 #[.pointer (some pa), .int .i64 2, .int .i64 (tz : Int), .int .i64 ((g : Int) + 1)] wr fun e w' => ∃ la, e = .returned (.tuple #[.pointer (some la), .int .i64 0]) ∧ ∃ S2 R2, Lg PAt LAt w w' (.pointer (some pa)) (.pointer (some la)) S' R' S2 R2 s (openL s 2 sz (g + 1)) ∧ Below wr.heap.size wr w' ∧ ∀ k, S2 k ∨ R2 k → wr.heap.size ≤ k) := by
          have h1 := (unhide Ho).open_ HP HW 2 sz (g + 1) hs1 (by have := (unhide Hq).2.1; omega) (by omega) (by omega) (unhide Hq).2.2.2.2 (by rw [(unhide Hq).2.2.1]; simp)
          rw [unhide HTz] at h1
          exact h1
        clear hop1 hop2 hop3 hI hkv hl hcell hcell0 hlw hNL Ho hre Hgb Hq
        go_wp2_with fail
        refine (unhide Hop).mono ?_
        rintro e w3 ⟨la, rfl, S2, R2, h3, _, _⟩
        have Hrec := hide (h3.recs HP HW (by rw [unhide Hop1]; simp) (by rw [unhide Hop1]; simp))
        rw [unhide Hop1] at Hrec
        clear h3 Hop ck
        go_wp2_with fail
        refine (unhide Hrec).mono ?_
        rintro e w4 ⟨v, ws, rfl, hls, hg4, _⟩
        obtain ⟨sv, cv, rfl⟩ := lists_none hls
        have Hopn := hide (HW.opening hg4.lg)
        rw [unhide Hop3] at Hopn
        have H4 := hide hg4
        clear hls hg4 Hrec
        go_wp2_with fail
        refine (unhide Hopn).mono ?_
        rintro e w5 ⟨rfl, hb5⟩
        have H5 := hide ((unhide H4).below HP HW hb5)
        have HW0 := hide (grow_nil w5 w.heap.size)
        have HOff0 : Hid (∀ k, (Value.slice none 0 0).ownBlock = some k → Off S' R' S2 R2 k) := fun k hk => by simp [Value.ownBlock] at hk
        clear hb5 Hopn H4 Hop1 Hop3
        go_wp2
        go_loopw [10, 66] (fun wv ii wr => ∃ (j WL wc : Nat) (ws : Option Addr) (want : List Bs) (s : PS) (L : LS) (S R S2 R2 : Set_), j ≤ NL ∧ WL ≤ j ∧ ii = .int .i64 (j : Int) ∧ wv = .slice ws WL wc ∧ Hid (want.length = WL) ∧ Hid (GrowAt wr w.heap.size (.slice ws WL wc) want) ∧ Hid (∀ k, (Value.slice ws WL wc).ownBlock = some k → Off S R S2 R2 k) ∧ Hid (Lg PAt LAt w wr (.pointer (some pa)) (.pointer (some la)) S R S2 R2 s L) ∧ Hid (GnI g sz s L want)) (fun _ ii _ => NL - (intOf ii).toNat)
        case atStart => exact ⟨0, 0, 0, none, [], s, openL s 2 sz (g + 1), S', R', S2, R2, by omega, by omega, rfl, rfl, rfl, HW0, HOff0, H5, HGn⟩
        case round =>
          obtain ⟨j, WL, wc, ws, want, s1, L1, S3, R3, S4, R4, hj, hwl, rfl, rfl, HWL, Hw, Hof, Hlg, Hgn⟩ := hrel
          clear HW0 HOff0 H5 HGn
          by_cases hlt2 : j < NL
          · have f2 : decide ((j : Int) < (NL : Int)) = true := by simp; omega
            have f2n : decide (j < NL) = true := by simp; omega
            have p0 : (0 : Int) ≤ (j : Int) := by omega
            have p1 : (j : Int) < (NL : Int) := by omega
            obtain ⟨b, hb⟩ : ∃ b, l[j]? = some b := ⟨_, List.getElem?_eq_getElem (by have := unhide HNL; omega)⟩
            obtain ⟨lg, lo, bv, rfl, cb, hbv, hbo⟩ := (unhide HLw).old hb
            have cb' := cb
            have cbr : wr.cell? ⟨lg, lo + j, none⟩ = some bv := by rw [(unhide Hlg).b.cell (World.block_lt_of_cell? _ _ cb')]; exact cb'
            obtain ⟨bs, bc, rfl, _⟩ := bytes_open hbv
            obtain ⟨BL, hBL⟩ : ∃ y, b.length = y := ⟨_, rfl⟩
            rw [hBL] at hbv hbo cbr
            have HBv := hide hbv
            have HBo := hide hbo
            have HBL := hide hBL
            clear cb cb' hbv hbo hb hBL
            by_cases hbig : 1000 < BL
            · have g1 : decide (1000 < (BL : Int)) = true := by simp; omega
              have g1n : decide (1000 < BL) = true := by simp; omega
              have g2 : 1000 < (BL : Int) := by omega
              have HB := hide (unhide Hlg).b
              clear Hw Hof Hlg Hgn
              go_wp2
              go_ret
              exact ⟨rfl, unhide HB⟩
            · have g1 : decide (1000 < (BL : Int)) = false := by simp; omega
              have g1n : decide (1000 < BL) = false := by simp; omega
              have g2 : ¬ 1000 < (BL : Int) := by omega
              by_cases hmany : 20 < NL
              · have g3 : decide (20 < (NL : Int)) = true := by simp; omega
                have g3n : decide (20 < NL) = true := by simp; omega
                have g4 : 20 < (NL : Int) := by omega
                have HB := hide (unhide Hlg).b
                clear Hw Hof Hlg Hgn
                go_wp2
                go_ret
                exact ⟨rfl, unhide HB⟩
              · have g3 : decide (20 < (NL : Int)) = false := by simp; omega
                have g3n : decide (20 < NL) = false := by simp; omega
                have g4 : ¬ 20 < (NL : Int) := by omega
                have Happ := hide ((unhide Hlg).app HW _ b ((unhide HBv).below (unhide Hlg).b) (fun hne k hk => (unhide Hlg).old (unhide HBo k hne hk)) (by have := unhide HBL; omega) fun _ => (unhide Hgn).log)
                by_cases hroom : usedR L1.rs + needs b.length ≤ sz
                · obtain ⟨y1, y2⟩ := (unhide Hgn).yes (by have := unhide HBL; omega) hroom
                  rw [y1] at Happ
                  have HGn2 := hide y2
                  clear y1 y2 hroom Hgn
                  go_wp2_with fail
                  refine (unhide Happ).mono ?_
                  rintro e w6 ⟨rfl, S5, R5, S6, R6, h6, ha6, hla6⟩
                  have hwo := (unhide Hw).lt
                  have hw6 : GrowAt w6 w.heap.size (.slice ws WL wc) want := (unhide Hw).aside ha6 (fun k hk h => by have := unhide Hof k hk; exact h.elim this.1.1 this.2.1) fun k hk => hk.elim (fun h => (unhide Hlg).ge k (Or.inl h)) fun h => (unhide Hlg).ge2 k (Or.inl h)
                  have hof6 : ∀ k, (Value.slice ws WL wc).ownBlock = some k → Off S5 R5 S6 R6 k := fun k hk => hla6 k (hwo k hk).2 (unhide Hof k hk)
                  have H6 := hide h6
                  have hb7 : Below w6.heap.size w6 (w6.alloc (.cells #[.slice bs BL bc] 30)) := (Below.refl _ _).alloc (Nat.le_refl _) _
                  have hw7 := hw6.below hb7
                  obtain ⟨us, hu1, hu2, hu3⟩ := hw7.lists
                  have HW7 : Hid (∃ _ : us.length = want.length, OwnV 30 (w6.alloc (.cells #[.slice bs BL bc] 30)) w.heap.size (.slice ws WL wc) us ∧ ∀ (i : Nat) (u : Value) (c : Bs), us[i]? = some u → want[i]? = some c → BytesAt (w6.alloc (.cells #[.slice bs BL bc] 30)) u c ∧ ∀ k, c ≠ [] → u.ownBlock = some k → k < w.heap.size) := ⟨hu1, hu2, hu3⟩
                  have H7 := hide ((unhide H6).below HP HW hb7)
                  have HBv7 := hide ((unhide HBv).below (unhide H7).b)
                  have HOf6 := hide hof6
                  have HVn : Hid (ValsAt (w6.alloc (.cells #[.slice bs BL bc] 30)) (.slice (some ⟨w6.heap.size, 0, none⟩) 1 1) [.slice bs BL bc]) := vals_new w6 [.slice bs BL bc] 30
                  have HUl : Hid (us.length ≤ 100000) := by show _ ≤ _; have := unhide HWL; omega
                  have HWsz : Hid (w.heap.size ≤ (w6.alloc (.cells #[.slice bs BL bc] 30)).heap.size) := (unhide H7).b.size
                  obtain ⟨w7, hw7e⟩ : ∃ y, w6.alloc (.cells #[.slice bs BL bc] 30) = y := ⟨_, rfl⟩
                  rw [hw7e] at HW7 H7 HBv7 HVn HWsz
                  clear h6 ha6 hla6 hw6 hof6 hb7 hw7 hu1 hu2 hu3 Happ Hw Hof Hlg H6 hwo cbr
                  go_wp2_with (at_builtin; refine wpList_append_vals Ebb rfl _ _ rfl w.heap.size (.slice ws WL wc) (.slice (some ⟨w6.heap.size, 0, none⟩) 1 1) us [.slice bs BL bc] rfl (unhide HW7).2.1 rfl (unhide HVn) (by simp [Value.oneCell']) (unhide HWsz) (by have := unhide HUl; simp; omega) ?_
                               intro wv2 w8 ho8 hg8 hor8)
                  have ha8 : Aside (fun k => (Value.slice ws WL wc).ownBlock = some k) w7 w8 := Aside.of_grown hg8 fun k hk => hk
                  have HWn := hide (grow_push (b := b) (unhide HBv7) (fun k hne hk => unhide HBo k hne hk) (unhide HW7) ho8 ha8)
                  have hwlt : ∀ k, (Value.slice ws WL wc).ownBlock = some k → w.heap.size ≤ k ∧ k < w7.heap.size := World.ownsRow.lt (unhide HW7).2.1
                  have H8 := hide ((unhide H7).kept HP HW ha8 (fun k hk => unhide HOf6 k hk) fun k hk => (hwlt k hk).1)
                  have HOf8 : Hid (∀ k, wv2.ownBlock = some k → Off S5 R5 S6 R6 k) := fun k hk => by
                    rcases hor8 with h | h
                    · exact unhide HOf6 k (by rw [← h]; exact hk)
                    · rw [hk] at h
                      have := Option.some.inj h
                      subst this
                      exact (unhide H7).off HP HW (Or.inl (Nat.le_refl _))
                  obtain ⟨ws2, wc2, hwf⟩ := (unhide HWn).form
                  rw [List.length_append, List.length_singleton, unhide HWL] at hwf
                  subst hwf
                  have HWL2 : Hid ((want ++ [b]).length = WL + 1) := by show _ = _; rw [List.length_append, List.length_singleton, unhide HWL]
                  clear ho8 hg8 hor8 ha8 hwlt HW7 H7 HOf6 HVn
                  refine ⟨⟨j + 1, WL + 1, wc2, ws2, want ++ [b], _, _, S5, R5, S6, R6, by omega, by omega, ?_, rfl, HWL2, HWn, HOf8, H8, HGn2⟩, ?_⟩
                  · simp
                  · simp [intOf]; omega
                · obtain ⟨y1, y2, y3⟩ := append_full (L := L1) (s := s1) (b := b) (unhide Hgn).shut (by have := unhide HBL; omega) (by rw [(unhide Hgn).size]; omega)
                  rw [y1, y2, y3] at Happ
                  clear y1 y2 y3 hroom
                  go_wp2_with fail
                  refine (unhide Happ).mono ?_
                  rintro e w6 ⟨rfl, S5, R5, S6, R6, h6, ha6, hla6⟩
                  have hwo := (unhide Hw).lt
                  have HW6 : Hid (GrowAt w6 w.heap.size (.slice ws WL wc) want) := (unhide Hw).aside ha6 (fun k hk h => by have := unhide Hof k hk; exact h.elim this.1.1 this.2.1) fun k hk => hk.elim (fun h => (unhide Hlg).ge k (Or.inl h)) fun h => (unhide Hlg).ge2 k (Or.inl h)
                  have HOf6 : Hid (∀ k, (Value.slice ws WL wc).ownBlock = some k → Off S5 R5 S6 R6 k) := fun k hk => hla6 k (hwo k hk).2 (unhide Hof k hk)
                  have H6 := hide h6
                  clear h6 ha6 hla6 Happ Hw Hof Hlg hwo cbr
                  go_wp2
                  refine ⟨⟨j + 1, WL, wc, ws, want, _, _, S5, R5, S6, R6, by omega, by omega, ?_, rfl, HWL, HW6, HOf6, H6, Hgn⟩, ?_⟩
                  · simp
                  · simp [intOf]; omega
          · obtain rfl : j = NL := by omega
            have f2 : decide ((j : Int) < (j : Int)) = false := by simp
            have hgn := unhide Hgn
            have hre := hgn.log.rest0
            rw [hgn.gen, hgn.start, hgn.size] at hre
            have hop1 := (hre.open_ (by omega) (by omega) (by rw [hgn.op]; omega)).1
            have hfew := hre.few
            have hbig := stands_big hre.st
            have hrl : (L1.rs.map (·.1)).length ≤ 60 := by rw [List.length_map]; omega
            have Hop : Hid (Calls Try.prog 10 #[.pointer (some pa), .int .i64 2, .int .i64 (tz : Int), .int .i64 ((g : Int) + 1)] wr fun e w' => ∃ la, e = .returned (.tuple #[.pointer (some la), .int .i64 0]) ∧ ∃ S2 R2, Lg PAt LAt w w' (.pointer (some pa)) (.pointer (some la)) S3 R3 S2 R2 s1 (openL s1 2 sz (g + 1)) ∧ Below wr.heap.size wr w' ∧ ∀ k, S2 k ∨ R2 k → wr.heap.size ≤ k) := by
              have h1 := (unhide Hlg).on.open_ HP HW 2 sz (g + 1) hs1 (by have := hgn.len; omega) (by omega) (by omega) hgn.log.down (by rw [hgn.log.loose]; simp)
              rw [unhide HTz] at h1
              exact h1
            have Hop1 := hide hop1
            have Hbig := hide hbig
            have Hrl := hide hrl
            have HLs := hide hgn.rs
            have Hfw := hide hfew
            have HQ : Hid (s1.Ok ∧ s1.safe.length = 64 ∧ s1.loose = [] ∧ s1.left < 0 ∧ s1.down = false) := ⟨hgn.log.ok, hgn.len, hgn.log.loose, hgn.left, hgn.log.down⟩
            have HGB := hide hgn.gb
            have Hwr : Hid (want.length ≤ 60) := by show _ ≤ _; rw [← hgn.rs]; exact hrl
            clear hgn hre hop1 hfew hbig hrl Hof
            go_wp2_with fail
            refine (unhide Hop).mono ?_
            rintro e w6 ⟨lb, rfl, S7, R7, h6, hb6, _⟩
            have HW6 := hide ((unhide Hw).below hb6)
            have Hrec := hide (h6.recs HP HW (by rw [unhide Hop1]; have := (unhide Hfw).2; omega) (by rw [unhide Hop1]; exact unhide Hbig))
            rw [unhide Hop1, unhide HLs] at Hrec
            clear h6 hb6 Hop Hlg Hw
            go_wp2_with fail
            refine (unhide Hrec).mono ?_
            rintro e w7 ⟨v, ws, rfl, hls, hg7, hb7⟩
            obtain ⟨sv2, cv2, hv2⟩ := hls.lists.form
            rw [unhide HWL] at hv2
            subst hv2
            have Hsm := hide (lsame_c w7 _ _ want want hls.lists ((unhide HW6).below hb7).read (fun b hb => by rw [← unhide HLs] at hb; obtain ⟨y, hy, rfl⟩ := List.mem_map.1 hb; have := unhide Hbig y hy; omega) (by have := unhide Hwr; omega) (by have := unhide Hwr; omega))
            rw [decide_eq_true (rfl : want = want)] at Hsm
            have H7 := hide hg7
            clear hls hg7 hb7 Hrec HW6
            go_wp2_with fail
            refine (unhide Hsm).mono ?_
            rintro e w8 ⟨rfl, hb8⟩
            have H8 := hide ((unhide H7).below HP HW hb8).on
            clear hb8 Hsm H7
            go_wp2
            refine ⟨⟨g + 1, s1, S3, R3, by omega, ?_, H8, HGB, HQ⟩, ?_⟩
            · simp
            · simp [intOf]; omega
      · obtain rfl : g = M := by omega
        have f1 : decide ((g : Int) < (g : Int)) = false := by simp
        have HB := hide (unhide Ho).b
        clear Ho Hgb Hq
        go_wp2
        go_ret
        exact ⟨rfl, unhide HB⟩
end
end Go.Proofs.Ytfpndphfibfdiaa
