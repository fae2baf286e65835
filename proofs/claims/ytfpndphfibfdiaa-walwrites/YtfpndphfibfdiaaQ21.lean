/-
  WalWrites, walked out of the records Plate and Wal.
-/
import Derived.Test.YtfpndphfibfdiaaQ20
import Derived.Test.YtfpndphfibfdiaaQ3
namespace Go.Proofs.Ytfpndphfibfdiaa
open Go.RowKit
section
variable {PAt : Set_ → Set_ → World → Value → PS → Prop} {LAt : Set_ → Set_ → World → Value → Value → LS → Prop} (HP : Plate PAt) (HW : Wal PAt LAt)
include HP HW in
/-- Sectors that were just made, behind an append. -/
theorem fresh_app {w0 wr w3 w4 : World} {p l wv v : Value} {S R S2 R2 S' R' S2' R2' : Set_} {s : PS} {L : LS} {us : List Value} {m : List Bs} (hF : FreshL wr.heap.size w3 v us m) (h : Lg PAt LAt w0 wr p l S R S2 R2 s L) (ha : Aside (fun k => S k ∨ S2 k) w3 w4) (hla : Later S R S2 R2 S' R' S2' R2' w3.heap.size) (hw : ∀ k, wv.ownBlock = some k → k < wr.heap.size) :
    ValsAt w4 v us ∧ (∀ u ∈ us, u.oneCell' = true) ∧ ∀ (i : Nat) (u : Value) (b : Bs), us[i]? = some u → m[i]? = some b → BytesAt w4 u b ∧ ∀ k, b ≠ [] → u.ownBlock = some k → Off S' R' S2' R2' k ∧ wv.ownBlock ≠ some k ∧ k < w4.heap.size := by
  have hno : ∀ k, wr.heap.size ≤ k → ¬ (S k ∨ S2 k) := fun k hk h1 => by have := h.off HP HW (Or.inl hk); exact h1.elim this.1.1 this.2.1
  refine ⟨ValsAt.aside hF.row ha fun k hk => hno k (hF.new k hk), fun u hu => ?_, fun i u b h1 h2 => ?_⟩
  · obtain ⟨i, hi⟩ := List.getElem?_of_mem hu
    obtain ⟨b, hb⟩ : ∃ b, m[i]? = some b := ⟨_, List.getElem?_eq_getElem (by have := hF.len; have := (List.getElem?_eq_some_iff.1 hi).1; omega)⟩
    obtain ⟨sp, c, rfl, _⟩ := bytes_open (hF.each i u b hi hb).1
    rfl
  · obtain ⟨h3, h4⟩ := hF.each i u b h1 h2
    refine ⟨h3.aside ha fun k hk => hno k (h4 k hk), fun k hne hk => ?_⟩
    have h5 : k < w3.heap.size := ValsAt.old h3 (by simpa using hne) k hk
    exact ⟨hla k h5 (h.off HP HW (Or.inl (h4 k hk))), fun e => by have := hw k e; have := h4 k hk; omega, Nat.lt_of_lt_of_le h5 ha.size⟩
set_option maxRecDepth 100000 in
set_option maxHeartbeats 16000000 in
include HP HW in
theorem writes_true (w : World) (z gz : Int) (x : Value) (l : List Bs) (hx : BLists w x l) (hz1 : -9223372036854775808 ≤ z) (hz2 : z ≤ 9223372036854775807) (hg1 : -9223372036854775808 ≤ gz) (hg2 : gz ≤ 9223372036854775807) : Calls Try.prog 3 #[.int .i64 z, .int .i64 gz, x] w fun e w' => e = .returned (.bool true) ∧ Below w.heap.size w w' := by
  obtain ⟨sx, cx, rfl⟩ := hx.form
  obtain ⟨M, hM⟩ : ∃ M, l.length = M := ⟨_, rfl⟩
  rw [hM] at hx
  rw [hM]
  have HX := hide hx
  have HM := hide hM
  have Hanc := hide (anchor_c HP HW w)
  by_cases hbad : z < 1 ∨ 120 < z ∨ gz < 1 ∨ 2147483648 ≤ gz ∨ 40 < M
  · clear hx hM
    by_cases h0 : z < 1
    · have d0 : decide (z < 1) = true := by simp; omega
      go_enter Try.func3, Try.ntmps3
      go_wp2_with fail
      refine (unhide Hanc).mono ?_
      rintro e w1 ⟨rfl, hb⟩
      have HB := hide hb
      clear hb Hanc
      go_wp2
      go_ret
      exact ⟨rfl, unhide HB⟩
    · have d0 : decide (z < 1) = false := by simp; omega
      by_cases h1 : 120 < z
      · have d1 : decide (120 < z) = true := by simp; omega
        go_enter Try.func3, Try.ntmps3
        go_wp2_with fail
        refine (unhide Hanc).mono ?_
        rintro e w1 ⟨rfl, hb⟩
        have HB := hide hb
        clear hb Hanc
        go_wp2
        go_ret
        exact ⟨rfl, unhide HB⟩
      · have d1 : decide (120 < z) = false := by simp; omega
        by_cases h2 : gz < 1
        · have d2 : decide (gz < 1) = true := by simp; omega
          go_enter Try.func3, Try.ntmps3
          go_wp2_with fail
          refine (unhide Hanc).mono ?_
          rintro e w1 ⟨rfl, hb⟩
          have HB := hide hb
          clear hb Hanc
          go_wp2
          go_ret
          exact ⟨rfl, unhide HB⟩
        · have d2 : decide (gz < 1) = false := by simp; omega
          by_cases h3 : 2147483648 ≤ gz
          · have d3 : decide (2147483648 ≤ gz) = true := by simp; omega
            go_enter Try.func3, Try.ntmps3
            go_wp2_with fail
            refine (unhide Hanc).mono ?_
            rintro e w1 ⟨rfl, hb⟩
            have HB := hide hb
            clear hb Hanc
            go_wp2
            go_ret
            exact ⟨rfl, unhide HB⟩
          · have d3 : decide (2147483648 ≤ gz) = false := by simp; omega
            have d9 : decide (40 < (M : Int)) = true := by simp; omega
            have d9n : decide (40 < M) = true := by simp; omega
            have j9 : 40 < (M : Int) := by omega
            go_enter Try.func3, Try.ntmps3
            go_wp2_with fail
            refine (unhide Hanc).mono ?_
            rintro e w1 ⟨rfl, hb⟩
            have HB := hide hb
            clear hb Hanc
            go_wp2
            go_ret
            exact ⟨rfl, unhide HB⟩
  · obtain ⟨sz, hsz⟩ : ∃ n : Nat, z = (n : Int) := ⟨z.toNat, by omega⟩
    subst hsz
    obtain ⟨g, hgz⟩ : ∃ n : Nat, gz = (n : Int) := ⟨gz.toNat, by omega⟩
    subst hgz
    have hs6 : sz ≤ 120 := by omega
    have hs1 : 1 ≤ sz := by omega
    have hgl : 1 ≤ g := by omega
    have hgm : g < 2147483648 := by omega
    have hM6 : M ≤ 40 := by omega
    have d0 : decide ((sz : Int) < 1) = false := by simp; omega
    have d0n : decide (sz < 1) = false := by simp; omega
    have d1 : decide (120 < (sz : Int)) = false := by simp; omega
    have d1n : decide (120 < sz) = false := by simp; omega
    have d2 : decide ((g : Int) < 1) = false := by simp; omega
    have d2n : decide (g < 1) = false := by simp; omega
    have d3 : decide (2147483648 ≤ (g : Int)) = false := by simp; omega
    have d3n : decide (2147483648 ≤ g) = false := by simp; omega
    have d4 : decide (40 < (M : Int)) = false := by simp; omega
    have d4n : decide (40 < M) = false := by simp; omega
    have j0 : ¬ (sz : Int) < 1 := by omega
    have j1 : ¬ 120 < (sz : Int) := by omega
    have j2 : ¬ (g : Int) < 1 := by omega
    have j3 : ¬ 2147483648 ≤ (g : Int) := by omega
    have j4 : ¬ 40 < (M : Int) := by omega
    obtain ⟨tz, htz⟩ : ∃ a, 3 + sz = a := ⟨_, rfl⟩
    have HTz := hide htz
    have e1 : 3 + (sz : Int) = (tz : Int) := by omega
    have b1 : tz ≤ 123 := by omega
    clear hx hM hbad htz
    go_enter Try.func3, Try.ntmps3
    go_wp2_with fail
    refine (unhide Hanc).mono ?_
    rintro e w1 ⟨rfl, hb1⟩
    have HB1 := hide hb1
    have Hn : Hid (Calls Try.prog 9 #[.int .i64 128] w1 fun e w' => ∃ p, e = .returned p ∧ ∃ S R, PAt S R w' p (newS 128) ∧ (∀ k, S k ∨ R k → w1.heap.size ≤ k) ∧ Below w1.heap.size w1 w') := HP.new_yes w1 128 (by omega) (by omega)
    clear hb1 Hanc
    go_wp2_with fail
    refine (unhide Hn).mono ?_
    rintro e w2 ⟨p, rfl, S, R, hp, hge, hb⟩
    obtain ⟨pa, rfl⟩ := HP.ptr hp
    have H2 : Hid (On PAt w w2 (.pointer (some pa)) S R (newS 128)) := ⟨hp, fun k hk => Nat.le_trans (unhide HB1).size (hge k hk), (unhide HB1).trans (hb.mono (unhide HB1).size)⟩
    obtain ⟨ho1, hi1⟩ := wi_new sz g hs6 hgl hgm
    have HI0 := hide hi1
    have Hop : Hid (Calls Try.prog 10 #[.pointer (some pa), .int .i64 3, .int .i64 (tz : Int), .int .i64 (g : Int)] w2 fun e w' => ∃ la, e = .returned (.tuple #[.pointer (some la), .int .i64 0]) ∧ ∃ S2 R2, Lg PAt LAt w w' (.pointer (some pa)) (.pointer (some la)) S R S2 R2 (newS 128) ⟨3, sz, g, 1, [], false⟩ ∧ Below w2.heap.size w2 w' ∧ ∀ k, S2 k ∨ R2 k → w2.heap.size ≤ k) := by
      have h1 := (unhide H2).open_ HP HW 3 sz g hs1 (by show 3 + sz ≤ (List.replicate 128 zeros).length; simp; omega) hgl hgm rfl (by show ([] : List (Nat × Bs)).length ≤ _; simp)
      rw [unhide HTz, ho1] at h1
      exact h1
    clear hp hge hb Hn HB1 ho1 hi1
    go_wp2_with fail
    refine (unhide Hop).mono ?_
    rintro e w3 ⟨la, rfl, S2, R2, h3, _, _⟩
    have H3 := hide h3
    have HW0 : Hid (WtAt S R S2 R2 w3 w.heap.size (.slice none 0 0) [] []) := ⟨own_nil 30 w3 w.heap.size, rfl, fun i v b h => by simp at h, fun k hk => by simp [Value.ownBlock] at hk⟩
    clear h3 Hop H2
    go_wp2
    go_loopw [10, 11, 61] (fun wv nn ii wr => ∃ (j n WL wc : Nat) (ws : Option Addr) (vs : List Value) (want : List Bs) (s : PS) (L : LS) (S R S2 R2 : Set_), j ≤ M ∧ n ≤ j ∧ ii = .int .i64 (j : Int) ∧ nn = .int .i64 (n : Int) ∧ wv = .slice ws WL wc ∧ Hid (want.length = WL) ∧ Hid (WtAt S R S2 R2 wr w.heap.size (.slice ws WL wc) vs want) ∧ Hid (Lg PAt LAt w wr (.pointer (some pa)) (.pointer (some la)) S R S2 R2 s L) ∧ Hid (WI g sz s L want n)) (fun _ _ ii _ => M - (intOf ii).toNat)
    case atStart => exact ⟨0, 0, 0, 0, none, [], [], newS 128, _, S, R, S2, R2, by omega, by omega, rfl, rfl, rfl, rfl, HW0, H3, HI0⟩
    case round =>
      obtain ⟨j, n, WL, wc, ws, vs, want, s, L, S3, R3, S4, R4, hj, hn, rfl, rfl, rfl, HWL, Hw, Hlg, Hwi⟩ := hrel
      clear HW0 H3 HI0
      have hfit := (unhide Hwi).fit
      rw [unhide HWL] at hfit
      obtain ⟨hwl, _⟩ := hfit
      by_cases hlt : j < M
      · have f1 : decide ((j : Int) < (M : Int)) = true := by simp; omega
        have f1n : decide (j < M) = true := by simp; omega
        have q0 : (0 : Int) ≤ (j : Int) := by omega
        have q1 : (j : Int) < (M : Int) := by omega
        obtain ⟨b, hb⟩ : ∃ b, l[j]? = some b := ⟨_, List.getElem?_eq_getElem (by have := unhide HM; omega)⟩
        obtain ⟨lg, lo, bv, rfl, cb, hbv, hbo⟩ := (unhide HX).old hb
        have cbr : wr.cell? ⟨lg, lo + j, none⟩ = some bv := by rw [(unhide Hlg).b.cell (World.block_lt_of_cell? _ _ cb)]; exact cb
        obtain ⟨bs, bc, rfl, _⟩ := bytes_open hbv
        obtain ⟨BL, hBL⟩ : ∃ y, b.length = y := ⟨_, rfl⟩
        rw [hBL] at hbv hbo cbr
        have HBv := hide hbv
        have HBo := hide hbo
        have HBL := hide hBL
        clear cb hbv hbo hb hBL
        by_cases hbig : 6000 < BL
        · have g1 : decide (6000 < (BL : Int)) = true := by simp; omega
          have g1n : decide (6000 < BL) = true := by simp; omega
          have g2 : 6000 < (BL : Int) := by omega
          have HB := hide (unhide Hlg).b
          clear Hw Hlg Hwi
          go_wp2
          go_ret
          exact ⟨rfl, unhide HB⟩
        · have g1 : decide (6000 < (BL : Int)) = false := by simp; omega
          have g1n : decide (6000 < BL) = false := by simp; omega
          have g2 : ¬ 6000 < (BL : Int) := by omega
          have Hsec : Hid (Calls Try.prog 11 #[.slice bs BL bc, .int .i64 (g : Int), .int .i64 1, .int .i64 ((n : Int) + 1)] wr fun e w' => ∃ v vs, e = .returned v ∧ FreshL wr.heap.size w' v vs (recS b g 1 (n + 1)) ∧ Below wr.heap.size wr w') := rsectors_c wr _ b g 1 (n + 1) ((unhide HBv).below (unhide Hlg).b) (by have := unhide HBL; omega) (by omega) (by omega) (by omega)
          go_wp2_with fail
          refine (unhide Hsec).mono ?_
          rintro e w4 ⟨v, us, rfl, hF, hb4⟩
          obtain ⟨so, co, hvf⟩ := hF.lists.form
          obtain ⟨NR, hNR⟩ : ∃ y, (recS b g 1 (n + 1)).length = y := ⟨_, rfl⟩
          rw [hNR] at hvf
          subst hvf
          have hNR2 : needs b.length = NR := by rw [← hNR, rec_len]
          have hNRb : NR ≤ 200 := by have := unhide HBL; rw [← hNR2]; unfold needs; omega
          have HF := hide hF
          have HNR := hide hNR
          have HNR2 := hide hNR2
          have Hw4 := hide ((unhide Hw).below hb4)
          have Hlg4 := hide ((unhide Hlg).below HP HW hb4)
          have Hlt : Hid (∀ k, (Value.slice ws WL wc).ownBlock = some k → w.heap.size ≤ k ∧ k < wr.heap.size) := World.ownsRow.lt (unhide Hw).own
          have Happ := hide ((unhide Hlg4).app HW _ b ((unhide HBv).below (unhide Hlg4).b) (fun hne k hk => (unhide Hlg).old (unhide HBo k hne hk)) (by have := unhide HBL; omega) fun _ => (unhide Hwi).log)
          obtain ⟨SM, hSM⟩ : ∃ y, WL + NR = y := ⟨_, rfl⟩
          have eSM : (WL : Int) + (NR : Int) = (SM : Int) := by omega
          have hSMb : SM ≤ 400 := by omega
          have HSM := hide hSM
          clear hF hb4 hNR hNR2 Hsec Hw cbr hSM
          by_cases hroom : SM ≤ sz
          · have g3 : decide ((sz : Int) < (SM : Int)) = false := by simp; omega
            have g3n : decide (sz < SM) = false := by simp; omega
            have g4 : ¬ (sz : Int) < (SM : Int) := by omega
            obtain ⟨y1, y2⟩ := (unhide Hwi).yes (b := b) (by have := unhide HBL; omega) (by rw [unhide HWL, unhide HNR2, unhide HSM]; exact hroom)
            rw [y1] at Happ
            have HWi2 := hide y2
            clear y1 y2 hroom Hwi
            go_wp2_with fail
            refine (unhide Happ).mono ?_
            rintro e w5 ⟨rfl, S5, R5, S6, R6, h5, ha5, hla5⟩
            have Hw5 := hide ((unhide Hw4).app ha5 hla5)
            have Hfr := hide (fresh_app HP HW (wv := .slice ws WL wc) (unhide HF) (unhide Hlg) ha5 hla5 fun k hk => (unhide Hlt k hk).2)
            have H5 := hide h5
            have Hln : Hid (vs.length + us.length ≤ 1000) := by show _ ≤ _; have h1 := (unhide Hw5).len; have h2 := (unhide HF).len; have h3 := unhide HWL; have h4 := unhide HNR; omega
            have HWsz : Hid (w.heap.size ≤ w5.heap.size) := h5.b.size
            clear h5 ha5 hla5 Happ Hw4 Hlg Hlg4
            go_wp2_with (at_builtin; refine wpList_append_vals Ebb rfl _ _ rfl w.heap.size (.slice ws WL wc) (.slice so NR co) vs us rfl (unhide Hw5).own rfl (unhide Hfr).1 (unhide Hfr).2.1 (unhide HWsz) (by have := unhide Hln; omega) ?_
                         intro wv2 w6 ho6 hg6 hor6)
            have ha6 : Aside (fun k => (Value.slice ws WL wc).ownBlock = some k) w5 w6 := Aside.of_grown hg6 fun k hk => hk
            have HW6 := hide ((unhide Hw5).push (unhide HF).len (unhide Hfr).2.2 ho6 ha6 hor6 ((unhide H5).off HP HW (Or.inl (Nat.le_refl _))))
            have H6 := hide ((unhide H5).kept HP HW ha6 (fun k hk => (unhide Hw5).off k hk) fun k hk => (unhide Hlt k hk).1)
            obtain ⟨ws2, wc2, hwf⟩ := (unhide HW6).lists.form
            rw [List.length_append, unhide HWL, unhide HNR, unhide HSM] at hwf
            subst hwf
            have HWL2 : Hid ((want ++ recS b g 1 (n + 1)).length = SM) := by show _ = _; rw [List.length_append, unhide HWL, unhide HNR, unhide HSM]
            clear ho6 hg6 hor6 ha6 Hw5 H5 Hfr HF
            refine ⟨⟨j + 1, n + 1, SM, wc2, ws2, vs ++ us, want ++ recS b g 1 (n + 1), _, _, S5, R5, S6, R6, by omega, by omega, ?_, ?_, rfl, HWL2, HW6, H6, HWi2⟩, ?_⟩
            · simp
            · simp
            · simp [intOf]; omega
          · have g3 : decide ((sz : Int) < (SM : Int)) = true := by simp; omega
            have g3n : decide (sz < SM) = true := by simp; omega
            have g4 : (sz : Int) < (SM : Int) := by omega
            obtain ⟨y1, y2, y3⟩ := append_full (L := L) (s := s) (b := b) (unhide Hwi).shut (by have := unhide HBL; omega) (by rw [(unhide Hwi).size, (unhide Hwi).used, unhide HWL, unhide HNR2, unhide HSM]; omega)
            rw [y1, y2, y3] at Happ
            clear y1 y2 y3 hroom
            go_wp2_with fail
            refine (unhide Happ).mono ?_
            rintro e w5 ⟨rfl, S5, R5, S6, R6, h5, ha5, hla5⟩
            have Hw5 := hide ((unhide Hw4).app ha5 hla5)
            have H5 := hide h5
            clear h5 ha5 hla5 Happ Hw4 Hlg Hlg4 HF
            go_wp2
            refine ⟨⟨j + 1, n, WL, wc, ws, vs, want, _, _, S5, R5, S6, R6, by omega, by omega, ?_, rfl, rfl, HWL, Hw5, H5, Hwi⟩, ?_⟩
            · simp
            · simp [intOf]; omega
      · obtain rfl : j = M := by omega
        have f1 : decide ((j : Int) < (j : Int)) = false := by simp
        have hwi := unhide Hwi
        have Hls : Hid (Calls Try.prog 13 #[.pointer (some pa), .int .i64 3, .int .i64 (tz : Int)] wr fun e w' => ∃ v, e = .returned v ∧ BLists w' v (W.partOf (contentS s) 3 sz) ∧ Below wr.heap.size wr w') := by
          have h1 := lsectors_c HP (unhide Hlg).p 3 sz hwi.log.down (by have := hwi.len; omega) (by rw [hwi.log.loose]; simp) (by omega) (by omega)
          rw [unhide HTz] at h1
          exact h1
        rw [content_none hwi.log.loose, hwi.part, unhide HWL] at Hls
        have H64 : Hid (∀ c ∈ want, c.length = 64) := fun c hc => hwi.log.ok.safe c (by
          have h1 : c ∈ W.partOf s.safe 3 sz := by rw [hwi.part]; exact List.mem_append_left _ hc
          exact List.mem_of_mem_drop (List.mem_of_mem_take h1))
        have Hloo := hide hwi.log.loose
        have Hrs := hide hwi.count
        have Hbig := hide (stands_big hwi.log.st)
        have Hnf := hide hwi.fit.2
        clear hwi
        go_wp2_with fail
        refine (unhide Hls).mono ?_
        rintro e w4 ⟨v, rfl, hG, hb4⟩
        have hGl : (want ++ List.replicate (sz - WL) zeros).length = sz := by rw [List.length_append, List.length_replicate, unhide HWL]; omega
        obtain ⟨gs, gc, hvf⟩ := hG.form
        rw [hGl] at hvf
        subst hvf
        have HG := hide hG
        have HWt := hide ((unhide Hw).below hb4).lists
        have H4 := hide ((unhide Hlg).below HP HW hb4)
        clear hG hb4 hGl Hls Hw Hlg Hwi
        go_wp2
        go_loopw [99] (fun ii wq => ∃ i : Nat, i ≤ WL ∧ ii = .int .i64 (i : Int) ∧ Hid (Below w4.heap.size w4 wq)) (fun ii _ => WL - (intOf ii).toNat)
        case atStart => exact ⟨0, by omega, rfl, Below.refl _ _⟩
        case round =>
          rename_i wq _
          obtain ⟨i, hi, rfl, Hb⟩ := hrel
          by_cases hlt2 : i < WL
          · have f2 : decide ((i : Int) < (WL : Int)) = true := by simp; omega
            have f2n : decide (i < WL) = true := by simp; omega
            have p0 : (0 : Int) ≤ (i : Int) := by omega
            have p1 : (i : Int) < (WL : Int) := by omega
            have p2 : (i : Int) < (sz : Int) := by omega
            have f3 : decide ((sz : Int) ≤ (i : Int)) = false := by simp; omega
            have f3n : decide (sz ≤ i) = false := by simp; omega
            have p3 : ¬ (sz : Int) ≤ (i : Int) := by omega
            obtain ⟨b, hb⟩ : ∃ b, want[i]? = some b := ⟨_, List.getElem?_eq_getElem (by have := unhide HWL; omega)⟩
            have hb2 : (want ++ List.replicate (sz - WL) zeros)[i]? = some b := by rw [List.getElem?_append_left (by have := unhide HWL; omega)]; exact hb
            obtain ⟨g1, o1, v1, rfl, c1, b1⟩ := ((unhide HWt).below (unhide Hb)).at hb
            obtain ⟨g2, o2, v2, rfl, c2, b2⟩ := ((unhide HG).below (unhide Hb)).at hb2
            obtain ⟨s1, q1, rfl, _⟩ := bytes_open b1
            obtain ⟨s2, q2, rfl, _⟩ := bytes_open b2
            have h64 := unhide H64 b (List.mem_of_getElem? hb)
            have Hs := hide (same_any _ _ _ b b b2 b1 (by omega))
            rw [decide_eq_true (rfl : b = b), h64] at Hs
            rw [h64] at c1 c2
            clear b1 b2 hb hb2 h64
            go_wp2_with fail
            refine (unhide Hs).mono ?_
            rintro e w5 ⟨rfl, hb5⟩
            have Hb5 := hide ((unhide Hb).trans (hb5.mono (unhide Hb).size))
            clear hb5 Hs Hb c1 c2
            go_wp2
            refine ⟨⟨i + 1, by omega, ?_, Hb5⟩, ?_⟩
            · simp
            · simp [intOf]; omega
          · obtain rfl : i = WL := by omega
            have f2 : decide ((i : Int) < (i : Int)) = false := by simp
            obtain ⟨RL, hRL⟩ : ∃ y, sz - i = y := ⟨_, rfl⟩
            have hsl := fun w => slice_restbb gs sz gc i (by omega) w
            have hR := ((unhide HG).below (unhide Hb)).rest i (by omega)
            rw [List.drop_left' (unhide HWL)] at hR
            obtain ⟨cs, hcs⟩ : ∃ y, cutAt gs gc i = y := ⟨_, rfl⟩
            obtain ⟨cc, hcc⟩ : ∃ y, gc - i = y := ⟨_, rfl⟩
            rw [hRL, hcs, hcc] at hR
            simp only [hRL, hcs, hcc] at hsl
            have HR := hide hR
            have H5 := hide ((unhide H4).below HP HW (unhide Hb))
            have hRb : RL ≤ 120 := by omega
            clear hR hcs hcc hRL HG Hb H4 HWt
            go_wp2
            go_loopw [123] (fun ii wq => ∃ i : Nat, i ≤ RL ∧ ii = .int .i64 (i : Int) ∧ Hid (Below wr.heap.size wr wq)) (fun ii _ => RL - (intOf ii).toNat)
            case atStart => exact ⟨0, by omega, rfl, Below.refl _ _⟩
            case round =>
              obtain ⟨m, hm, rfl, Hb⟩ := hrel
              by_cases hlt3 : m < RL
              · have f3 : decide ((m : Int) < (RL : Int)) = true := by simp; omega
                have f3n : decide (m < RL) = true := by simp; omega
                have p0 : (0 : Int) ≤ (m : Int) := by omega
                have p1 : (m : Int) < (RL : Int) := by omega
                have hb : (List.replicate RL zeros)[m]? = some zeros := by rw [List.getElem?_replicate, if_pos hlt3]
                obtain ⟨g1, o1, v1, rfl, c1, b1⟩ := ((unhide HR).below (unhide Hb)).at hb
                obtain ⟨s1, q1, rfl, _⟩ := bytes_open b1
                rw [zeros_len] at c1 b1
                obtain ⟨w5, hm5', hO5, hb5⟩ := made_zeros _ 64 (by omega)
                have hm5 : (Instr.makeSlice 30 (.int .i64 64) (.int .i64 64)).run Try.prog _ = _ := hm5'
                have Hs := hide (same_any w5 _ _ zeros zeros (b1.below hb5) hO5.bytes (by rw [zeros_len]; omega))
                rw [decide_eq_true (rfl : zeros = zeros)] at Hs
                have Hb5 := hide ((unhide Hb).trans (hb5.mono (unhide Hb).size))
                clear hm5' hO5 hb5 b1 hb Hb
                go_wp2_with fail
                refine (unhide Hs).mono ?_
                rintro e w6 ⟨rfl, hb6⟩
                have Hb6 := hide ((unhide Hb5).trans (hb6.mono (unhide Hb5).size))
                clear hb6 Hs Hb5 c1 hm5
                go_wp2
                refine ⟨⟨m + 1, by omega, ?_, Hb6⟩, ?_⟩
                · simp
                · simp [intOf]; omega
              · obtain rfl : m = RL := by omega
                have f3 : decide ((m : Int) < (m : Int)) = false := by simp
                have H6 := hide ((unhide H5).below HP HW (unhide Hb))
                have Hlo := hide (HP.loose (unhide H6).p)
                rw [unhide Hloo, List.length_nil, show ((0 : Nat) : Int) = 0 from rfl] at Hlo
                clear HR H5 Hb
                go_wp2_with fail
                refine (unhide Hlo).mono ?_
                rintro e w7 ⟨rfl, hb7⟩
                have h7 := (unhide H6).below HP HW hb7
                have Hrec := hide (h7.recs HP HW (by rw [unhide Hrs]; have := unhide Hnf; omega) (unhide Hbig))
                clear h7 hb7 H6 Hlo
                go_wp2_with fail
                refine (unhide Hrec).mono ?_
                rintro e w8 ⟨v, ks, rfl, hls, hg8, _⟩
                obtain ⟨sv, cv, hvf⟩ := hls.lists.form
                rw [List.length_map, unhide Hrs] at hvf
                subst hvf
                have HB := hide hg8.b
                clear hls hg8 Hrec
                go_wp2
                go_ret
                exact ⟨rfl, unhide HB⟩
end
end Go.Proofs.Ytfpndphfibfdiaa
