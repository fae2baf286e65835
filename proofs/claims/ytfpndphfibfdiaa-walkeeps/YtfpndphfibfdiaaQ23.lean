/-
  WalKeeps, walked out of the records Plate and Wal.
-/
import Derived.Test.YtfpndphfibfdiaaQ17
namespace Go.Proofs.Ytfpndphfibfdiaa
open Go.RowKit
section
variable {PAt : Set_ → Set_ → World → Value → PS → Prop} {LAt : Set_ → Set_ → World → Value → Value → LS → Prop} (HP : Plate PAt) (HW : Wal PAt LAt)
set_option maxRecDepth 100000 in
set_option maxHeartbeats 16000000 in
include HP HW in
theorem keeps_true (w : World) (z : Int) (x : Value) (ts : List TurnP) (hx : TurnsAt w x ts) (hz1 : -9223372036854775808 ≤ z) (hz2 : z ≤ 9223372036854775807) : Calls Try.prog 4 #[.int .i64 z, x] w fun e w' => e = .returned (.bool true) ∧ Below w.heap.size w w' := by
  obtain ⟨sx, cx, rfl, hcx⟩ := hx
  obtain ⟨M, hM⟩ : ∃ M, ts.length = M := ⟨_, rfl⟩
  rw [hM]
  have HM := hide hM
  have Hanc := hide (anchor_c HP HW w)
  by_cases hbad : z < 1 ∨ 100 < z ∨ 12 < M
  · clear hM hcx
    by_cases h1 : z < 1
    · have d1 : decide (z < 1) = true := by simp; omega
      go_enter Try.func4, Try.ntmps4
      go_wp2_with fail
      refine (unhide Hanc).mono ?_
      rintro e w1 ⟨rfl, hb⟩
      have HB := hide hb
      clear hb Hanc
      go_wp2
      go_ret
      exact ⟨rfl, unhide HB⟩
    · have d1 : decide (z < 1) = false := by simp; omega
      by_cases h2 : 100 < z
      · have d2 : decide (100 < z) = true := by simp; omega
        go_enter Try.func4, Try.ntmps4
        go_wp2_with fail
        refine (unhide Hanc).mono ?_
        rintro e w1 ⟨rfl, hb⟩
        have HB := hide hb
        clear hb Hanc
        go_wp2
        go_ret
        exact ⟨rfl, unhide HB⟩
      · have d2 : decide (100 < z) = false := by simp; omega
        have d3 : decide (12 < (M : Int)) = true := by simp; omega
        have d3n : decide (12 < M) = true := by simp; omega
        have j3 : 12 < (M : Int) := by omega
        go_enter Try.func4, Try.ntmps4
        go_wp2_with fail
        refine (unhide Hanc).mono ?_
        rintro e w1 ⟨rfl, hb⟩
        have HB := hide hb
        clear hb Hanc
        go_wp2
        go_ret
        exact ⟨rfl, unhide HB⟩
  · obtain ⟨sz, hsz⟩ : ∃ n : Nat, z = (n : Int) := ⟨z.toNat, by omega⟩
    subst hsz
    have hs6 : sz ≤ 100 := by omega
    have hs1 : 1 ≤ sz := by omega
    have hM6 : M ≤ 12 := by omega
    have d1 : decide ((sz : Int) < 1) = false := by simp; omega
    have d1n : decide (sz < 1) = false := by simp; omega
    have d2 : decide (100 < (sz : Int)) = false := by simp; omega
    have d2n : decide (100 < sz) = false := by simp; omega
    have d3 : decide (12 < (M : Int)) = false := by simp; omega
    have d3n : decide (12 < M) = false := by simp; omega
    have j1 : ¬ (sz : Int) < 1 := by omega
    have j2 : ¬ 100 < (sz : Int) := by omega
    have j3 : ¬ 12 < (M : Int) := by omega
    obtain ⟨tz, htz⟩ : ∃ a, 9 + sz = a := ⟨_, rfl⟩
    have HTz := hide htz
    have e1 : 9 + (sz : Int) = (tz : Int) := by omega
    have b1 : tz ≤ 109 := by omega
    have Hcx := hide hcx
    clear hM hbad hcx htz
    go_enter Try.func4, Try.ntmps4
    go_wp2_with fail
    refine (unhide Hanc).mono ?_
    rintro e w1 ⟨rfl, hb1⟩
    have HB1 := hide hb1
    have Hn : Hid (Calls Try.prog 9 #[.int .i64 120] w1 fun e w' => ∃ p, e = .returned p ∧ ∃ S R, PAt S R w' p (newS 120) ∧ (∀ k, S k ∨ R k → w1.heap.size ≤ k) ∧ Below w1.heap.size w1 w') := HP.new_yes w1 120 (by omega) (by omega)
    clear hb1 Hanc
    go_wp2_with fail
    refine (unhide Hn).mono ?_
    rintro e w2 ⟨p, rfl, S, R, hp, hge, hb⟩
    obtain ⟨pa, rfl⟩ := HP.ptr hp
    have H2 : Hid (On PAt w w2 (.pointer (some pa)) S R (newS 120)) := ⟨hp, fun k hk => Nat.le_trans (unhide HB1).size (hge k hk), (unhide HB1).trans (hb.mono (unhide HB1).size)⟩
    have HRe := hide (rest_new 120 9 sz 7 (by omega) (by omega) (by omega) (by omega))
    have HLn : Hid ((newS 120).safe.length = 120) := List.length_replicate
    have HW0 := hide (grow_nil w2 w.heap.size)
    have HOff0 : Hid (∀ k, (Value.slice none 0 0).ownBlock = some k → ¬ S k ∧ ¬ R k) := fun k hk => by simp [Value.ownBlock] at hk
    clear hp hge hb Hn HB1
    go_wp2
    go_loopw [6, 41] (fun wv ii wr => ∃ (T SL sc : Nat) (ss : Option Addr) (s : PS) (rs : List (Bs × Nat)) (S R : Set_), T ≤ M ∧ ii = .int .i64 (T : Int) ∧ wv = .slice ss SL sc ∧ SL ≤ 1000 ∧ Hid (rs.length = SL) ∧ Hid (On PAt w wr (.pointer (some pa)) S R s) ∧ Hid (Rest 7 9 sz T s rs) ∧ Hid (s.safe.length = 120) ∧ Hid (GrowAt wr w.heap.size (.slice ss SL sc) (rs.map (·.1))) ∧ Hid (∀ k, (Value.slice ss SL sc).ownBlock = some k → ¬ S k ∧ ¬ R k)) (fun _ ii _ => M - (intOf ii).toNat)
    case atStart => exact ⟨0, 0, 0, none, newS 120, [], S, R, by omega, rfl, rfl, by omega, rfl, H2, HRe, HLn, HW0, HOff0⟩
    case round =>
      obtain ⟨T, SL, sc, ss, s, rs, S', R', hT, rfl, rfl, hSL, HSL, Ho, Hr, Hln, Hg, Hof⟩ := hrel
      clear H2 HRe HLn HW0 HOff0
      by_cases hlt : T < M
      · have f1 : decide ((T : Int) < (M : Int)) = true := by simp; omega
        have f1n : decide (T < M) = true := by simp; omega
        have q0 : (0 : Int) ≤ (T : Int) := by omega
        have q1 : (T : Int) < (M : Int) := by omega
        obtain ⟨xg, xo, hsx, hcell⟩ := unhide Hcx (by intro e; have := unhide HM; rw [e] at this; simp at this; omega)
        subst hsx
        obtain ⟨t, ht⟩ : ∃ t, ts[T]? = some t := ⟨_, List.getElem?_eq_getElem (by have := unhide HM; omega)⟩
        obtain ⟨ha1, ha2, hl64, lv, kv, cl0, ca0, ck0, hlw, hkw⟩ := hcell T t ht
        have hbw := (unhide Ho).b
        have cl : wr.cell? ⟨xg, xo + T * 3, none⟩ = some lv := by rw [hbw.cell (World.block_lt_of_cell? _ _ cl0)]; exact cl0
        have ca : wr.cell? ⟨xg, xo + T * 3 + 1, none⟩ = some (.int .i64 t.arm) := by rw [hbw.cell (World.block_lt_of_cell? _ _ ca0)]; exact ca0
        have ck : wr.cell? ⟨xg, xo + T * 3 + 2, none⟩ = some kv := by rw [hbw.cell (World.block_lt_of_cell? _ _ ck0)]; exact ck0
        obtain ⟨lsp, lc, hlf⟩ := hlw.form
        obtain ⟨NL, hNL⟩ : ∃ y, t.list.length = y := ⟨_, rfl⟩
        rw [hNL] at hlf hl64
        subst hlf
        obtain ⟨ksp, kc, hkf⟩ := hkw.form
        obtain ⟨KL, hKL⟩ : ∃ y, t.keep.length = y := ⟨_, rfl⟩
        rw [List.length_map, hKL] at hkf
        subst hkf
        obtain ⟨AR, hAR⟩ : ∃ y, t.arm = y := ⟨_, rfl⟩
        rw [hAR] at ca ha1 ha2
        have HLw := hide hlw
        have HKw := hide hkw
        have HNL := hide hNL
        have HKL := hide hKL
        have hrowV := heap_alloc_new wr (.cells [.slice lsp NL lc, .int .i64 AR, .slice ksp KL kc].toArray 41)
        have hbV : Below wr.heap.size wr (wr.alloc (.cells [.slice lsp NL lc, .int .i64 AR, .slice ksp KL kc].toArray 41)) := (Below.refl _ _).alloc (Nat.le_refl _) _
        obtain ⟨V, hV⟩ : ∃ V, wr.heap.size = V := ⟨_, rfl⟩
        have HCalm : Hid (Calm PAt w (wr.alloc (.cells [.slice lsp NL lc, .int .i64 AR, .slice ksp KL kc].toArray 41)) (.pointer (some pa)) V [.slice lsp NL lc, .int .i64 AR, .slice ksp KL kc] S' R' s (.slice ss SL sc) (rs.map (·.1))) :=
          ⟨(unhide Ho).below HP hbV, by rw [← hV]; exact hrowV, ⟨(unhide Ho).new HP (by omega), fun h => by have := HP.old (unhide Ho).p V (Or.inr h); omega⟩, by rw [← hV]; exact hbw.size, (unhide Hg).below hbV, unhide Hof⟩
        have v0 := row_cell hrowV 0 _ rfl
        obtain ⟨w3, hw3⟩ : ∃ y, wr.alloc (.cells [.slice lsp NL lc, .int .i64 AR, .slice ksp KL kc].toArray 41) = y := ⟨_, rfl⟩
        rw [hw3] at HCalm v0
        rw [hV] at v0
        have HB3 : Hid (Below w.heap.size w w3) := (unhide HCalm).on.b
        clear hcell ht cl0 ca0 ck0 hlw hkw hNL hKL hAR hrowV hbV Ho Hg Hof
        by_cases hmany : 12 < NL
        · have g3 : decide (12 < (NL : Int)) = true := by simp; omega
          have g3n : decide (12 < NL) = true := by simp; omega
          have g4 : 12 < (NL : Int) := by omega
          clear hbw HCalm Hr
          go_wp2
          go_ret
          exact ⟨rfl, unhide HB3⟩
        · have g3 : decide (12 < (NL : Int)) = false := by simp; omega
          have g3n : decide (12 < NL) = false := by simp; omega
          have g4 : ¬ 12 < (NL : Int) := by omega
          obtain ⟨hka, hkr⟩ := (unhide Hr).ka (unhide Hln) (by omega)
          have HKa := hide hka
          have HKr := hide hkr
          have Hbig := hide (stands_big (unhide Hr).st)
          have Hop : Hid (Calls Try.prog 10 #[.pointer (some pa), .int .i64 9, .int .i64 (tz : Int), .int .i64 7] w3 fun e w' => ∃ la, e = .returned (.tuple #[.pointer (some la), .int .i64 0]) ∧ ∃ S2 R2, Lg PAt LAt w w' (.pointer (some pa)) (.pointer (some la)) S' R' S2 R2 s (openL s 9 sz 7) ∧ Below w3.heap.size w3 w' ∧ ∀ k, S2 k ∨ R2 k → w3.heap.size ≤ k) := by
            have h1 := (unhide HCalm).on.open_ HP HW 9 sz 7 hs1 (by have := unhide Hln; omega) (by omega) (by omega) (unhide Hr).down (by rw [(unhide Hr).loose]; simp)
            rw [unhide HTz] at h1
            exact h1
          have Hfew := hide (unhide Hr).few
          clear hka hkr hbw HB3
          go_wp2_with fail
          refine (unhide Hop).mono ?_
          rintro e w4 ⟨la, rfl, S2, R2, h4, hb4, hn4⟩
          have HLf := hide ((unhide HCalm).opened h4 hb4 hn4)
          have Hrec := hide (h4.recs HP HW (by rw [unhide HKr]; have := (unhide Hfew).2; omega) (by rw [unhide HKr]; exact unhide Hbig))
          rw [unhide HKr] at Hrec
          clear h4 hb4 hn4 Hop HCalm cl ca ck hV v0 hw3
          go_wp2_with fail
          refine (unhide Hrec).mono ?_
          rintro e w5 ⟨v, ws, rfl, hls, _, hb5⟩
          obtain ⟨sv2, cv2, hv2⟩ := hls.lists.form
          rw [List.length_map, unhide HSL] at hv2
          subst hv2
          have HLf5 := hide ((unhide HLf).below HP HW hb5)
          have Hsm := hide (lsame_c w5 _ _ (rs.map (·.1)) (rs.map (·.1)) hls.lists (unhide HLf5).grow.read (fun b hb => by obtain ⟨y, hy, rfl⟩ := List.mem_map.1 hb; have := unhide Hbig y hy; omega) (by rw [List.length_map, unhide HSL]; omega) (by rw [List.length_map, unhide HSL]; omega))
          rw [decide_eq_true (rfl : rs.map (·.1) = rs.map (·.1))] at Hsm
          clear hls hb5 Hrec HLf
          go_wp2_with fail
          refine (unhide Hsm).mono ?_
          rintro e w6 ⟨rfl, hb6⟩
          have HLf6 := hide ((unhide HLf5).below HP HW hb6)
          have Harm := hide (HP.arm AR (unhide HLf6).lg.p ha1 ha2)
          have v1 := row_cell (unhide HLf6).row 1 _ rfl
          clear hb6 Hsm HLf5
          go_wp2_with fail
          refine (unhide Harm).mono ?_
          rintro e w7 ⟨rfl, S7, R7, hp, hS, hR, ha⟩
          have HLf7 := hide ((unhide HLf6).plate HW hp hS hR ha)
          have HKa7 := hide ((unhide HKa).arm (k := AR) ha2)
          have v0 := row_cell (unhide HLf7).row 0 _ rfl
          have HSr : Hid ((rs.map (·.1)).length = SL) := by show _ = _; rw [List.length_map]; exact unhide HSL
          clear hp hS hR ha Harm HLf6 HKa v1 Hr Hln Hbig HKr Hfew HSL
          go_wp2
          clear v0
          go_loopw [6, 11, 12, 76] (fun wv fv cv ii wr => ∃ (j SL sc FL fc : Nat) (ss fs : Option Addr) (cut : Bool) (sure : List Bs) (s : PS) (L : LS) (S R S2 R2 : Set_), j ≤ NL ∧ ii = .int .i64 (j : Int) ∧ wv = .slice ss SL sc ∧ fv = .slice fs FL fc ∧ cv = .bool cut ∧ SL ≤ 1000 + j ∧ Hid (sure.length = SL) ∧ Hid (Life PAt LAt w wr (.pointer (some pa)) (.pointer (some la)) V [.slice lsp NL lc, .int .i64 AR, .slice ksp KL kc] S R S2 R2 s L (.slice ss SL sc) sure) ∧ Hid (cut = false → KA sz T s L sure) ∧ Hid (cut = true → ∃ b k, KB sz T t.keep s L sure b k ∧ b.length = FL ∧ BytesAt w (.slice fs FL fc) b ∧ ∀ k, b ≠ [] → (Value.slice fs FL fc).ownBlock = some k → k < w.heap.size)) (fun _ _ _ ii _ => NL - (intOf ii).toNat)
          case atStart => exact ⟨0, SL, sc, 0, 0, ss, none, false, rs.map (·.1), _, _, S7, R7, S2, R2, by omega, rfl, rfl, rfl, rfl, by omega, HSr, HLf7, fun _ => unhide HKa7, fun h => by cases h⟩
          case round =>
            obtain ⟨j, SL, sc, FL, fc, ss, fs, cut, sure, s1, L1, S3, R3, S4, R4, hj, rfl, rfl, rfl, rfl, hSL2, HSL, Hlf, Hka, Hkb⟩ := hrel
            clear HLf7 HKa7 HSr hSL
            by_cases hlt2 : j < NL
            · have f2 : decide ((j : Int) < (NL : Int)) = true := by simp; omega
              have f2n : decide (j < NL) = true := by simp; omega
              have p0 : (0 : Int) ≤ (j : Int) := by omega
              have p1 : (j : Int) < (NL : Int) := by omega
              obtain ⟨b, hb⟩ : ∃ b, t.list[j]? = some b := ⟨_, List.getElem?_eq_getElem (by have := unhide HNL; omega)⟩
              obtain ⟨lg, lo, bv, rfl, cb, hbv, hbo⟩ := (unhide HLw).old hb
              have cb' := cb
              have cbr : wr.cell? ⟨lg, lo + j, none⟩ = some bv := by rw [(unhide Hlf).lg.b.cell (World.block_lt_of_cell? _ _ cb')]; exact cb'
              obtain ⟨bs, bc, rfl, _⟩ := bytes_open hbv
              obtain ⟨BL, hBL⟩ : ∃ y, b.length = y := ⟨_, rfl⟩
              rw [hBL] at hbv hbo cbr
              have HBv := hide hbv
              have HBo := hide hbo
              have HBL := hide hBL
              clear cb cb' hbv hbo hb hBL
              by_cases hbig : 1000 < BL
              · have g1 : decide (1000 < (BL : Int)) = true := by simp; omega
                have g1n : decide (1000 < BL) = true := by simp; omega
                have g2 : 1000 < (BL : Int) := by omega
                have HB := hide (unhide Hlf).lg.b
                clear Hlf Hka Hkb
                go_wp2
                go_ret
                exact ⟨rfl, unhide HB⟩
              · have g1 : decide (1000 < (BL : Int)) = false := by simp; omega
                have g1n : decide (1000 < BL) = false := by simp; omega
                have g2 : ¬ 1000 < (BL : Int) := by omega
                have Happ := hide ((unhide Hlf).lg.app HW _ b ((unhide HBv).below (unhide Hlf).lg.b) (fun hne k hk => (unhide Hlf).lg.old (unhide HBo k hne hk)) (by have := unhide HBL; omega) fun hs => by
                  cases cut with
                  | false => exact (unhide Hka rfl).log
                  | true =>
                    obtain ⟨_, _, h, _⟩ := unhide Hkb rfl
                    rw [h.shut] at hs
                    cases hs)
                cases cut with
                | true =>
                  obtain ⟨b0, k0, hkb, _⟩ := unhide Hkb rfl
                  obtain ⟨y1, y2, y3⟩ := shut_app (L := L1) (s := s1) (b := b) hkb.shut
                  rw [y1, y2, y3] at Happ
                  clear y1 y2 y3 hkb
                  go_wp2_with fail
                  refine (unhide Happ).mono ?_
                  rintro e w8 ⟨rfl, S5, R5, S6, R6, h8, ha8, hla8⟩
                  have HLf8 := hide ((unhide Hlf).app h8 ha8 hla8)
                  clear h8 ha8 hla8 Happ Hlf cbr
                  go_wp2
                  refine ⟨⟨j + 1, SL, sc, FL, fc, ss, fs, true, sure, _, _, S5, R5, S6, R6, by omega, ?_, rfl, rfl, rfl, by omega, HSL, HLf8, (fun h => by cases h), fun _ => unhide Hkb (by first | rfl | trivial)⟩, ?_⟩
                  · simp
                  · simp [intOf]; omega
                | false =>
                  rcases (unhide Hka rfl).app b (by have := unhide HBL; omega) t.keep with ⟨y1, y2, y3⟩ | ⟨y1, y2⟩ | ⟨y1, k0, y2⟩
                  · rw [y1, y2, y3] at Happ
                    clear y1 y2 y3
                    go_wp2_with fail
                    refine (unhide Happ).mono ?_
                    rintro e w8 ⟨rfl, S5, R5, S6, R6, h8, ha8, hla8⟩
                    have HLf8 := hide ((unhide Hlf).app h8 ha8 hla8)
                    clear h8 ha8 hla8 Happ Hlf cbr
                    go_wp2
                    refine ⟨⟨j + 1, SL, sc, FL, fc, ss, fs, false, sure, _, _, S5, R5, S6, R6, by omega, ?_, rfl, rfl, rfl, by omega, HSL, HLf8, (fun _ => unhide Hka (by first | rfl | trivial)), fun h => by cases h⟩, ?_⟩
                    · simp
                    · simp [intOf]; omega
                  · rw [y1] at Happ
                    have HKa8 : Hid (false = false → KA sz T (appendP L1 s1 b) (appendL L1 s1 b) (sure ++ [b])) := fun _ => y2
                    have HKb8 : Hid (false = true → ∃ b' k, KB sz T t.keep (appendP L1 s1 b) (appendL L1 s1 b) (sure ++ [b]) b' k ∧ b'.length = FL ∧ BytesAt w (.slice fs FL fc) b' ∧ ∀ k, b' ≠ [] → (Value.slice fs FL fc).ownBlock = some k → k < w.heap.size) := fun h => by cases h
                    clear y1 y2 Hka Hkb
                    go_wp2_with fail
                    refine (unhide Happ).mono ?_
                    rintro e w8 ⟨rfl, S5, R5, S6, R6, h8, ha8, hla8⟩
                    have HLf8 := hide ((unhide Hlf).app h8 ha8 hla8)
                    obtain ⟨us, hu1, hu2, hu3⟩ := (unhide HLf8).grow.lists
                    have HU1 := hide hu1
                    have HU3 := hide hu3
                    have HUl : Hid (us.length ≤ 100000) := by show _ ≤ _; have := unhide HSL; omega
                    have hbA : Below w8.heap.size w8 (w8.alloc (.cells #[] 30)) := (Below.refl _ _).alloc (Nat.le_refl _) _
                    have HBA := hide hbA
                    have HE := hide (ownbb_empty w8)
                    have HVs := hide (hu2.vals.below hbA)
                    have HBv8 := hide ((unhide HBv).below (unhide HLf8).lg.b)
                    have HSz : Hid (w8.heap.size ≤ (w8.alloc (.cells #[] 30)).heap.size) := hbA.size
                    have HUo : Hid (∀ u ∈ us, u.oneCell' = true) := fun u hu => by
                      obtain ⟨i, hi⟩ := List.getElem?_of_mem hu
                      have hil := (List.getElem?_eq_some_iff.1 hi).1
                      obtain ⟨q, hq⟩ : ∃ q, sure[i]? = some q := ⟨_, List.getElem?_eq_getElem (by omega)⟩
                      obtain ⟨s9, c9, e9, _⟩ := bytes_open (hu3 i u q hi hq).1
                      rw [e9]; rfl
                    clear h8 ha8 hla8 Happ Hlf cbr hu1 hu2 hu3 hbA
                    go_wp2_with (first
                      | (at_builtin; refine wpList_append_vals Ebb rfl _ _ rfl w8.heap.size (.slice (some ⟨w8.heap.size, 0, none⟩) 0 0) (.slice ss SL sc) [] us rfl (unhide HE) rfl (unhide HVs) (unhide HUo) (unhide HSz) (by have := unhide HUl; simp; omega) ?_
                         intro v9 w9 ho9 hg9 _
                         rw [List.nil_append] at ho9
                         have HB9 := hide (own_below (unhide HE) hg9 (unhide HBA) (unhide HSz))
                         obtain ⟨s9, c9, hv9⟩ := ho9.form
                         rw [unhide HU1, unhide HSL] at hv9
                         subst hv9
                         have HO9 := hide (ho9.alloc (.cells #[.slice bs BL bc] 30))
                         have HV9 : Hid (ValsAt (w9.alloc (.cells #[.slice bs BL bc] 30)) (.slice (some ⟨w9.heap.size, 0, none⟩) 1 1) [.slice bs BL bc]) := vals_new w9 [.slice bs BL bc] 30
                         have HB9b : Hid (Below w8.heap.size w8 (w9.alloc (.cells #[.slice bs BL bc] 30))) := (unhide HB9).alloc (unhide HB9).size _
                         have HSz9 := hide (unhide HB9b).size
                         clear ho9 hg9)
                      | (at_builtin; refine wpList_append_vals Ebb rfl _ _ rfl w8.heap.size (.slice s9 SL c9) (.slice (some ⟨w9.heap.size, 0, none⟩) 1 1) us [.slice bs BL bc] rfl (unhide HO9) rfl (unhide HV9) (by simp [Value.oneCell']) (unhide HSz9) (by have := unhide HUl; simp; omega) ?_
                         intro v10 w10 ho10 hg10 _
                         have HB10 := hide (own_below (unhide HO9) hg10 (unhide HB9b) (unhide HSz9))
                         have HGr10 := hide (grow_anew (b := b) (unhide HU1) (unhide HU3) (unhide HBv8) (unhide HBo) (unhide HLf8).lg.b.size ho10 (unhide HB10))
                         obtain ⟨s10, c10, hv10⟩ := (unhide HGr10).form
                         rw [List.length_append, List.length_singleton, unhide HSL] at hv10
                         subst hv10
                         have HLf10 := hide (((unhide HLf8).below HP HW (unhide HB10)).anew (unhide HGr10) fun k hk => (unhide HLf8).lg.off HP HW (Or.inl (World.ownsRow.lt ho10 k hk).1))
                         clear ho10 hg10))
                    have HSL10 : Hid ((sure ++ [b]).length = SL + 1) := by show _ = _; rw [List.length_append, List.length_singleton, unhide HSL]
                    clear HB10 HGr10 HO9 HV9 HB9b HB9 HE HBA HVs HLf8 HBv8
                    refine ⟨⟨j + 1, SL + 1, c10, FL, fc, s10, fs, false, sure ++ [b], _, _, S5, R5, S6, R6, by omega, ?_, rfl, rfl, rfl, by omega, HSL10, HLf10, (fun _ => unhide HKa8 (by first | rfl | trivial)), fun h => by cases h⟩, ?_⟩
                    · simp
                    · simp [intOf]; omega
                  · rw [y1] at Happ
                    have HKa8 : Hid (true = false → KA sz T (appendP L1 s1 b) (appendL L1 s1 b) sure) := fun h => by cases h
                    have HKb8 : Hid (true = true → ∃ b' k, KB sz T t.keep (appendP L1 s1 b) (appendL L1 s1 b) sure b' k ∧ b'.length = BL ∧ BytesAt w (.slice bs BL bc) b' ∧ ∀ k, b' ≠ [] → (Value.slice bs BL bc).ownBlock = some k → k < w.heap.size) := fun _ => ⟨b, k0, y2, unhide HBL, unhide HBv, unhide HBo⟩
                    clear y1 y2 Hka Hkb
                    go_wp2_with fail
                    refine (unhide Happ).mono ?_
                    rintro e w8 ⟨rfl, S5, R5, S6, R6, h8, ha8, hla8⟩
                    have HLf8 := hide ((unhide Hlf).app h8 ha8 hla8)
                    clear h8 ha8 hla8 Happ Hlf cbr
                    go_wp2
                    refine ⟨⟨j + 1, SL, sc, BL, bc, ss, bs, true, sure, _, _, S5, R5, S6, R6, by omega, ?_, rfl, rfl, rfl, by omega, HSL, HLf8, (fun h => by cases h), fun _ => unhide HKb8 (by first | rfl | trivial)⟩, ?_⟩
                    · simp
                    · simp [intOf]; omega
            · obtain rfl : j = NL := by omega
              have f2 : decide ((j : Int) < (j : Int)) = false := by simp
              obtain ⟨KW, hKW⟩ : ∃ y, s1.loose.length = y := ⟨_, rfl⟩
              have HKW := hide hKW
              have hKWb : KW ≤ 1000 := by
                cases cut with
                | false => have h1 := (unhide Hka rfl).log.loose; rw [h1] at hKW; simp at hKW; omega
                | true =>
                  obtain ⟨b0, k0, h1, _⟩ := unhide Hkb rfl
                  have h2 := h1.loose
                  have h3 := h1.le
                  have h4 := h1.small
                  have h5 : needs b0.length ≤ 22 := by unfold needs; omega
                  omega
              have Hlo := hide (HP.loose (unhide Hlf).lg.p)
              rw [hKW] at Hlo
              clear hKW
              go_wp2_with fail
              refine (unhide Hlo).mono ?_
              rintro e w9 ⟨rfl, hb9⟩
              have HCa9 := hide ((unhide Hlf).below HP HW hb9).calm
              have v2 := row_cell (unhide HCa9).row 2 _ rfl
              have HK9 : Hid (∀ j, j < KL → ∃ g o, ksp = some ⟨g, o, none⟩ ∧ w9.cell? ⟨g, o + j, none⟩ = some (.bool (t.keep.getD j false))) := fun j hj => by
                obtain ⟨_, _, e, _, _, h3⟩ := (unhide HKw).below (unhide HCa9).on.b
                simp only [Value.slice.injEq] at e
                obtain ⟨e1, _, _⟩ := e
                obtain ⟨g, o, e2, hc⟩ := h3 (by intro e; have := congrArg List.length e; rw [List.length_map, unhide HKL] at this; simp at this; omega)
                refine ⟨g, o, e1.trans e2, hc j _ ?_⟩
                rw [List.getElem?_map, List.getElem?_eq_getElem (by have := unhide HKL; omega), List.getD_eq_getElem?_getD, List.getElem?_eq_getElem (by have := unhide HKL; omega)]
                rfl
              clear hb9 Hlf Hlo
              go_wp2
              go_loopw [17, 116] (fun av ii wr => ∃ (i : Nat) (a : Bool), i ≤ KW ∧ ii = .int .i64 (i : Int) ∧ av = .bool a ∧ Hid (a = true ↔ ∀ j, j < i → t.keep.getD j false = true) ∧ wr = w9) (fun _ ii _ => KW - (intOf ii).toNat)
              case atStart => exact ⟨0, true, by omega, rfl, rfl, ⟨fun _ j hj => by omega, fun _ => rfl⟩, rfl⟩
              case round =>
                obtain ⟨i, a, hi, rfl, rfl, Ha, hw⟩ := hrel
                have := hw.symm
                subst this
                by_cases hiN : i < KW
                · have g1 : decide ((i : Int) < (KW : Int)) = true := by simp; omega
                  have g1n : decide (i < KW) = true := by simp; omega
                  have g2 : (i : Int) < (KW : Int) := by omega
                  have g0 : (0 : Int) ≤ (i : Int) := by omega
                  cases a with
                  | false =>
                    have Ha2 : Hid (false = true ↔ ∀ j, j < i + 1 → t.keep.getD j false = true) := ⟨fun h => (by cases h), fun h => (unhide Ha).2 fun j hj => h j (by omega)⟩
                    clear Ha
                    go_wp2
                    refine ⟨⟨i + 1, false, by omega, ?_, rfl, Ha2, ?_⟩, ?_⟩
                    · simp
                    · trivial
                    · simp [intOf]; omega
                  | true =>
                    by_cases hik : i < KL
                    · have g3 : decide ((i : Int) < (KL : Int)) = true := by simp; omega
                      have g3n : decide (i < KL) = true := by simp; omega
                      have g4 : (i : Int) < (KL : Int) := by omega
                      obtain ⟨g, o, rfl, hc⟩ := unhide HK9 i hik
                      obtain ⟨kk, hkk⟩ : ∃ kk, t.keep.getD i false = kk := ⟨_, rfl⟩
                      rw [hkk] at hc
                      have Ha2 : Hid (kk = true ↔ ∀ j, j < i + 1 → t.keep.getD j false = true) := ⟨fun h j hj => by
                        by_cases e : j = i
                        · subst e; rw [hkk]; exact h
                        · exact (unhide Ha).1 rfl j (by omega), fun h => by rw [← hkk]; exact h i (by omega)⟩
                      clear Ha hkk
                      go_wp2
                      refine ⟨⟨i + 1, kk, by omega, ?_, rfl, Ha2, ?_⟩, ?_⟩
                      · simp
                      · trivial
                      · simp [intOf]; omega
                    · have g3 : decide ((i : Int) < (KL : Int)) = false := by simp; omega
                      have g3n : decide (i < KL) = false := by simp; omega
                      have g4 : ¬ (i : Int) < (KL : Int) := by omega
                      have Ha2 : Hid (false = true ↔ ∀ j, j < i + 1 → t.keep.getD j false = true) := ⟨fun h => (by cases h), fun h => by
                        have h1 := h i (by omega)
                        rw [List.getD_eq_getElem?_getD, List.getElem?_eq_none (by have := unhide HKL; omega)] at h1
                        cases h1⟩
                      clear Ha
                      go_wp2
                      refine ⟨⟨i + 1, false, by omega, ?_, rfl, Ha2, ?_⟩, ?_⟩
                      · simp
                      · trivial
                      · simp [intOf]; omega
                · obtain rfl : i = KW := by omega
                  have g1 : decide ((i : Int) < (i : Int)) = false := by simp
                  have Hrev := hide (HP.revive _ t.keep (unhide HCa9).on.p ((unhide HKw).below (unhide HCa9).on.b) (fun _ k hk => (unhide HCa9).on.old (by
                    have hne : t.keep.map Value.bool ≠ [] := by intro e; have := congrArg List.length e; simp at this; rename_i h8; exact h8 this
                    exact ValsAt.old (unhide HKw) hne k hk)) (by rw [unhide HKW]; omega))
                  go_wp2_with fail
                  refine (unhide Hrev).mono ?_
                  rintro e w10 ⟨rfl, S8, R8, hp, hS, hR, ha⟩
                  have HCa10 := hide ((unhide HCa9).plate hp hS hR ha)
                  clear hp hS hR ha Hrev HCa9 v2 HK9
                  cases cut with
                  | false =>
                    obtain ⟨r1, r2, r3, r4⟩ := (unhide Hka (by first | rfl | trivial)).done t.keep
                    have HR1 := hide r1
                    have HR3 := hide r3
                    have HSn : Hid (L1.rs.length = SL) := by show _ = _; rw [← unhide HSL, ← r2, List.length_map]
                    have hSn : SL ≤ 1000 := by have := (unhide HR1).few.2; have := unhide HSn; omega
                    have HGn : Hid (GrowAt w10 w.heap.size (.slice ss SL sc) (L1.rs.map (·.1))) := by show GrowAt _ _ _ _; rw [r2]; exact (unhide HCa10).grow
                    have HOn := hide (unhide HCa10).on
                    have HOf := hide (unhide HCa10).offG
                    clear r1 r2 r3 r4 Hka Hkb HCa10
                    go_wp2
                    refine ⟨⟨T + 1, SL, sc, ss, _, L1.rs, S8, R8, by omega, ?_, rfl, hSn, HSn, HOn, HR1, HR3, HGn, HOf⟩, ?_⟩
                    · simp
                    · simp [intOf]; omega
                  | true =>
                    obtain ⟨b, k0, hkb, hbl, hbv, hbo⟩ := unhide Hkb (by first | rfl | trivial)
                    obtain ⟨rs1, o1, hr1, hr2⟩ := hkb.rest
                    have hk0 : i = k0 := by rw [← unhide HKW]; exact hkb.loose
                    subst hk0
                    have HBv := hide hbv
                    have HBo := hide hbo
                    have HBL := hide hbl
                    have HR1 := hide hr1
                    have HLen := hide hkb.len
                    have hFL : FL ≤ 1000 := by have := hkb.small; omega
                    obtain ⟨s2, hs2⟩ : ∃ y, reviveS s1 t.keep = y := ⟨_, rfl⟩
                    rw [hs2] at HCa10 HLen hr2
                    obtain ⟨rs2, hrs2⟩ : ∃ y, (if i = needs b.length ∧ WholeK i t.keep then rs1 ++ [(b, o1)] else rs1) = y := ⟨_, rfl⟩
                    rw [hrs2] at hr2
                    have HRe2 := hide hr2
                    have HRs2 := hide hrs2
                    obtain ⟨hka2, hkr2⟩ := hr2.ka (unhide HLen) (by omega)
                    have HKr2 := hide hkr2
                    have Hbig2 := hide (stands_big hr2.st)
                    have Hfew2 := hide hr2.few
                    have Hop : Hid (Calls Try.prog 10 #[.pointer (some pa), .int .i64 9, .int .i64 (tz : Int), .int .i64 7] w10 fun e w' => ∃ la, e = .returned (.tuple #[.pointer (some la), .int .i64 0]) ∧ ∃ S2 R2, Lg PAt LAt w w' (.pointer (some pa)) (.pointer (some la)) S8 R8 S2 R2 s2 (openL s2 9 sz 7) ∧ Below w10.heap.size w10 w' ∧ ∀ k, S2 k ∨ R2 k → w10.heap.size ≤ k) := by
                      have h1 := (unhide HCa10).on.open_ HP HW 9 sz 7 hs1 (by have := unhide HLen; omega) (by omega) (by omega) hr2.down (by rw [hr2.loose]; simp)
                      rw [unhide HTz] at h1
                      exact h1
                    clear hkb hbl hbv hbo hr1 hr2 hs2 hrs2 hka2 hkr2 Hka Hkb
                    go_wp2_with fail
                    refine (unhide Hop).mono ?_
                    rintro e w11 ⟨lb, rfl, S9, R9, h11, hb11, hn11⟩
                    have HLf11 := hide ((unhide HCa10).opened h11 hb11 hn11)
                    have Hnd := hide (needs_c w11 FL (by omega))
                    obtain ⟨NF, hNF⟩ : ∃ y, needs FL = y := ⟨_, rfl⟩
                    rw [hNF] at Hnd
                    have HNF := hide hNF
                    have Hrec0 := hide (h11.recs HP HW (by rw [unhide HKr2]; have := (unhide Hfew2).2; omega) (by rw [unhide HKr2]; exact unhide Hbig2))
                    rw [unhide HKr2] at Hrec0
                    clear h11 hb11 hn11 Hop HCa10 hNF
                    go_wp2_with fail
                    refine (unhide Hnd).mono ?_
                    rintro e wn ⟨rfl, hwn⟩
                    have := hwn.symm
                    subst this
                    clear Hnd
                    by_cases hwh : i = needs b.length ∧ WholeK i t.keep
                    · have hat : a = true := (unhide Ha).2 hwh.2
                      subst hat
                      have hiN : i = NF := by rw [← unhide HNF, ← unhide HBL]; exact hwh.1
                      have g5 : ((i : Int) == (NF : Int)) = true := by simp; omega
                      have e2 : rs2 = rs1 ++ [(b, o1)] := by rw [← unhide HRs2, if_pos hwh]
                      have HSg : Hid (rs2.map (·.1) = sure ++ [b]) := by show _ = _; rw [e2, List.map_append, unhide HR1]; rfl
                      rw [unhide HSg] at Hrec0
                      clear hwh e2 hiN Ha HRs2
                      go_wp2_with fail
                      refine (unhide Hrec0).mono ?_
                      rintro e w12 ⟨v, ws, rfl, hls, _, hb12⟩
                      obtain ⟨sg, cg, hvg⟩ := hls.lists.form
                      rw [List.length_append, List.length_singleton, unhide HSL] at hvg
                      subst hvg
                      have HLs := hide hls.lists
                      have HLf8 := hide ((unhide HLf11).below HP HW hb12)
                      obtain ⟨us, hu1, hu2, hu3⟩ := (unhide HLf8).grow.lists
                      have HU1 := hide hu1
                      have HU3 := hide hu3
                      have HUl : Hid (us.length ≤ 100000) := by show _ ≤ _; have := unhide HSL; omega
                      have hbA : Below w12.heap.size w12 (w12.alloc (.cells #[] 30)) := (Below.refl _ _).alloc (Nat.le_refl _) _
                      have HBA := hide hbA
                      have HE := hide (ownbb_empty w12)
                      have HVs := hide (hu2.vals.below hbA)
                      have HBv8 := hide ((unhide HBv).below (unhide HLf8).lg.b)
                      have HSz : Hid (w12.heap.size ≤ (w12.alloc (.cells #[] 30)).heap.size) := hbA.size
                      have HUo : Hid (∀ u ∈ us, u.oneCell' = true) := fun u hu => by
                        obtain ⟨i, hi⟩ := List.getElem?_of_mem hu
                        have hil := (List.getElem?_eq_some_iff.1 hi).1
                        obtain ⟨q, hq⟩ : ∃ q, sure[i]? = some q := ⟨_, List.getElem?_eq_getElem (by omega)⟩
                        obtain ⟨s9, c9, e9, _⟩ := bytes_open (hu3 i u q hi hq).1
                        rw [e9]; rfl
                      have g6 : ((SL : Int) + 1 == (SL : Int) + 1) = true := by simp
                      clear hls hb12 Hrec0 HLf11 hu1 hu2 hu3 hbA
                      go_wp2_with (first
                        | (at_builtin; refine wpList_append_vals Ebb rfl _ _ rfl w12.heap.size (.slice (some ⟨w12.heap.size, 0, none⟩) 0 0) (.slice ss SL sc) [] us rfl (unhide HE) rfl (unhide HVs) (unhide HUo) (unhide HSz) (by have := unhide HUl; simp; omega) ?_
                           intro v13 w13 ho13 hg13 _
                           rw [List.nil_append] at ho13
                           have HB13 := hide (own_below (unhide HE) hg13 (unhide HBA) (unhide HSz))
                           obtain ⟨s13, c13, hv13⟩ := ho13.form
                           rw [unhide HU1, unhide HSL] at hv13
                           subst hv13
                           have HO13 := hide (ho13.alloc (.cells #[.slice fs FL fc] 30))
                           have HV13 : Hid (ValsAt (w13.alloc (.cells #[.slice fs FL fc] 30)) (.slice (some ⟨w13.heap.size, 0, none⟩) 1 1) [.slice fs FL fc]) := vals_new w13 [.slice fs FL fc] 30
                           have HB13b : Hid (Below w12.heap.size w12 (w13.alloc (.cells #[.slice fs FL fc] 30))) := (unhide HB13).alloc (unhide HB13).size _
                           have HSz13 := hide (unhide HB13b).size
                           clear ho13 hg13)
                        | (at_builtin; refine wpList_append_vals Ebb rfl _ _ rfl w12.heap.size (.slice s13 SL c13) (.slice (some ⟨w13.heap.size, 0, none⟩) 1 1) us [.slice fs FL fc] rfl (unhide HO13) rfl (unhide HV13) (by simp [Value.oneCell']) (unhide HSz13) (by have := unhide HUl; simp; omega) ?_
                           intro v14 w14 ho14 hg14 _
                           have HB14 := hide (own_below (unhide HO13) hg14 (unhide HB13b) (unhide HSz13))
                           have HGr14 := hide (grow_anew (b := b) (unhide HU1) (unhide HU3) (unhide HBv8) (unhide HBo) (unhide HLf8).lg.b.size ho14 (unhide HB14))
                           obtain ⟨s14, c14, hv14⟩ := (unhide HGr14).form
                           rw [List.length_append, List.length_singleton, unhide HSL] at hv14
                           subst hv14
                           have HLf14 := hide (((unhide HLf8).below HP HW (unhide HB14)).anew (unhide HGr14) fun k hk => (unhide HLf8).lg.off HP HW (Or.inl (World.ownsRow.lt ho14 k hk).1))
                           clear ho14 hg14))
                      have HSL14 : Hid ((sure ++ [b]).length = SL + 1) := by show _ = _; rw [List.length_append, List.length_singleton, unhide HSL]
                      have HLs14 := hide ((unhide HLs).below (unhide HB14))
                      have Hsm := hide (lsame_c w14 _ _ (sure ++ [b]) (sure ++ [b]) (unhide HLs14) (unhide HGr14).read (fun q hq => by rw [← unhide HSg] at hq; obtain ⟨y, hy, rfl⟩ := List.mem_map.1 hq; have := unhide Hbig2 y hy; omega) (by rw [unhide HSL14]; omega) (by rw [unhide HSL14]; omega))
                      rw [decide_eq_true (rfl : sure ++ [b] = sure ++ [b])] at Hsm
                      clear HB14 HO13 HV13 HB13b HB13 HE HBA HVs HLf8 HBv8 HLs HLs14
                      refine (unhide Hsm).mono ?_
                      rintro e w15 ⟨rfl, hb15⟩
                      have HCa15 := hide ((unhide HLf14).below HP HW hb15).calm
                      have HSn : Hid (rs2.length = SL + 1) := by show _ = _; rw [← unhide HSL14, ← unhide HSg, List.length_map]
                      have hSn : SL + 1 ≤ 1000 := by have := (unhide Hfew2).2; have := unhide HSn; omega
                      have HGn : Hid (GrowAt w15 w.heap.size (.slice s14 (SL + 1) c14) (rs2.map (·.1))) := by show GrowAt _ _ _ _; rw [unhide HSg]; exact (unhide HCa15).grow
                      have HOn := hide (unhide HCa15).on
                      have HOf := hide (unhide HCa15).offG
                      clear hb15 Hsm HCa15 HLf14 HGr14
                      go_wp2
                      refine ⟨⟨T + 1, SL + 1, c14, s14, s2, rs2, S8, R8, by omega, ?_, rfl, hSn, HSn, HOn, HRe2, HLen, HGn, HOf⟩, ?_⟩
                      · simp
                      · simp [intOf]; omega
                    · have e2 : rs2 = rs1 := by rw [← unhide HRs2, if_neg hwh]
                      have HSg : Hid (rs2.map (·.1) = sure) := by show _ = _; rw [e2]; exact unhide HR1
                      rw [unhide HSg] at Hrec0
                      have g6 : ((SL : Int) == (SL : Int) + 1) = false := by simp; omega
                      have hsplit : ((i : Int) == (NF : Int)) = false ∨ (((i : Int) == (NF : Int)) = true ∧ a = false) := by
                        by_cases hiN : i = NF
                        · refine Or.inr ⟨by simp; omega, ?_⟩
                          cases a with
                          | false => rfl
                          | true => exact absurd ⟨by rw [hiN, ← unhide HNF, ← unhide HBL], (unhide Ha).1 rfl⟩ hwh
                        · exact Or.inl (by simp; omega)
                      clear hwh e2 Ha HRs2
                      rcases hsplit with g5 | ⟨g5, rfl⟩
                      all_goals
                        go_wp2_with fail
                        refine (unhide Hrec0).mono ?_
                        rintro e w12 ⟨v, ws, rfl, hls, _, hb12⟩
                        obtain ⟨sg, cg, hvg⟩ := hls.lists.form
                        rw [unhide HSL] at hvg
                        subst hvg
                        have HLf12 := hide ((unhide HLf11).below HP HW hb12)
                        have Hsm := hide (lsame_c w12 _ _ sure sure hls.lists (unhide HLf12).grow.read (fun q hq => by rw [← unhide HSg] at hq; obtain ⟨y, hy, rfl⟩ := List.mem_map.1 hq; have := unhide Hbig2 y hy; omega) (by rw [unhide HSL]; omega) (by rw [unhide HSL]; omega))
                        rw [decide_eq_true (rfl : sure = sure)] at Hsm
                        clear hls hb12 Hrec0 HLf11
                        go_wp2_with fail
                        refine (unhide Hsm).mono ?_
                        rintro e w15 ⟨rfl, hb15⟩
                        have HCa15 := hide ((unhide HLf12).below HP HW hb15).calm
                        have HSn : Hid (rs2.length = SL) := by show _ = _; rw [← unhide HSL, ← unhide HSg, List.length_map]
                        have hSn : SL ≤ 1000 := by have := (unhide Hfew2).2; have := unhide HSn; omega
                        have HGn : Hid (GrowAt w15 w.heap.size (.slice ss SL sc) (rs2.map (·.1))) := by show GrowAt _ _ _ _; rw [unhide HSg]; exact (unhide HCa15).grow
                        have HOn := hide (unhide HCa15).on
                        have HOf := hide (unhide HCa15).offG
                        clear hb15 Hsm HCa15 HLf12
                        go_wp2
                        refine ⟨⟨T + 1, SL, sc, ss, s2, rs2, S8, R8, by omega, ?_, rfl, hSn, HSn, HOn, HRe2, HLen, HGn, HOf⟩, ?_⟩
                        · simp
                        · simp [intOf]; omega
      · obtain rfl : T = M := by omega
        have f1 : decide ((T : Int) < (T : Int)) = false := by simp
        have HB := hide (unhide Ho).b
        clear Ho Hr Hg Hof
        go_wp2
        go_ret
        exact ⟨rfl, unhide HB⟩
end
end Go.Proofs.Ytfpndphfibfdiaa
