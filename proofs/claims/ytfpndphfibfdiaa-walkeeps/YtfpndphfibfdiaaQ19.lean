/-
  WalMixed, walked out of the records Plate and Wal.
-/
import Derived.Test.YtfpndphfibfdiaaQ16
import Derived.Test.YtfpndphfibfdiaaQ18
import Derived.Test.YtfpndphfibfdiaaQ4
import Derived.Test.YtfpndphfibfdiaaQ17
import Derived.Deep.RegionHeld3
namespace Go.Proofs.Ytfpndphfibfdiaa
open Go.RowKit
/-- A slice of slices of bools. -/
structure KeepsAt (w : World) (x : Value) (vs : List Value) (ks : List (List Bool)) : Prop where
  row : ValsAt w x vs
  len : vs.length = ks.length
  each : ∀ (i : Nat) (v : Value) (k : List Bool), vs[i]? = some v → ks[i]? = some k → ValsAt w v (k.map .bool)
theorem KeepsAt.below {a b : World} {x : Value} {vs : List Value} {ks : List (List Bool)} (h : KeepsAt a x vs ks) (hb : Below a.heap.size a b) : KeepsAt b x vs ks := ⟨h.row.below hb, h.len, fun i v k h1 h2 => (h.each i v k h1 h2).below hb⟩
theorem whole_step {i : Nat} {keep : List Bool} (h : ∀ j, j < i → keep.getD j false = true) (hk : keep.getD i false = true) : ∀ j, j < i + 1 → keep.getD j false = true := fun j hj => by
  by_cases e : j = i
  · subst e; exact hk
  · exact h j (by omega)
section
variable {PAt : Set_ → Set_ → World → Value → PS → Prop} {LAt : Set_ → Set_ → World → Value → Value → LS → Prop} (HP : Plate PAt) (HW : Wal PAt LAt)
set_option maxRecDepth 100000 in
set_option maxHeartbeats 8000000 in
include HP HW in
theorem mixed_true (w : World) (z : Int) (x : Value) (vs : List Value) (ks : List (List Bool)) (hx : KeepsAt w x vs ks) (hz1 : -9223372036854775808 ≤ z) (hz2 : z ≤ 9223372036854775807) : Calls Try.prog 7 #[.int .i64 z, x] w fun e w' => e = .returned (.bool true) ∧ Below w.heap.size w w' := by
  obtain ⟨sx, cx, hsx, _, _, hcx⟩ := hx.row
  subst hsx
  obtain ⟨M, hM⟩ : ∃ M, vs.length = M := ⟨_, rfl⟩
  rw [hM]
  have HX := hide hx
  have HM := hide hM
  have Hanc := hide (anchor_c HP HW w)
  by_cases hbad : z < 0 ∨ 600 < z ∨ 10 < M
  · have Hend : Hid (∀ w1, Below w.heap.size w w1 → True) := fun _ _ => trivial
    clear hx hM Hend hcx
    by_cases h1 : z < 0
    · have d1 : decide (z < 0) = true := by simp; omega
      go_enter Try.func7, Try.ntmps7
      go_wp2_with fail
      refine (unhide Hanc).mono ?_
      rintro e w1 ⟨rfl, hb⟩
      have HB := hide hb
      clear hb Hanc
      go_wp2
      go_ret
      exact ⟨rfl, unhide HB⟩
    · have d1 : decide (z < 0) = false := by simp; omega
      by_cases h2 : 600 < z
      · have d2 : decide (600 < z) = true := by simp; omega
        go_enter Try.func7, Try.ntmps7
        go_wp2_with fail
        refine (unhide Hanc).mono ?_
        rintro e w1 ⟨rfl, hb⟩
        have HB := hide hb
        clear hb Hanc
        go_wp2
        go_ret
        exact ⟨rfl, unhide HB⟩
      · have d2 : decide (600 < z) = false := by simp; omega
        have d3 : decide (10 < (M : Int)) = true := by simp; omega
        have d3n : decide (10 < M) = true := by simp; omega
        have j3 : 10 < (M : Int) := by omega
        go_enter Try.func7, Try.ntmps7
        go_wp2_with fail
        refine (unhide Hanc).mono ?_
        rintro e w1 ⟨rfl, hb⟩
        have HB := hide hb
        clear hb Hanc
        go_wp2
        go_ret
        exact ⟨rfl, unhide HB⟩
  · obtain ⟨n, hn⟩ : ∃ n : Nat, z = (n : Int) := ⟨z.toNat, by omega⟩
    subst hn
    have hn6 : n ≤ 600 := by omega
    have hM6 : M ≤ 10 := by omega
    have d1 : decide ((n : Int) < 0) = false := by simp
    have d2 : decide (600 < (n : Int)) = false := by simp; omega
    have d2n : decide (600 < n) = false := by simp; omega
    have d3 : decide (10 < (M : Int)) = false := by simp; omega
    have d3n : decide (10 < M) = false := by simp; omega
    have j1 : ¬ (n : Int) < 0 := by omega
    have j2 : ¬ 600 < (n : Int) := by omega
    have j3 : ¬ 10 < (M : Int) := by omega
    obtain ⟨na, ha⟩ : ∃ a, n + 4 = a := ⟨_, rfl⟩
    obtain ⟨nb, hb⟩ : ∃ b, na + 47 = b := ⟨_, rfl⟩
    obtain ⟨N, hN⟩ : ∃ q, needs n = q := ⟨_, rfl⟩
    have e1 : (n : Int) + 4 = (na : Int) := by omega
    have e2 : (na : Int) + 47 = (nb : Int) := by omega
    have e3 : (nb : Int) / 48 = (N : Int) := by rw [← hN]; unfold needs; omega
    have b1 : na ≤ 2000000000 := by omega
    have b2 : nb ≤ 2000000000 := by omega
    have hN1 : 1 ≤ N ∧ N ≤ 14 := by rw [← hN]; unfold needs; omega
    have HNN := hide hN
    have Hcx := hide hcx
    clear hx hM hbad ha hb hN hcx
    go_enter Try.func7, Try.ntmps7
    go_wp2_with fail
    refine (unhide Hanc).mono ?_
    rintro e w1 ⟨rfl, hb1⟩
    have HB1 := hide hb1
    have Hn : Hid (Calls Try.prog 9 #[.int .i64 40] w1 fun e w' => ∃ p, e = .returned p ∧ ∃ S R, PAt S R w' p (newS 40) ∧ (∀ k, S k ∨ R k → w1.heap.size ≤ k) ∧ Below w1.heap.size w1 w') := HP.new_yes w1 40 (by omega) (by omega)
    clear hb1 Hanc
    go_wp2_with fail
    refine (unhide Hn).mono ?_
    rintro e w2 ⟨p, rfl, S, R, hp, hge, hb⟩
    obtain ⟨pa, rfl⟩ := HP.ptr hp
    have H2 : Hid (On PAt w w2 (.pointer (some pa)) S R (newS 40)) := ⟨hp, fun k hk => Nat.le_trans (unhide HB1).size (hge k hk), (unhide HB1).trans (hb.mono (unhide HB1).size)⟩
    have HRe := hide (rest_new 40 0 40 1 (by omega) (by omega) (by omega) (by omega))
    have HLn : Hid ((newS 40).safe.length = 40) := List.length_replicate
    clear hp hge hb Hn HB1
    go_wp2
    clear e1 e2 e3 b1 b2
    go_loopw [38] (fun ii wr => ∃ (k : Nat) (s : PS) (rs : List (Bs × Nat)) (S R : Set_), k ≤ M ∧ ii = .int .i64 (k : Int) ∧ Hid (On PAt w wr (.pointer (some pa)) S R s) ∧ Hid (Rest 1 0 40 k s rs) ∧ Hid (s.safe.length = 40) ∧ Hid (rs = [] ∨ ∃ c o, rs = [(List.replicate n c, o)])) (fun ii _ => M - (intOf ii).toNat)
    case atStart => exact ⟨0, newS 40, [], S, R, by omega, rfl, H2, HRe, HLn, Or.inl rfl⟩
    case round =>
      obtain ⟨k, s, rs, S', R', hk, rfl, Ho, Hr, Hln, Hrs⟩ := hrel
      clear H2 HRe HLn
      by_cases hlt : k < M
      · have f1 : decide ((k : Int) < (M : Int)) = true := by simp; omega
        have f1n : decide (k < M) = true := by simp; omega
        have q0 : (0 : Int) ≤ (k : Int) := by omega
        have q1 : (k : Int) < (M : Int) := by omega
        obtain ⟨kv, hkv⟩ : ∃ v, vs[k]? = some v := ⟨_, List.getElem?_eq_getElem (by have := unhide HM; omega)⟩
        obtain ⟨keep, hkeep⟩ : ∃ v, ks[k]? = some v := ⟨_, List.getElem?_eq_getElem (by have := unhide HM; have := (unhide HX).len; omega)⟩
        obtain ⟨xg, xo, hsx, hcell⟩ := unhide Hcx (by intro e; have := unhide HM; rw [e] at this; simp at this; omega)
        subst hsx
        have hcell0 := hcell k kv hkv
        have ck : wr.cell? ⟨xg, xo + k, none⟩ = some kv := by rw [(unhide Ho).b.cell (World.block_lt_of_cell? _ _ hcell0)]; exact hcell0
        have hkw := (unhide HX).each k kv keep hkv hkeep
        obtain ⟨ksp, kc, hkf⟩ := hkw.form
        obtain ⟨KL, hKL⟩ : ∃ KL, keep.length = KL := ⟨_, rfl⟩
        rw [List.length_map, hKL] at hkf
        subst hkf
        have HKw := hide hkw
        have HKL := hide hKL
        obtain ⟨hop1, hop2, hI⟩ := (unhide Hr).open_ (by omega) (by omega) (by omega)
        have HI := hide hI
        have Hop1 := hide hop1
        have Hop2 := hide hop2
        have Hop : Hid (Calls Try.prog 10 #[.pointer (some pa), .int .i64 0, .int .i64 40, .int .i64 1] wr fun e w' => ∃ la, e = .returned (.tuple #[.pointer (some la), .int .i64 0]) ∧ ∃ S2 R2, Lg PAt LAt w w' (.pointer (some pa)) (.pointer (some la)) S' R' S2 R2 s (openL s 0 40 1) ∧ Below wr.heap.size wr w' ∧ ∀ k, S2 k ∨ R2 k → wr.heap.size ≤ k) := (unhide Ho).open_ HP HW 0 40 1 (by omega) (by have := unhide Hln; omega) (by omega) (by omega) (unhide Hr).down (by rw [(unhide Hr).loose]; simp)
        clear hop1 hop2 hI hkv hkeep hcell hcell0 hkw hKL Ho
        go_wp2_with fail
        refine (unhide Hop).mono ?_
        rintro e w3 ⟨la, rfl, S2, R2, h3, _, _⟩
        have H3 := hide h3
        have Hrec := hide (h3.recs HP HW (by rw [unhide Hop1]; rcases unhide Hrs with h | ⟨c, o, h⟩ <;> rw [h] <;> simp) (by rw [unhide Hop1]; rcases unhide Hrs with h | ⟨c, o, h⟩ <;> rw [h] <;> simp; omega))
        rw [unhide Hop1] at Hrec
        clear h3 Hop ck
        go_wp2_with fail
        refine (unhide Hrec).mono ?_
        rintro e w4 ⟨v, ws, rfl, hls, hg4, _⟩
        rcases unhide Hrs with hrs | ⟨c, o, hrs⟩
        case inr =>
          rw [hrs] at hls
          obtain ⟨v0, gr, ro, cr, s0, c0, rfl, hcr, rfl, hbs, _, _⟩ := lists_one hls
          rw [List.length_replicate] at hcr hbs
          have Hal := hide (alike_c w4 _ n c hbs (by omega))
          have HB4 := hide hg4.b
          clear hls hg4 hbs H3 Hrec HI Hr
          go_wp2_with fail
          refine (unhide Hal).mono ?_
          rintro e w5 ⟨rfl, hb5⟩
          have HB5 := hide ((unhide HB4).trans (hb5.mono (unhide HB4).size))
          clear hb5 Hal HB4
          go_wp2
          go_ret
          exact ⟨rfl, unhide HB5⟩
        case inl =>
          subst hrs
          obtain ⟨sv, cv, rfl⟩ := lists_none hls
          have H4 := hide hg4
          have Harm := hide (HP.arm (N : Int) hg4.p (by omega) (by omega))
          clear hls hg4 H3 Hrec
          go_wp2_with fail
          refine (unhide Harm).mono ?_
          rintro e w5 ⟨rfl, S5, R5, hp, hS, hR, ha⟩
          have H5 := hide ((unhide H4).plate HW hp hS hR ha)
          obtain ⟨kb, hkb⟩ : ∃ kb : UInt8, kb = UInt8.ofNat (k + 1) := ⟨_, rfl⟩
          have hcv : IntKind.u8.wrap ((k : Int) + 1) = (kb.toNat : Int) := by
            rw [IntKind.wrap_u8', hkb, UInt8.toNat_ofNat']
            omega
          have Hfi := hide (fillwith_c w5 kb n (by omega))
          have HIa : Hid (LogI (openL s 0 40 1) (armS s (N : Int))) := (unhide HI).arm (by omega)
          have HLa : Hid ((armS s (N : Int)).left = (N : Int)) := by show max (N : Int) (-1) = N; omega
          obtain ⟨kbn, hkbn⟩ : ∃ y, kb.toNat = y := ⟨_, rfl⟩
          rw [hkbn] at hcv Hfi
          have Hkbn := hide hkbn
          clear hp hS hR ha Harm H4 HI hkb hkbn
          go_wp2_with fail
          refine (unhide Hfi).mono ?_
          rintro e w6 ⟨O, rfl, hO, hb6⟩
          have hOw := (World.ownsRow.lt hO O rfl).1
          have Happ := hide (((unhide H5).below HP HW hb6).app HW _ _ hO.bytes (fun _ k hk => ((unhide H5).new HP HW (by simp only [Value.ownBlock, Option.some.injEq] at hk; omega)).1) (by simp; omega) fun _ => unhide HIa)
          have hlen : (List.replicate n kb).length = n := List.length_replicate
          have hcut := cut_rest (b := List.replicate n kb) (unhide HIa) rfl (by rw [hlen]; omega) (by rw [hlen, unhide HNN, unhide Hop1]; show 0 + N ≤ 40; omega) (unhide HLa) (by rw [hlen, unhide HNN]; exact Nat.le_refl _) keep
          rw [hlen, unhide HNN] at hcut
          obtain ⟨u1, u2, u3, u4⟩ := hcut
          rw [u1] at Happ
          have HU4 := hide u4
          have HU3 := hide u3
          have HPl : Hid ((appendP (openL s 0 40 1) (armS s (N : Int)) (List.replicate n kb)).loose.length ≤ 100000) := by show _ ≤ _; rw [u3]; omega
          have HSl : Hid ((reviveS (appendP (openL s 0 40 1) (armS s (N : Int)) (List.replicate n kb)) keep).safe.length = 40) := by
            have h1 := (cut_form (b := List.replicate n kb) (unhide HIa) rfl (by rw [hlen]; omega) (by rw [hlen, unhide HNN, unhide Hop1]; show 0 + N ≤ 40; omega) (unhide HLa) (by rw [hlen, unhide HNN]; exact Nat.le_refl _)).1
            show (applyL (appendP (openL s 0 40 1) (armS s (N : Int)) (List.replicate n kb)).safe _).length = 40
            rw [apply_len, h1]
            exact unhide Hln
          clear hO hb6 hOw Hfi H5 u1 u2 u3 u4 HIa HLa hlen
          go_wp2_with fail
          refine (unhide Happ).mono ?_
          rintro e w7 ⟨rfl, S7, R7, S8, R8, h7, _, _⟩
          have hk7 := (unhide HKw).below h7.b
          have Hrev := hide (HP.revive _ keep h7.on.p hk7 (fun _ k hk => h7.on.old (by have := ValsAt.old (unhide HKw) (fun e => by have := congrArg List.length e; simp at this; rename_i h8; exact h8 this) k hk; omega)) (unhide HPl))
          have H7 := hide h7.on
          clear h7 hk7 Happ HPl
          go_wp2_with fail
          refine (unhide Hrev).mono ?_
          rintro e w8 ⟨rfl, S9, R9, hp, hS, hR, ha⟩
          have H8 := hide ((unhide H7).call hp hS hR ha)
          clear hp hS hR ha Hrev H7
          have HB8 := hide (unhide H8).b
          obtain ⟨s1, hs1⟩ : ∃ y, reviveS (appendP (openL s 0 40 1) (armS s (N : Int)) (List.replicate n kb)) keep = y := ⟨_, rfl⟩
          rw [hs1] at H8 HSl HU4
          obtain ⟨rs1, hrs1⟩ : ∃ y, (if WholeK N keep then [(List.replicate n kb, (openL s 0 40 1).opening)] else ([] : List (Bs × Nat))) = y := ⟨_, rfl⟩
          have HRe1 : Hid (Rest 1 0 40 (k + 1) s1 rs1) := by
            have h1 := unhide HU4
            rw [unhide Hop1, List.nil_append] at h1
            have e : (if True ∧ WholeK N keep then [(List.replicate n kb, (openL s 0 40 1).opening)] else ([] : List (Bs × Nat))) = rs1 := by rw [← hrs1]; simp
            rw [e] at h1
            exact ⟨h1.ok, h1.loose, h1.down, h1.fit, h1.st, h1.up.mono (unhide Hop2)⟩
          have HRs1 := hide hrs1
          clear hs1 HU4 HU3 hrs1 Hr Hln Hop1 Hop2 Hrs
          have HK8 : Hid (∀ j, j < KL → ∃ g o, ksp = some ⟨g, o, none⟩ ∧ w8.cell? ⟨g, o + j, none⟩ = some (.bool (keep.getD j false))) := fun j hj => by
            obtain ⟨_, _, e, _, _, h3⟩ := (unhide HKw).below (unhide HB8)
            simp only [Value.slice.injEq] at e
            obtain ⟨e1, _, _⟩ := e
            obtain ⟨g, o, e2, hc⟩ := h3 (by intro e; have := congrArg List.length e; rw [List.length_map, unhide HKL] at this; simp at this; omega)
            refine ⟨g, o, e1.trans e2, hc j _ ?_⟩
            rw [List.getElem?_map, List.getElem?_eq_getElem (by have := unhide HKL; omega), List.getD_eq_getElem?_getD, List.getElem?_eq_getElem (by have := unhide HKL; omega)]
            rfl
          have HW1 : Hid (decide (N ≤ KL) = true → (N ≤ KL ∧ ∀ j, j < 0 → keep.getD j false = true)) := fun h => ⟨by simpa using h, fun j hj => by omega⟩
          have HW2 : Hid (decide (N ≤ KL) = false → ¬ WholeK N keep) := fun h hw => by
            have h1 : ¬ N ≤ KL := by simpa using h
            have h2 := hw (N - 1) (by omega)
            rw [List.getD_eq_getElem?_getD, List.getElem?_eq_none (by have := unhide HKL; omega)] at h2
            cases h2
          have hdk : decide ((N : Int) ≤ (KL : Int)) = decide (N ≤ KL) := by congr 1; simp
          obtain ⟨b0, hb0⟩ : ∃ b0, decide (N ≤ KL) = b0 := ⟨_, rfl⟩
          rw [hb0] at HW1 HW2 hdk
          clear HKw
          go_wp2
          go_loopw [12, 13] (fun wh ii wr => ∃ (i : Nat) (b : Bool), i ≤ N ∧ ii = .int .i64 (i : Int) ∧ wh = .bool b ∧ Hid (b = true → (N ≤ KL ∧ ∀ j, j < i → keep.getD j false = true)) ∧ Hid (b = false → ¬ WholeK N keep) ∧ wr = w8) (fun _ ii _ => N - (intOf ii).toNat)
          case atStart => exact ⟨0, b0, by omega, rfl, rfl, HW1, HW2, rfl⟩
          case round =>
            obtain ⟨i, b, hi, rfl, rfl, Hb1, Hb2, hw⟩ := hrel
            clear HW1 HW2 hdk hb0
            have := hw.symm
            subst this
            by_cases hiN : i < N
            case' neg =>
              have g1 : decide ((i : Int) < (N : Int)) = false := by simp; omega
              have g1n : decide (i < N) = false := by simp; omega
              have g2 : ¬ (i : Int) < (N : Int) := by omega
              have HWh : Hid (b = true ↔ WholeK N keep) := by
                obtain rfl : i = N := by omega
                cases b with
                | true => exact ⟨fun _ => (unhide Hb1 rfl).2, fun _ => rfl⟩
                | false => exact ⟨fun h => (by cases h), fun h => absurd h (unhide Hb2 rfl)⟩
              cases b
            case' pos =>
              have g1 : decide ((i : Int) < (N : Int)) = true := by simp; omega
              have g1n : decide (i < N) = true := by simp; omega
              have g2 : (i : Int) < (N : Int) := by omega
              have g0 : (0 : Int) ≤ (i : Int) := by omega
              by_cases hbt : b = true
              case pos =>
                subst hbt
                have hNK := (unhide Hb1 rfl).1
                have g3 : (i : Int) < (KL : Int) := by omega
                obtain ⟨g, o, rfl, hc⟩ := unhide HK8 i (by omega)
                obtain ⟨kk, hkk⟩ : ∃ kk, keep.getD i false = kk := ⟨_, rfl⟩
                rw [hkk] at hc
                have Hn1 : Hid (kk = true → (N ≤ KL ∧ ∀ j, j < i + 1 → keep.getD j false = true)) := fun h => ⟨hNK, whole_step (unhide Hb1 rfl).2 (hkk.trans h)⟩
                have Hn2 : Hid (kk = false → ¬ WholeK N keep) := fun h hw => by have := hw i hiN; rw [hkk, h] at this; cases this
                clear Hb1 Hb2 hkk hNK
                go_wp2
                refine ⟨⟨i + 1, kk, by omega, ?_, rfl, Hn1, Hn2, ?_⟩, ?_⟩
                · simp
                · trivial
                · simp [intOf]; omega
              case' neg =>
                obtain rfl : b = false := by simpa using hbt
                have HWh : Hid (false = true ↔ WholeK N keep) := ⟨fun h => (by cases h), fun h => absurd h (unhide Hb2 rfl)⟩
                clear hbt g0
            all_goals
              have Hop : Hid (Calls Try.prog 10 #[.pointer (some pa), .int .i64 0, .int .i64 40, .int .i64 1] w8 fun e w' => ∃ la, e = .returned (.tuple #[.pointer (some la), .int .i64 0]) ∧ ∃ S2 R2, Lg PAt LAt w w' (.pointer (some pa)) (.pointer (some la)) S9 R9 S2 R2 s1 (openL s1 0 40 1) ∧ Below w8.heap.size w8 w' ∧ ∀ k, S2 k ∨ R2 k → w8.heap.size ≤ k) := (unhide H8).open_ HP HW 0 40 1 (by omega) (by have := unhide HSl; omega) (by omega) (by omega) (unhide HRe1).down (by rw [(unhide HRe1).loose]; simp)
              have Hop1 := hide ((unhide HRe1).open_ (by omega) (by omega) (by omega)).1
              have Hfi2 := hide fun wz => fillwith_c wz kb n (by omega)
              have hwk1 : IntKind.i64.wrap ((k : Int) + 1) = (k : Int) + 1 := IntWalk.i64_in _ (by omega)
              rw [unhide Hkbn] at Hfi2
              clear Hb1 Hb2 HK8 hi
              go_wp2_with fail
              refine (unhide Hop).mono ?_
              rintro e w9 ⟨lb, rfl, S10, R10, h9, _, _⟩
              have Hrec := hide (h9.recs HP HW (by rw [unhide Hop1, ← unhide HRs1]; split <;> simp) (by rw [unhide Hop1, ← unhide HRs1]; split <;> simp; omega))
              rw [unhide Hop1] at Hrec
              clear h9 Hop
              go_wp2_with fail
              refine (unhide Hrec).mono ?_
              rintro e w10 ⟨v, ws, rfl, hls, hg10, _⟩
              have H10 := hide hg10
              by_cases hwk : WholeK N keep
              · first
                  | exact absurd ((unhide HWh).2 hwk) (by decide)
                  | (have hrs : rs1 = [(List.replicate n kb, (openL s 0 40 1).opening)] := by rw [← unhide HRs1, if_pos hwk]
                     have Hrec2 := hide (((unhide H10).below HP HW (Below.refl _ _).drew).recs HP HW (by rw [unhide Hop1, hrs]; simp) (by rw [unhide Hop1, hrs]; simp; omega))
                     rw [unhide Hop1, hrs] at Hrec2
                     rw [hrs] at hls
                     obtain ⟨v0, gr, ro, cr, s0, c0, rfl, _, _, _, _, _⟩ := lists_one hls
                     have HRs2 : Hid (rs1 = [] ∨ ∃ c o, rs1 = [(List.replicate n c, o)]) := Or.inr ⟨_, _, hrs⟩
                     clear hls hg10 Hrec hwk hrs HRs1 Hop1 HWh
                     go_wp2
                     refine wp_region_held_drew (S := fun _ => True) (by kernel_rfl) (trivial) (fun hHeld => ?_)
                     refine wpAnyH_take (i := 0) (oi := { dst := some 125, op := Op.move (Operand.tmp 12), type := 4, pos := "more.go:44", after := #[], guard := none }) (v := ?_) rfl (by kernel_rfl) (by kernel_rfl) (by kernel_rfl) (fun _ _ _ h => h) (Or.inl ⟨by rfl, ?a1⟩) (by assumption) ?_
                     case a1 => (intro w_ hSw; (try dsimp only at hSw); go_simp; try with_reducible rfl)
                     simp only [Act.put, List.setIfInBounds_toArray, List.set_cons_zero, List.set_cons_succ]
                     refine wpAnyH_take (i := 1) (oi := { dst := some 126, op := Op.move (Operand.tmp 125), type := 4, pos := "more.go:44", after := #[{ on := 0, ground := Ground.data }], guard := none }) (v := ?_) rfl (by kernel_rfl) (by kernel_rfl) (by kernel_rfl) (fun _ _ _ h => h) (Or.inl ⟨by rfl, ?a2⟩) (by assumption) ?_
                     case a2 => (intro w_ hSw; (try dsimp only at hSw); go_simp; try with_reducible rfl)
                     simp only [Act.put, List.setIfInBounds_toArray, List.set_cons_zero, List.set_cons_succ]
                     refine wpAnyH_take (i := 2) (oi := { dst := some 127, op := Op.move (Operand.tmp 14), type := 26, pos := "more.go:44", after := #[{ on := 1, ground := Ground.guard }], guard := some (1, true) }) (v := ?_) rfl (by kernel_rfl) (by kernel_rfl) (by kernel_rfl) (fun _ _ _ h => h) (Or.inl ⟨by rfl, ?a3⟩) (by assumption) ?_
                     case a3 => (intro w_ hSw; (try dsimp only at hSw); go_simp; try with_reducible rfl)
                     simp only [Act.put, List.setIfInBounds_toArray, List.set_cons_zero, List.set_cons_succ]
                     refine wpAnyH_take (i := 6) (oi := { dst := some 131, op := Op.move (Operand.tmp 7), type := 3, pos := "more.go:44", after := #[{ on := 1, ground := Ground.guard }], guard := some (1, true) }) (v := ?_) rfl (by kernel_rfl) (by kernel_rfl) (by kernel_rfl) (fun _ _ _ h => h) (Or.inl ⟨by rfl, ?a4⟩) (by assumption) ?_
                     case a4 => (intro w_ hSw; (try dsimp only at hSw); go_simp; try with_reducible rfl)
                     simp only [Act.put, List.setIfInBounds_toArray, List.set_cons_zero, List.set_cons_succ]
                     refine wpAnyH_take (i := 7) (oi := { dst := some 132, op := Op.binOp BinOp.add 3 (Operand.tmp 131) (Operand.const (Value.int IntKind.i64 1)) 3, type := 3, pos := "more.go:44", after := #[{ on := 6, ground := Ground.data }, { on := 1, ground := Ground.guard }], guard := some (1, true) }) (v := ?_) rfl (by kernel_rfl) (by kernel_rfl) (by kernel_rfl) (fun _ _ _ h => h) (Or.inl ⟨by rfl, ?a5⟩) (by assumption) ?_
                     case a5 => (intro w_ hSw; (try dsimp only at hSw); go_simp; try with_reducible rfl)
                     simp only [Act.put, List.setIfInBounds_toArray, List.set_cons_zero, List.set_cons_succ]
                     refine wpAnyH_take (i := 8) (oi := { dst := some 133, op := Op.convert 3 5 (Operand.tmp 132), type := 5, pos := "more.go:44", after := #[{ on := 7, ground := Ground.data }, { on := 1, ground := Ground.guard }], guard := some (1, true) }) (v := ?_) rfl (by kernel_rfl) (by kernel_rfl) (by kernel_rfl) (fun _ _ _ h => h) (Or.inl ⟨by rfl, ?a6⟩) (by assumption) ?_
                     case a6 => (intro w_ hSw; (try dsimp only at hSw); go_simp; try with_reducible rfl)
                     simp only [Act.put, List.setIfInBounds_toArray, List.set_cons_zero, List.set_cons_succ]
                     refine wpAnyH_take (i := 9) (oi := { dst := some 134, op := Op.move (Operand.tmp 0), type := 3, pos := "more.go:44", after := #[{ on := 1, ground := Ground.guard }], guard := some (1, true) }) (v := ?_) rfl (by kernel_rfl) (by kernel_rfl) (by kernel_rfl) (fun _ _ _ h => h) (Or.inl ⟨by rfl, ?a7⟩) (by assumption) ?_
                     case a7 => (intro w_ hSw; (try dsimp only at hSw); go_simp; try with_reducible rfl)
                     simp only [Act.put, List.setIfInBounds_toArray, List.set_cons_zero, List.set_cons_succ]
                     refine wpAnyH_ready (rs := [3]) (by kernel_rfl) (by simp) ?_
                     refine AllReadyH.cons (o := { dst := some 128, op := Op.call { callee := Callee.value (Operand.func 16), args := #[Operand.tmp 127], argTypes := #[26] }, type := 22, pos := "more.go:44", after := #[{ on := 2, ground := Ground.data }, { on := 1, ground := Ground.chain }, { on := 1, ground := Ground.guard }], guard := some (1, true) }) rfl (fun K_ hK_ => ?_) AllReadyH.nil
                     go_simp
                     go_at_call 16
                     refine (unhide Hrec2).mono ?_
                     rintro e w11 ⟨v2, ws2, rfl, hls2, hg11, hb11⟩
                     obtain ⟨v0, gr, ro, cr, s0, c0, rfl, hcr, rfl, hbs, _, _⟩ := lists_one hls2
                     rw [List.length_replicate] at hcr hbs
                     have HC11 := hide hcr
                     have HB11 := hide hbs
                     have HG11 := hide hg11
                     clear hcr hbs hg11 hb11 hls2
                     go_simp
                     refine hK_.out _ _ (trivial) (fun hHeld => ?_)
                     clear hK_ K_
                     (try simp only [Act.put, List.setIfInBounds_toArray, List.set_cons_zero, List.set_cons_succ])
                     refine wpAnyH_take (i := 4) (oi := { dst := some 129, op := Op.indexAddr 22 (Operand.tmp 128) (Operand.const (Value.int IntKind.i64 0)), type := 0, pos := "more.go:44", after := #[{ on := 3, ground := Ground.data }, { on := 1, ground := Ground.guard }], guard := some (1, true) }) (v := ?_) rfl (by kernel_rfl) (by kernel_rfl) (by kernel_rfl) (fun _ _ _ h => h) (Or.inl ⟨by rfl, ?a8⟩) (by assumption) ?_
                     case a8 => (intro w_ hSw; (try dsimp only at hSw); go_simp; try with_reducible rfl)
                     simp only [Act.put, List.setIfInBounds_toArray, List.set_cons_zero, List.set_cons_succ]
                     refine wpAnyH_ready (rs := [5, 10]) (by kernel_rfl) (by simp) ?_
                     refine (AllReadyH.cons (o := { dst := some 130, op := Op.load 30 (Operand.tmp 129), type := 30, pos := "more.go:44", after := #[{ on := 4, ground := Ground.data }, { on := 1, ground := Ground.guard }], guard := some (1, true) }) rfl (fun K_ hK_ => ?_) (AllReadyH.cons (o := { dst := some 135, op := Op.call { callee := Callee.value (Operand.func 23), args := #[Operand.tmp 133, Operand.tmp 134], argTypes := #[5, 3] }, type := 30, pos := "more.go:44", after := #[{ on := 8, ground := Ground.data }, { on := 9, ground := Ground.data }, { on := 3, ground := Ground.chain }, { on := 1, ground := Ground.guard }], guard := some (1, true) }) rfl (fun K_ hK_ => ?_) AllReadyH.nil))
                     have c_ := unhide HC11
                     go_simp
                     clear c_
                     refine hK_.out _ _ (trivial) (fun hHeld => ?_)
                     clear hK_ K_
                     (try simp only [Act.put, List.setIfInBounds_toArray, List.set_cons_zero, List.set_cons_succ])
                     refine wpAnyH_ready (rs := [10]) (by kernel_rfl) (by simp) ?_
                     refine AllReadyH.cons (o := { dst := some 135, op := Op.call { callee := Callee.value (Operand.func 23), args := #[Operand.tmp 133, Operand.tmp 134], argTypes := #[5, 3] }, type := 30, pos := "more.go:44", after := #[{ on := 8, ground := Ground.data }, { on := 9, ground := Ground.data }, { on := 3, ground := Ground.chain }, { on := 1, ground := Ground.guard }], guard := some (1, true) }) rfl (fun K_ hK_ => ?_) AllReadyH.nil
                     go_simp
                     go_at_call 23
                     refine (unhide Hfi2 w11).mono ?_
                     rintro e w12 ⟨O, rfl, hO, hb12⟩
                     have HO12 := hide hO
                     have HB12 := hide hb12
                     clear hO hb12
                     go_simp
                     refine hK_.out _ _ (trivial) (fun hHeld => ?_)
                     clear hK_ K_
                     (try simp only [Act.put, List.setIfInBounds_toArray, List.set_cons_zero, List.set_cons_succ])
                     rotate_left
                     go_simp
                     go_at_call 23
                     refine (unhide Hfi2 w11).mono ?_
                     rintro e w12 ⟨O, rfl, hO, hb12⟩
                     have HO12 := hide hO
                     have HB12 := hide hb12
                     clear hO hb12
                     go_simp
                     refine hK_.out _ _ (trivial) (fun hHeld => ?_)
                     clear hK_ K_
                     (try simp only [Act.put, List.setIfInBounds_toArray, List.set_cons_zero, List.set_cons_succ])
                     refine wpAnyH_ready (rs := [5]) (by kernel_rfl) (by simp) ?_
                     refine AllReadyH.cons (o := { dst := some 130, op := Op.load 30 (Operand.tmp 129), type := 30, pos := "more.go:44", after := #[{ on := 4, ground := Ground.data }, { on := 1, ground := Ground.guard }], guard := some (1, true) }) rfl (fun K_ hK_ => ?_) AllReadyH.nil
                     have c_ : w12.cell? ⟨gr, ro, none⟩ = some (.slice s0 n c0) := by rw [(unhide HB12).cell (World.block_lt_of_cell? _ _ (unhide HC11))]; exact unhide HC11
                     go_simp
                     clear c_
                     refine hK_.out _ _ (trivial) (fun hHeld => ?_)
                     clear hK_ K_
                     (try simp only [Act.put, List.setIfInBounds_toArray, List.set_cons_zero, List.set_cons_succ])
                     all_goals
                       refine wpAnyH_ready (rs := [11]) (by kernel_rfl) (by simp) ?_
                       refine AllReadyH.cons (o := { dst := some 136, op := Op.call { callee := Callee.value (Operand.func 14), args := #[Operand.tmp 130, Operand.tmp 135], argTypes := #[30, 30] }, type := 4, pos := "more.go:44", after := #[{ on := 5, ground := Ground.data }, { on := 10, ground := Ground.data }, { on := 10, ground := Ground.chain }, { on := 1, ground := Ground.guard }], guard := some (1, true) }) rfl (fun K_ hK_ => ?_) AllReadyH.nil
                       go_simp
                       go_at_call 14
                       refine (same_any w12 _ _ _ _ ((unhide HB11).below (unhide HB12)) (unhide HO12).bytes (by simp; omega)).mono ?_
                       rintro e w13 ⟨rfl, hb13⟩
                       have H13 := hide (((unhide HG11).below HP HW (unhide HB12)).below HP HW hb13).on
                       clear hb13
                       rw [decide_eq_true (rfl : List.replicate n kb = List.replicate n kb)]
                       go_simp
                       refine hK_.out _ _ (trivial) (fun hHeld => ?_)
                       clear hK_ K_
                       (try simp only [Act.put, List.setIfInBounds_toArray, List.set_cons_zero, List.set_cons_succ])
                       refine wpAnyH_take (i := 12) (oi := { dst := some 137, op := Op.unOp UnOp.not 4 (Operand.tmp 136), type := 4, pos := "more.go:44", after := #[{ on := 11, ground := Ground.data }, { on := 1, ground := Ground.guard }], guard := some (1, true) }) (v := ?_) rfl (by kernel_rfl) (by kernel_rfl) (by kernel_rfl) (fun _ _ _ h => h) (Or.inl ⟨by rfl, ?b1⟩) (by assumption) ?_
                       case b1 => (intro w_ hSw; (try dsimp only at hSw); go_simp; try with_reducible rfl)
                       simp only [Act.put, List.setIfInBounds_toArray, List.set_cons_zero, List.set_cons_succ]
                       refine wpAnyH_take (i := 13) (oi := { dst := some 138, op := Op.pick (Operand.tmp 126) (Operand.tmp 137) (Operand.const (Value.bool false)), type := 4, pos := "more.go:44", after := #[{ on := 1, ground := Ground.data }, { on := 12, ground := Ground.data }], guard := none }) (v := ?_) rfl (by kernel_rfl) (by kernel_rfl) (by kernel_rfl) (fun _ _ _ h => h) (Or.inl ⟨by rfl, ?b2⟩) (by assumption) ?_
                       case b2 => (intro w_ hSw; (try dsimp only at hSw); go_simp; try with_reducible rfl)
                       simp only [Act.put, List.setIfInBounds_toArray, List.set_cons_zero, List.set_cons_succ]
                       refine wpAnyH_done (by kernel_rfl) ?_ _
                       clear hHeld Hrec2 Hfi2 HC11 HB11 HG11 HO12 HB12 H10
                       go_wp2
                       refine ⟨⟨k + 1, s1, rs1, S9, R9, by omega, ?_, H13, HRe1, HSl, HRs2⟩, ?_⟩
                       · simp
                       · simp [intOf]; omega)
              · first
                  | exact absurd ((unhide HWh).1 (by first | rfl | trivial)) hwk
                  | (have hrs : rs1 = [] := by rw [← unhide HRs1, if_neg hwk]
                     rw [hrs] at hls
                     obtain ⟨sv2, cv2, rfl⟩ := lists_none hls
                     have HRs2 : Hid (rs1 = [] ∨ ∃ c o, rs1 = [(List.replicate n c, o)]) := Or.inl hrs
                     have H13 := hide (unhide H10).on
                     have H14 := hide ((unhide H13).below HP (Below.refl _ _).drew)
                     clear hls hg10 Hrec hwk hrs HRs1 Hop1 HWh Hfi2 H10
                     go_wp2
                     go_region
                     go_wp2
                     refine ⟨⟨k + 1, s1, rs1, S9, R9, by omega, ?_, H14, HRe1, HSl, HRs2⟩, ?_⟩
                     · simp
                     · simp [intOf]; omega)
      · obtain rfl : k = M := by omega
        have f1 : decide ((k : Int) < (k : Int)) = false := by simp
        have HB := hide (unhide Ho).b
        clear Ho Hr
        go_wp2
        go_ret
        exact ⟨rfl, unhide HB⟩
end
end Go.Proofs.Ytfpndphfibfdiaa
