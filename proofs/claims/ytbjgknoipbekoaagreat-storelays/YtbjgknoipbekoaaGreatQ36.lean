/-
  StoreLays out of the records.
-/
import Derived.Test.YtbjgknoipbekoaaGreatQ32
import Derived.Test.YtbjgknoipbekoaaGreatQ35
import Derived.Deep.CutBlock
namespace Go.Proofs.YtbjgknoipbekoaaGreat
open Go.RowKit
section
variable {PAt : Set_ → Set_ → World → Value → PS → Prop} {SAt : Set_ → Set_ → World → Value → Value → SS → Prop} (HP : Plate PAt) (HS : Store PAt SAt)
include HP HS in
set_option maxRecDepth 100000 in
set_option maxHeartbeats 16000000 in
theorem lays_true (w : World) (sec : Int) (x : Value) (ll : List (List Ch)) (hx : ChssAt (fun j => j < w.heap.size) w x ll) : Calls Tryz.prog 5 #[.int .i64 sec, x] w fun e w' => e = .returned (.bool true) ∧ Below w.heap.size w w' := by
  have Han := hide (sanchor_c HP HS w)
  obtain ⟨sp, c, rfl, _⟩ := id hx.form
  obtain ⟨N, hN⟩ : ∃ n, ll.length = n := ⟨_, rfl⟩
  rw [hN] at hx ⊢
  have HX := hide hx
  have HN := hide hN
  clear hx hN
  by_cases g1 : sec < 8
  · have d1 : decide (sec < 8) = true := by simp; omega
    go_enter Tryz.func5, Tryz.ntmps5
    go_wp2_with (go_at_call 7; refine (unhide Han).mono ?_; rintro e w1 ⟨rfl, hb1⟩; have HB1 := hide hb1; clear hb1)
    go_ret
    exact ⟨rfl, unhide HB1⟩
  have d1 : decide (sec < 8) = false := by simp; omega
  by_cases g2 : 400 < sec
  · have d2 : decide ((400 : Int) < sec) = true := by simp; omega
    go_enter Tryz.func5, Tryz.ntmps5
    go_wp2_with (go_at_call 7; refine (unhide Han).mono ?_; rintro e w1 ⟨rfl, hb1⟩; have HB1 := hide hb1; clear hb1)
    go_ret
    exact ⟨rfl, unhide HB1⟩
  obtain ⟨n, rfl⟩ : ∃ n : Nat, sec = (n : Int) := ⟨sec.toNat, by omega⟩
  have d2 : decide ((400 : Int) < (n : Int)) = false := by simp; omega
  have d2n : decide (400 < n) = false := by simp; omega
  have hn8 : 8 ≤ n := by omega
  have hn400 : n ≤ 400 := by omega
  have d1n : decide (n < 8) = false := by simp; omega
  clear g1 g2
  have Hsm := hide (fun w1 (hb : Below w.heap.size w w1) => small_c ((unhide HX).below hb))
  by_cases hsm : SmallLL ll
  rotate_left
  · rw [decide_eq_false hsm] at Hsm
    clear hsm
    go_enter Tryz.func5, Tryz.ntmps5
    go_wp2_with (first
      | (go_at_call 7; refine (unhide Han).mono ?_; rintro e w1 ⟨rfl, hb1⟩; have HB1 := hide hb1; clear hb1)
      | (go_at_call 8; refine (unhide Hsm _ (unhide HB1)).mono ?_; rintro e w2 ⟨rfl, hb2⟩; have HB2 := hide ((unhide HB1).trans (hb2.mono (unhide HB1).size)); clear hb2))
    go_ret
    exact ⟨rfl, unhide HB2⟩
  rw [decide_eq_true hsm] at Hsm
  have HSM := hide hsm
  clear hsm
  have hN12 : N ≤ 12 := by have := (unhide HSM).1; have := unhide HN; omega
  have Hnew : Hid (∀ w1, Below w.heap.size w w1 → Calls Tryz.prog 9 #[.int .i64 (n : Int)] w1 fun e w' => ∃ pa, e = .returned (.pointer (some pa)) ∧ ∃ S R, On PAt w w' (.pointer (some pa)) S R (newS n)) := fun w1 hb => by
    refine (HP.new_yes w1 n (by omega) (by omega)).mono ?_
    rintro e w' ⟨p1, rfl, S1, R1, q1, q2, q3⟩
    obtain ⟨pa, rfl⟩ := HP.ptr q1
    exact ⟨pa, rfl, S1, R1, q1, fun j hj => Nat.le_trans hb.size (q2 j hj), hb.trans (q3.mono hb.size)⟩
  have Hrn := hide (fun w1 => rnew15_c w1 n (by omega) (by omega))
  have Hfi : Hid (∀ w1 p S R, On PAt w w1 p S R (newS n) → Calls Tryz.prog 10 #[p] w1 fun e w' => ∃ a, e = .returned (.tuple #[.pointer (some a), .int .i64 0]) ∧ ∃ B, SysR PAt SAt n w w' p (.pointer (some a)) ⟨(n - 2) / 2, 1, 1, []⟩ 1 B [[]]) := fun w1 p S R h => SysR.first HP HS h (by omega) (by omega)
  obtain ⟨H, hH⟩ : ∃ y, (n - 2) / 2 = y := ⟨_, rfl⟩
  have hHb : H ≤ 200 := by omega
  rw [hH] at Hrn Hfi
  have HHH := hide hH
  clear hH
  go_enter Tryz.func5, Tryz.ntmps5
  go_upto_region 8 with (first
    | (go_at_call 7; refine (unhide Han).mono ?_; rintro e w1 ⟨rfl, hb1⟩; have HB1 := hide hb1; clear hb1)
    | (go_at_call 8; refine (unhide Hsm _ (unhide HB1)).mono ?_; rintro e w2 ⟨rfl, hb2⟩; have HB2 := hide ((unhide HB1).trans (hb2.mono (unhide HB1).size)); clear hb2)
    | (go_at_call 9; refine (unhide Hnew _ (unhide HB2)).mono ?_; rintro e w3 ⟨pa, rfl, S3, R3, h3⟩; have HO3 := hide h3; clear h3))
  go_upto_region 11 with (first
    | (go_at_call 10; refine (unhide Hfi _ _ _ _ (unhide HO3)).mono ?_; rintro e w4 ⟨ta, rfl, B4, h4⟩; have HO4 := hide h4; clear h4))
  go_upto_region 12 with (first
    | (go_at_call 11; refine (unhide Hrn _).mono ?_; rintro e w5 ⟨rfl, hb5⟩; have HO5 := hide ((unhide HO4).below HP HS hb5); clear hb5))
  obtain ⟨W6, hW6⟩ : ∃ y, w5.alloc (.cells #[.int .i64 (H : Int), .int .i64 1, .int .i64 1, .slice none 0 0] 34) = y := ⟨_, rfl⟩
  have hb6 : Below w5.heap.size w5 W6 := by rw [← hW6]; exact (Below.refl _ _).alloc (Nat.le_refl _) _
  have hs6 : W6.heap.size = w5.heap.size + 1 := by rw [← hW6]; simp
  have hI5 := (unhide HO5).sys.inb
  have HO6 := hide ((unhide HO5).below HP HS hb6)
  have HR6 : Hid (RV w W6 B4 (fun j => j = w5.heap.size) w5.heap.size [] H 1 1 (.slice none 0 0)) := ⟨by rw [← hW6]; exact (MapKept.heap_alloc w5 _).1, fun hB => by have := (hI5 _ hB).2; omega, (unhide HO5).sys.b.size, prs_nil _ _⟩
  rw [hW6]
  obtain ⟨A12, hA12⟩ : ∃ y, w5.heap.size = y := ⟨_, rfl⟩
  rw [hA12] at HR6 hs6 ⊢
  have hA6 : A12 < W6.heap.size := by omega
  clear hW6 hb6 hI5 HO5 HO4 HO3 HB1 HB2 Hrn Hfi Hnew Han Hsm hA12 hs6
  go_upto_region 13 with (fail)
  have HW7 : Hid (WtAt (fun j => B4 j ∨ j = A12) none_ none_ none_ (W6.alloc (.cells #[.slice none 0 0] 23)) w.heap.size (.slice (some ⟨W6.heap.size, 0, none⟩) 1 1) [.slice none 0 0] [[]]) := wt_single (ownb_nil W6 0).bytes (fun k hk => hk.elim (fun h => ((unhide HO6).sys.inb k h).2) fun h => h ▸ hA6) (fun k hne => absurd rfl hne) (unhide HO6).sys.b.size
  obtain ⟨W7, hW7⟩ : ∃ y, W6.alloc (.cells #[.slice none 0 0] 23) = y := ⟨_, rfl⟩
  have hb7 : Below W6.heap.size W6 W7 := by rw [← hW7]; exact (Below.refl _ _).alloc (Nat.le_refl _) _
  have HO7 := hide ((unhide HO6).below HP HS hb7)
  have HR7 : Hid (RV w W7 (B2 B4 (.slice (some ⟨W6.heap.size, 0, none⟩) 1 1)) (fun j => j = A12) A12 [] H 1 1 (.slice none 0 0)) := hide (((unhide HR6).setB fun j hj hB => hB.elim (fun h => h) fun h => by have : W6.heap.size = j := Option.some.inj h; omega).below hb7)
  rw [hW7] at HW7 ⊢
  obtain ⟨A7, hA7⟩ : ∃ y, W6.heap.size = y := ⟨_, rfl⟩
  rw [hA7] at HW7 HR7 ⊢
  clear hW7 hb7 HO6 HR6 hA6 hA7
  go_wp2
  go_loopw [9, 59] (fun rr ii wr => ∃ (i g u n6 c6 RL cr : Nat) (s6 sr : Option Addr) (B : Set_) (ps : List (Bs × Bs)) (rc : List Bs) (vs : List Value), i ≤ N ∧ g ≤ i + 1 ∧ u ≤ 200 ∧ RL ≤ i + 1 ∧ rr = .slice sr RL cr ∧ ii = .int .i64 (i : Int) ∧ Hid (rc.length = RL) ∧ Hid (SysR PAt SAt n w wr (.pointer (some pa)) (.pointer (some ta)) ⟨H, g, u, ps⟩ (1 + i) B rc) ∧ Hid (RV w wr (B2 B (.slice sr RL cr)) (fun j => j = A12) A12 ps H g u (.slice s6 n6 c6)) ∧ Hid (WtAt (fun j => B j ∨ j = A12) none_ none_ none_ wr w.heap.size (.slice sr RL cr) vs rc)) (fun _ ii _ => N - (intOf ii).toNat)
  case atStart => exact ⟨0, 1, 1, 0, 0, 1, 1, none, some ⟨A7, 0, none⟩, B4, [], [[]], [.slice none 0 0], by omega, by omega, by omega, by omega, rfl, rfl, rfl, unhide HO7, unhide HR7, unhide HW7⟩
  case round =>
    obtain ⟨i, g, u, n6, c6, RL, cr, s6, sr, B, ps, rc, vs, hi, hg, hu, hRL, rfl, rfl, HRL, HO, HR, HW⟩ := hrel
    clear HO7 HR7 HW7
    by_cases hlt : i < N
    · obtain ⟨l, gg, o, s14, c14, hop, rfl, k0, hch⟩ := ((unhide HX).below (unhide HO).sys.b).one (i := i) (by have := unhide HN; omega)
      have hsl2 : SmallL l := (unhide HSM).2 l (List.mem_of_getElem? hop)
      obtain ⟨M, hM⟩ : ∃ y, l.length = y := ⟨_, rfl⟩
      rw [hM] at k0 hch
      have HM := hide hM
      have HCH := hide hch
      have HSl := hide hsl2
      have f1 : decide ((i : Int) < (N : Int)) = true := by simp; omega
      have f1n : decide (i < N) = true := by simp; omega
      have j0 : (0 : Int) ≤ (i : Int) := by omega
      have j1 : (i : Int) < (N : Int) := by omega
      clear hM hch hsl2 hop
      obtain ⟨r0, r1, r2, r3⟩ := (unhide HR).cells
      go_upto_region 16 with (fail)
      obtain ⟨BB, hBB⟩ : ∃ y, B2 B (.slice sr RL cr) = y := ⟨_, rfl⟩
      have HBB := hide hBB
      have HRb : Hid (RV w wr BB (fun j => j = A12) A12 ps H g u (.slice s6 n6 c6)) := hide (hBB ▸ unhide HR)
      have hIB : ∀ k, BB k → w.heap.size ≤ k ∧ k < wr.heap.size := fun k hk => by
        rw [← hBB] at hk
        exact hk.elim (fun h => (unhide HO).sys.inb k h) fun h => ⟨((unhide HW).row_lt h).1, ((unhide HW).row_lt h).2.1⟩
      have HIB := hide hIB
      clear hBB hIB
      have Hpl := hide (fun w' (hb : Below wr.heap.size wr w') => plain_c ((unhide HCH).below hb) (by have := (unhide HSl).1; omega))
      obtain ⟨RR, hRR⟩ : ∃ y, refC ⟨H, g, u, ps⟩ l = y := ⟨_, rfl⟩
      obtain ⟨RS1, code⟩ := RR
      obtain ⟨H1, g1, u1, ps1⟩ := RS1
      have HRR := hide hRR
      clear hRR
      have Hcm : Hid (∀ w' w5 w'' v, Below wr.heap.size wr w' → Below w'.heap.size w' w5 → ChsAt (fun k => (k < w.heap.size ∨ w'.heap.size ≤ k) ∧ k < w5.heap.size) w5 v l → Below w5.heap.size w5 w'' → Calls Tryz.prog 12 #[.agg #[.int .i64 (H : Int), .int .i64 (g : Int), .int .i64 (u : Int), .slice s6 n6 c6], v] w'' fun e w6 => ∃ q, e = .returned (.tuple #[.agg #[.int .i64 (H1 : Int), .int .i64 (g1 : Int), .int .i64 (u1 : Int), q], .int .i64 code]) ∧ PrsAt (fun k => ((¬ BB k ∧ k ≠ A12 ∧ k < wr.heap.size) ∨ (w'.heap.size ≤ k ∧ k < w5.heap.size) ∨ w''.heap.size ≤ k) ∧ k < w6.heap.size) w6 q ps1 ∧ Below w''.heap.size w'' w6) := fun w' w5 w'' v b1 b2 hc b3 => by
        have hI := unhide HIB
        have hA := lt_of_row (unhide HRb).row
        have hAg := (unhide HRb).ge
        have hws := (unhide HO).sys.b.size
        have hp5 : PrsAt (fun k => (¬ BB k ∧ k ≠ A12 ∧ k < wr.heap.size) ∨ (w'.heap.size ≤ k ∧ k < w5.heap.size)) w'' (.slice s6 n6 c6) ps := (((((unhide HRb).prs.mono (K' := fun k => (¬ BB k ∧ k ≠ A12 ∧ k < wr.heap.size) ∨ (w'.heap.size ≤ k ∧ k < w5.heap.size)) fun k hk h => Or.inl ⟨h.1, h.2, hk⟩).below b1).below b2).below b3)
        have hc5 : ChsAt (fun k => (¬ BB k ∧ k ≠ A12 ∧ k < wr.heap.size) ∨ (w'.heap.size ≤ k ∧ k < w5.heap.size)) w'' v l := (hc.mono fun k _ h => by
          rcases h.1 with h1 | h1
          · exact Or.inl ⟨fun hB => by have := (hI k hB).1; omega, by omega, by omega⟩
          · exact Or.inr ⟨h1, h.2⟩).below b3
        have hR := (unhide HO).sys.right
        refine (rcommit_c hp5 hc5 hR.1 (by have h9 : ps.length ≤ 65536 := hR.2; omega) (by have := (unhide HSl).1; omega) (rs_right (unhide HSl)) (show H ≤ 1000000 by omega) (show g ≤ 4611686018427387904 by omega) (show u ≤ 1000000 by omega)).mono ?_
        rintro e w6 ⟨q, rfl, h1, h2⟩
        rw [unhide HRR] at h1 ⊢
        refine ⟨q, rfl, h1.mono fun k _ h => ⟨?_, h.2⟩, h2⟩
        rcases h.1 with (h3 | h3) | h3
        · exact Or.inl h3
        · exact Or.inr (Or.inl h3)
        · exact Or.inr (Or.inr h3)
      refine region_join (join16 wr BB A12 H1 g1 u1 ps1.length code ps1) ?_ ?_
      · intro Q0 hQ0
        exact region16 HM HRb (unhide HIB) Hpl Hcm hQ0
      · rintro a' W ⟨ha, A15, sz, cz, e15, e16, hr15, hq7, hb7, hg15⟩
        simp only [Slots, List.map_cons, List.map_nil] at ha
        rw [e15, e16] at ha
        clear e15 e16
        generalize a'.tmps.getD 63 undef = u63 at ha
        generalize a'.tmps.getD 64 undef = u64 at ha
        generalize a'.tmps.getD 65 undef = u65 at ha
        generalize a'.tmps.getD 66 undef = u66 at ha
        generalize a'.tmps.getD 67 undef = u67 at ha
        generalize a'.tmps.getD 68 undef = u68 at ha
        generalize a'.tmps.getD 69 undef = u69 at ha
        subst ha
        simp only [puts, List.foldl, Act.put, List.setIfInBounds_toArray, List.set_cons_zero, List.set_cons_succ]
        clear Hcm r0 r1 r2 r3 k0
        as_aux_lemma =>
          have hI := unhide HIB
          have hIS := (unhide HO).sys.inb
          have hAW : A12 ≠ A15 := by have := lt_of_row (unhide HR).row; omega
          have hrw := (unhide HRb).below hb7
          have HOW := hide ((unhide HO).below HP HS hb7)
          have hcm := (unhide HOW).commit HP HS ((unhide HCH).below hb7) (fun j hj hB => by have h1 := (hIS j hB).1; have h2 : j < w.heap.size := hj; omega) (by have := (unhide HSl).1; omega) (by omega) (by show g < _; omega)
          rw [unhide HRR] at hcm
          have HCm := hide hcm
          clear hcm
          go_upto_region 19 with (first | (go_at_call 14; refine (unhide HCm).mono ?_; rintro e w7 ⟨rfl, h7, ha7⟩) | fail)
          have hlA15 := lt_of_row hr15
          have hsB : ∀ j, B j → BB j := fun j hj => by rw [← unhide HBB]; exact Or.inl hj
          have ha7b : Aside BB W w7 := ha7.mono fun j _ hj => hsB j hj
          have hr7 : R4 w7 A15 (.int .i64 (H1 : Int)) (.int .i64 (g1 : Int)) (.int .i64 (u1 : Int)) (.slice sz ps1.length cz) := (ha7b.block A15 hlA15 (fun hB => by have := (hI A15 hB).2; omega)).trans hr15
          have hv7 := hrw.call ha7b
          have hq7' : PrsAt (fun k => ¬ BN BB W w7 k ∧ ¬ k = A12) w7 (.slice sz ps1.length cz) ps1 := ((hq7.mono (K' := fun k => (¬ BB k ∧ k ≠ A12) ∧ k < W.heap.size) (fun k hk h => ⟨⟨h.1, h.2.1⟩, hk⟩)).aside ha7b (fun k hk h => h.1.1 hk)).mono (fun k _ h => ⟨fun hb => hb.1.elim h.1.1 (fun h2 => by have := h.2; omega), h.1.2⟩)
          have hwt7 : WtAt (fun j => BN B W w7 j ∨ j = A12) none_ none_ none_ w7 w.heap.size (.slice sr RL cr) vs rc := ((unhide HW).below hb7).past ha7 (fun k hk => Or.inl hk) fun k hk h => h.imp (fun h1 => h1.1.elim (fun h2 => h2) fun h2 => by omega) fun h1 => h1
          have hch7 := (((unhide HCH).below hb7).aside ha7 fun k hk h => by have h1 := (hIS k hk).1; have h2 : k < w.heap.size := h; omega)
          have hbn : ∀ j, BN B W w7 j → BN BB W w7 j := fun j h => ⟨h.1.imp (hsB j) id, h.2⟩
          have hown : ∀ j, (Value.slice sr RL cr).ownBlock = some j → BN BB W w7 j := fun j h => ⟨Or.inl (by rw [← unhide HBB]; exact Or.inr h), (hwt7.row_lt h).2.1⟩
          have hA7 := lt_of_row hv7.row
          have hbase : w.heap.size ≤ w7.heap.size := h7.sys.b.size
          have HS8 := hide h7.sys.right
          have HUS : Hid (u1 ≤ 200) := hide (by have := ref_used ⟨H, g, u, ps⟩ l; rw [unhide HRR] at this; have h9 : u1 ≤ max u H := this; omega)
          have HGN : Hid (g1 ≤ i + 2) := hide (by have := (ref_gen ⟨H, g, u, ps⟩ l).2; rw [unhide HRR] at this; have h9 : g1 ≤ g + 1 := this; omega)
          have HHI : Hid (H1 = H) := hide (by have := ref_half ⟨H, g, u, ps⟩ l; rw [unhide HRR] at this; exact this)
          have hle : l = [] ↔ M = 0 := by rw [← unhide HM]; exact List.length_eq_zero_iff.symm
          have HA15 : Hid (∀ j, (Value.slice sr RL cr).ownBlock = some j → j ≠ A15) := fun j h e => by
            have h1 := (hI j (by rw [← unhide HBB]; exact Or.inr h)).2
            omega
          clear hrw HOW hb7 hq7 hr15 HCm HR HRb HO HW Hpl hg15
          by_cases hdo : code = 0 ∧ M ≠ 0
          rotate_left
          · have hno : code ≠ 0 ∨ l = [] := by
              by_cases h0 : code = 0
              · exact Or.inr (hle.2 (by by_cases h1 : M = 0; exact h1; exact absurd ⟨h0, h1⟩ hdo))
              · exact Or.inl h0
            have e1 := ref_same (r := ⟨H, g, u, ps⟩) (l := l) (by rw [unhide HRR]; exact hno)
            rw [unhide HRR] at e1
            rw [rec_same (by rw [unhide HRR]; exact hno)] at h7
            have e2 : (⟨H1, g1, u1, ps1⟩ : RS) = ⟨H, g, u, ps⟩ := e1
            rw [e2] at h7
            have HOn := hide h7
            have HRn : Hid (RV w w7 (B2 (BN B W w7) (.slice sr RL cr)) (fun j => j = A12) A12 ps H g u (.slice s6 n6 c6)) := hide (hv7.setB fun j hj h => h.elim (hbn j) (hown j))
            have HWn := hide hwt7
            clear h7 hv7 hwt7 hq7' hr7 hch7 e1 e2 HRR hbn hown hI hIS hsB ha7 ha7b hlA15
            by_cases hc0 : code = 0
            · have hM0 : M = 0 := by by_cases h1 : M = 0; exact h1; exact absurd ⟨hc0, h1⟩ hdo
              subst hc0
              subst hM0
              clear hno hdo hle
              go_wp2_with (fail)
              exact ⟨⟨i + 1, g, u, n6, c6, RL, cr, s6, sr, _, ps, rc, vs, hlt, by omega, hu, by omega, rfl, by go_num, HRL, HOn, HRn, HWn⟩, by simp [intOf]; omega⟩
            · have d0 : decide (code = 0) = false := by simp; omega
              have d0' : (code == 0) = false := by simp; omega
              clear hno hdo hle
              go_wp2_with (fail)
              exact ⟨⟨i + 1, g, u, n6, c6, RL, cr, s6, sr, _, ps, rc, vs, hlt, by omega, hu, by omega, rfl, by go_num, HRL, HOn, HRn, HWn⟩, by simp [intOf]; omega⟩
          · obtain ⟨hc0, hM0⟩ := hdo
            subst hc0
            have hl : l ≠ [] := fun h => hM0 (hle.1 h)
            have HRi := hide (ref_good (unhide HRR))
            have dM : decide ((M : Int) = 0) = false := by simp; omega
            have dMn : decide (M = 0) = false := by simp; omega
            have dMb : ((M : Int) == 0) = false := by simp; omega
            obtain ⟨NP1, hNP1⟩ : ∃ y, ps1.length = y := ⟨_, rfl⟩
            have HNP := hide hNP1
            rw [hNP1] at hq7' hr7
            clear hNP1
            obtain ⟨n0, n1, n2, n3⟩ := hr7.cells
            obtain ⟨m0, m1, m2, m3⟩ := hv7.cells
            by_cases hgg : g1 = g
            · subst hgg
              have dg : decide ((g1 : Int) = (g1 : Int)) = true := by simp
              rw [rec_more (unhide HRR) hl rfl rc] at h7
              have HPl := hide (plain_c hch7 (by have := (unhide HSl).1; omega))
              have HLl : Hid (l.length ≤ 100000) := hide (by have := (unhide HSl).1; omega)
              have H7 := hide h7
              have HV7 := hide hv7
              have HQ7 := hide hq7'
              have HR7 := hide hr7
              have HBn := hide hbn
              have HOw := hide hown
              have HA7 := hide hA7
              have HBs := hide hbase
              have HW7 := hide hwt7
              clear h7 hv7 hq7' hr7 hbn hown hI hIS hsB ha7 ha7b hlA15 hch7 hwt7 hle hA7 hbase
              go_upto_region 23 with (first
                | (go_at_call 13; refine (unhide HPl).mono ?_
                   rintro e w8 ⟨v8, rfl, hc8, hb8⟩
                   have HC8 := hide hc8
                   have HB8 := hide hb8
                   clear hc8 hb8)
                | (go_at_call 26; refine (rwriteb_c (unhide HC8) (unhide HRi) (unhide HLl)).mono ?_
                   rintro e w9 ⟨v9, rfl, hR9⟩
                   obtain ⟨s9, c9, e9⟩ := hR9.own.form
                   subst e9
                   have HR9 := hide hR9
                   clear hR9
                   have hs78 := (unhide HB8).size
                   have hs89 := (unhide HR9).b.size
                   have hb79 : Below w7.heap.size w7 w9 := (unhide HB8).trans ((unhide HR9).b.mono hs78)
                   have hb910 : Below w9.heap.size w9 (w9.alloc (.cells #[.slice s9 (wrL l).length c9] 23)) := (Below.refl _ _).alloc (Nat.le_refl _) _
                   have HB10 := hide (hb79.trans (hb910.mono hb79.size))
                   have HN10 : Hid (ValsAt (w9.alloc (.cells #[.slice s9 (wrL l).length c9] 23)) (.slice (some ⟨w9.heap.size, 0, none⟩) 1 1) [.slice s9 (wrL l).length c9]) := vals_new w9 [.slice s9 (wrL l).length c9] 23
                   have HY10 := hide ((unhide HR9).bytes.below hb910)
                   have HWt10 := hide ((unhide HW7).below (unhide HB10))
                   have HSz : Hid (w9.heap.size < (w9.alloc (.cells #[.slice s9 (wrL l).length c9] 23)).heap.size ∧ w7.heap.size ≤ w8.heap.size ∧ w8.heap.size ≤ w9.heap.size) := ⟨by simp, hs78, hs89⟩
                   have HBz : Hid (w.heap.size ≤ (w9.alloc (.cells #[.slice s9 (wrL l).length c9] 23)).heap.size) := by show _ ≤ _; have := unhide HBs; have := (unhide HSz).1; omega
                   have HVl : Hid (vs.length + [Value.slice s9 (wrL l).length c9].length ≤ 1073741824) := by show _ ≤ _; have h1 := (unhide HW7).len; have h2 := unhide HRL; simp; omega
                   have HEq : Hid (∀ y, w9.alloc (.cells #[.slice s9 (wrL l).length c9] 23) = y → ∀ wv w11, OwnV 23 w11 w.heap.size wv (vs ++ [.slice s9 (wrL l).length c9]) → y.grownBy w11 (Value.slice sr RL cr).ownBlock → (wv.ownBlock = (Value.slice sr RL cr).ownBlock ∨ wv.ownBlock = some y.heap.size) → Aside (fun k => (Value.slice sr RL cr).ownBlock = some k) y w11 ∧ WtAt (fun j => BN B W w7 j ∨ j = A12) none_ none_ none_ w11 w.heap.size wv (vs ++ [.slice s9 (wrL l).length c9]) (rc ++ [wrL l])) := by
                     rintro y rfl wv w11 ho hg hor
                     have ha : Aside (fun k => (Value.slice sr RL cr).ownBlock = some k) (w9.alloc (.cells #[.slice s9 (wrL l).length c9] 23)) w11 := Aside.of_grown hg fun k hk => hk
                     have hX : ∀ k, (BN B W w7 k ∨ k = A12) → k < w7.heap.size := fun k hk => hk.elim (fun h => h.2) fun h => h ▸ unhide HA7
                     refine ⟨ha, (unhide HWt10).push (us := [.slice s9 (wrL l).length c9]) (m := [wrL l]) rfl (fun j u c h1 h2 => ?_) ho ha hor ⟨⟨fun h => by have := hX _ h; have := unhide HSz; omega, fun h => h⟩, fun h => h, fun h => h⟩⟩
                     match j, h1, h2 with
                     | 0, h1, h2 =>
                       simp only [List.getElem?_cons_zero, Option.some.injEq] at h1 h2
                       subst h1
                       subst h2
                       refine ⟨unhide HY10, fun k hne hk => ?_⟩
                       have h1 := World.ownsRow.lt (unhide HR9).own k hk
                       have h4 := unhide HSz
                       exact ⟨⟨⟨fun h => by have := hX k h; omega, fun h => h⟩, fun h => h, fun h => h⟩, fun e => by have := ((unhide HW7).row_lt e).2.1; omega, by omega⟩
                     | j + 1, h1, h2 => simp at h1
                   obtain ⟨w10, hw10⟩ : ∃ y, w9.alloc (.cells #[.slice s9 (wrL l).length c9] 23) = y := ⟨_, rfl⟩
                   have HEq10 := hide (unhide HEq w10 hw10)
                   rw [hw10] at HN10 HWt10 HB10 HSz HBz
                   clear hs78 hs89 hb79 hb910 HEq HY10)
                | (at_builtin; refine wpList_append_vals Ebb rfl _ _ rfl w.heap.size (.slice sr RL cr) (.slice (some ⟨w9.heap.size, 0, none⟩) 1 1) vs [.slice s9 (wrL l).length c9] rfl (unhide HWt10).own rfl (unhide HN10) (by simp [Value.oneCell']) (unhide HBz) (unhide HVl) ?_
                   intro wv w11 ho11 hg11 hor11
                   obtain ⟨ha11, hwt11⟩ := unhide HEq10 wv w11 ho11 hg11 hor11
                   obtain ⟨sv, cv, hwf⟩ := hwt11.lists.form
                   rw [List.length_append, unhide HRL] at hwf
                   subst hwf
                   have HA11 := hide ha11
                   have HW11 := hide hwt11
                   have HOr := hide hor11
                   clear ho11 hg11 hor11 ha11 hwt11)
                | fail)
              obtain ⟨hz1, hz2, hz3⟩ := unhide HSz
              obtain ⟨Bt, hBt⟩ : ∃ y : Set_, y = fun j => BN BB W w7 j ∨ (Value.slice sv (RL + [wrL l].length) cv).ownBlock = some j := ⟨_, rfl⟩
              have hBt1 : ∀ k, k < w10.heap.size → Bt k → BN BB W w7 k := fun k hk h => by
                rw [hBt] at h
                rcases h with h | h
                · exact h
                · rcases unhide HOr with h2 | h2
                  · exact unhide HOw k (h2 ▸ h)
                  · rw [h2] at h
                    have h3 : w10.heap.size = k := Option.some.inj h
                    omega
              have hTT : ∀ k, (Value.slice sr RL cr).ownBlock = some k → Bt k := fun k h => by rw [hBt]; exact Or.inl (unhide HOw k h)
              have hBt2 : ∀ k, B2 (BN B W w7) (.slice sv (RL + [wrL l].length) cv) k → Bt k := fun k h => by rw [hBt]; exact h.imp (unhide HBn k) id
              have hR11 : RV w w11 (B2 (BN B W w7) (.slice sv (RL + [wrL l].length) cv)) (fun j => j = A12) A12 ps H g1 u (.slice s6 n6 c6) := ((((unhide HV7).below (unhide HB10)).setB hBt1).stand (unhide HA11) hTT).setB fun j _ h => hBt2 j h
              have hq11 : PrsAt (fun j => ¬ B2 (BN B W w7) (.slice sv (RL + [wrL l].length) cv) j ∧ ¬ j = A12) w11 (.slice sz NP1 cz) ps1 := ((((unhide HQ7).below (unhide HB10)).mono (K' := fun k => ¬ Bt k ∧ ¬ k = A12) fun k hk h => ⟨fun hb => h.1 (hBt1 k hk hb), h.2⟩).aside (unhide HA11) fun k hk h => h.1 (hTT k hk)).mono fun k _ h => ⟨fun hb => h.1 (hBt2 k hb), h.2⟩
              have hO11 := ((unhide H7).below HP HS (unhide HB10)).aside HP HS (unhide HA11) (fun j hj hB => ((unhide HWt10).row_lt hj).2.2 (Or.inl hB)) fun j hj => ((unhide HWt10).row_lt hj).1
              have hr10 := (unhide HR7).below (unhide HB10)
              have hr11 : R4 w11 A15 (.int .i64 (H1 : Int)) (.int .i64 (g1 : Int)) (.int .i64 (u1 : Int)) (.slice sz NP1 cz) := ((unhide HA11).block A15 (lt_of_row hr10) fun h => unhide HA15 A15 h rfl).trans hr10
              obtain ⟨n0, n1, n2, n3⟩ := hr11.cells
              obtain ⟨m0, m1, m2, m3⟩ := hR11.cells
              have z0 := row_frozen hR11.row 0
              have z1 := row_frozen hR11.row 1
              have z2 := row_frozen hR11.row 2
              have z3 := row_frozen hR11.row 3
              have hAW' : A15 ≠ A12 := fun e => hAW e.symm
              obtain ⟨w12, hw12, hO12, hR12, hW12⟩ := lay_end HP HS hO11 hR11 hq11 (unhide HW11)
              unfold put4 at hw12
              replace hw12 := hw12.symm
              have HO12 : Hid (SysR PAt SAt n w w12 (.pointer (some pa)) (.pointer (some ta)) ⟨H, g1, u1, ps1⟩ (1 + (i + 1)) (BN B W w7) (rc ++ [wrL l])) := hide (by have h9 := hO12; rw [unhide HHI] at h9; exact h9)
              have HR12 : Hid (RV w w12 (B2 (BN B W w7) (.slice sv (RL + 1) cv)) (fun j => j = A12) A12 ps1 H g1 u1 (.slice sz NP1 cz)) := hide (by have h9 := hR12; rw [unhide HHI] at h9; exact h9)
              have HW12 := hide hW12
              have HRL1 : Hid ((rc ++ [wrL l]).length = RL + 1) := by show _ = _; rw [List.length_append, unhide HRL]; rfl
              clear hO11 hR11 hq11 hr10 hr11 hO12 hR12 hW12 hBt1 hBt2 hTT hBt hz1 hz2 hz3 HSz HOr HA11 HW11 HEq10 HB10 HWt10 HN10 H7 HV7 HQ7 HR7 HR9 HC8 HB8 HPl HBn HOw hw10
              go_wp2_with (fail)
              exact ⟨⟨i + 1, g1, u1, NP1, cz, RL + 1, cv, sz, sv, _, ps1, rc ++ [wrL l], _, hlt, by omega, unhide HUS, by omega, rfl, by go_num, HRL1, HO12, HR12, HW12⟩, by simp [intOf]; omega⟩
            · have dg : decide ((g1 : Int) = (g : Int)) = false := by simp; omega
              have dgn : decide (g1 = g) = false := by simp; omega
              rw [rec_new (unhide HRR) hl hgg rc] at h7
              have HAl := hide (rall_c hq7' (by have h9 : ps1.length ≤ 65536 := (unhide HS8).2; omega))
              have HRp : Hid (RightL (allP ps1) ∧ (allP ps1).length ≤ 100000) := hide ⟨all_right (unhide HS8).1, by have h9 : ps1.length ≤ 65536 := (unhide HS8).2; unfold allP; rw [List.length_map]; omega⟩
              have H7 := hide h7
              have HV7 := hide hv7
              have HQ7 := hide hq7'
              have HR7 := hide hr7
              have HBn := hide hbn
              have HA7 := hide hA7
              have HBs := hide hbase
              clear h7 hv7 hq7' hr7 hbn hown hI hIS hsB ha7 ha7b hlA15 hch7 hwt7 hle hA7 hbase
              go_upto_region 23 with (first
                | (go_at_call 27; refine (unhide HAl).mono ?_
                   rintro e w8 ⟨v8, rfl, hc8, hb8⟩
                   have HC8 := hide hc8
                   have HB8 := hide hb8
                   clear hc8 hb8)
                | (go_at_call 26; refine (rwriteb_c (unhide HC8) (unhide HRp).1 (unhide HRp).2).mono ?_
                   rintro e w9 ⟨v9, rfl, hR9⟩
                   obtain ⟨s9, c9, e9⟩ := hR9.own.form
                   subst e9
                   have HR9 := hide hR9
                   clear hR9)
                | fail)
              have hs78 := (unhide HB8).size
              have hs89 := (unhide HR9).b.size
              have hb79 : Below w7.heap.size w7 w9 := (unhide HB8).trans ((unhide HR9).b.mono hs78)
              have hX : ∀ k, (BN B W w7 k ∨ k = A12) → k < w7.heap.size := fun k hk => hk.elim (fun h => h.2) fun h => h ▸ unhide HA7
              have hwt := wt_single (X := fun j => BN B W w7 j ∨ j = A12) (base := w.heap.size) (unhide HR9).bytes (fun k hk => by have := hX k hk; omega) (fun k _ hk => by
                have h1 := World.ownsRow.lt (unhide HR9).own k hk
                exact ⟨fun h => by have := hX k h; omega, h1.2⟩) (by have := unhide HBs; omega)
              obtain ⟨w10, hw10⟩ : ∃ y, w9.alloc (.cells #[.slice s9 (wrL (allP ps1)).length c9] 23) = y := ⟨_, rfl⟩
              have hb910 : Below w9.heap.size w9 w10 := by rw [← hw10]; exact (Below.refl _ _).alloc (Nat.le_refl _) _
              have hb10 : Below w7.heap.size w7 w10 := hb79.trans (hb910.mono hb79.size)
              have hO10 := (unhide H7).below HP HS hb10
              have hR10 : RV w w10 (B2 (BN B W w7) (.slice (some ⟨w9.heap.size, 0, none⟩) 1 1)) (fun j => j = A12) A12 ps H g u (.slice s6 n6 c6) := ((unhide HV7).setB fun j hj h => h.elim (unhide HBn j) fun h => by have h2 : w9.heap.size = j := Option.some.inj h; omega).below hb10
              have hq10 : PrsAt (fun j => ¬ B2 (BN B W w7) (.slice (some ⟨w9.heap.size, 0, none⟩) 1 1) j ∧ ¬ j = A12) w10 (.slice sz NP1 cz) ps1 := ((unhide HQ7).mono fun k hk h => ⟨fun hb => hb.elim (fun h1 => h.1 (unhide HBn k h1)) fun h1 => by have h2 : w9.heap.size = k := Option.some.inj h1; omega, h.2⟩).below hb10
              have hr10 := (unhide HR7).below hb10
              rw [hw10] at hwt ⊢
              obtain ⟨n0, n1, n2, n3⟩ := hr10.cells
              obtain ⟨m0, m1, m2, m3⟩ := hR10.cells
              have z0 := row_frozen hR10.row 0
              have z1 := row_frozen hR10.row 1
              have z2 := row_frozen hR10.row 2
              have z3 := row_frozen hR10.row 3
              have hAW' : A15 ≠ A12 := fun e => hAW e.symm
              obtain ⟨w11, hw11, hO11, hR11, hW11⟩ := lay_end HP HS hO10 hR10 hq10 hwt
              unfold put4 at hw11
              replace hw11 := hw11.symm
              have HO11 : Hid (SysR PAt SAt n w w11 (.pointer (some pa)) (.pointer (some ta)) ⟨H, g1, u1, ps1⟩ (1 + (i + 1)) (BN B W w7) [wrL (allP ps1)]) := hide (by have h9 := hO11; rw [unhide HHI] at h9; exact h9)
              have HR11 : Hid (RV w w11 (B2 (BN B W w7) (.slice (some ⟨w9.heap.size, 0, none⟩) 1 1)) (fun j => j = A12) A12 ps1 H g1 u1 (.slice sz NP1 cz)) := hide (by have h9 := hR11; rw [unhide HHI] at h9; exact h9)
              have HW11 := hide hW11
              clear hO10 hR10 hq10 hr10 hwt hO11 hR11 hW11 hb10 hb910 hb79 hX hs78 hs89 H7 HV7 HQ7 HR7 HR9 HC8 HB8 HAl HRp hw10 HBn
              go_wp2_with (fail)
              exact ⟨⟨i + 1, g1, u1, NP1, cz, 1, 1, sz, some ⟨w9.heap.size, 0, none⟩, _, ps1, [wrL (allP ps1)], _, hlt, unhide HGN, unhide HUS, by omega, rfl, by go_num, hide rfl, HO11, HR11, HW11⟩, by simp [intOf]; omega⟩
    · obtain rfl : i = N := by omega
      have f1 : decide ((i : Int) < (i : Int)) = false := by simp
      have f1n : decide (i < i) = false := by simp
      obtain ⟨L, rs, hL1, hL2, hL3, hL4, hL5, hL6, hL7, hL8, hL9, hRd⟩ := (unhide HO).lays HP HS
      have hL6' : 2 + 2 * H ≤ n := hL6
      have hL7' : Stands g (W.partOf L (fromG H g) H) 1 1 rs := hL7
      have hL9' : L.getD (g % 2) [] = markB g := hL9
      have hg1 : 1 ≤ g := hL4
      obtain ⟨F, hF⟩ : ∃ y, fromG H g = y := ⟨_, rfl⟩
      obtain ⟨hF1, hF2⟩ := from_le H g
      rw [hF] at hF1 hF2 hL7'
      unfold fromG at hF
      obtain ⟨G1, hG1⟩ : ∃ y, g + 1 = y := ⟨_, rfl⟩
      rw [hG1] at hF
      obtain ⟨Q, hQ⟩ : ∃ y, G1 % 2 = y := ⟨_, rfl⟩
      rw [hQ] at hF
      obtain ⟨P, hP⟩ : ∃ y, H * Q = y := ⟨_, rfl⟩
      rw [hP] at hF
      obtain ⟨E, hE⟩ : ∃ y, F + H = y := ⟨_, rfl⟩
      have eG1 : (g : Int) + 1 = (G1 : Int) := by omega
      have eQ : (G1 : Int) % 2 = (Q : Int) := by omega
      have eQ' : Int.tmod (G1 : Int) 2 = (Q : Int) := by rw [Int.tmod_eq_emod_of_nonneg (by omega)]; exact eQ
      have eP : (H : Int) * (Q : Int) = (P : Int) := by rw [← hP]; simp
      have eF : (2 : Int) + (P : Int) = (F : Int) := by omega
      have eE : (F : Int) + (H : Int) = (E : Int) := by omega
      have hQ2 : Q ≤ 1 := by omega
      have hPb : P ≤ 200 := by rcases (show Q = 0 ∨ Q = 1 by omega) with h | h <;> subst h <;> omega
      have hEn : E ≤ n := by omega
      have hG1b : G1 ≤ 2147483648 := by omega
      have HRd := hide hRd
      have HL1 := hide hL1
      have HL2 := hide hL2
      have HL8 := hide hL8
      have HL9 := hide hL9'
      obtain ⟨LP, hLP⟩ : ∃ y, W.partOf L F H = y := ⟨_, rfl⟩
      rw [hLP] at hL7'
      have HSt := hide hL7'
      have HLPl : Hid (LP.length = H) := by show _ = _; rw [← hLP]; exact W.partOf_len (by omega)
      have HLPa : Hid (∀ k, k < H → LP[k]? = L[F + k]?) := fun k hk => by rw [← hLP]; exact W.partOf_at _ hk
      have HLP64 : Hid (∀ x ∈ LP, x.length = 64) := fun x hx => by
        rw [← hLP] at hx
        unfold W.partOf at hx
        exact hL2 x (List.mem_of_mem_drop (List.mem_of_mem_take hx))
      have HBig : Hid (∀ b ∈ rc, b.length ≤ 65536) := fun b hb => by
        rw [← hL8] at hb
        obtain ⟨y, hy, rfl⟩ := List.mem_map.1 hb
        exact stands_short hL7' y hy
      have hL5' : g < 2147483648 := hL5
      clear hRd hL1 hL2 hL3 hL4 hL5 hL6 hL7 hL8 hL9 hL9' hL7' hLP hF hG1 hQ hP hE hL6'
      obtain ⟨r0, r1, r2, r3⟩ := (unhide HR).cells
      obtain ⟨wo, hwo⟩ : ∃ y, y = wr := ⟨_, rfl⟩
      subst hwo
      have HLo : Hid (WtAt none_ none_ none_ none_ wo wo.heap.size (.slice none 0 0) [] []) := ⟨own_nil 23 wo wo.heap.size, rfl, fun i v b h => by simp at h, fun k hk => by simp [Value.ownBlock] at hk⟩
      have hTk : Hid (LP.take 0 = []) := by show _ = _; rw [List.take_zero]
      go_wp2
      go_loopw [15, 16] (fun lv av wr => ∃ (k j c : Nat) (so : Option Addr) (vs2 : List Value), k ≤ H ∧ j = F + k ∧ lv = .slice so k c ∧ av = .int .i64 (j : Int) ∧ Hid (WtAt none_ none_ none_ none_ wr wo.heap.size (.slice so k c) vs2 (LP.take k)) ∧ Hid (Below wo.heap.size wo wr)) (fun _ av _ => E - (intOf av).toNat)
      case atStart => exact ⟨0, F, 0, none, [], Nat.zero_le _, rfl, rfl, rfl, by rw [unhide hTk]; exact unhide HLo, Below.refl _ _⟩
      case round =>
        obtain ⟨k, j, c, so, vs2, hk, hj, rfl, rfl, HWq, HBq⟩ := hrel
        clear HLo hTk
        have q0 := ((unhide HR).below (unhide HBq)).cells.1
        have q1 := ((unhide HR).below (unhide HBq)).cells.2.1
        by_cases hlt2 : j < E
        · have f2 : decide ((j : Int) < (E : Int)) = true := by simp; omega
          have f2n : decide (j < E) = true := by simp; omega
          have hkH : k < H := by omega
          have hLk : LP[k]? = L[j]? := by rw [hj]; exact unhide HLPa k hkH
          obtain ⟨s, hs⟩ : ∃ y, L[j]? = some y := ⟨_, List.getElem?_eq_getElem (by have := unhide HL1; omega)⟩
          have hs64 := unhide HL2 s (List.mem_of_getElem? hs)
          have hgd : L.getD j [] = s := by rw [List.getD_eq_getElem?_getD, hs]; rfl
          have HTk : Hid (LP.take (k + 1) = LP.take k ++ [s]) := by show _ = _; rw [List.take_add_one, hLk, hs]; rfl
          have HRj := hide (unhide HRd wr (unhide HBq) j (by omega))
          rw [hgd] at HRj
          have Hs64 := hide hs64
          have HJ := hide hj
          have HBs : Hid (wo.heap.size ≤ wr.heap.size) := (unhide HBq).size
          clear hLk hs hs64 hgd hj
          go_upto_region 33 with (go_at_call 28; refine (unhide HRj).mono ?_
                                  rintro e w2 ⟨v2, rfl, ho2, hb2⟩
                                  obtain ⟨s2, c2, e2, _⟩ := bytes_open ho2.bytes
                                  rw [unhide Hs64] at e2
                                  subst e2
                                  have HO2 := hide ho2
                                  have HB2 := hide hb2
                                  clear ho2 hb2)
          have hW2 := (unhide HWq).below (unhide HB2)
          have hb23 : Below w2.heap.size w2 (w2.alloc (.cells #[.slice s2 64 c2] 23)) := (Below.refl _ _).alloc (Nat.le_refl _) _
          have hs23 : w2.heap.size < (w2.alloc (.cells #[.slice s2 64 c2] 23)).heap.size := by simp
          have HW3 := hide (hW2.below hb23)
          have HN3 : Hid (ValsAt (w2.alloc (.cells #[.slice s2 64 c2] 23)) (.slice (some ⟨w2.heap.size, 0, none⟩) 1 1) [.slice s2 64 c2]) := vals_new w2 [.slice s2 64 c2] 23
          have HBz : Hid (wo.heap.size ≤ (w2.alloc (.cells #[.slice s2 64 c2] 23)).heap.size) := by show _ ≤ _; have := unhide HBs; have := (unhide HB2).size; omega
          have HVl : Hid (vs2.length + [Value.slice s2 64 c2].length ≤ 1073741824) := by show _ ≤ _; have h1 := (unhide HWq).len; rw [List.length_take] at h1; simp; omega
          have HY3 := hide ((unhide HO2).bytes.below hb23)
          have HK3 : Hid (∀ k, (Value.slice s2 64 c2).ownBlock = some k → wr.heap.size ≤ k ∧ k < (w2.alloc (.cells #[.slice s2 64 c2] 23)).heap.size) := fun k hk => by
            obtain ⟨e, ho⟩ := unhide HO2
            have := World.ownsRow.lt ho k hk
            omega
          have HB3 : Hid (Below wo.heap.size wo (w2.alloc (.cells #[.slice s2 64 c2] 23))) := (unhide HBq).trans (((unhide HB2).trans (hb23.mono (unhide HB2).size)).mono (unhide HBs))
          obtain ⟨w3, hw3⟩ : ∃ y, w2.alloc (.cells #[.slice s2 64 c2] 23) = y := ⟨_, rfl⟩
          rw [hw3] at HW3 HN3 HBz HY3 HK3 HB3
          clear hW2 hb23 hs23 HRj
          go_wp2_with (at_builtin; refine wpList_append_vals Ebb rfl _ _ rfl wo.heap.size (.slice so k c) (.slice (some ⟨w2.heap.size, 0, none⟩) 1 1) vs2 [.slice s2 64 c2] rfl (unhide HW3).own rfl (unhide HN3) (by simp [Value.oneCell']) (unhide HBz) (unhide HVl) ?_
                       intro wv w4 ho4 hg4 hor4
                       have ha4 : Aside (fun k' => (Value.slice so k c).ownBlock = some k') w3 w4 := Aside.of_grown hg4 fun k' hk => hk
                       have hlt4 : ∀ k', (Value.slice so k c).ownBlock = some k' → wo.heap.size ≤ k' ∧ k' < wr.heap.size := fun k' hk' => World.ownsRow.lt (unhide HWq).own k' hk'
                       have hpu := (unhide HW3).push (us := [.slice s2 64 c2]) (m := [s]) rfl (fun j u c h1 h2 => by
                         match j, h1, h2 with
                         | 0, h1, h2 =>
                           simp only [List.getElem?_cons_zero, Option.some.injEq] at h1 h2
                           subst h1
                           subst h2
                           refine ⟨unhide HY3, fun k' hne hk' => ⟨⟨⟨fun h => h, fun h => h⟩, fun h => h, fun h => h⟩, fun e => ?_, (unhide HK3 k' hk').2⟩⟩
                           have h1 := (hlt4 k' e).2
                           have h2 := (unhide HK3 k' hk').1
                           omega
                         | j + 1, h1, h2 => simp at h1) ho4 ha4 hor4 ⟨⟨fun h => h, fun h => h⟩, fun h => h, fun h => h⟩
                       rw [← unhide HTk] at hpu
                       have HB4 := hide ((unhide HB3).trans (ha4.below (unhide HB3).size fun k' hk' => (hlt4 k' hk').1))
                       obtain ⟨s4, c4, hwf⟩ := hpu.lists.form
                       rw [List.length_take, unhide HLPl, Nat.min_eq_left (by omega)] at hwf
                       subst hwf
                       have HW4 := hide hpu
                       clear ho4 hg4 hor4 ha4 hpu hlt4)
          exact ⟨⟨k + 1, j + 1, c4, s4, _, hkH, by have := unhide HJ; omega, rfl, by go_num, HW4, HB4⟩, by simp [intOf]; omega⟩
        · have hkH : H = k := by omega
          have hjE : E = j := by omega
          subst hkH
          subst hjE
          have f2 : decide ((E : Int) < (E : Int)) = false := by simp
          have f2n : decide (E < E) = false := by simp
          have HL34 : Hid (BLists wr (.slice so H c) LP) := by
            have h := (unhide HWq).lists
            rw [List.take_of_length_le (by rw [unhide HLPl]; exact Nat.le_refl _)] at h
            exact h
          have HTh : Hid (Calls Tryz.prog 29 #[.slice so H c, .int .i64 (g : Int)] wr fun e w' => ∃ v, e = .returned (.tuple #[v, .int .i64 (usedR rs : Int), .int .i64 ((topR g LP + 1 : Nat) : Int)]) ∧ BLists w' v rc ∧ Below wr.heap.size wr w') := by
            have h := there_c wr (.slice so H c) LP g rs (unhide HL34) (unhide HLP64) (by rw [unhide HLPl]; omega) (by omega) (unhide HSt)
            rw [unhide HL8] at h
            exact h
          obtain ⟨U1, hU1⟩ : ∃ y, usedR rs = y := ⟨_, rfl⟩
          obtain ⟨U2, hU2⟩ : ∃ y, topR g LP + 1 = y := ⟨_, rfl⟩
          rw [hU1, hU2] at HTh
          have HSz : Hid (wo.heap.size ≤ wr.heap.size) := (unhide HBq).size
          clear HWq hU1 hU2 HL34 hj
          go_upto_region 35 with (go_at_call 29; refine (unhide HTh).mono ?_
                                  rintro e w5 ⟨v5, rfl, hl5, hb5⟩
                                  obtain ⟨s5, c5, e5⟩ := hl5.form
                                  rw [unhide HRL] at e5
                                  subst e5
                                  have HL5 := hide hl5
                                  have HB5 : Hid (Below wo.heap.size wo w5) := (unhide HBq).trans (hb5.mono (unhide HSz))
                                  clear hl5 hb5)
          have HRc := hide ((unhide HW).lists.below (unhide HB5))
          clear HTh HBq q0 q1
          go_wp2_with (fail)
          go_loopw [144] (fun ii wr => ∃ q : Nat, q ≤ RL ∧ ii = .int .i64 (q : Int) ∧ Hid (Below w5.heap.size w5 wr)) (fun ii _ => RL - (intOf ii).toNat)
          case atStart => exact ⟨0, Nat.zero_le _, rfl, Below.refl _ _⟩
          case round =>
            obtain ⟨q, hq, rfl, HBr⟩ := hrel
            by_cases hql : q < RL
            · have f3 : decide ((q : Int) < (RL : Int)) = true := by simp; omega
              have f3n : decide (q < RL) = true := by simp; omega
              have t0 : (0 : Int) ≤ (q : Int) := by omega
              have t1 : (q : Int) < (RL : Int) := by omega
              obtain ⟨kk, hkk⟩ : ∃ v, rc[q]? = some v := ⟨_, List.getElem?_eq_getElem (by rw [unhide HRL]; exact hql)⟩
              obtain ⟨ga, oa, va1, rfl, ca, hba⟩ := ((unhide HL5).below (unhide HBr)).at hkk
              obtain ⟨gb, ob, vb1, rfl, cb, hbb⟩ := ((unhide HRc).below (unhide HBr)).at hkk
              have Hkl : Hid (kk.length ≤ 1099511627776) := by show _ ≤ _; have := unhide HBig kk (List.mem_of_getElem? hkk); omega
              have Hba := hide hba
              have Hbb := hide hbb
              clear hkk hba hbb
              go_wp2_with (go_at_call 19; refine (same_any _ _ _ kk kk (unhide Hba) (unhide Hbb) (unhide Hkl)).mono ?_; rw [decide_eq_true (rfl : kk = kk)]; rintro e wx ⟨rfl, hbx⟩; have HBx := hide ((unhide HBr).trans (hbx.mono (unhide HBr).size)); clear hbx)
              exact ⟨⟨q + 1, hql, by go_num, HBx⟩, by simp [intOf]; omega⟩
            · obtain rfl : q = RL := by omega
              have f3 : decide ((q : Int) < (q : Int)) = false := by simp
              have f3n : decide (q < q) = false := by simp
              have HBo : Hid (Below wo.heap.size wo wr) := (unhide HB5).trans ((unhide HBr).mono (unhide HB5).size)
              obtain ⟨x0, x1, x2, x3⟩ := ((unhide HR).below (unhide HBo)).cells
              obtain ⟨M2, hM2⟩ : ∃ y, g % 2 = y := ⟨_, rfl⟩
              have eM : (g : Int) % 2 = (M2 : Int) := by omega
              have eM' : Int.tmod (g : Int) 2 = (M2 : Int) := by rw [Int.tmod_eq_emod_of_nonneg (by omega)]; exact eM
              have HMr := hide (unhide HRd wr (unhide HBo) M2 (by omega))
              have hmk := unhide HL9
              rw [hM2] at hmk
              rw [hmk] at HMr
              have HMk : Hid (∀ w', GivesB w' 30 #[.int .i64 (g : Int)] (markB g)) := fun w' => rmark_c w' g (by omega)
              have HMl : Hid ((markB g).length ≤ 1099511627776) := by show _ ≤ _; rw [mark_len]; omega
              clear hM2 hmk
              go_upto_region 44 with (go_at_call 28; refine (unhide HMr).mono ?_
                                      rintro e w6 ⟨v6, rfl, ho6, hb6⟩
                                      have HO6 := hide ho6.bytes
                                      have HB6 : Hid (Below wo.heap.size wo w6) := (unhide HBo).trans (hb6.mono (unhide HBo).size)
                                      clear ho6 hb6)
              obtain ⟨y0, y1, y2, y3⟩ := ((unhide HR).below (unhide HB6)).cells
              go_wp2_with (first
                | (go_at_call 30; refine (unhide HMk _).mono ?_
                   rintro e w7 ⟨v7, rfl, hR7⟩
                   have HR7 := hide hR7
                   clear hR7)
                | (go_at_call 19; refine (same_any _ _ _ (markB g) (markB g) ((unhide HO6).below (unhide HR7).b) (unhide HR7).bytes (unhide HMl)).mono ?_; rw [decide_eq_true (rfl : markB g = markB g)]; rintro e w8 ⟨rfl, hb8⟩; have HB8 : Hid (Below wo.heap.size wo w8) := (unhide HB6).trans (((unhide HR7).b.trans (hb8.mono (unhide HR7).b.size)).mono (unhide HB6).size); clear hb8))
              go_ret
              exact ⟨rfl, (unhide HO).sys.b.trans ((unhide HB8).mono (unhide HO).sys.b.size)⟩
end
end Go.Proofs.YtbjgknoipbekoaaGreat
