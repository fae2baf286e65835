/-
  StorePlays out of the records.
-/
import Derived.Test.YtbjgknoipbekoaaGreatQ32
import Derived.Deep.CutBlock
namespace Go.Proofs.YtbjgknoipbekoaaGreat
open Go.RowKit
section
variable {PAt : Set_ → Set_ → World → Value → PS → Prop} {SAt : Set_ → Set_ → World → Value → Value → SS → Prop} (HP : Plate PAt) (HS : Store PAt SAt)
include HP HS in
set_option maxRecDepth 100000 in
set_option maxHeartbeats 16000000 in
theorem plays_true (w : World) (sec : Int) (x xp xk : Value) (ll : List (List Ch)) (pre key : Bs) (hx : ChssAt (fun j => j < w.heap.size) w x ll) (hxp : BytesAt w xp pre) (hxk : BytesAt w xk key) : Calls Tryz.prog 3 #[.int .i64 sec, x, xp, xk] w fun e w' => e = .returned (.bool true) ∧ Below w.heap.size w w' := by
  have Han := hide (sanchor_c HP HS w)
  obtain ⟨sp, c, rfl, _⟩ := id hx.form
  obtain ⟨sq, cq, rfl, _⟩ := bytes_open hxp
  obtain ⟨sk, ck, rfl, _⟩ := bytes_open hxk
  obtain ⟨N, hN⟩ : ∃ n, ll.length = n := ⟨_, rfl⟩
  obtain ⟨NQ, hNQ⟩ : ∃ n, pre.length = n := ⟨_, rfl⟩
  obtain ⟨NK, hNK⟩ : ∃ n, key.length = n := ⟨_, rfl⟩
  rw [hN] at hx ⊢
  rw [hNQ] at hxp ⊢
  rw [hNK] at hxk ⊢
  have HX := hide hx
  have HXp := hide hxp
  have HXk := hide hxk
  have HN := hide hN
  have HNQ := hide hNQ
  have HNK := hide hNK
  clear hx hxp hxk hN hNQ hNK
  by_cases g1 : sec < 8
  · have d1 : decide (sec < 8) = true := by simp; omega
    go_enter Tryz.func3, Tryz.ntmps3
    go_wp2_with (go_at_call 7; refine (unhide Han).mono ?_; rintro e w1 ⟨rfl, hb1⟩; have HB1 := hide hb1; clear hb1)
    go_ret
    exact ⟨rfl, unhide HB1⟩
  have d1 : decide (sec < 8) = false := by simp; omega
  by_cases g2 : 400 < sec
  · have d2 : decide ((400 : Int) < sec) = true := by simp; omega
    go_enter Tryz.func3, Tryz.ntmps3
    go_wp2_with (go_at_call 7; refine (unhide Han).mono ?_; rintro e w1 ⟨rfl, hb1⟩; have HB1 := hide hb1; clear hb1)
    go_ret
    exact ⟨rfl, unhide HB1⟩
  obtain ⟨n, rfl⟩ : ∃ n : Nat, sec = (n : Int) := ⟨sec.toNat, by omega⟩
  have d2 : decide ((400 : Int) < (n : Int)) = false := by simp; omega
  have d2n : decide (400 < n) = false := by simp; omega
  have hn8 : 8 ≤ n := by omega
  have hn400 : n ≤ 400 := by omega
  have d1n : decide (n < 8) = false := by simp; omega
  clear g1 g2
  have Hsm := hide (fun w1 (hb : Below w.heap.size w w1) => small_c ((unhide HX).below hb))
  by_cases hsm : SmallLL ll
  rotate_left
  · rw [decide_eq_false hsm] at Hsm
    clear hsm
    go_enter Tryz.func3, Tryz.ntmps3
    go_wp2_with (first
      | (go_at_call 7; refine (unhide Han).mono ?_; rintro e w1 ⟨rfl, hb1⟩; have HB1 := hide hb1; clear hb1)
      | (go_at_call 8; refine (unhide Hsm _ (unhide HB1)).mono ?_; rintro e w2 ⟨rfl, hb2⟩; have HB2 := hide ((unhide HB1).trans (hb2.mono (unhide HB1).size)); clear hb2))
    go_ret
    exact ⟨rfl, unhide HB2⟩
  rw [decide_eq_true hsm] at Hsm
  have HSM := hide hsm
  clear hsm
  by_cases g3 : 50 < NQ
  · have d3 : decide ((50 : Int) < (NQ : Int)) = true := by simp; omega
    have d3n : decide (50 < NQ) = true := by simp; omega
    go_enter Tryz.func3, Tryz.ntmps3
    go_wp2_with (first
      | (go_at_call 7; refine (unhide Han).mono ?_; rintro e w1 ⟨rfl, hb1⟩; have HB1 := hide hb1; clear hb1)
      | (go_at_call 8; refine (unhide Hsm _ (unhide HB1)).mono ?_; rintro e w2 ⟨rfl, hb2⟩; have HB2 := hide ((unhide HB1).trans (hb2.mono (unhide HB1).size)); clear hb2))
    go_ret
    exact ⟨rfl, unhide HB2⟩
  have d3 : decide ((50 : Int) < (NQ : Int)) = false := by simp; omega
  have d3n : decide (50 < NQ) = false := by simp; omega
  by_cases g4 : 50 < NK
  · have d4 : decide ((50 : Int) < (NK : Int)) = true := by simp; omega
    have d4n : decide (50 < NK) = true := by simp; omega
    go_enter Tryz.func3, Tryz.ntmps3
    go_wp2_with (first
      | (go_at_call 7; refine (unhide Han).mono ?_; rintro e w1 ⟨rfl, hb1⟩; have HB1 := hide hb1; clear hb1)
      | (go_at_call 8; refine (unhide Hsm _ (unhide HB1)).mono ?_; rintro e w2 ⟨rfl, hb2⟩; have HB2 := hide ((unhide HB1).trans (hb2.mono (unhide HB1).size)); clear hb2))
    go_ret
    exact ⟨rfl, unhide HB2⟩
  have d4 : decide ((50 : Int) < (NK : Int)) = false := by simp; omega
  have d4n : decide (50 < NK) = false := by simp; omega
  have hNQ50 : NQ ≤ 50 := by omega
  have hNK50 : NK ≤ 50 := by omega
  have hN12 : N ≤ 12 := by have := (unhide HSM).1; have := unhide HN; omega
  clear g3 g4
  have Hnew : Hid (∀ w1, Below w.heap.size w w1 → Calls Tryz.prog 9 #[.int .i64 (n : Int)] w1 fun e w' => ∃ pa, e = .returned (.pointer (some pa)) ∧ ∃ S R, On PAt w w' (.pointer (some pa)) S R (newS n)) := fun w1 hb => by
    refine (HP.new_yes w1 n (by omega) (by omega)).mono ?_
    rintro e w' ⟨p1, rfl, S1, R1, q1, q2, q3⟩
    obtain ⟨pa, rfl⟩ := HP.ptr q1
    exact ⟨pa, rfl, S1, R1, q1, fun j hj => Nat.le_trans hb.size (q2 j hj), hb.trans (q3.mono hb.size)⟩
  have Hrn := hide (fun w1 => rnew15_c w1 n (by omega) (by omega))
  have Hfi : Hid (∀ w1 p S R, On PAt w w1 p S R (newS n) → Calls Tryz.prog 10 #[p] w1 fun e w' => ∃ a, e = .returned (.tuple #[.pointer (some a), .int .i64 0]) ∧ ∃ B, SysAt PAt SAt n w w' p (.pointer (some a)) ⟨(n - 2) / 2, 1, 1, []⟩ 1 B) := fun w1 p S R h => by
    refine (SysAt.first HP HS h (by omega) (by omega)).mono ?_
    rintro e w' ⟨a, rfl, B, h1, _⟩
    exact ⟨a, rfl, B, h1⟩
  obtain ⟨H, hH⟩ : ∃ y, (n - 2) / 2 = y := ⟨_, rfl⟩
  have hHb : H ≤ 200 := by omega
  rw [hH] at Hrn Hfi
  clear hH
  go_enter Tryz.func3, Tryz.ntmps3
  go_upto_region 8 with (first
    | (go_at_call 7; refine (unhide Han).mono ?_; rintro e w1 ⟨rfl, hb1⟩; have HB1 := hide hb1; clear hb1)
    | (go_at_call 8; refine (unhide Hsm _ (unhide HB1)).mono ?_; rintro e w2 ⟨rfl, hb2⟩; have HB2 := hide ((unhide HB1).trans (hb2.mono (unhide HB1).size)); clear hb2)
    | (go_at_call 9; refine (unhide Hnew _ (unhide HB2)).mono ?_; rintro e w3 ⟨pa, rfl, S3, R3, h3⟩; have HO3 := hide h3; clear h3))
  go_upto_region 11 with (first
    | (go_at_call 10; refine (unhide Hfi _ _ _ _ (unhide HO3)).mono ?_; rintro e w4 ⟨ta, rfl, B4, h4⟩; have HO4 := hide h4; clear h4))
  go_upto_region 12 with (first
    | (go_at_call 11; refine (unhide Hrn _).mono ?_; rintro e w5 ⟨rfl, hb5⟩; have HO5 := hide ((unhide HO4).below HP HS hb5); clear hb5))
  obtain ⟨W6, hW6⟩ : ∃ y, w5.alloc (.cells #[.int .i64 (H : Int), .int .i64 1, .int .i64 1, .slice none 0 0] 34) = y := ⟨_, rfl⟩
  have hb6 : Below w5.heap.size w5 W6 := by rw [← hW6]; exact (Below.refl _ _).alloc (Nat.le_refl _) _
  have hI5 := (unhide HO5).inb
  have HO6 := hide ((unhide HO5).below HP HS hb6)
  have HR6 : Hid (RV w W6 B4 (fun j => j = w5.heap.size) w5.heap.size [] H 1 1 (.slice none 0 0)) := ⟨by rw [← hW6]; exact (MapKept.heap_alloc w5 _).1, fun hB => by have := (hI5 _ hB).2; omega, (unhide HO5).b.size, prs_nil _ _⟩
  rw [hW6]
  obtain ⟨A12, hA12⟩ : ∃ y, w5.heap.size = y := ⟨_, rfl⟩
  rw [hA12] at HR6 ⊢
  clear hW6 hb6 hI5 HO5 HO4 HO3 HB1 HB2 Hrn Hfi Hnew Han Hsm hA12
  go_wp2
  go_loopw [69] (fun ii wr => ∃ (i g u n6 c6 : Nat) (s6 : Option Addr) (B : Set_) (ps : List (Bs × Bs)), i ≤ N ∧ g ≤ i + 1 ∧ u ≤ 200 ∧ ii = .int .i64 (i : Int) ∧ Hid (SysAt PAt SAt n w wr (.pointer (some pa)) (.pointer (some ta)) ⟨H, g, u, ps⟩ (1 + 2 * i) B) ∧ Hid (RV w wr B (fun j => j = A12) A12 ps H g u (.slice s6 n6 c6))) (fun ii _ => N - (intOf ii).toNat)
  case atStart => exact ⟨0, 1, 1, 0, 0, none, B4, [], by omega, by omega, by omega, rfl, unhide HO6, unhide HR6⟩
  case round =>
    obtain ⟨i, g, u, n6, c6, s6, B, ps, hi, hg, hu, rfl, HO, HR⟩ := hrel
    clear HO6 HR6
    by_cases hlt : i < N
    · obtain ⟨l, gg, o, s14, c14, hop, rfl, k0, hch⟩ := ((unhide HX).below (unhide HO).b).one (i := i) (by have := unhide HN; omega)
      have hsl2 : SmallL l := (unhide HSM).2 l (List.mem_of_getElem? hop)
      obtain ⟨M, hM⟩ : ∃ y, l.length = y := ⟨_, rfl⟩
      rw [hM] at k0 hch
      have HM := hide hM
      have HCH := hide hch
      have HSl := hide hsl2
      have f1 : decide ((i : Int) < (N : Int)) = true := by simp; omega
      have f1n : decide (i < N) = true := by simp; omega
      have j0 : (0 : Int) ≤ (i : Int) := by omega
      have j1 : (i : Int) < (N : Int) := by omega
      clear hM hch hsl2 hop
      obtain ⟨r0, r1, r2, r3⟩ := (unhide HR).cells
      go_upto_region 15 with (fail)
      have Hpl := hide (fun w' (hb : Below wr.heap.size wr w') => plain_c ((unhide HCH).below hb) (by have := (unhide HSl).1; omega))
      obtain ⟨RR, hRR⟩ : ∃ y, refC ⟨H, g, u, ps⟩ l = y := ⟨_, rfl⟩
      obtain ⟨RS1, code⟩ := RR
      obtain ⟨H1, g1, u1, ps1⟩ := RS1
      have HRR := hide hRR
      clear hRR
      have Hcm : Hid (∀ w' w5 w'' v, Below wr.heap.size wr w' → Below w'.heap.size w' w5 → ChsAt (fun k => (k < w.heap.size ∨ w'.heap.size ≤ k) ∧ k < w5.heap.size) w5 v l → Below w5.heap.size w5 w'' → Calls Tryz.prog 12 #[.agg #[.int .i64 (H : Int), .int .i64 (g : Int), .int .i64 (u : Int), .slice s6 n6 c6], v] w'' fun e w6 => ∃ q, e = .returned (.tuple #[.agg #[.int .i64 (H1 : Int), .int .i64 (g1 : Int), .int .i64 (u1 : Int), q], .int .i64 code]) ∧ PrsAt (fun k => ((¬ B k ∧ k ≠ A12 ∧ k < wr.heap.size) ∨ (w'.heap.size ≤ k ∧ k < w5.heap.size) ∨ w''.heap.size ≤ k) ∧ k < w6.heap.size) w6 q ps1 ∧ Below w''.heap.size w'' w6) := fun w' w5 w'' v b1 b2 hc b3 => by
        have hI := (unhide HO).inb
        have hA := lt_of_row (unhide HR).row
        have hAg := (unhide HR).ge
        have hws := (unhide HO).b.size
        have hp5 : PrsAt (fun k => (¬ B k ∧ k ≠ A12 ∧ k < wr.heap.size) ∨ (w'.heap.size ≤ k ∧ k < w5.heap.size)) w'' (.slice s6 n6 c6) ps := (((((unhide HR).prs.mono (K' := fun k => (¬ B k ∧ k ≠ A12 ∧ k < wr.heap.size) ∨ (w'.heap.size ≤ k ∧ k < w5.heap.size)) fun k hk h => Or.inl ⟨h.1, h.2, hk⟩).below b1).below b2).below b3)
        have hc5 : ChsAt (fun k => (¬ B k ∧ k ≠ A12 ∧ k < wr.heap.size) ∨ (w'.heap.size ≤ k ∧ k < w5.heap.size)) w'' v l := (hc.mono fun k _ h => by
          rcases h.1 with h1 | h1
          · exact Or.inl ⟨fun hB => by have := (hI k hB).1; omega, by omega, by omega⟩
          · exact Or.inr ⟨h1, h.2⟩).below b3
        have hR := (unhide HO).right
        refine (rcommit_c hp5 hc5 hR.1 (by have h9 : ps.length ≤ 65536 := hR.2; omega) (by have := (unhide HSl).1; omega) (rs_right (unhide HSl)) (show H ≤ 1000000 by omega) (show g ≤ 4611686018427387904 by omega) (show u ≤ 1000000 by omega)).mono ?_
        rintro e w6 ⟨q, rfl, h1, h2⟩
        rw [unhide HRR] at h1 ⊢
        refine ⟨q, rfl, h1.mono fun k _ h => ⟨?_, h.2⟩, h2⟩
        rcases h.1 with (h3 | h3) | h3
        · exact Or.inl h3
        · exact Or.inr (Or.inl h3)
        · exact Or.inr (Or.inr h3)
      refine region_join (join15 wr B A12 H1 g1 u1 ps1.length code ps1) ?_ ?_
      · intro Q0 hQ0
        exact region15 HM HR (unhide HO).inb Hpl Hcm hQ0
      · rintro a' W ⟨ha, A15, sz, cz, e15, e16, hr15, hq7, hb7, hg15⟩
        simp only [Slots, List.map_cons, List.map_nil] at ha
        rw [e15, e16] at ha
        clear e15 e16
        generalize a'.tmps.getD 73 undef = u73 at ha
        generalize a'.tmps.getD 74 undef = u74 at ha
        generalize a'.tmps.getD 75 undef = u75 at ha
        generalize a'.tmps.getD 76 undef = u76 at ha
        generalize a'.tmps.getD 77 undef = u77 at ha
        generalize a'.tmps.getD 78 undef = u78 at ha
        generalize a'.tmps.getD 79 undef = u79 at ha
        subst ha
        simp only [puts, List.foldl, Act.put, List.setIfInBounds_toArray, List.set_cons_zero, List.set_cons_succ]
        clear Hpl Hcm r0 r1 r2 r3 k0
        as_aux_lemma =>
          have hI := (unhide HO).inb
          have hAW : A12 ≠ A15 := by have := lt_of_row (unhide HR).row; omega
          have hrw := (unhide HR).below hb7
          have HOW := hide ((unhide HO).below HP HS hb7)
          have hcm := (unhide HOW).commit HP HS ((unhide HCH).below hb7) (fun j hj hB => by have h1 := (hI j hB).1; have h2 : j < w.heap.size := hj; omega) (by have := (unhide HSl).1; omega) (by omega) (by show g < _; omega)
          rw [unhide HRR] at hcm
          have HCm := hide hcm
          clear hcm
          go_upto_region 18 with (first | (go_at_call 14; refine (unhide HCm).mono ?_; rintro e w7 ⟨rfl, h7, ha7⟩) | fail)
          have hlA15 := lt_of_row hr15
          have hr7 : R4 w7 A15 (.int .i64 (H1 : Int)) (.int .i64 (g1 : Int)) (.int .i64 (u1 : Int)) (.slice sz ps1.length cz) := (ha7.block A15 hlA15 (fun hB => by have := (hI A15 hB).2; omega)).trans hr15
          have hv7 := hrw.call ha7
          have hq7' : PrsAt (fun k => ¬ BN B W w7 k ∧ ¬ k = A12) w7 (.slice sz ps1.length cz) ps1 := ((hq7.mono (K' := fun k => (¬ B k ∧ k ≠ A12) ∧ k < W.heap.size) (fun k hk h => ⟨⟨h.1, h.2.1⟩, hk⟩)).aside ha7 (fun k hk h => h.1.1 hk)).mono (fun k _ h => ⟨fun hb => hb.1.elim h.1.1 (fun h2 => by have := h.2; omega), h.1.2⟩)
          have hv8 := hv7.put (h' := H1) (g' := g1) (u' := u1) rfl hq7'
          have h8 := SysAt.aside HP HS h7 (put4_aside w7 A12 (.int .i64 (H1 : Int)) (.int .i64 (g1 : Int)) (.int .i64 (u1 : Int)) (.slice sz ps1.length cz)) (fun j hj hB => hv7.out (hj ▸ hB)) (fun j hj => by have h1 : j = A12 := hj; rw [h1]; exact hv7.ge)
          obtain ⟨n0, n1, n2, n3⟩ := hr7.cells
          obtain ⟨m0, m1, m2, m3⟩ := hv7.cells
          have z0 := row_frozen hv7.row 0
          have z1 := row_frozen hv7.row 1
          have z2 := row_frozen hv7.row 2
          have z3 := row_frozen hv7.row 3
          obtain ⟨w8, hw8⟩ : ∃ y, put4 w7 A12 (.int .i64 (H1 : Int)) (.int .i64 (g1 : Int)) (.int .i64 (u1 : Int)) (.slice sz ps1.length cz) = y := ⟨_, rfl⟩
          rw [hw8] at hv8 h8
          unfold put4 at hw8
          obtain ⟨B8, hB8⟩ : ∃ y, BN B W w7 = y := ⟨_, rfl⟩
          have HO8 : Hid (SysAt PAt SAt n w w8 (.pointer (some pa)) (.pointer (some ta)) ⟨H1, g1, u1, ps1⟩ (1 + 2 * i + 1) B8) := hide (hB8 ▸ h8)
          have HV8 : Hid (RV w w8 B8 (fun j => j = A12) A12 ps1 H1 g1 u1 (.slice sz ps1.length cz)) := hide (hB8 ▸ hv8)
          have hAW' : A15 ≠ A12 := fun e => hAW e.symm
          have HUS : Hid (u1 ≤ 200) := hide (by have := ref_used ⟨H, g, u, ps⟩ l; rw [unhide HRR] at this; have h9 : u1 ≤ max u H := this; omega)
          have HGN : Hid (g1 ≤ i + 2) := hide (by have := (ref_gen ⟨H, g, u, ps⟩ l).2; rw [unhide HRR] at this; have h9 : g1 ≤ g + 1 := this; omega)
          have HHH : Hid (H1 = H) := hide (by have := ref_half ⟨H, g, u, ps⟩ l; rw [unhide HRR] at this; exact this)
          have HS8 := hide (unhide HO8).right
          clear hB8 hv8 h8 hr7 hv7 hq7' hlA15 hr15 hq7 hrw ha7 h7 hb7 hg15 HCm HOW HR HO hI
          obtain ⟨NP1, hNP1⟩ : ∃ y, ps1.length = y := ⟨_, rfl⟩
          have HNP := hide hNP1
          rw [hNP1] at HV8 n3 hw8 
          clear hNP1
          go_upto_region 19 with (fail)
          clear n0 n1 n2 n3 m0 m1 m2 m3 z0 z1 z2 z3 hw8
          obtain ⟨gv, hgv⟩ : ∃ y, getP ps1 key = y := ⟨_, rfl⟩
          obtain ⟨vv, hvv⟩ : ∃ y, gv.getD [] = y := ⟨_, rfl⟩
          obtain ⟨is, his⟩ : ∃ y, gv.isSome = y := ⟨_, rfl⟩
          have HVL : Hid (vv.length ≤ 1099511627776) := hide (by
            rw [← hvv, ← hgv]
            cases hg9 : getP ps1 key with
            | none => simp
            | some b9 =>
              show b9.length ≤ 1099511627776
              have h9 : b9.length ≤ 8192 := ((unhide HS8).1 _ (get_in hg9)).2.2
              omega)
          have HP5 : Hid (ps1.length ≤ 1000000) := hide (by have h9 : ps1.length ≤ 65536 := (unhide HS8).2; omega)
          have HG1 := hide (SysAt.get HS (unhide HO8) ((unhide HXk).below (unhide HO8).b) (by have := unhide HNK; omega))
          rw [hgv, hvv, his] at HG1
          go_upto_region 20 with (first | (go_at_call 15; refine (unhide HG1).mono ?_; rintro e w9 ⟨v9, rfl, ho9, hb9⟩) | fail)
          have HO9 := hide ((unhide HO8).below HP HS hb9)
          have HV9 := hide ((unhide HV8).below hb9)
          have HK9 := hide ho9.bytes
          obtain ⟨y0, y1, y2, y3⟩ := (unhide HV9).cells
          have HG2 := hide (rget_c (h := H1) (g := g1) (u := u1) (unhide HV9).prs ((unhide HXk).below (unhide HO9).b) (unhide HP5) (unhide HS8).1)
          rw [hgv, hvv, his] at HG2
          clear ho9 hb9 HG1 HO8 HV8 hgv hvv his
          go_upto_region 21 with (first | (go_at_call 16; refine (unhide HG2).mono ?_; rintro e wa ⟨va, rfl, hva, hba⟩) | fail)
          have HOa := hide ((unhide HO9).below HP HS hba)
          have HVa := hide ((unhide HV9).below hba)
          have HKa := hide ((unhide HK9).below hba)
          have HQa := hide hva
          clear y0 y1 y2 y3
          obtain ⟨y0, y1, y2, y3⟩ := (unhide HVa).cells
          clear hva hba HG2 HO9 HV9 HK9
          obtain ⟨kl, hkl⟩ : ∃ y, keysP ps1 pre = y := ⟨_, rfl⟩
          have hdr : Below wa.heap.size wa wa.drew := (Below.refl _ _).drew
          have HG3 := hide (SysAt.keysx HS ((unhide HOa).below HP HS hdr) (((unhide HXp).below (unhide HOa).b).below hdr) (by have := unhide HNQ; omega))
          have HG4 : Hid (∀ W2, Below wa.heap.size wa W2 → Calls Tryz.prog 18 #[.agg #[.int .i64 (H1 : Int), .int .i64 (g1 : Int), .int .i64 (u1 : Int), .slice sz NP1 cz], .slice sq NQ cq] W2 fun e w' => ∃ v, e = .returned v ∧ BLists w' v kl ∧ Below W2.heap.size W2 w') := hide fun W2 hW2 => hkl ▸ rkeys_c ((unhide HVa).below hW2).prs (((unhide HXp).below (unhide HOa).b).below hW2) (unhide HP5) (unhide HS8).1
          rw [hkl] at HG3
          have HDr := hide hdr
          have HKq : Hid (keysP ps1 pre = kl) := hide hkl
          clear hdr hkl
          go_region_held3 (fun u => u.cell? ⟨A12, 0, none⟩ = some (.int .i64 (H1 : Int)) ∧ u.cell? ⟨A12, 1, none⟩ = some (.int .i64 (g1 : Int)) ∧ u.cell? ⟨A12, 2, none⟩ = some (.int .i64 (u1 : Int)) ∧ u.cell? ⟨A12, 3, none⟩ = some (.slice sz NP1 cz)) (go_keep)
            ((first
              | (go_at_call 17; refine (unhide HG3).mono ?_; rintro e wb ⟨kv, kvs, rfl, hk5, hb5⟩; have HBb := hide ((unhide HDr).trans (hb5.mono (unhide HDr).size)); have HLb := hide hk5; obtain ⟨j0', j1', j2', j3'⟩ := ((unhide HVa).below (unhide HBb)).cells; clear hk5 hb5)
              | (go_at_call 18; refine (unhide HG4 wb (unhide HBb)).mono ?_; rintro e wd ⟨kw, rfl, hk6, hb6⟩; have HBd := hide hb6; have HLd := hide hk6; obtain ⟨i0', i1', i2', i3'⟩ := ((unhide HVa).below ((unhide HBb).trans (hb6.mono (unhide HBb).size))).cells; clear hk6 hb6)))
          have hbad : Below wa.heap.size wa wd := (unhide HBb).trans ((unhide HBd).mono (unhide HBb).size)
          have HOd := hide ((unhide HOa).below HP HS hbad)
          have HVd := hide ((unhide HVa).below hbad)
          have HKd := hide ((unhide HKa).below hbad)
          have HQd := hide ((unhide HQa).below hbad)
          have hl0 : BLists wb kv kl := ⟨kvs, (unhide HLb).len, (unhide HLb).row, fun q v b9 h1 h2 => ((unhide HLb).each q v b9 h1 h2).1⟩
          have hl1 := hl0.below (unhide HBd)
          have hl2 := unhide HLd
          obtain ⟨KL, hKL⟩ : ∃ y, kl.length = y := ⟨_, rfl⟩
          obtain ⟨sk1, ck1, e1⟩ := hl1.form
          obtain ⟨sk2, ck2, e2⟩ := hl2.form
          rw [hKL] at e1 e2
          subst e1
          subst e2
          have HL1 := hide hl1
          have HL2 := hide hl2
          have HKLn := hide hKL
          have hKLb : KL ≤ 65536 := by
            have h8 := keys_len ps1 pre
            have h9 : ps1.length ≤ 65536 := (unhide HS8).2
            rw [unhide HKq, hKL] at h8
            omega
          clear hl0 hl1 hl2 hKL hbad HLb HLd HBb HBd HOa HVa HKa HQa HG3 HG4 HDr y0 y1 y2 y3 j0' j1' j2' j3'
          obtain ⟨y0, y1, y2, y3⟩ := (unhide HVd).cells
          clear i0' i1' i2' i3'
          have HDd : Hid (Below wd.heap.size wd wd.drew) := hide (Below.refl _ _).drew
          go_upto_region 22 with (fail)
          go_region_held3 (fun u => u.cell? ⟨A12, 0, none⟩ = some (.int .i64 (H1 : Int)) ∧ u.cell? ⟨A12, 1, none⟩ = some (.int .i64 (g1 : Int)) ∧ u.cell? ⟨A12, 2, none⟩ = some (.int .i64 (u1 : Int)) ∧ u.cell? ⟨A12, 3, none⟩ = some (.slice sz NP1 cz)) (go_keep)
            ((first
              | (go_at_call 19; refine (same_any _ _ _ vv vv ((unhide HKd).below (unhide HDd)) ((unhide HQd).below (unhide HDd)) (unhide HVL)).mono ?_; rw [decide_eq_true (rfl : vv = vv)]; rintro e we ⟨rfl, hbe⟩; have HBe := hide ((unhide HDd).trans (hbe.mono (unhide HDd).size)); obtain ⟨j0', j1', j2', j3'⟩ := ((unhide HVd).below (unhide HBe)).cells; clear hbe)
              | (go_at_call 20; refine (SysAt.gen HS ((unhide HOd).below HP HS (unhide HBe))).mono ?_; rintro e wf ⟨rfl, hbf⟩; have HBf := hide ((unhide HBe).trans (hbf.mono (unhide HBe).size)); obtain ⟨k0', k1', k2', k3'⟩ := ((unhide HVd).below (unhide HBf)).cells; clear hbf)
              | (go_at_call 21; refine (SysAt.same HS ((unhide HOd).below HP HS (unhide HBf)) ((unhide HVd).below (unhide HBf)).prs (unhide HS8).1 H1 g1 u1).mono ?_; rw [decide_eq_true rfl]; rintro e wg ⟨rfl, hbg⟩; have HBg := hide ((unhide HBf).trans (hbg.mono (unhide HBf).size)); obtain ⟨l0', l1', l2', l3'⟩ := ((unhide HVd).below (unhide HBg)).cells; clear hbg)
              | (go_at_call 22; refine (SysAt.loose HP ((unhide HOd).below HP HS (unhide HBg))).mono ?_; rintro e wh ⟨rfl, hbh⟩; have HBh := hide ((unhide HBg).trans (hbh.mono (unhide HBg).size)); obtain ⟨p0', p1', p2', p3'⟩ := ((unhide HVd).below (unhide HBh)).cells; clear hbh)))
          clear j0' j1' j2' j3' k0' k1' k2' k3' l0' l1' l2' l3'
          clear HBe HBf HBg HDd HKd HQd
          go_wp2_with (fail)
          go_loopw [140] (fun ii wr => ∃ q : Nat, q ≤ KL ∧ ii = .int .i64 (q : Int) ∧ Hid (Below wd.heap.size wd wr)) (fun ii _ => KL - (intOf ii).toNat)
          case atStart => exact ⟨0, Nat.zero_le _, rfl, HBh⟩
          case round =>
            as_aux_lemma =>
              clear HBh p0' p1' p2' p3'
              obtain ⟨q, hq, rfl, HBr⟩ := hrel
              by_cases hql : q < KL
              · obtain ⟨kk, hkk⟩ : ∃ v, kl[q]? = some v := ⟨_, List.getElem?_eq_getElem (by rw [unhide HKLn]; exact hql)⟩
                obtain ⟨ga, oa, va1, rfl, ca, hba⟩ := ((unhide HL1).below (unhide HBr)).at hkk
                obtain ⟨gb, ob, vb1, rfl, cb, hbb⟩ := ((unhide HL2).below (unhide HBr)).at hkk
                have hkl : kk.length ≤ 1099511627776 := by
                  have hm : kk ∈ keysP ps1 pre := by rw [unhide HKq]; exact List.mem_of_getElem? hkk
                  obtain ⟨p9, hp9, e9⟩ := List.mem_map.1 (List.mem_filter.1 hm).1
                  have := ((unhide HS8).1 p9 hp9).2.1
                  rw [e9] at this
                  omega
                have Hba := hide hba
                have Hbb := hide hbb
                have Hkl := hide hkl
                clear hkk hba hbb hkl
                go_wp2_with (go_at_call 19; refine (same_any _ _ _ kk kk (unhide Hba) (unhide Hbb) (unhide Hkl)).mono ?_; rw [decide_eq_true (rfl : kk = kk)]; rintro e wx ⟨rfl, hbx⟩; have HBx := hide ((unhide HBr).trans (hbx.mono (unhide HBr).size)); clear hbx)
                exact ⟨⟨q + 1, hql, by go_num, HBx⟩, by simp [intOf]; omega⟩
              · as_aux_lemma =>
                  obtain rfl : q = KL := by omega
                  have HOr := hide ((unhide HOd).below HP HS (unhide HBr))
                  have HVr := hide ((unhide HVd).below (unhide HBr))
                  have HSe := hide (SysAt.second HP HS (unhide HOr) (by omega))
                  clear HOd HVd HL1 HL2
                  go_upto_region 31 with (first | (go_at_call 10; refine (unhide HSe).mono ?_; rintro e wt ⟨tb, rfl, ht1, ht2, hta⟩) | fail)
                  have HOt := hide ht1
                  have HOu := hide ht2
                  have HVt := hide ((unhide HVr).call hta)
                  obtain ⟨y0, y1, y2, y3⟩ := (unhide HVt).cells
                  have HDt : Hid (Below wt.heap.size wt wt.drew) := hide (Below.refl _ _).drew
                  clear ht1 ht2 hta HSe HOr HVr HBr
                  go_region_held3 (fun u => u.cell? ⟨A12, 0, none⟩ = some (.int .i64 (H1 : Int)) ∧ u.cell? ⟨A12, 1, none⟩ = some (.int .i64 (g1 : Int)) ∧ u.cell? ⟨A12, 2, none⟩ = some (.int .i64 (u1 : Int)) ∧ u.cell? ⟨A12, 3, none⟩ = some (.slice sz NP1 cz)) (go_keep)
                    ((first
                      | (go_at_call 21; refine (SysAt.same HS ((unhide HOu).below HP HS (unhide HDt)) ((unhide HVt).below (unhide HDt)).prs (unhide HS8).1 H1 g1 u1).mono ?_; rw [decide_eq_true rfl]; rintro e we ⟨rfl, hbe⟩; have HBe := hide ((unhide HDt).trans (hbe.mono (unhide HDt).size)); obtain ⟨j0', j1', j2', j3'⟩ := ((unhide HVt).below (unhide HBe)).cells; clear hbe)
                      | (go_at_call 20; refine (SysAt.gen HS ((unhide HOu).below HP HS (unhide HBe))).mono ?_; rintro e wf ⟨rfl, hbf⟩; have HBf := hide ((unhide HBe).trans (hbf.mono (unhide HBe).size)); obtain ⟨k0', k1', k2', k3'⟩ := ((unhide HVt).below (unhide HBf)).cells; clear hbf)
                      | (go_at_call 22; refine (SysAt.loose HP ((unhide HOt).below HP HS (unhide HBf))).mono ?_; rintro e wg ⟨rfl, hbg⟩; have HBg := hide ((unhide HBf).trans (hbg.mono (unhide HBf).size)); obtain ⟨l0', l1', l2', l3'⟩ := ((unhide HVt).below (unhide HBg)).cells; clear hbg)))
                  have HOz := hide ((unhide HOt).below HP HS (unhide HBg))
                  have HVz := hide ((unhide HVt).below (unhide HBg))
                  go_wp2_with (fail)
                  have HOend : Hid (SysAt PAt SAt n w wg (.pointer (some pa)) (.pointer (some ta)) ⟨H, g1, u1, ps1⟩ (1 + 2 * (i + 1)) _) := hide (by have h9 := unhide HOz; rw [unhide HHH] at h9; exact h9)
                  have HVend : Hid (RV w wg _ (fun j => j = A12) A12 ps1 H g1 u1 (.slice sz NP1 cz)) := hide (by have h9 := unhide HVz; rw [unhide HHH] at h9; exact h9)
                  exact ⟨⟨i + 1, g1, u1, NP1, cz, sz, _, ps1, hlt, unhide HGN, unhide HUS, by go_num, HOend, HVend⟩, by simp [intOf]; omega⟩
    · have hin : N = i := by omega
      subst hin
      have f1 : decide ((N : Int) < (N : Int)) = false := by simp
      have f1n : decide (N < N) = false := by simp
      go_wp2
      go_ret
      exact ⟨rfl, (unhide HO).b⟩
end
end Go.Proofs.YtbjgknoipbekoaaGreat
