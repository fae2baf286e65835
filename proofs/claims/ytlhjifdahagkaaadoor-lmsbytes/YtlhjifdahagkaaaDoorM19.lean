/-
  The walk of the landed Verify.
-/
import Derived.Test.YtlhjifdahagkaaaDoorM18
namespace Go.Proofs.YtlhjifdahagkaaaDoor
open Go.RowKit
set_option maxRecDepth 100000 in
set_option maxHeartbeats 6000000 in
theorem verify_yes {R : World → Prop} {H : Bs → Bs} (C : CHash R H) (w0 : World) (hr : R w0) (xk xm xs : Value) (pk msg : Bs) (hk : BytesAt w0 xk pk) (hm : BytesAt w0 xm msg) (lk : pk.length ≤ 100000) (lm : msg.length ≤ 1000) (n : Nat) (hn1 : 1 ≤ n) (hn3 : n ≤ 3) (hL : numB (tk ⟨pk, false⟩ 4) = n) (r : Rd) (hgood : ∀ k, k < n → Good (rr n r k)) (hend : endB (rr n r n) = true)
    (Hc : ∀ w, Below w0.heap.size w0 w → Calls Tryd.prog 39 #[xs] w fun e w' => ∃ B, e = .returned (.tuple #[.slice (some ⟨B, 0, none⟩) n n, .bool true]) ∧ SAt w' B n n r ∧ Below w.heap.size w w') :
    Calls Tryd.prog 20 #[xk, xm, xs] w0 fun e w' => e = .returned (.bool (verL H msg n r (n - 1) 0 (tkR ⟨pk, false⟩ 4).l)) ∧ Below w0.heap.size w0 w' := by
  obtain ⟨sx, nx, cx, rfl⟩ := hk.forms
  have hbB : Below w0.heap.size w0 (w0.alloc (.cells #[.slice sx nx cx, .bool false] 74)) := (Below.refl _ _).alloc (Nat.le_refl _) _
  have hR0 := rd_new w0 (.slice sx nx cx) pk hk
  have Hn1 := hide (rdnum_c _ w0.heap.size ⟨pk, false⟩ hR0 lk)
  rw [hL] at Hn1
  have hlsg : (tkR ⟨pk, false⟩ 4).l.length ≤ 100000 := Nat.le_trans (len_tkR _ _) lk
  obtain ⟨rk, hrk⟩ : ∃ rk, tkR ⟨pk, false⟩ 4 = rk := ⟨_, rfl⟩
  rw [hrk] at Hn1 hlsg
  rw [hrk]
  have HBB := hide hbB
  have HM := hide hm
  have HR := hide hr
  have HC := hide C
  have Hcc := hide Hc
  have Hgo := hide hgood
  have Hen := hide hend
  have Hlsg := hide hlsg
  have nb : (n : Int) ≤ 3 := by omega
  have nb1 : (1 : Int) ≤ (n : Int) := by omega
  obtain ⟨m, hme⟩ : ∃ m, n - 1 = m := ⟨_, rfl⟩
  have hmi : (n : Int) - 1 = (m : Int) := by omega
  have mb : (m : Int) ≤ 2 := by omega
  have mb0 : (0 : Int) ≤ (m : Int) := by omega
  have mn : (m : Int) < (n : Int) := by omega
  have mn' : (m : Int) ≤ (n : Int) := by omega
  have Hmn : Hid (n = m + 1) := by show _ = _; omega
  rw [hme]
  obtain ⟨res, hres⟩ : ∃ res, verL H msg n r m 0 rk.l = res := ⟨_, rfl⟩
  rw [hres]
  have Hres := hide hres
  -- one call of verifies
  have Hver : Hid (∀ (w : World) (B k : Nat) (xg xmm xc xp xb xw : Value) (sg mm : Bs), Below w0.heap.size w0 w → k < n → BytesAt w xg sg → BytesAt w xmm mm → sg.length ≤ 100000 → mm.length ≤ 1000 → BytesAt w xc (scc (rr n r k)) → BytesAt w xp (sps (rr n r k)) → BytesAt w xb (sbs (rr n r k)) → (∃ l, BytesAt w xw l) →
      Calls Tryd.prog 40 #[xg, xmm, .agg #[.int .i64 (sh (rr n r k) : Int), .int .i64 (swd (rr n r k) : Int), .int .i64 (tyW (swd (rr n r k)) : Int), .int .i64 (pW (swd (rr n r k)) : Int), .int .i64 (lsW (swd (rr n r k)) : Int), .int .i64 (sq (rr n r k) : Int), xc, xp, xb, xw]] w fun e w' => e = .returned (.bool (verS H sg mm (sh (rr n r k)) (swd (rr n r k)) (sq (rr n r k)) (scc (rr n r k)) (sps (rr n r k)) (sbs (rr n r k)))) ∧ Below w.heap.size w w') := fun w B k xg xmm xc xp xb xw sg mm hbw hkn h1 h2 h3 h4 h5 h6 h7 h8 => by
    have hG := hgood k hkn
    obtain ⟨hwh, _⟩ := whole_rr hend k hkn
    obtain ⟨l1, l2, l3⟩ := hwh.lens
    exact ver_c C w (C.below _ _ hr hbw) xg xmm xc xp xb xw sg mm _ _ _ h1 h2 h5 h6 h7 h8 h3 (sh (rr n r k)) (swd (rr n r k)) (sq (rr n r k)) hG.2.1 (hOf_le _) (isW_wOf _ hG.1) hG.2.2 l1 l2 l3 h4
  have Hbel : Hid (∀ k, k + 1 < n → (bel n r k).length = 56) := fun k hk => (whole_rr hend k (by omega)).2 hk
  clear hk hm hr C Hc hgood hend hbB hR0 hL hlsg hres hrk
  go_enter Tryd.func20, Tryd.ntmps20
  go_wp2_with fail
  refine (unhide Hn1).mono ?_
  rintro e w1 ⟨rfl, hR1, hG1⟩
  have HR1 := hide hR1
  have HB1 := hide ((unhide HBB).grown hG1 (unhide HBB).size (fun k hk => by cases hk; exact Nat.le_refl _))
  clear hR1 hG1 Hn1
  go_wp2_with fail
  refine ((unhide Hcc) w1 (unhide HB1)).mono ?_
  rintro e w2 ⟨B, rfl, hS2, hb2⟩
  have HS2 := hide hS2
  have HB2 := hide ((unhide HB1).trans (hb2.mono (unhide HB1).size))
  obtain ⟨sg, ng, cg, hh1, hh2⟩ := (unhide HR1).below hb2
  have z0 : w2.cell? ⟨w0.heap.size, 0, none⟩ = some (.slice sg ng cg) := cell_of_row w2 w0.heap.size 0 _ 74 (0, 0) hh1
  have HG2 := hide hh2
  clear hS2 hb2 hh1 hh2
  go_wp2
  have HV0 : Hid (verL H msg n r (m - 0) 0 rk.l = res) := by show _ = _; rw [Nat.sub_zero]; exact unhide Hres
  have Hlr := Hlsg
  go_loopw [11, 38] (fun u ii wr => ∃ (i : Nat) (sgb : Bs), i ≤ m ∧ ii = .int .i64 (i : Int) ∧ Hid (verL H msg n r (m - i) i sgb = res) ∧ Hid (sgb.length ≤ 100000) ∧ Hid (BytesAt wr u sgb) ∧ Hid (SAt wr B n n r) ∧ Hid (Below w0.heap.size w0 wr)) (fun _ ii _ => m - (intOf ii).toNat)
  case atStart => exact ⟨0, rk.l, by omega, rfl, HV0, Hlr, HG2, HS2, HB2⟩
  case round =>
    clear HV0 HG2 HS2 HB2 z0
    obtain ⟨i, sgb, hi, rfl, HV, Hls, HU, HS, HB⟩ := hrel
    rename World => wc
    obtain ⟨u1, u2, u3, rfl⟩ := (unhide HU).forms
    have ib : (i : Int) ≤ 2 := by omega
    have ib0 : (0 : Int) ≤ (i : Int) := by omega
    have ib2 : (i : Int) ≤ (m : Int) := by omega
    by_cases hlt : i < m
    · have il : (i : Int) < (m : Int) := by omega
      have il2 : (i : Int) < (n : Int) := by omega
      obtain ⟨xc, xp, xb, xw, hcells, b1, b2, b3, b4⟩ := (unhide HS).get i (by have := unhide Hmn; omega)
      obtain ⟨s1, n1, c1, rfl⟩ := b1.forms
      obtain ⟨s2, n2, c2, rfl⟩ := b2.forms
      obtain ⟨s3, n3, c3, rfl⟩ := b3.forms
      obtain ⟨s4, n4, c4, rfl⟩ := b4.forms
      have y0 := hcells 0 _ rfl
      have y1 := hcells 1 _ rfl
      have y2 := hcells 2 _ rfl
      have y3 := hcells 3 _ rfl
      have y4 := hcells 4 _ rfl
      have y5 := hcells 5 _ rfl
      have y6 := hcells 6 _ rfl
      have y7 := hcells 7 _ rfl
      have y8 := hcells 8 _ rfl
      have y9 := hcells 9 _ rfl
      obtain ⟨O, hO⟩ : ∃ O, i * 10 = O := ⟨_, rfl⟩
      rw [hO] at y0 y1 y2 y3 y4 y5 y6 y7 y8 y9
      rw [Nat.add_zero] at y0
      have hbl : Below wc.heap.size wc (wc.alloc (.cells #[.int .i64 (sh (rr n r i) : Int), .int .i64 (swd (rr n r i) : Int), .int .i64 (tyW (swd (rr n r i)) : Int), .int .i64 (pW (swd (rr n r i)) : Int), .int .i64 (lsW (swd (rr n r i)) : Int), .int .i64 (sq (rr n r i) : Int), .slice s1 n1 c1, .slice s2 n2 c2, .slice s3 n3 c3, .slice s4 n4 c4] 79)) := (Below.refl _ _).alloc (Nat.le_refl _) _
      have HBa := hide ((unhide HB).trans (hbl.mono (unhide HB).size))
      have Hbe := hide (b4.below hbl)
      have hbn : i + 1 < n := by have := unhide Hmn; omega
      have Hcall := hide ((unhide Hver) _ B i _ _ _ _ _ _ sgb (bel n r i) (unhide HBa) (by omega) ((unhide HU).below hbl) (unhide Hbe) (unhide Hls) (by rw [unhide Hbel i hbn]; omega) (b1.below hbl) (b2.below hbl) (b3.below hbl) ⟨_, unhide Hbe⟩)
      have HSa := hide ((unhide HS).below hbl)
      have Hvl : Hid (verL H msg n r (m - i) i sgb = (verS H sgb (bel n r i) (sh (rr n r i)) (swd (rr n r i)) (sq (rr n r i)) (scc (rr n r i)) (sps (rr n r i)) (sbs (rr n r i)) && verL H msg n r (m - (i + 1)) (i + 1) (bel n r i))) := by
        show _ = _
        rw [show m - i = (m - (i + 1)) + 1 by omega]
        rfl
      obtain ⟨bb, hbb⟩ : ∃ bb, verS H sgb (bel n r i) (sh (rr n r i)) (swd (rr n r i)) (sq (rr n r i)) (scc (rr n r i)) (sps (rr n r i)) (sbs (rr n r i)) = bb := ⟨_, rfl⟩
      rw [hbb] at Hcall Hvl
      have Hbl56 := hide (unhide Hbel i hbn)
      have HKc := hide (agg_new wc [.int .i64 (sh (rr n r i) : Int), .int .i64 (swd (rr n r i) : Int), .int .i64 (tyW (swd (rr n r i)) : Int), .int .i64 (pW (swd (rr n r i)) : Int), .int .i64 (lsW (swd (rr n r i)) : Int), .int .i64 (sq (rr n r i) : Int), .slice s1 n1 c1, .slice s2 n2 c2, .slice s3 n3 c3, .slice s4 n4 c4] 79)
      clear hcells b1 b2 b3 b4 hbl hbb
      go_wp2_with fail
      refine (unhide Hcall).mono ?_
      rintro e w3 ⟨rfl, hb3⟩
      have HB3 := hide ((unhide HBa).trans (hb3.mono (unhide HBa).size))
      have HS3 := hide ((unhide HSa).below hb3)
      have Hbe3 := hide ((unhide Hbe).below hb3)
      have k9 := ((unhide HKc).below hb3).c 9 _ rfl
      clear hb3 y0 y1 y2 y3 y4 y5 y6 y7 y8 y9
      cases bb with
      | true =>
        have HVn : Hid (verL H msg n r (m - (i + 1)) (i + 1) (bel n r i) = res) := by
          show _ = _
          have h1 := unhide HV
          rw [unhide Hvl, Bool.true_and] at h1
          exact h1
        have Hln : Hid ((bel n r i).length ≤ 100000) := by show _ ≤ _; rw [unhide Hbl56]; omega
        go_wp2
        go_roundw
        case rel =>
          first
            | exact ⟨i + 1, bel n r i, by omega, by go_num, HVn, Hln, Hbe3, HS3, HB3⟩
            | ((repeat apply Exists.intro); exact ⟨⟨i + 1, bel n r i, by omega, by go_num, HVn, Hln, Hbe3, HS3, HB3⟩, rfl⟩)
        case measure => simp [intOf]; omega
      | false =>
        have HF : Hid (res = false) := by
          show _ = _
          have h1 := unhide HV
          rw [unhide Hvl, Bool.false_and] at h1
          exact h1.symm
        go_wp2
        go_ret
        exact ⟨by rw [unhide HF]; rfl, unhide HB3⟩
    · obtain rfl : i = m := by omega
      have di : decide ((i : Int) < (i : Int)) = false := by simp
      obtain ⟨xc, xp, xb, xw, hcells, b1, b2, b3, b4⟩ := (unhide HS).get i (by have := unhide Hmn; omega)
      obtain ⟨s1, n1, c1, rfl⟩ := b1.forms
      obtain ⟨s2, n2, c2, rfl⟩ := b2.forms
      obtain ⟨s3, n3, c3, rfl⟩ := b3.forms
      obtain ⟨s4, n4, c4, rfl⟩ := b4.forms
      have y0 := hcells 0 _ rfl
      have y1 := hcells 1 _ rfl
      have y2 := hcells 2 _ rfl
      have y3 := hcells 3 _ rfl
      have y4 := hcells 4 _ rfl
      have y5 := hcells 5 _ rfl
      have y6 := hcells 6 _ rfl
      have y7 := hcells 7 _ rfl
      have y8 := hcells 8 _ rfl
      have y9 := hcells 9 _ rfl
      obtain ⟨O, hO⟩ : ∃ O, i * 10 = O := ⟨_, rfl⟩
      rw [hO] at y0 y1 y2 y3 y4 y5 y6 y7 y8 y9
      rw [Nat.add_zero] at y0
      have Hcall := hide ((unhide Hver) wc B i _ xm _ _ _ _ sgb msg (unhide HB) (by have := unhide Hmn; omega) (unhide HU) ((unhide HM).below (unhide HB)) (unhide Hls) lm b1 b2 b3 ⟨_, b4⟩)
      have HF : Hid (verS H sgb msg (sh (rr n r i)) (swd (rr n r i)) (sq (rr n r i)) (scc (rr n r i)) (sps (rr n r i)) (sbs (rr n r i)) = res) := by
        show _ = _
        have h1 := unhide HV
        rw [Nat.sub_self] at h1
        exact h1
      rw [unhide HF] at Hcall
      clear hcells b1 b2 b3 b4
      go_wp2_with fail
      refine (unhide Hcall).mono ?_
      rintro e w3 ⟨rfl, hb3⟩
      have HB3 := hide ((unhide HB).trans (hb3.mono (unhide HB).size))
      clear hb3
      go_wp2
      go_ret
      exact ⟨rfl, unhide HB3⟩
end Go.Proofs.YtlhjifdahagkaaaDoor
/-
  The walk of the landed Verify where it refuses.
-/
namespace Go.Proofs.YtlhjifdahagkaaaDoor
open Go.RowKit
set_option maxRecDepth 100000 in
set_option maxHeartbeats 2000000 in
theorem verify_cut (w0 : World) (xk xm xs v : Value) (pk : Bs) (hk : BytesAt w0 xk pk) (lk : pk.length ≤ 100000)
    (Hc : ∀ w, Below w0.heap.size w0 w → Calls Tryd.prog 39 #[xs] w fun e w' => e = .returned (.tuple #[v, .bool false]) ∧ Below w.heap.size w w') :
    Calls Tryd.prog 20 #[xk, xm, xs] w0 fun e w' => e = .returned (.bool false) ∧ Below w0.heap.size w0 w' := by
  obtain ⟨sx, nx, cx, rfl⟩ := hk.forms
  have hbB : Below w0.heap.size w0 (w0.alloc (.cells #[.slice sx nx cx, .bool false] 74)) := (Below.refl _ _).alloc (Nat.le_refl _) _
  have hR0 := rd_new w0 (.slice sx nx cx) pk hk
  have Hn1 := hide (rdnum_c _ w0.heap.size ⟨pk, false⟩ hR0 lk)
  generalize numB (tk ⟨pk, false⟩ 4) = L at Hn1
  have HBB := hide hbB
  have Hcc := hide Hc
  clear hk hbB hR0 Hc
  go_enter Tryd.func20, Tryd.ntmps20
  go_wp2_with fail
  refine (unhide Hn1).mono ?_
  rintro e w1 ⟨rfl, _, hG1⟩
  have HB1 := hide ((unhide HBB).grown hG1 (unhide HBB).size (fun k hk => by cases hk; exact Nat.le_refl _))
  clear hG1 Hn1
  go_wp2_with fail
  refine ((unhide Hcc) w1 (unhide HB1)).mono ?_
  rintro e w2 ⟨rfl, hb2⟩
  have HB2 := hide ((unhide HB1).trans (hb2.mono (unhide HB1).size))
  clear hb2
  go_wp2
  go_ret
  exact ⟨rfl, unhide HB2⟩
set_option maxRecDepth 100000 in
set_option maxHeartbeats 2000000 in
theorem verify_lev (w0 : World) (xk xm xs : Value) (pk : Bs) (hk : BytesAt w0 xk pk) (lk : pk.length ≤ 100000) (L n : Nat) (hn3 : n ≤ 3) (hL : numB (tk ⟨pk, false⟩ 4) = L) (hne : L ≠ n)
    (Hc : ∀ w, Below w0.heap.size w0 w → Calls Tryd.prog 39 #[xs] w fun e w' => ∃ B, e = .returned (.tuple #[.slice (some ⟨B, 0, none⟩) n n, .bool true]) ∧ Below w.heap.size w w') :
    Calls Tryd.prog 20 #[xk, xm, xs] w0 fun e w' => e = .returned (.bool false) ∧ Below w0.heap.size w0 w' := by
  obtain ⟨sx, nx, cx, rfl⟩ := hk.forms
  have hbB : Below w0.heap.size w0 (w0.alloc (.cells #[.slice sx nx cx, .bool false] 74)) := (Below.refl _ _).alloc (Nat.le_refl _) _
  have hR0 := rd_new w0 (.slice sx nx cx) pk hk
  have Hn1 := hide (rdnum_c _ w0.heap.size ⟨pk, false⟩ hR0 lk)
  rw [hL] at Hn1
  have d1 : ((L : Int) == (n : Int)) = false := by simp; omega
  have d2 : ¬ ((L : Int) = (n : Int)) := by omega
  have d3 : ¬ (L = n) := hne
  have d4 : ((L : Int) != (n : Int)) = true := by simp; omega
  have nb : (n : Int) ≤ 3 := by omega
  have HBB := hide hbB
  have Hcc := hide Hc
  clear hk hbB hR0 Hc hL
  go_enter Tryd.func20, Tryd.ntmps20
  go_wp2_with fail
  refine (unhide Hn1).mono ?_
  rintro e w1 ⟨rfl, _, hG1⟩
  have HB1 := hide ((unhide HBB).grown hG1 (unhide HBB).size (fun k hk => by cases hk; exact Nat.le_refl _))
  clear hG1 Hn1
  go_wp2_with fail
  refine ((unhide Hcc) w1 (unhide HB1)).mono ?_
  rintro e w2 ⟨B, rfl, hb2⟩
  have HB2 := hide ((unhide HB1).trans (hb2.mono (unhide HB1).size))
  clear hb2
  go_wp2
  go_ret
  exact ⟨rfl, unhide HB2⟩
end Go.Proofs.YtlhjifdahagkaaaDoor
/-
  The landed Verify and Leaves at any bytes.
-/
namespace Go.Proofs.YtlhjifdahagkaaaDoor
open Go.RowKit
set_option maxRecDepth 100000 in
set_option maxHeartbeats 2000000 in
theorem verify_cut2 (w0 : World) (xk xm xs : Value) (pk : Bs) (hk : BytesAt w0 xk pk) (lk : pk.length ≤ 100000)
    (Hc : ∀ w, Below w0.heap.size w0 w → Calls Tryd.prog 39 #[xs] w fun e w' => ∃ v, e = .returned (.tuple #[v, .bool false]) ∧ Below w.heap.size w w') :
    Calls Tryd.prog 20 #[xk, xm, xs] w0 fun e w' => e = .returned (.bool false) ∧ Below w0.heap.size w0 w' := by
  obtain ⟨sx, nx, cx, rfl⟩ := hk.forms
  have hbB : Below w0.heap.size w0 (w0.alloc (.cells #[.slice sx nx cx, .bool false] 74)) := (Below.refl _ _).alloc (Nat.le_refl _) _
  have hR0 := rd_new w0 (.slice sx nx cx) pk hk
  have Hn1 := hide (rdnum_c _ w0.heap.size ⟨pk, false⟩ hR0 lk)
  generalize numB (tk ⟨pk, false⟩ 4) = L at Hn1
  have HBB := hide hbB
  have Hcc := hide Hc
  clear hk hbB hR0 Hc
  go_enter Tryd.func20, Tryd.ntmps20
  go_wp2_with fail
  refine (unhide Hn1).mono ?_
  rintro e w1 ⟨rfl, _, hG1⟩
  have HB1 := hide ((unhide HBB).grown hG1 (unhide HBB).size (fun k hk => by cases hk; exact Nat.le_refl _))
  clear hG1 Hn1
  go_wp2_with fail
  refine ((unhide Hcc) w1 (unhide HB1)).mono ?_
  rintro e w2 ⟨v, rfl, hb2⟩
  have HB2 := hide ((unhide HB1).trans (hb2.mono (unhide HB1).size))
  clear hb2
  go_wp2
  go_ret
  exact ⟨rfl, unhide HB2⟩
set_option maxRecDepth 100000 in
set_option maxHeartbeats 2000000 in
theorem leaves_no2 (w0 : World) (xb : Value) (Hc : Calls Tryd.prog 39 #[xb] w0 fun e w' => ∃ v, e = .returned (.tuple #[v, .bool false]) ∧ Below w0.heap.size w0 w') :
    Calls Tryd.prog 21 #[xb] w0 fun e w' => e = .returned (.tuple #[.slice none 0 0, .bool false]) ∧ Below w0.heap.size w0 w' := by
  have HC := hide Hc
  clear Hc
  go_enter Tryd.func21, Tryd.ntmps21
  go_wp2_with fail
  refine (unhide HC).mono ?_
  rintro e w1 ⟨v, rfl, hb1⟩
  have HB := hide hb1
  clear hb1
  go_wp2
  go_ret2
  exact ⟨rfl, unhide HB⟩
theorem short_tkR {r : Rd} (h : r.s = true) (n : Nat) : (tkR r n).s = true := by
  unfold tkR
  split
  · exact h
  · rfl
theorem short_r6 {r : Rd} (h : r.s = true) : (r6 r).s = true := short_tkR (short_tkR (short_tkR (short_tkR (short_tkR (short_tkR h _) _) _) _) _) _
theorem short_rr (n : Nat) {r : Rd} (h : r.s = true) : ∀ k, (rr n r k).s = true
  | 0 => h
  | k + 1 => by
    rw [rr]
    split
    · exact short_tkR (short_r6 (short_rr n h k)) _
    · exact short_r6 (short_rr n h k)
/-- The signature is cut into n storeys. -/
def Cuts (sig : Bs) (n : Nat) : Prop := numB (tk ⟨sig, false⟩ 4) + 1 = n ∧ n ≤ 3 ∧ (∀ k, k < n → Good (rr n (tkR ⟨sig, false⟩ 4) k)) ∧ endB (rr n (tkR ⟨sig, false⟩ 4) n) = true
theorem cut_yes (w0 : World) (hW : WidAt w0) (xb : Value) (sig : Bs) (hx : BytesAt w0 xb sig) (hl : sig.length ≤ 100000) (n : Nat) (hc : Cuts sig n) :
    Calls Tryd.prog 39 #[xb] w0 fun e w' => ∃ B, e = .returned (.tuple #[.slice (some ⟨B, 0, none⟩) n n, .bool true]) ∧ SAt w' B n n (tkR ⟨sig, false⟩ 4) ∧ Below w0.heap.size w0 w' := by
  obtain ⟨c1, c2, c3, c4⟩ := hc
  refine (cut_c w0 hW xb sig hx hl _ n rfl c1 c2 _ rfl).mono ?_
  rintro e w' ⟨⟨⟨k, hk, hb⟩, _⟩ | ⟨_, B, rfl, _, hS⟩, hB⟩
  · exact absurd (c3 k hk) hb
  · rw [c4]
    exact ⟨B, rfl, hS, hB⟩
theorem cut_not (w0 : World) (hW : WidAt w0) (xb : Value) (sig : Bs) (hx : BytesAt w0 xb sig) (hl : sig.length ≤ 100000) (n : Nat) (hn : numB (tk ⟨sig, false⟩ 4) + 1 = n) (hc : ¬ Cuts sig n) :
    Calls Tryd.prog 39 #[xb] w0 fun e w' => ∃ v, e = .returned (.tuple #[v, .bool false]) ∧ Below w0.heap.size w0 w' := by
  by_cases h3 : n ≤ 3
  · refine (cut_c w0 hW xb sig hx hl _ n rfl hn h3 _ rfl).mono ?_
    rintro e w' ⟨⟨_, rfl⟩ | ⟨hG, B, rfl, _, _⟩, hB⟩
    · exact ⟨_, rfl, hB⟩
    · have he : endB (rr n (tkR ⟨sig, false⟩ 4) n) = false := by
        rw [Bool.eq_false_iff]
        exact fun he => hc ⟨hn, h3, hG, he⟩
      rw [he]
      exact ⟨_, rfl, hB⟩
  · refine (cut_no w0 xb sig hx hl _ rfl (by omega)).mono ?_
    rintro e w' ⟨rfl, hB⟩
    exact ⟨_, rfl, hB⟩
theorem cuts_four {sig : Bs} {n : Nat} (h : Cuts sig n) : 4 ≤ sig.length := by
  rcases Nat.lt_or_ge sig.length 4 with h4 | h4
  · exfalso
    obtain ⟨_, _, _, he⟩ := h
    have hs : (tkR ⟨sig, false⟩ 4).s = true := by
      unfold tkR
      rw [if_neg (by show ¬ 4 ≤ sig.length; omega)]
    have := (end_of he).1
    rw [short_rr n hs n] at this
    cases this
  · exact h4
/-- THE LANDED VERIFY. -/
theorem verify_c {R : World → Prop} {H : Bs → Bs} (C : CHash R H) (w : World) (xp xm xs : Value) (pk msg sig : Bs) (hR : R w) (hp : BytesAt w xp pk) (hm : BytesAt w xm msg) (hs : BytesAt w xs sig) (lp : pk.length ≤ 200) (lm : msg.length ≤ 600) (ls : sig.length ≤ 40000) :
    Calls Tryd.prog 20 #[xp, xm, xs] w fun e w' => e = .returned (.bool (verifyB H pk msg sig)) ∧ Below w.heap.size w w' := by
  obtain ⟨n, hn⟩ : ∃ n, numB (tk ⟨sig, false⟩ 4) + 1 = n := ⟨_, rfl⟩
  by_cases hc : Cuts sig n
  · have h4 := cuts_four hc
    have hq : numB (tk ⟨sig, false⟩ 4) = num4 sig := num_tk h4 false
    have hr : tkR ⟨sig, false⟩ 4 = ⟨sig.drop 4, false⟩ := tkR_fit (r := ⟨sig, false⟩) h4
    have Hc := fun a (hb : Below w.heap.size w a) => cut_yes a (C.wid _ (C.below _ _ hR hb)) xs sig (hs.below hb) (by omega) n hc
    have hc' := hc
    obtain ⟨_, c2, c3, c4⟩ := hc'
    rw [hr] at Hc c3 c4
    rw [hq] at hn
    by_cases hL : 4 ≤ pk.length ∧ num4 pk = n
    · have hk : numB (tk ⟨pk, false⟩ 4) = n := by rw [num_tk hL.1 false]; exact hL.2
      have V := verify_yes C w hR xp xm xs pk msg hp hm (by omega) (by omega) n (by omega) c2 hk ⟨sig.drop 4, false⟩ c3 c4 Hc
      rw [tkR_fit (r := ⟨pk, false⟩) hL.1] at V
      rw [← plain_yes H pk msg sig n hn h4 c2 c3 c4 hL.1 hL.2]
      exact V
    · have hk : numB (tk ⟨pk, false⟩ 4) ≠ n := by
        rcases Nat.lt_or_ge pk.length 4 with h5 | h5
        · have : tk ⟨pk, false⟩ 4 = [] := by unfold tk; rw [if_neg (by show ¬ 4 ≤ pk.length; omega)]
          rw [this]
          show 0 ≠ n
          omega
        · rw [num_tk h5 false]
          exact fun e => hL ⟨h5, e⟩
      have V := verify_lev w xp xm xs pk hp (by omega) _ n c2 rfl hk (fun a hb => (Hc a hb).mono (by rintro e w' ⟨B, rfl, _, hB⟩; exact ⟨B, rfl, hB⟩))
      have hb : verifyB H pk msg sig = false := by
        rw [Bool.eq_false_iff]
        intro hv
        unfold verifyB at hv
        simp only [Bool.and_eq_true, decide_eq_true_eq] at hv
        exact hL ⟨by omega, by omega⟩
      rw [hb]
      exact V
  · have V := verify_cut2 w xp xm xs pk hp (by omega) (fun a hb => cut_not a (C.wid _ (C.below _ _ hR hb)) xs sig (hs.below hb) (by omega) n hn hc)
    have hb : verifyB H pk msg sig = false := by
      rcases Nat.lt_or_ge sig.length 4 with h4 | h4
      · rw [Bool.eq_false_iff]
        intro hv
        unfold verifyB at hv
        simp only [Bool.and_eq_true, decide_eq_true_eq] at hv
        omega
      · have hq : numB (tk ⟨sig, false⟩ 4) = num4 sig := num_tk h4 false
        have hr : tkR ⟨sig, false⟩ 4 = ⟨sig.drop 4, false⟩ := tkR_fit (r := ⟨sig, false⟩) h4
        unfold Cuts at hc
        rw [hr] at hc
        exact plain_no H pk msg sig n (by omega) (fun h => hc ⟨hn, h.1, h.2.1, h.2.2.1⟩)
    rw [hb]
    exact V
/-- THE LANDED LEAVES, at any bytes. -/
theorem anyleaves_c (w : World) (hW : WidAt w) (x : Value) (sig : Bs) (hx : BytesAt w x sig) (hl : sig.length ≤ 40000) :
    Calls Tryd.prog 21 #[x] w fun e w' => ∃ (v : Value) (ok : Bool) (l : List Int), e = .returned (.tuple #[v, .bool ok]) ∧ OwnV 3 w' w.heap.size v (l.map (Value.int .i64)) ∧ (ok = true ∨ l = []) ∧ Below w.heap.size w w' := by
  obtain ⟨n, hn⟩ : ∃ n, numB (tk ⟨sig, false⟩ 4) + 1 = n := ⟨_, rfl⟩
  by_cases hc : Cuts sig n
  · refine (leaves_yes w x n hc.2.1 _ (cut_yes w hW x sig hx (by omega) n hc)).mono ?_
    rintro e w' ⟨v, rfl, ho, hB⟩
    refine ⟨v, true, (List.range n).map fun k => (sq (rr n (tkR ⟨sig, false⟩ 4) k) : Int), rfl, ?_, Or.inl rfl, hB⟩
    rw [List.map_map]
    exact ho
  · refine (leaves_no2 w x (cut_not w hW x sig hx (by omega) n hn hc)).mono ?_
    rintro e w' ⟨rfl, hB⟩
    refine ⟨_, false, [], rfl, ?_, Or.inr rfl, hB⟩
    exact own_nil _ _ _
end Go.Proofs.YtlhjifdahagkaaaDoor
