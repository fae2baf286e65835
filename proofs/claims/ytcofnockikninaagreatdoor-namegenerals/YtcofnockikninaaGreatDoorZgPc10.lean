/- Parts of the walk. -/
import Derived.Test.YtcofnockikninaaGreatDoorZgPq10
import Derived.Deep.Cut
set_option maxRecDepth 100000
set_option maxHeartbeats 16000000
namespace Go.Proofs.YtcofnockikninaaGreatDoor
open Go.RowKit
theorem kid_at {n : Nat} {S : Nat → Prop} {w : World} {c t : Int} {m : Bool} {xb : Value} {sk : Option Addr} {kk ck : Nat} {v : DV} (h : VAt n S w (dcells c t m xb (.slice sk kk ck)) v) {i : Nat} {k : DV} (hk : v.kids[i]? = some k) : ∃ b o ds, sk = some ⟨b, o, none⟩ ∧ CellsAt w b (o + i * 5) ds ∧ ValAt S w ds k := by
 cases n with
 | zero => exact h.elim
 | succ n =>
  obtain ⟨xb', sk', ck', e, _, _, _, _, _, h5⟩ := h
  simp only [dcells, List.cons.injEq, Value.slice.injEq, and_true] at e
  obtain ⟨b, o, e2, _, hi⟩ := h5 (fun e => by rw [e] at hk; simp at hk)
  obtain ⟨ds, h1, h2⟩ := hi i k hk
  exact ⟨b, o, ds, e.2.2.2.2.1.trans e2, h1, n, h2⟩
namespace N
open K
theorem value2 : (Tryz.prog.info? 103).map (·.size) = some 2 := by kernel_rfl
def AttrA (s : DV) (w : World) (t1 t2 : ByteArray) (g : Int) (w' : World) : Prop := (∀ a k, attrP s = some (a, k) → t1 = st a.1 ∧ t2 = st a.2 ∧ g = k) ∧ Below w.heap.size w w'
theorem attrof_c (w : World) (hRd : Rdy w) (S : Nat → Prop) (cs : List Value) (s : DV) (hv : ValAt S w cs s) (hw : weight s ≤ 1000000) :
  Calls Tryz.prog 55 #[.agg cs.toArray] w fun e w' => ∃ (t1 t2 : ByteArray) (g : Int), e = .returned (.tuple #[.agg #[.string t1, .string t2], .int .i64 g, .bool (attrP s).isSome]) ∧ AttrA s w t1 t2 g w' := by
 obtain ⟨n, hv⟩ := hv
 obtain ⟨s1, c1, s2, c2, rfl⟩ := hv.form
 obtain ⟨kc, kt, km, kl, kk, hkc, hkt, hkm, hkl, hkk⟩ := ex5 s
 rw [hkc, hkt, hkm, hkl, hkk] at hv ⊢
 obtain ⟨w1, X, hw1, eX, hA⟩ := blkN (Below.refl w.heap.size w) #[.int .i64 kc, .int .i64 kt, .bool km, .slice s1 kl c1, .slice s2 kk c2] 25
 have hR0 := Blk.new hA.b #[.string { data := #[] }, .string { data := #[] }] 103
 have hA1 := hA.lit (.cells #[.string { data := #[] }, .string { data := #[] }] 103)
 obtain ⟨w2, hw2⟩ : ∃ w2, w1.alloc (.cells #[.string { data := #[] }, .string { data := #[] }] 103) = w2 := ⟨_, rfl⟩
 obtain ⟨R, eR⟩ := exq w1.heap.size
 rw [hw2, eR] at hR0
 rw [hw2] at hA1
 obtain ⟨k0, k1, k2, k3, k4⟩ := five_at hA1
 have HA := h_ hA1
 have HR := h_ hR0
 have HV := h_ (hv.below hA1.b)
 have H5 : Hid ((#[.string { data := #[] }, .string { data := #[] }] : Array Value).all (·.oneCell') = true) := by show _ = true; simp [Value.oneCell']
 obtain ⟨U1, hU1⟩ := exq (decide (kc = 0) && decide (kt = 17))
 have Hu : Hid (Calls Tryz.prog 36 #[.agg #[.int .i64 kc, .int .i64 kt, .bool km, .slice s1 kl c1, .slice s2 kk c2], .int .i64 17] w2 fun e w' => e = .returned (.bool U1) ∧ Below w2.heap.size w2 w') := by
  have h := isuni_c w2 kc kt km s1 s2 kl kk c1 c2 17 _ _ rfl rfl
  have e : ((kc == 0) && (kt == 17)) = U1 := hU1
  rw [e] at h
  exact h
 unfold dcells at HV ⊢
 clear hA hA1 hR0 hv
 go_enter Tryz.func55, Tryz.ntmps55
 go_wp2_with fail
 refine Hu.mono ?_
 rintro e w3 ⟨rfl, hb⟩
 have HA3 := h_ (HA.call hb)
 have HR3 := h_ (HR.call hb)
 have HV3 := h_ (HV.below hb)
 clear hb k0 k1 k2 k3 k4 hw1 hw2 eR HA HR HV Hu
 obtain ⟨k0, k1, k2, k3, k4⟩ := five_at (u_ HA3)
 cases U1 with
 | false =>
  have HN : Hid (attrP s = none) := by
   show _ = _
   unfold attrP
   rw [if_neg (fun h => by rw [← hkc, ← hkt, h.1, h.2] at hU1; cases hU1)]
  clear hU1 hkc hkt hkm hkl hkk
  go_upto_region 2 with fail
  go_wp2_with (refine wpList_store_row rfl 103 _ _ rfl R _ rfl rfl 103 _ HR3.res value2 rfl (u_ H5) ?_)
  exact bodyPost_ret (res_row_tmp2 Tryz.results55 _ _ R 103 #[.string { data := #[] }, .string { data := #[] }] (0, 0) _ rfl (HR3.set #[.string { data := #[] }, .string { data := #[] }]).res Tryz.underlying103 rfl value2 _ _ rfl rfl) rfl ⟨_, _, _, by rw [u_ HN]; rfl, fun a k h => (by rw [u_ HN] at h; cases h), (HR3.set #[.string { data := #[] }, .string { data := #[] }]).b⟩
 | true =>
 simp only [Bool.and_eq_true, decide_eq_true_eq] at hU1
 obtain ⟨rfl, rfl⟩ := hU1
 by_cases hk1 : kk = 1
 case neg =>
  have HN : Hid (attrP s = none) := by
   show _ = _
   cases ha : attrP s with
   | none => rfl
   | some a =>
    obtain ⟨p, o, t, _, _, h3, _⟩ := attrP_open (a := a.1) (g := a.2) ha
    rw [h3] at hkk
    exact absurd hkk.symm hk1
  have z1 : ((kk : Int) != 1) = true := by simp; omega
  have z2 : ((kk : Int) == 1) = false := by simp; omega
  clear hk1 hkc hkt hkm hkl hkk
  go_upto_region 2 with fail
  go_wp2_with (refine wpList_store_row rfl 103 _ _ rfl R _ rfl rfl 103 _ HR3.res value2 rfl (u_ H5) ?_)
  exact bodyPost_ret (res_row_tmp2 Tryz.results55 _ _ R 103 #[.string { data := #[] }, .string { data := #[] }] (0, 0) _ rfl (HR3.set #[.string { data := #[] }, .string { data := #[] }]).res Tryz.underlying103 rfl value2 _ _ rfl rfl) rfl ⟨_, _, _, by rw [u_ HN]; rfl, fun a k h => (by rw [u_ HN] at h; cases h), (HR3.set #[.string { data := #[] }, .string { data := #[] }]).b⟩
 subst hk1
 obtain ⟨p, hp⟩ : ∃ p, s.kids = [p] := by
  match h : s.kids, hkk with
  | [p], _ => exact ⟨p, rfl⟩
 obtain ⟨b, o, ds, rfl, hcd, hvp⟩ := kid_at (u_ HV3) (i := 0) (k := p) (by rw [hp]; rfl)
 obtain ⟨np, hvp⟩ := hvp
 obtain ⟨p1, q1, p2, q2, rfl⟩ := hvp.form
 obtain ⟨pc, pt, pm, pl, pk, hpc, hpt, hpm, hpl, hpk⟩ := ex5 p
 rw [hpc, hpt, hpm, hpl, hpk] at hvp hcd
 rw [Nat.zero_mul, Nat.add_zero] at hcd
 obtain ⟨d0, d1, d2, d3, d4⟩ := hcd.five
 obtain ⟨w4, PB, hw4, ePB, hP⟩ := blkN HA3.b #[.int .i64 pc, .int .i64 pt, .bool pm, .slice p1 pl q1, .slice p2 pk q2] 25
 have hb4 := allocB hw4
 obtain ⟨e0, e1, e2, e3, e4⟩ := five_at hP
 have HP4 := h_ hP
 have HA4 := h_ (HA3.call hb4)
 have HR4 := h_ (HR3.call hb4)
 have HVp4 := h_ (hvp.below hb4)
 obtain ⟨U2, hU2⟩ := exq (decide (pc = 0) && decide (pt = 16))
 have Hu : Hid (Calls Tryz.prog 36 #[.agg #[.int .i64 pc, .int .i64 pt, .bool pm, .slice p1 pl q1, .slice p2 pk q2], .int .i64 16] w4 fun e w' => e = .returned (.bool U2) ∧ Below w4.heap.size w4 w') := by
  have h := isuni_c w4 pc pt pm p1 p2 pl pk q1 q2 16 _ _ rfl rfl
  have e : ((pc == 0) && (pt == 16)) = U2 := hU2
  rw [e] at h
  exact h
 have hwp : weight p ≤ 1000000 := by
  have h1 := weight_kid (ks := s.kids) (i := 0) (k := p) (by rw [hp]; rfl)
  have h2 : weight s = 1 + s.bytes.length + weights s.kids := by cases s; simp only [weight, DV.bytes, DV.kids]
  omega
 clear hP hb4 hvp hcd HA3 HR3 HV3
 go_wp2_with fail
 refine Hu.mono ?_
 rintro e w5 ⟨rfl, hb⟩
 have HP5 := h_ (HP4.call hb)
 have HA5 := h_ (HA4.call hb)
 have HR5 := h_ (HR4.call hb)
 have HVp5 := h_ (HVp4.below hb)
 clear hb Hu HP4 HA4 HR4 HVp4 k0 k1 k2 k3 k4 d0 d1 d2 d3 d4 e0 e1 e2 e3 e4 hw4 ePB
 obtain ⟨e0, e1, e2, e3, e4⟩ := five_at (u_ HP5)
 cases U2 with
 | false =>
  have HN : Hid (attrP s = none) := by
   show _ = _
   cases ha : attrP s with
   | none => rfl
   | some a =>
    obtain ⟨p', o, t, _, _, h3, h4, h5, _⟩ := attrP_open (a := a.1) (g := a.2) ha
    rw [hp] at h3
    simp only [List.cons.injEq, and_true] at h3
    subst h3
    rw [← hpc, ← hpt, h4, h5] at hU2
    cases hU2
  clear hU2 hkc hkt hkm hkl hkk hpc hpt hpm hpl hpk
  go_upto_region 5 with fail
  go_wp2_with (refine wpList_store_row rfl 103 _ _ rfl R _ rfl rfl 103 _ HR5.res value2 rfl (u_ H5) ?_)
  exact bodyPost_ret (res_row_tmp2 Tryz.results55 _ _ R 103 #[.string { data := #[] }, .string { data := #[] }] (0, 0) _ rfl (HR5.set #[.string { data := #[] }, .string { data := #[] }]).res Tryz.underlying103 rfl value2 _ _ rfl rfl) rfl ⟨_, _, _, by rw [u_ HN]; rfl, fun a k h => (by rw [u_ HN] at h; cases h), (HR5.set #[.string { data := #[] }, .string { data := #[] }]).b⟩
 | true =>
 simp only [Bool.and_eq_true, decide_eq_true_eq] at hU2
 obtain ⟨rfl, rfl⟩ := hU2
 by_cases hk2 : pk = 2
 case neg =>
  have HN : Hid (attrP s = none) := by
   show _ = _
   cases ha : attrP s with
   | none => rfl
   | some a =>
    obtain ⟨p', o, t, _, _, h3, _, _, h6, _⟩ := attrP_open (a := a.1) (g := a.2) ha
    rw [hp] at h3
    simp only [List.cons.injEq, and_true] at h3
    subst h3
    rw [h6] at hpk
    exact absurd hpk.symm hk2
  have z1 : ((pk : Int) != 2) = true := by simp; omega
  have z2 : ((pk : Int) == 2) = false := by simp; omega
  clear hk2 hkc hkt hkm hkl hkk hpc hpt hpm hpl hpk
  go_upto_region 5 with fail
  go_wp2_with (refine wpList_store_row rfl 103 _ _ rfl R _ rfl rfl 103 _ HR5.res value2 rfl (u_ H5) ?_)
  exact bodyPost_ret (res_row_tmp2 Tryz.results55 _ _ R 103 #[.string { data := #[] }, .string { data := #[] }] (0, 0) _ rfl (HR5.set #[.string { data := #[] }, .string { data := #[] }]).res Tryz.underlying103 rfl value2 _ _ rfl rfl) rfl ⟨_, _, _, by rw [u_ HN]; rfl, fun a k h => (by rw [u_ HN] at h; cases h), (HR5.set #[.string { data := #[] }, .string { data := #[] }]).b⟩
 subst hk2
 obtain ⟨o, tv, hot⟩ : ∃ o tv, p.kids = [o, tv] := by
  match h : p.kids, hpk with
  | [o, tv], _ => exact ⟨o, tv, rfl⟩
 obtain ⟨bo, oo, dso, rfl, hco, hvo⟩ := kid_at (u_ HVp5) (i := 0) (k := o) (by rw [hot]; rfl)
 obtain ⟨bt, ot, dst, hsp2, hct, hvt⟩ := kid_at (u_ HVp5) (i := 1) (k := tv) (by rw [hot]; rfl)
 simp only [Option.some.injEq, Addr.mk.injEq, and_true] at hsp2
 obtain ⟨rfl, rfl⟩ := hsp2
 have Hvo := h_ hvo
 obtain ⟨no, hvo⟩ := hvo
 obtain ⟨o1, r1, o2, r2, rfl⟩ := hvo.form
 obtain ⟨nt, hvt⟩ := hvt
 obtain ⟨t1, u1, t2, u2, rfl⟩ := hvt.form
 obtain ⟨oc, og, om, ol, ok, hoc, hog, hom, hol, hok⟩ := ex5 o
 obtain ⟨tc, tg, tm, tl, tk, htc, htg, htm, htl, htk⟩ := ex5 tv
 rw [hoc, hog, hom, hol, hok] at hco Hvo
 rw [htc, htg, htm, htl, htk] at hct hvt
 rw [Nat.zero_mul, Nat.add_zero] at hco
 rw [Nat.one_mul] at hct
 have Hct := h_ hct
 have hwo : weight o ≤ 1000000 := by
  have h1 := weight_kid (ks := p.kids) (i := 0) (k := o) (by rw [hot]; rfl)
  have h2 : weight p = 1 + p.bytes.length + weights p.kids := by cases p; simp only [weight, DV.bytes, DV.kids]
  omega
 obtain ⟨g0, g1, g2, g3, g4⟩ := hco.five
 obtain ⟨OT, hOT⟩ := exq (oidT o)
 have Hoid := h_ (oid_c w5 S _ o (hRd.below HA5.b) (u_ Hvo) hwo)
 rw [hOT] at Hoid
 obtain ⟨TX, hTX⟩ := exq (st (OT.getD []))
 obtain ⟨OS, hOS⟩ := exq OT.isSome
 rw [hTX, hOS] at Hoid
 unfold dcells at Hoid
 have HBt : Hid (∀ wr, Below w5.heap.size w5 wr → BytesAt wr (.slice t1 tl u1) tv.bytes) := fun wr hb => by
  have h := hvt.below hb
  cases nt with
  | zero => exact h.elim
  | succ nt =>
   obtain ⟨xb, sk, ck, e, h1, _⟩ := h
   simp only [dcells, List.cons.injEq] at e
   rw [e.2.2.2.1]
   exact h1
 have HN0 : Hid (OT = none → attrP s = none) := fun h => by
  cases ha : attrP s with
  | none => rfl
  | some a =>
   obtain ⟨p', o', t', _, _, h3, _, _, h6, h7, _⟩ := attrP_open (a := a.1) (g := a.2) ha
   rw [hp] at h3
   simp only [List.cons.injEq, and_true] at h3
   subst h3
   rw [hot] at h6
   simp only [List.cons.injEq, and_true] at h6
   rw [← h6.1, hOT, h] at h7
   cases h7
 have HN1 : Hid (¬ (tc = 0 ∧ (tg = 19 ∨ tg = 12)) → attrP s = none) := fun h => by
  cases ha : attrP s with
  | none => rfl
  | some a =>
   obtain ⟨p', o', t', _, _, h3, _, _, h6, _, h8, h9, _⟩ := attrP_open (a := a.1) (g := a.2) ha
   rw [hp] at h3
   simp only [List.cons.injEq, and_true] at h3
   subst h3
   rw [hot] at h6
   simp only [List.cons.injEq, and_true] at h6
   rw [← h6.2] at h8 h9
   rw [htc] at h8
   rw [htg] at h9
   exact absurd ⟨h8, h9⟩ h
 have HY : Hid (∀ x, OT = some x → tc = 0 ∧ (tg = 19 ∨ tg = 12) → attrP s = some ((x, tv.bytes), tg)) := fun x hx ht => by
  unfold attrP
  rw [if_pos ⟨hkc, hkt⟩, hp]
  simp only
  rw [if_pos ⟨hpc, hpt⟩, hot]
  simp only
  rw [hOT, hx]
  simp only
  rw [if_pos ⟨htc.trans ht.1, by rw [htg]; exact ht.2⟩, htg]
 clear hco hct hvo hvt hkc hkt hkm hkl hkk hpc hpt hpm hpl hpk hoc hog hom hol hok htc htg htm htl htk hp hot
 go_wp2_with fail
 refine Hoid.mono ?_
 rintro e w6 ⟨rfl, hb6⟩
 have HP6 := h_ (HP5.call hb6)
 have HA6 := h_ (HA5.call hb6)
 have HR6 := h_ (HR5.call hb6)
 obtain ⟨h0, h1, h2, h3, h4⟩ := (Hct.below hb6).five
 obtain ⟨w7, TB, hw7, eTB, hT⟩ := blkN HA6.b #[.int .i64 tc, .int .i64 tg, .bool tm, .slice t1 tl u1, .slice t2 tk u2] 25
 have hb7 := allocB hw7
 obtain ⟨y0, y1, y2, y3, y4⟩ := five_at hT
 have HT7 := h_ hT
 have HR7 := h_ (HR6.call hb7)
 have HRT : Hid (R < TB) := by show _ < _; have := HR6.lt; omega
 have HB7 : Hid (Below w5.heap.size w5 w7) := hb6.trans (hb7.mono hb6.size)
 clear hb6 hT hb7 g0 g1 g2 g3 g4 Hoid HP5 HA5 HR5 HR6 HA6 e0 e1 e2 e3 e4
 obtain ⟨e0, e1, e2, e3, e4⟩ := five_at (u_ HP6)
 cases OT with
 | none =>
  have HN := h_ (u_ HN0 rfl)
  obtain rfl : false = OS := hOS
  clear hTX HN0 HN1 HY
  go_upto_region 9 with fail
  go_wp2_with (refine wpList_store_row rfl 103 _ _ rfl R _ rfl rfl 103 _ HR7.res value2 rfl (u_ H5) ?_)
  exact bodyPost_ret (res_row_tmp2 Tryz.results55 _ _ R 103 #[.string { data := #[] }, .string { data := #[] }] (0, 0) _ rfl (HR7.set #[.string { data := #[] }, .string { data := #[] }]).res Tryz.underlying103 rfl value2 _ _ rfl rfl) rfl ⟨_, _, _, by rw [u_ HN]; rfl, fun a k h => (by rw [u_ HN] at h; cases h), (HR7.set #[.string { data := #[] }, .string { data := #[] }]).b⟩
 | some x =>
 obtain rfl : true = OS := hOS
 have HTX : Hid (TX = st x) := by show _ = _; rw [← hTX]; rfl
 obtain ⟨U3, hU3⟩ := exq (decide (tc = 0) && decide (tg = 19))
 obtain ⟨U4, hU4⟩ := exq (decide (tc = 0) && decide (tg = 12))
 have Hu3 : Hid (∀ wr, Calls Tryz.prog 36 #[.agg #[.int .i64 tc, .int .i64 tg, .bool tm, .slice t1 tl u1, .slice t2 tk u2], .int .i64 19] wr fun e w' => e = .returned (.bool U3) ∧ Below wr.heap.size wr w') := fun wr => by
  have h := isuni_c wr tc tg tm t1 t2 tl tk u1 u2 19 _ _ rfl rfl
  have e : ((tc == 0) && (tg == 19)) = U3 := hU3
  rw [e] at h
  exact h
 have Hu4 : Hid (∀ wr, Calls Tryz.prog 36 #[.agg #[.int .i64 tc, .int .i64 tg, .bool tm, .slice t1 tl u1, .slice t2 tk u2], .int .i64 12] wr fun e w' => e = .returned (.bool U4) ∧ Below wr.heap.size wr w') := fun wr => by
  have h := isuni_c wr tc tg tm t1 t2 tl tk u1 u2 12 _ _ rfl rfl
  have e : ((tc == 0) && (tg == 12)) = U4 := hU4
  rw [e] at h
  exact h
 have HYx : Hid ((tc = 0 ∧ (tg = 19 ∨ tg = 12)) → attrP s = some ((x, tv.bytes), tg)) := u_ HY x rfl
 clear hTX HN0 HY
 go_wp2_with fail
 refine (u_ Hu3 w7).mono ?_
 rintro e w8 ⟨rfl, hb8⟩
 have HT8 := h_ (HT7.call hb8)
 have HR8 := h_ (HR7.call hb8)
 have HB8 : Hid (Below w5.heap.size w5 w8) := HB7.trans (hb8.mono HB7.size)
 clear hb8 HT7 HR7 HB7 y0 y1 y2 y3 y4 h0 h1 h2 h3 h4 e0 e1 e2 e3 e4 hw7 eTB
 cases U3 with
 | true =>
  have HYz : Hid (attrP s = some ((x, tv.bytes), tg)) := u_ HYx (by simp only [Bool.and_eq_true, decide_eq_true_eq] at hU3; exact ⟨hU3.1, Or.inl hU3.2⟩)
  have HBy := h_ (u_ HBt w8 (u_ HB8))
  have HRz := HR8
  have HTz := HT8
  clear hU3 hU4 HYx HN1
  have cv := conv_str (HBy.below (Below.refl _ _).drew)
  have r0 := HRz.cell 0 _ rfl
  have r1 := HRz.cell 1 _ rfl
  have fr0 := HRz.frozen 0
  have fr1 := HRz.frozen 1
  obtain ⟨y0, y1, y2, y3, y4⟩ := five_at (u_ HTz)
  have hTR : TB ≠ R := by have := u_ HRT; omega
  obtain ⟨tt, htt⟩ := exq (st tv.bytes)
  rw [htt] at cv
  have Htt := h_ htt
  have y1s : ((w8.setCell ⟨R, 0, none⟩ (.string TX)).setCell ⟨R, 1, none⟩ (.string tt)).cell? ⟨TB, 1, none⟩ = some (.int .i64 tg) := by
   rw [World.cell?_setCell_far _ _ _ _ (show R ≠ TB from fun e => hTR e.symm), World.cell?_setCell_far _ _ _ _ (show R ≠ TB from fun e => hTR e.symm)]
   exact y1
  have y1d : ((w8.setCell ⟨R, 0, none⟩ (.string TX)).setCell ⟨R, 1, none⟩ (.string tt)).drew.cell? ⟨TB, 1, none⟩ = some (.int .i64 tg) := y1s
  clear htt
  go_wp2
  go_region
  go_wp2
  have hres : ((w8.setCell ⟨R, 0, none⟩ (.string TX)).setCell ⟨R, 1, none⟩ (.string tt)).drew.heap[R]? = some (.cells #[.string TX, .string tt] 103 (0, 0)) := heap_setCell_same _ R 1 _ 103 (.string tt) (heap_setCell_same w8 R 0 _ 103 (.string TX) HRz.res)
  have hbel := ((HRz.b.setCell (p := ⟨R, 0, none⟩) HRz.ge (.string TX)).setCell (p := ⟨R, 1, none⟩) HRz.ge (.string tt)).drew
  refine bodyPost_ret (res_row_tmp2 Tryz.results55 _ _ R 103 #[.string TX, .string tt] (0, 0) _ rfl hres Tryz.underlying103 rfl value2 _ _ rfl rfl) rfl ⟨TX, tt, tg, by rw [u_ HYz] <;> rfl, fun a k h => ?_, hbel⟩
  rw [u_ HYz] at h
  simp only [Option.some.injEq, Prod.mk.injEq] at h
  obtain ⟨rfl, rfl⟩ := h
  exact ⟨u_ HTX, Htt.symm, rfl⟩
 | false =>
  obtain ⟨y0, y1, y2, y3, y4⟩ := five_at (u_ HT8)
  go_wp2_with fail
  refine (u_ Hu4 w8).mono ?_
  rintro e w9 ⟨rfl, hb9⟩
  have HT9 := h_ (HT8.call hb9)
  have HR9 := h_ (HR8.call hb9)
  have HB9 : Hid (Below w5.heap.size w5 w9) := HB8.trans (hb9.mono HB8.size)
  clear hb9 HT8 HR8 HB8 y0 y1 y2 y3 y4
  cases U4 with
  | false =>
   have HN : Hid (attrP s = none) := u_ HN1 (fun h => by
    rcases h.2 with h2 | h2
    ·rw [h.1, h2] at hU3; cases hU3
    ·rw [h.1, h2] at hU4; cases hU4)
   clear hU3 hU4 HYx HN1
   go_upto_region 9 with fail
   go_wp2_with (refine wpList_store_row rfl 103 _ _ rfl R _ rfl rfl 103 _ HR9.res value2 rfl (u_ H5) ?_)
   exact bodyPost_ret (res_row_tmp2 Tryz.results55 _ _ R 103 #[.string { data := #[] }, .string { data := #[] }] (0, 0) _ rfl (HR9.set #[.string { data := #[] }, .string { data := #[] }]).res Tryz.underlying103 rfl value2 _ _ rfl rfl) rfl ⟨_, _, _, by rw [u_ HN]; rfl, fun a k h => (by rw [u_ HN] at h; cases h), (HR9.set #[.string { data := #[] }, .string { data := #[] }]).b⟩
  | true =>
   have HYz : Hid (attrP s = some ((x, tv.bytes), tg)) := u_ HYx (by simp only [Bool.and_eq_true, decide_eq_true_eq] at hU4; exact ⟨hU4.1, Or.inr hU4.2⟩)
   have HBy := h_ (u_ HBt w9 (u_ HB9))
   have HRz := HR9
   have HTz := HT9
   clear hU3 hU4 HYx HN1
   have cv := conv_str (HBy.below (Below.refl _ _).drew)
   have r0 := HRz.cell 0 _ rfl
   have r1 := HRz.cell 1 _ rfl
   have fr0 := HRz.frozen 0
   have fr1 := HRz.frozen 1
   obtain ⟨y0, y1, y2, y3, y4⟩ := five_at (u_ HTz)
   have hTR : TB ≠ R := by have := u_ HRT; omega
   obtain ⟨tt, htt⟩ := exq (st tv.bytes)
   rw [htt] at cv
   have Htt := h_ htt
   have y1s : ((w9.setCell ⟨R, 0, none⟩ (.string TX)).setCell ⟨R, 1, none⟩ (.string tt)).cell? ⟨TB, 1, none⟩ = some (.int .i64 tg) := by
    rw [World.cell?_setCell_far _ _ _ _ (show R ≠ TB from fun e => hTR e.symm), World.cell?_setCell_far _ _ _ _ (show R ≠ TB from fun e => hTR e.symm)]
    exact y1
   have y1d : ((w9.setCell ⟨R, 0, none⟩ (.string TX)).setCell ⟨R, 1, none⟩ (.string tt)).drew.cell? ⟨TB, 1, none⟩ = some (.int .i64 tg) := y1s
   clear htt
   go_wp2
   go_region
   go_wp2
   have hres : ((w9.setCell ⟨R, 0, none⟩ (.string TX)).setCell ⟨R, 1, none⟩ (.string tt)).drew.heap[R]? = some (.cells #[.string TX, .string tt] 103 (0, 0)) := heap_setCell_same _ R 1 _ 103 (.string tt) (heap_setCell_same w9 R 0 _ 103 (.string TX) HRz.res)
   have hbel := ((HRz.b.setCell (p := ⟨R, 0, none⟩) HRz.ge (.string TX)).setCell (p := ⟨R, 1, none⟩) HRz.ge (.string tt)).drew
   refine bodyPost_ret (res_row_tmp2 Tryz.results55 _ _ R 103 #[.string TX, .string tt] (0, 0) _ rfl hres Tryz.underlying103 rfl value2 _ _ rfl rfl) rfl ⟨TX, tt, tg, by rw [u_ HYz] <;> rfl, fun a k h => ?_, hbel⟩
   rw [u_ HYz] at h
   simp only [Option.some.injEq, Prod.mk.injEq] at h
   obtain ⟨rfl, rfl⟩ := h
   exact ⟨u_ HTX, Htt.symm, rfl⟩
end N
def dnTold : Told (List (Bs × Bs)) → List (Bs × Bs)
 | .no _ => []
 | .yes d => d
theorem attrsP_snoc : ∀ (ks : List DV) (k : DV), attrsP (ks ++ [k]) = match attrsP ks with | none => none | some l => (match attrP k with | none => none | some a => some (l ++ [a]))
 | [], k => by
  show attrsP [k] = _
  unfold attrsP
  cases attrP k <;> rfl
 | x :: ks, k => by
  have ih := attrsP_snoc ks k
  rw [List.cons_append]
  unfold attrsP
  cases attrP x with
  | none => rfl
  | some a =>
   simp only
   rw [ih]
   cases attrsP ks with
   | none => rfl
   | some l =>
    simp only
    cases attrP k <;> rfl
theorem attrsP_none : ∀ (ks js : List DV), attrsP ks = none → attrsP (ks ++ js) = none
 | [], _, h => by cases h
 | x :: ks, js, h => by
  rw [List.cons_append]
  unfold attrsP at h ⊢
  cases hx : attrP x with
  | none => rfl
  | some a =>
   rw [hx] at h
   simp only at h ⊢
   cases hk : attrsP ks with
   | none => rw [attrsP_none ks js hk]
   | some l => rw [hk] at h; cases h
namespace N
open K
def ParseA (v : DV) (w : World) (x : Value) (w' : World) : Prop := DnAt w' x (dnTold (parseP v)) ∧ Below w.heap.size w w'
theorem parsedn_c (w : World) (hRd : Rdy w) (S : Nat → Prop) (cs : List Value) (v : DV) (hv : ValAt S w cs v) (hw : weight v ≤ 1000000) :
  Calls Tryz.prog 22 #[.agg cs.toArray] w fun e w' => ∃ x : Value, e = .returned (.tuple #[x, .int .i64 (errOf (parseP v) : Int)]) ∧ ParseA v w x w' := by
 obtain ⟨n, hv⟩ := hv
 obtain ⟨s1, c1, s2, c2, rfl⟩ := hv.form
 obtain ⟨kc, kt, km, kl, kk, hkc, hkt, hkm, hkl, hkk⟩ := ex5 v
 rw [hkc, hkt, hkm, hkl, hkk] at hv ⊢
 obtain ⟨w1, X, hw1, eX, hA⟩ := blkN (Below.refl w.heap.size w) #[.int .i64 kc, .int .i64 kt, .bool km, .slice s1 kl c1, .slice s2 kk c2] 25
 obtain ⟨k0, k1, k2, k3, k4⟩ := five_at hA
 have HA := h_ hA
 have HV : Hid (∀ wr, Below w.heap.size w wr → VAt n S wr (dcells kc kt km (.slice s1 kl c1) (.slice s2 kk c2)) v) := fun wr hb => hv.below hb
 have HR : Hid (∀ wr, Below w.heap.size w wr → Rdy wr) := fun wr hb => hRd.below hb
 obtain ⟨U1, hU1⟩ := exq (decide (kc = 0) && decide (kt = 16))
 have Hu : Hid (Calls Tryz.prog 36 #[.agg #[.int .i64 kc, .int .i64 kt, .bool km, .slice s1 kl c1, .slice s2 kk c2], .int .i64 16] w1 fun e w' => e = .returned (.bool U1) ∧ Below w1.heap.size w1 w') := by
  have h := isuni_c w1 kc kt km s1 s2 kl kk c1 c2 16 _ _ rfl rfl
  have e : ((kc == 0) && (kt == 16)) = U1 := hU1
  rw [e] at h
  exact h
 obtain ⟨RV, hRV⟩ := exq (rightV v)
 have Hri : Hid (∀ wr, Below w.heap.size w wr → Calls Tryz.prog 37 #[.agg #[.int .i64 kc, .int .i64 kt, .bool km, .slice s1 kl c1, .slice s2 kk c2]] wr fun e w' => e = .returned (.bool RV) ∧ Below wr.heap.size wr w') := fun wr hb => by
  have h := isright_c wr S _ v (hRd.below hb).tabs ⟨n, hv.below hb⟩ hw
  rw [hRV] at h
  exact h
 have HP : Hid (parseP v = if kc = 0 ∧ kt = 16 ∧ kk ≤ 16 ∧ RV = true then (match attrsP v.kids with | none => .no 30 | some l => if l.all namedA = true then .yes (l.map (·.1)) else .no 31) else .no 30) := by
  show _ = _
  unfold parseP
  rw [hkc, hkt, hkk, hRV]
  rfl
 have Hkk := h_ hkk
 have Hw := h_ hw
 unfold dcells
 clear hA hv hRd hkc hkt hkm hkl hkk hRV hw
 go_enter Tryz.func22, Tryz.ntmps22
 go_wp2_with fail
 refine Hu.mono ?_
 rintro e w3 ⟨rfl, hb⟩
 have HA3 := h_ (HA.call hb)
 clear hb k0 k1 k2 k3 k4 hw1 HA Hu
 obtain ⟨k0, k1, k2, k3, k4⟩ := five_at (u_ HA3)
 cases U1 with
 | false =>
  have HN : Hid (parseP v = .no 30) := by
   show _ = _
   rw [u_ HP, if_neg (fun h => by rw [h.1, h.2.1] at hU1; cases hU1)]
  clear hU1
  go_wp2
  go_ret2
  exact ⟨_, by rw [u_ HN]; rfl, by rw [u_ HN]; exact dn_nil _, HA3.b⟩
 | true =>
 simp only [Bool.and_eq_true, decide_eq_true_eq] at hU1
 obtain ⟨rfl, rfl⟩ := hU1
 by_cases h16 : 16 < kk
 ·have HN : Hid (parseP v = .no 30) := by
   show _ = _
   rw [u_ HP, if_neg (fun h => by omega)]
  obtain ⟨z1, z1n⟩ := ltLV 16 16 kk
  go_wp2
  go_ret2
  exact ⟨_, by rw [u_ HN]; rfl, by rw [u_ HN]; exact dn_nil _, HA3.b⟩
 obtain ⟨z1, z1n⟩ := ltLVf 16 16 kk
 go_wp2_with fail
 refine (u_ Hri w3 HA3.b).mono ?_
 rintro e w4 ⟨rfl, hb⟩
 have HA4 := h_ (HA3.call hb)
 clear hb k0 k1 k2 k3 k4 HA3 Hri
 obtain ⟨k0, k1, k2, k3, k4⟩ := five_at (u_ HA4)
 cases RV with
 | false =>
  have HN : Hid (parseP v = .no 30) := by
   show _ = _
   rw [u_ HP, if_neg (fun h => by cases h.2.2.2)]
  clear z1 z1n
  go_wp2
  go_ret2
  exact ⟨_, by rw [u_ HN]; rfl, by rw [u_ HN]; exact dn_nil _, HA4.b⟩
 | true =>
 have HP2 : Hid (parseP v = match attrsP v.kids with | none => .no 30 | some l => if l.all namedA = true then .yes (l.map (·.1)) else .no 31) := by
  show _ = _
  rw [u_ HP, if_pos (by simp; omega)]
 clear HP z1 z1n
 go_wp2
 clear k0 k1 k2 k3 k4
 go_loopw [4, 5, 28] (fun dd nn ii wr => ∃ (i c : Nat) (sp : Option Addr) (l : List ((Bs × Bs) × Int)) (u : Bool), i ≤ kk ∧ dd = .slice sp i c ∧ nn = .bool u ∧ ii = .int .i64 (i : Int) ∧ Hid (attrsP (v.kids.take i) = some l) ∧ Hid (l.length = i) ∧ Hid (l.all namedA = u) ∧ Hid (ARow w4 wr (.slice sp i c) (l.map (·.1)))) (fun _ _ ii _ => kk - (intOf ii).toNat)
 case atStart => exact ⟨0, 0, none, [], true, by omega, rfl, rfl, rfl, rfl, rfl, rfl, arow_nil w4⟩
 case round =>
  obtain ⟨i, c, sp, l, u, hi, rfl, rfl, rfl, Hl, Hli, Hu, HAr⟩ := hrel
  have HBr : Hid (Below w.heap.size w wr) := HA4.b.trans (HAr.b.mono HA4.b.size)
  by_cases hlt : i < kk
  ·have hil : i < v.kids.length := by have := u_ Hkk; omega
   obtain ⟨k, hk⟩ : ∃ k, v.kids[i]? = some k := ⟨_, List.getElem?_eq_getElem hil⟩
   obtain ⟨b, o, ds, rfl, hcd, hvk⟩ := kid_at (u_ HV wr (u_ HBr)) hk
   obtain ⟨nk, hvk⟩ := hvk
   obtain ⟨p1, q1, p2, q2, rfl⟩ := hvk.form
   obtain ⟨pc, pt, pm, pl, pk, hpc, hpt, hpm, hpl, hpk⟩ := ex5 k
   rw [hpc, hpt, hpm, hpl, hpk] at hvk hcd
   obtain ⟨d0, d1, d2, d3, d4⟩ := hcd.five
   obtain ⟨w5, PB, hw5, ePB, hP⟩ := blkN HAr.b #[.int .i64 pc, .int .i64 pt, .bool pm, .slice p1 pl q1, .slice p2 pk q2] 25
   have hb5 := allocB hw5
   obtain ⟨e0, e1, e2, e3, e4⟩ := five_at hP
   have HA5 := h_ (HAr.call hb5)
   have HB5 : Hid (Below w.heap.size w w5) := HBr.trans (hb5.mono HBr.size)
   have hwk : weight k ≤ 1000000 := by
    have h1 := weight_kid hk
    have h2 : weight v = 1 + v.bytes.length + weights v.kids := by cases v; simp only [weight, DV.bytes, DV.kids]
    have h3 := u_ Hw
    omega
   have Hat := h_ (attrof_c w5 (u_ HR w5 (u_ HB5)) S _ k ⟨nk, hvk.below hb5⟩ hwk)
   unfold dcells at Hat
   obtain ⟨AS, hAS⟩ := exq ((attrP k).isSome)
   rw [hAS] at Hat
   obtain ⟨f1, f1n⟩ := ltVV i kk
   have m0 : (0 : Int) ≤ (i : Int) := by omega
   have m1 : (i : Int) < (kk : Int) := by omega
   have Hk := h_ hk
   clear hP hb5 hvk hcd hpc hpt hpm hpl hpk hk HAr HBr
   go_wp2_with fail
   refine Hat.mono ?_
   rintro e w6 ⟨t1, t2, tg, rfl, hatt, hb⟩
   obtain ⟨w7, hw7⟩ := exq (w6.alloc (.cells #[.string t1, .string t2] 103))
   obtain ⟨TB, eTB⟩ := exq w6.heap.size
   have hb7 : Below w5.heap.size w5 w7 := by rw [← hw7]; exact hb.alloc hb.size _
   have hT := Blk.new (hb : Below w5.heap.size w5 w6) #[.string t1, .string t2] 103
   rw [hw7, eTB] at hT
   have HT7 := h_ hT
   have HA7 := h_ (HA5.call hb7)
   have HB7 : Hid (Below w.heap.size w w7) := HB5.trans (hb7.mono HB5.size)
   have a0 : w7.cell? ⟨TB, 0, none⟩ = some (.string t1) := hT.cell 0 _ rfl
   have a1 : w7.cell? ⟨TB, 1, none⟩ = some (.string t2) := hT.cell 1 _ rfl
   have Hatt := h_ hatt
   clear hb hb7 hT hatt Hat d0 d1 d2 d3 d4 e0 e1 e2 e3 e4 hw5 ePB HA5 HB5
   cases AS with
   | false =>
    have HN : Hid (parseP v = .no 30) := by
     show _ = _
     have hnone : attrP k = none := by cases h : attrP k with
      | none => rfl
      | some a => rw [h] at hAS; cases hAS
     have h1 : attrsP (v.kids.take (i + 1)) = none := by
      rw [List.take_add_one, u_ Hk]
      show attrsP (v.kids.take i ++ [k]) = none
      rw [attrsP_snoc, u_ Hl]
      simp only
      rw [hnone]
     have h2 := attrsP_none _ (v.kids.drop (i + 1)) h1
     rw [List.take_append_drop] at h2
     rw [u_ HP2, h2]
    clear hAS
    go_wp2
    go_ret2
    exact ⟨_, by rw [u_ HN]; rfl, by rw [u_ HN]; exact dn_nil _, u_ HB7⟩
   | true =>
    obtain ⟨ag, hag⟩ := Option.isSome_iff_exists.1 hAS
    obtain ⟨a, g⟩ := ag
    obtain ⟨ht1, ht2, hg⟩ := u_ Hatt a g hag
    subst hg
    have Ht2 : Hid (bs t2 = a.2) := by show _ = _; rw [ht2, bs_st]
    have Hl2 : Hid (attrsP (v.kids.take (i + 1)) = some (l ++ [(a, tg)])) := by
     show _ = _
     rw [List.take_add_one, u_ Hk]
     show attrsP (v.kids.take i ++ [k]) = _
     rw [attrsP_snoc, u_ Hl]
     simp only
     rw [hag]
    have Hli2 : Hid ((l ++ [(a, tg)]).length = i + 1) := by show _ = _; rw [List.length_append, u_ Hli]; rfl
    have hsz : t2.size ≤ 1000000 := by
     obtain ⟨p, oo, tv, _, _, h3, _, _, h6, _, _, _, h10, _⟩ := attrP_open hag
     have w1 := weight_kid (u_ Hk)
     have w2 : weight v = 1 + v.bytes.length + weights v.kids := by cases v; simp only [weight, DV.bytes, DV.kids]
     have w3 := weight_kid (ks := k.kids) (i := 0) (k := p) (by rw [h3]; rfl)
     have w4 : weight k = 1 + k.bytes.length + weights k.kids := by cases k; simp only [weight, DV.bytes, DV.kids]
     have w5 := weight_kid (ks := p.kids) (i := 1) (k := tv) (by rw [h6]; rfl)
     have w6 : weight p = 1 + p.bytes.length + weights p.kids := by cases p; simp only [weight, DV.bytes, DV.kids]
     have w7 : weight tv = 1 + tv.bytes.length + weights tv.kids := by cases tv; simp only [weight, DV.bytes, DV.kids]
     rw [← bs_len, u_ Ht2, ← h10]
     have := u_ Hw
     omega
    have Hone := h_ (one_attr w7 t1 t2)
    have HBa : Hid ([(bs t1, bs t2)] = [a]) := by show _ = _; rw [u_ Ht2, ht1, bs_st]
    obtain ⟨P, hP⟩ := exq (textP a.2)
    obtain ⟨Q, hQ⟩ := exq (decide (tg = (textT a.2 : Int)))
    obtain ⟨TT, hTT⟩ := exq (textT a.2)
    have q1 : (tg == (TT : Int)) = Q := by rw [← hQ, ← hTT]; rfl
    have HnA : Hid (namedA (a, tg) = (P && Q)) := by show _ = _; unfold namedA; rw [hP, hQ]
    have Hit : Hid (∀ wr, Below w.heap.size w wr → Calls Tryz.prog 56 #[.string t2] wr fun e w' => e = .returned (.bool P) ∧ Below wr.heap.size wr w') := fun wr hb => by
     have h := istext_c wr (u_ HR wr hb) t2 hsz
     rw [u_ Ht2, hP] at h
     exact h
    have Htt : Hid (∀ wr, Calls Tryz.prog 57 #[.string t2] wr fun e w' => e = .returned (.int .i64 (TT : Int)) ∧ Below wr.heap.size wr w') := fun wr => by
     have h := texttag_c wr t2 hsz
     rw [u_ Ht2, hTT] at h
     exact h
    have hi16 : i ≤ 16 := by omega
    clear hAS hag ht1 ht2 Hatt hP hQ hTT hsz Hl
    cases u with
    | false =>
     have HTz := HT7
     have HAz := HA7
     obtain ⟨c0, c1⟩ : w7.cell? ⟨TB, 0, none⟩ = some (.string t1) ∧ w7.cell? ⟨TB, 1, none⟩ = some (.string t2) := ⟨HTz.cell 0 _ rfl, HTz.cell 1 _ rfl⟩
     have Hone := h_ (one_attr w7 t1 t2)
     have HA8 := h_ (HAz.call ((Below.refl w7.heap.size w7).alloc (Nat.le_refl _) (.cells #[.string t1, .string t2] 103)))
     have Hu2 : Hid ((l ++ [(a, tg)]).all namedA = false) := by show _ = _; rw [List.all_append, u_ Hu, List.all_cons, u_ HnA]; rfl
     have HLm : Hid ((l.map (·.1)).length = i ∧ ((l ++ [(a, tg)]).map (·.1)).length = i + 1 ∧ (l ++ [(a, tg)]).map (·.1) = l.map (·.1) ++ [a]) := ⟨by rw [List.length_map]; exact u_ Hli, by rw [List.length_map]; exact u_ Hli2, by rw [List.map_append]; rfl⟩
     go_wp2_with (at_builtin; refine wpList_append_attrs rfl _ _ rfl (.slice sp i c) (.slice (some ⟨w7.heap.size, 0, none⟩) 1 1) (l.map (·.1)) [a] rfl (u_ HA8) rfl (by rw [← u_ HBa]; exact u_ Hone) (by simp) (by rw [HLm.1]; simp only [List.length_singleton]; omega) ?_
                  intro v3 W3 hR3 _
                  rw [← HLm.2.2] at hR3
                  obtain ⟨p3, q3, rfl⟩ := hR3.form
                  rw [HLm.2.1] at hR3 ⊢
                  have HR3 := h_ hR3
                  clear hR3)
     go_roundw
     case rel =>
      first
       | exact ⟨i + 1, q3, p3, l ++ [(a, tg)], false, by omega, rfl, rfl, by go_num, Hl2, Hli2, Hu2, HR3⟩
       | ((repeat apply Exists.intro); exact ⟨⟨i + 1, q3, p3, l ++ [(a, tg)], false, by omega, rfl, rfl, by go_num, Hl2, Hli2, Hu2, HR3⟩, rfl⟩)
     case measure => simp [intOf]; omega
    | true =>
     go_wp2_with fail
     refine (u_ Hit w7 (u_ HB7)).mono ?_
     rintro e w8 ⟨rfl, hb⟩
     have HT8 := h_ (HT7.call hb)
     have HA8' := h_ (HA7.call hb)
     clear hb a0 a1 hw7 eTB
     obtain ⟨a0, a1⟩ : w8.cell? ⟨TB, 0, none⟩ = some (.string t1) ∧ w8.cell? ⟨TB, 1, none⟩ = some (.string t2) := ⟨HT8.cell 0 _ rfl, HT8.cell 1 _ rfl⟩
     cases P with
     | false =>
      have HTz := HT8
      have HAz := HA8'
      obtain ⟨c0, c1⟩ : w8.cell? ⟨TB, 0, none⟩ = some (.string t1) ∧ w8.cell? ⟨TB, 1, none⟩ = some (.string t2) := ⟨HTz.cell 0 _ rfl, HTz.cell 1 _ rfl⟩
      have Hone := h_ (one_attr w8 t1 t2)
      have HA8 := h_ (HAz.call ((Below.refl w8.heap.size w8).alloc (Nat.le_refl _) (.cells #[.string t1, .string t2] 103)))
      have Hu2 : Hid ((l ++ [(a, tg)]).all namedA = false) := by show _ = _; rw [List.all_append, u_ Hu, List.all_cons, u_ HnA]; rfl
      have HLm : Hid ((l.map (·.1)).length = i ∧ ((l ++ [(a, tg)]).map (·.1)).length = i + 1 ∧ (l ++ [(a, tg)]).map (·.1) = l.map (·.1) ++ [a]) := ⟨by rw [List.length_map]; exact u_ Hli, by rw [List.length_map]; exact u_ Hli2, by rw [List.map_append]; rfl⟩
      go_wp2_with (at_builtin; refine wpList_append_attrs rfl _ _ rfl (.slice sp i c) (.slice (some ⟨w8.heap.size, 0, none⟩) 1 1) (l.map (·.1)) [a] rfl (u_ HA8) rfl (by rw [← u_ HBa]; exact u_ Hone) (by simp) (by rw [HLm.1]; simp only [List.length_singleton]; omega) ?_
                   intro v3 W3 hR3 _
                   rw [← HLm.2.2] at hR3
                   obtain ⟨p3, q3, rfl⟩ := hR3.form
                   rw [HLm.2.1] at hR3 ⊢
                   have HR3 := h_ hR3
                   clear hR3)
      go_roundw
      case rel =>
       first
        | exact ⟨i + 1, q3, p3, l ++ [(a, tg)], false, by omega, rfl, rfl, by go_num, Hl2, Hli2, Hu2, HR3⟩
        | ((repeat apply Exists.intro); exact ⟨⟨i + 1, q3, p3, l ++ [(a, tg)], false, by omega, rfl, rfl, by go_num, Hl2, Hli2, Hu2, HR3⟩, rfl⟩)
      case measure => simp [intOf]; omega
     | true =>
      go_wp2_with fail
      refine (u_ Htt w8).mono ?_
      rintro e w9 ⟨rfl, hb⟩
      have HTz := h_ (HT8.call hb)
      have HAz := h_ (HA8'.call hb)
      clear hb a0 a1
      cases Q with
      | false =>
       obtain ⟨c0, c1⟩ : w9.cell? ⟨TB, 0, none⟩ = some (.string t1) ∧ w9.cell? ⟨TB, 1, none⟩ = some (.string t2) := ⟨HTz.cell 0 _ rfl, HTz.cell 1 _ rfl⟩
       have Hone := h_ (one_attr w9 t1 t2)
       have HA8 := h_ (HAz.call ((Below.refl w9.heap.size w9).alloc (Nat.le_refl _) (.cells #[.string t1, .string t2] 103)))
       have Hu2 : Hid ((l ++ [(a, tg)]).all namedA = false) := by show _ = _; rw [List.all_append, u_ Hu, List.all_cons, u_ HnA]; rfl
       have HLm : Hid ((l.map (·.1)).length = i ∧ ((l ++ [(a, tg)]).map (·.1)).length = i + 1 ∧ (l ++ [(a, tg)]).map (·.1) = l.map (·.1) ++ [a]) := ⟨by rw [List.length_map]; exact u_ Hli, by rw [List.length_map]; exact u_ Hli2, by rw [List.map_append]; rfl⟩
       go_wp2_with (at_builtin; refine wpList_append_attrs rfl _ _ rfl (.slice sp i c) (.slice (some ⟨w9.heap.size, 0, none⟩) 1 1) (l.map (·.1)) [a] rfl (u_ HA8) rfl (by rw [← u_ HBa]; exact u_ Hone) (by simp) (by rw [HLm.1]; simp only [List.length_singleton]; omega) ?_
                    intro v3 W3 hR3 _
                    rw [← HLm.2.2] at hR3
                    obtain ⟨p3, q3, rfl⟩ := hR3.form
                    rw [HLm.2.1] at hR3 ⊢
                    have HR3 := h_ hR3
                    clear hR3)
       go_roundw
       case rel =>
        first
         | exact ⟨i + 1, q3, p3, l ++ [(a, tg)], false, by omega, rfl, rfl, by go_num, Hl2, Hli2, Hu2, HR3⟩
         | ((repeat apply Exists.intro); exact ⟨⟨i + 1, q3, p3, l ++ [(a, tg)], false, by omega, rfl, rfl, by go_num, Hl2, Hli2, Hu2, HR3⟩, rfl⟩)
       case measure => simp [intOf]; omega
      | true =>
       obtain ⟨c0, c1⟩ : w9.cell? ⟨TB, 0, none⟩ = some (.string t1) ∧ w9.cell? ⟨TB, 1, none⟩ = some (.string t2) := ⟨HTz.cell 0 _ rfl, HTz.cell 1 _ rfl⟩
       have Hone := h_ (one_attr w9 t1 t2)
       have HA8 := h_ (HAz.call ((Below.refl w9.heap.size w9).alloc (Nat.le_refl _) (.cells #[.string t1, .string t2] 103)))
       have Hu2 : Hid ((l ++ [(a, tg)]).all namedA = true) := by show _ = _; rw [List.all_append, u_ Hu, List.all_cons, u_ HnA]; rfl
       have HLm : Hid ((l.map (·.1)).length = i ∧ ((l ++ [(a, tg)]).map (·.1)).length = i + 1 ∧ (l ++ [(a, tg)]).map (·.1) = l.map (·.1) ++ [a]) := ⟨by rw [List.length_map]; exact u_ Hli, by rw [List.length_map]; exact u_ Hli2, by rw [List.map_append]; rfl⟩
       go_wp2_with (at_builtin; refine wpList_append_attrs rfl _ _ rfl (.slice sp i c) (.slice (some ⟨w9.heap.size, 0, none⟩) 1 1) (l.map (·.1)) [a] rfl (u_ HA8) rfl (by rw [← u_ HBa]; exact u_ Hone) (by simp) (by rw [HLm.1]; simp only [List.length_singleton]; omega) ?_
                    intro v3 W3 hR3 _
                    rw [← HLm.2.2] at hR3
                    obtain ⟨p3, q3, rfl⟩ := hR3.form
                    rw [HLm.2.1] at hR3 ⊢
                    have HR3 := h_ hR3
                    clear hR3)
       go_roundw
       case rel =>
        first
         | exact ⟨i + 1, q3, p3, l ++ [(a, tg)], true, by omega, rfl, rfl, by go_num, Hl2, Hli2, Hu2, HR3⟩
         | ((repeat apply Exists.intro); exact ⟨⟨i + 1, q3, p3, l ++ [(a, tg)], true, by omega, rfl, rfl, by go_num, Hl2, Hli2, Hu2, HR3⟩, rfl⟩)
       case measure => simp [intOf]; omega
  ·obtain ⟨f1, f1n⟩ := ltVVf i kk
   have hall : attrsP v.kids = some l := by
    have h := u_ Hl
    rw [List.take_of_length_le (by have := u_ Hkk; omega)] at h
    exact h
   cases u with
   | true =>
    have HN : Hid (parseP v = .yes (l.map (·.1))) := by show _ = _; rw [u_ HP2, hall]; simp only; rw [if_pos (u_ Hu)]
    clear hall
    go_wp2
    go_ret2
    exact ⟨_, by rw [u_ HN]; rfl, by rw [u_ HN]; exact HAr.dn, u_ HBr⟩
   | false =>
    have HN : Hid (parseP v = .no 31) := by show _ = _; rw [u_ HP2, hall]; simp only; rw [if_neg (by rw [u_ Hu]; simp)]
    clear hall
    go_wp2
    go_ret2
    exact ⟨_, by rw [u_ HN]; rfl, by rw [u_ HN]; exact dn_nil _, u_ HBr⟩
end N
def hasF (v : DV) : Bool := decide (v.cls = 2) && kindP v.tag && (if v.tag = 4 then v.made && decide (v.kids.length = 1) else !v.made)
def kid0 (v : DV) : DV := v.kids.getD 0 (.mk 0 0 false [] [])
def named1 (limit : Bool) (g : Gen) : Told Gen := if namedP g limit = true then .yes g else .no 31
def inner1 (limit : Bool) (v : DV) : Told Gen :=
 if v.tag = 4 then (match parseP (kid0 v) with | .no _ => .no 31 | .yes d => named1 limit ⟨v.tag, v.bytes, d⟩) else named1 limit ⟨v.tag, v.bytes, []⟩
def parseG (limit : Bool) (v : DV) : Told Gen := if hasF v = true ∧ rightV v = true then inner1 limit v else .no 30
def genTold : Told Gen → Gen
 | .no _ => ⟨0, [], []⟩
 | .yes g => g
theorem inner1_4 {limit : Bool} {v : DV} (h : v.tag = 4) : inner1 limit v = (match parseP (kid0 v) with | .no _ => .no 31 | .yes d => named1 limit ⟨v.tag, v.bytes, d⟩) := if_pos h
theorem inner1_n {limit : Bool} {v : DV} (h : v.tag ≠ 4) : inner1 limit v = named1 limit ⟨v.tag, v.bytes, []⟩ := if_neg h
theorem hasForm_open {v : DV} (h : hasF v = true) : v.cls = 2 ∧ kindP v.tag = true ∧ ((v.tag = 4 ∧ v.made = true ∧ v.kids.length = 1) ∨ (v.tag ≠ 4 ∧ v.made = false)) := by
 unfold hasF at h
 simp only [Bool.and_eq_true, decide_eq_true_eq] at h
 obtain ⟨⟨h1, h2⟩, h3⟩ := h
 refine ⟨h1, h2, ?_⟩
 by_cases h4 : v.tag = 4
 ·rw [if_pos h4] at h3
  simp only [Bool.and_eq_true, decide_eq_true_eq] at h3
  exact Or.inl ⟨h4, h3⟩
 ·rw [if_neg h4] at h3
  exact Or.inr ⟨h4, by simpa using h3⟩
theorem rightV_open {v : DV} (h : rightV v = true) : ∃ x, writeP formD 17 v = .yes x := by
 unfold rightV writeTop at h
 cases hw : writeP formD 17 v with
 | no e => rw [hw] at h; cases h
 | yes x => exact ⟨x, rfl⟩
theorem named1_yes {limit : Bool} {g g2 : Gen} (h : named1 limit g = .yes g2) : namedP g limit = true ∧ g = g2 := by
 unfold named1 at h
 split at h
 ·rename_i h1
  injection h with h
  exact ⟨h1, h⟩
 ·cases h
theorem gen_back {limit : Bool} {v : DV} {g : Gen} (h : parseG limit v = .yes g) : genV dnV g limit = .yes v := by
 unfold parseG at h
 split at h
 ·rename_i h1
  obtain ⟨hf, hr⟩ := h1
  obtain ⟨hc, hk, hm⟩ := hasForm_open hf
  obtain ⟨x, hx⟩ := rightV_open hr
  obtain ⟨c, t, m, b, ks⟩ := v
  simp only [DV.cls, DV.tag, DV.made, DV.kids] at hc hk hm
  subst hc
  obtain ⟨_, _, _, _, _, w6, w7, _⟩ := write_open hx
  rcases hm with ⟨rfl, rfl, hl⟩ | ⟨hn, rfl⟩
  ·rw [inner1_4 rfl] at h
   have hb : b = [] := w6 rfl
   subst hb
   obtain ⟨k, rfl⟩ : ∃ k, ks = [k] := by
    match ks, hl with
    | [k], _ => exact ⟨k, rfl⟩
   have hk0 : kid0 (.mk 2 4 true [] [k]) = k := rfl
   rw [hk0] at h
   cases hp : parseP k with
   | no e => rw [hp] at h; cases h
   | yes d =>
    rw [hp] at h
    obtain ⟨h1, rfl⟩ := named1_yes h
    have h1' : namedP ⟨4, [], d⟩ limit = true := h1
    show genV dnV ⟨4, [], d⟩ limit = _
    have hfo : ¬ formG ⟨4, [], d⟩ = false := by unfold formG kindP; simp
    unfold genV
    rw [if_neg hfo, if_neg (by rw [h1']; decide)]
    split
    ·show (match dnV d with | .no _ => _ | .yes d => _) = _
     rw [parse_back hp]
    ·rename_i hz; exact absurd rfl hz
  ·rw [inner1_n (v := .mk 2 t false b ks) hn] at h
   have hks : ks = [] := w7 rfl
   subst hks
   obtain ⟨h1, rfl⟩ := named1_yes h
   have h1' : namedP ⟨t, b, []⟩ limit = true := h1
   show genV dnV ⟨t, b, []⟩ limit = _
   have hfo : ¬ formG ⟨t, b, []⟩ = false := by unfold formG; simp [hk, hn]
   unfold genV
   rw [if_neg hfo, if_neg (by rw [h1']; decide)]
   split
   ·rename_i hz; exact absurd hz hn
   ·rfl
 ·cases h
theorem dn_write {d : List (Bs × Bs)} (f : Nat) (h16 : d.length ≤ 16) (ho : ∀ x ∈ d, (oidVP x.1).isSome = true) (ht : ∀ x ∈ d, textP x.2 = true) : ∃ x, writeP formD (f + 4) (.mk 0 16 true [] (d.map attrDV)) = .yes x ∧ x.length ≤ 4000 := by
 have hall : ∀ l : List (Bs × Bs), (∀ x ∈ l, x ∈ d) → ∃ bs, allP (writeP formD (f + 3)) (l.map attrDV) = .yes bs ∧ bs.flatten.length ≤ 210 * l.length := fun l => by
  induction l with
  | nil => exact fun _ => ⟨[], rfl, by simp⟩
  | cons a l ih =>
   intro hl
   obtain ⟨bs, h1, h2⟩ := ih (fun x hx => hl x (List.mem_cons_of_mem _ hx))
   obtain ⟨x, h3, h4⟩ := attr_write (f := f) (ho a (hl a List.mem_cons_self)) (ht a (hl a List.mem_cons_self))
   refine ⟨x :: bs, ?_, ?_⟩
   ·rw [List.map_cons]
    simp only [allP]
    rw [h3]
    simp only
    rw [h1]
   ·rw [List.flatten_cons, List.length_append, List.length_cons]
    omega
 obtain ⟨bs, h1, h2⟩ := hall d (fun x hx => hx)
 obtain ⟨x, h3, h4⟩ := write_kids (t := 16) (Or.inl rfl) h1 (by omega)
 exact ⟨x, h3, by omega⟩
theorem tagG_len {t : Nat} (h : t < 31) (m : Bool) : (tagB 2 t m).length = 1 := by unfold tagB; rw [if_pos h]; rfl
theorem formD_2 (t : Nat) (m : Bool) (b : Bs) : formD 2 t m b = 0 := by unfold formD; rw [if_pos (by decide)]
theorem leaf_rightG {t : Nat} (ht : t < 31) {b : Bs} (hb : b.length ≤ 64) : rightV (.mk 2 (t : Int) false b []) = true := by
 have h : writeP formD 17 (.mk 2 (t : Int) false b []) = .yes (tagB 2 t false ++ lenB b.length ++ b) := by
  simp only [writeP, Int.toNat_natCast, allP, show (2 : Int).toNat = 2 from rfl, formD_2]
  rw [if_neg (by omega), if_neg (by omega), if_neg (by simp)]
  simp
 unfold rightV writeTop
 rw [h]
 simp only
 rw [if_neg]
 rw [List.length_append, List.length_append, tagG_len ht]
 have := lenB_len (n := b.length) (by omega)
 omega
theorem dir_rightG {v : DV} {x : Bs} (h : writeP formD 16 v = .yes x) (hx : x.length ≤ 4000) : rightV (.mk 2 4 true [] [v]) = true := by
 have h2 : writeP formD 17 (.mk 2 4 true [] [v]) = .yes (tagB 2 4 true ++ lenB x.length ++ x) := by
  unfold writeP
  simp only [show (2 : Int).toNat = 2 from rfl, show (4 : Int).toNat = 4 from rfl, formD_2, allP]
  rw [if_neg (by omega), if_neg (by omega), if_neg (by simp), h]
  simp
 unfold rightV writeTop
 rw [h2]
 simp only
 rw [if_neg]
 rw [List.length_append, List.length_append, tagG_len (by omega)]
 have := lenB_len (n := x.length) (by omega)
 omega
theorem named_len {g : Gen} {limit : Bool} (h : namedP g limit = true) (hn : g.kind ≠ 4) : g.text.length ≤ 64 := by
 unfold namedP at h
 rw [if_neg hn] at h
 split at h
 ·unfold addrP at h
  split at h
  ·simp only [Bool.or_eq_true, decide_eq_true_eq] at h; omega
  ·simp only [Bool.and_eq_true, Bool.or_eq_true, decide_eq_true_eq] at h; omega
 ·simp only [Bool.and_eq_true, decide_eq_true_eq] at h
  exact h.1.2
theorem kindP_open {k : Int} (h : kindP k = true) : k = 1 ∨ k = 2 ∨ k = 4 ∨ k = 6 ∨ k = 7 := by
 unfold kindP at h
 simp only [Bool.or_eq_true, decide_eq_true_eq] at h
 omega
theorem formG_open {g : Gen} (h : ¬ formG g = false) : kindP g.kind = true ∧ (g.kind = 4 ∨ g.dir = []) ∧ (¬ g.kind = 4 ∨ g.text = []) := by
 have h1 : formG g = true := by cases hf : formG g with | true => rfl | false => exact absurd hf h
 unfold formG at h1
 simp only [Bool.and_eq_true, Bool.or_eq_true, decide_eq_true_eq, Bool.not_eq_true', decide_eq_false_iff_not] at h1
 exact ⟨h1.1.1, h1.1.2.imp id List.eq_nil_of_length_eq_zero, h1.2⟩
theorem dnV_open {d : List (Bs × Bs)} {v : DV} (h : dnV d = .yes v) : d.length ≤ 16 ∧ (∀ x ∈ d, (oidVP x.1).isSome = true) ∧ (∀ x ∈ d, textP x.2 = true) ∧ v = .mk 0 16 true [] (d.map attrDV) := by
 unfold dnV at h
 split at h
 ·cases h
 ·rename_i h1
  split at h
  ·cases h
  ·rename_i h2
   split at h
   ·cases h
   ·rename_i h3
    injection h with h
    have a2 : (d.all fun a => (oidVP a.1).isSome) = true := by
     cases h : (d.all fun a => (oidVP a.1).isSome) with
     | true => rfl
     | false => exact absurd h h2
    have a3 : (d.all fun a => textP a.2) = true := by
     cases h : (d.all fun a => textP a.2) with
     | true => rfl
     | false => exact absurd h h3
    rw [List.all_eq_true] at a2 a3
    exact ⟨by omega, a2, a3, h.symm⟩
theorem gen_there {limit : Bool} {g : Gen} {v : DV} (h : genV dnV g limit = .yes v) : parseG limit v = .yes g := by
 unfold genV at h
 split at h
 ·cases h
 ·rename_i h1
  split at h
  ·cases h
  ·rename_i h2
   obtain ⟨hk, hd, ht⟩ := formG_open h1
   have hn : namedP g limit = true := by cases hf : namedP g limit with | true => rfl | false => exact absurd hf h2
   obtain ⟨k, t, d⟩ := g
   simp only at hk hd ht h
   split at h
   ·rename_i h4
    subst h4
    have ht2 : t = [] := ht.resolve_left (fun h => h rfl)
    subst ht2
    cases hv : dnV d with
    | no e => rw [hv] at h; cases h
    | yes dv =>
     rw [hv] at h
     simp only at h
     injection h with h
     subst h
     obtain ⟨e1, e2, e3, e4⟩ := dnV_open hv
     obtain ⟨x, hx, hl⟩ := dn_write 12 e1 e2 e3
     have hr : rightV (.mk 2 4 true [] [dv]) = true := dir_rightG (by rw [e4]; exact hx) hl
     unfold parseG
     rw [if_pos ⟨rfl, hr⟩]
     unfold inner1
     split
     ·rw [show kid0 (.mk 2 4 true [] [dv]) = dv from rfl, parse_there hv]
      unfold named1
      exact if_pos hn
     ·rename_i hz; exact absurd rfl hz
   ·rename_i h4
    have hd2 : d = [] := hd.resolve_left h4
    subst hd2
    injection h with h
    subst h
    have hl := named_len hn h4
    have hr : rightV (.mk 2 k false t []) = true := by
     rcases kindP_open hk with rfl | rfl | rfl | rfl | rfl
     ·exact leaf_rightG (t := 1) (by omega) hl
     ·exact leaf_rightG (t := 2) (by omega) hl
     ·exact absurd rfl h4
     ·exact leaf_rightG (t := 6) (by omega) hl
     ·exact leaf_rightG (t := 7) (by omega) hl
    unfold parseG
    rw [if_pos ⟨by unfold hasF; simp only [DV.cls, DV.tag, DV.made]; simp [h4, hk], hr⟩]
    unfold inner1
    split
    ·rename_i hz; exact absurd hz h4
    ·unfold named1
     exact if_pos hn
theorem DnAt.form {w : World} {x : Value} {d : List (Bs × Bs)} (h : DnAt w x d) : ∃ sp c, x = .slice sp d.length c := by
 obtain ⟨sp, c, e, _⟩ := h
 exact ⟨sp, c, e⟩
theorem dnTold_len (v : DV) : (dnTold (parseP v)).length ≤ 16 := by
 cases h : parseP v with
 | no e => show 0 ≤ 16; omega
 | yes d => exact (dnV_open (parse_back h)).1
theorem parseP_pos {v : DV} {e : Nat} (h : parseP v = .no e) : e ≠ 0 := by
 unfold parseP at h
 split at h
 ·split at h
  ·injection h with h; omega
  ·split at h
   ·cases h
   ·injection h with h; omega
 ·injection h with h; omega
end Go.Proofs.YtcofnockikninaaGreatDoor
