/- Parts of the walk. -/
import Derived.Test.YtcofnockikninaaGreatDoorZgRd10
import Derived.Test.YtcofnockikninaaGreatDoorZgQa
import Derived.Test.YtcofnockikninaaGreatDoorZgPc10
import Derived.Test.YtcofnockikninaaGreatDoorZgOR
set_option maxRecDepth 100000
set_option maxHeartbeats 16000000
namespace Go.Proofs.YtcofnockikninaaGreatDoor
open Go.RowKit
theorem attrP_pair (s : DV) : attrP s = if (pairV s).2.2 = true then (oidT (pairV s).1).map (fun x => ((x, (pairV s).2.1.bytes), (pairV s).2.1.tag)) else none := by
 unfold attrP pairV
 by_cases h1 : s.cls = 0 ∧ s.tag = 17
 ·rw [if_pos h1, if_pos h1]
  match s.kids with
  | [] => rfl
  | _ :: _ :: _ => rfl
  | [p] =>
   simp only
   by_cases h2 : p.cls = 0 ∧ p.tag = 16
   ·rw [if_pos h2, if_pos h2]
    match p.kids with
    | [] => rfl
    | [_] => rfl
    | _ :: _ :: _ :: _ => rfl
    | [o, t] =>
     simp only
     cases oidT o with
     | none => simp
     | some x =>
      simp only [Option.map_some]
      by_cases h3 : t.cls = 0 ∧ (t.tag = 19 ∨ t.tag = 12)
      ·rw [if_pos h3, if_pos (by simp only [Bool.and_eq_true, Bool.or_eq_true, decide_eq_true_eq]; exact ⟨h3.1, h3.2.symm⟩)]
      ·rw [if_neg h3, if_neg (by simp only [Bool.and_eq_true, Bool.or_eq_true, decide_eq_true_eq]; exact fun h => h3 ⟨h.1, h.2.symm⟩)]
   ·rw [if_neg h2, if_neg h2]; rfl
 ·rw [if_neg h1, if_neg h1]; rfl
theorem weight_eq (v : DV) : weight v = 1 + v.bytes.length + weights v.kids := by cases v; simp only [weight, DV.bytes, DV.kids]
theorem pairV_weight (s : DV) : weight (pairV s).1 ≤ weight s ∧ weight (pairV s).2.1 ≤ weight s := by
 have h0 : weight (.mk 0 0 false [] []) ≤ weight s := by rw [weight_eq s]; show 1 ≤ _; omega
 unfold pairV
 split
 ·split
  ·rename_i p hp
   split
   ·split
    ·rename_i o t hk
     have w1 := weight_kid (ks := s.kids) (i := 0) (k := p) (by rw [hp]; rfl)
     have w2 := weight_eq s
     have w3 := weight_eq p
     have w4 := weight_kid (ks := p.kids) (i := 0) (k := o) (by rw [hk]; rfl)
     have w5 := weight_kid (ks := p.kids) (i := 1) (k := t) (by rw [hk]; rfl)
     exact ⟨by show weight o ≤ _; omega, by show weight t ≤ _; omega⟩
    ·exact ⟨h0, h0⟩
   ·exact ⟨h0, h0⟩
  ·exact ⟨h0, h0⟩
 ·exact ⟨h0, h0⟩
namespace Q
open N K
theorem qparsedn_c (w : World) (n : Nat) (S : Nat → Prop) (cs : List Value) (v : DV) (hv : VAt n S w cs v) (hw : weight v ≤ 100000) :
  Calls Tryz.prog 23 #[.agg cs.toArray] w fun e w' => ∃ x : Value, e = .returned (.tuple #[x, .int .i64 (errOf (parseP v) : Int)]) ∧ ParseA v w x w' := by
 obtain ⟨s1, c1, s2, c2, rfl⟩ := hv.form
 obtain ⟨kc, kt, km, kl, kk, hkc, hkt, hkm, hkl, hkk⟩ := ex5 v
 rw [hkc, hkt, hkm, hkl, hkk] at hv ⊢
 obtain ⟨w1, X, hw1, eX, hA⟩ := blkN (Below.refl w.heap.size w) #[.int .i64 kc, .int .i64 kt, .bool km, .slice s1 kl c1, .slice s2 kk c2] 33
 obtain ⟨k0, k1, k2, k3, k4⟩ := five_at hA
 have HA := h_ hA
 have HV : Hid (∀ wr, Below w.heap.size w wr → VAt n S wr (dcells kc kt km (.slice s1 kl c1) (.slice s2 kk c2)) v) := fun wr hb => hv.below hb
 obtain ⟨RV, hRV⟩ := exq (rightV v)
 have Hcan := h_ (can_q n S v w1 _ (hv.below hA.b) hw)
 rw [hRV] at Hcan
 have HP : Hid (parseP v = if kc = 0 ∧ kt = 16 ∧ kk ≤ 16 ∧ RV = true then (match attrsP v.kids with | none => .no 30 | some l => if l.all namedA = true then .yes (l.map (·.1)) else .no 31) else .no 30) := by
  show _ = _
  unfold parseP
  rw [hkc, hkt, hkk, hRV]
  rfl
 have Hkk := h_ hkk
 have Hw := h_ hw
 unfold dcells at Hcan ⊢
 clear hA hv hkc hkt hkm hkl hkk hRV hw
 go_enter Tryz.func23, Tryz.ntmps23
 go_wp2_with fail
 refine Hcan.mono ?_
 rintro e w3 ⟨rfl, hb⟩
 have HA3 := h_ (HA.call hb)
 clear hb k0 k1 k2 k3 k4 hw1 HA Hcan
 obtain ⟨k0, k1, k2, k3, k4⟩ := five_at (u_ HA3)
 cases RV with
 | false =>
  have HN : Hid (parseP v = .no 30) := by
   show _ = _
   rw [u_ HP, if_neg (fun h => by cases h.2.2.2)]
  go_wp2
  go_ret2
  exact ⟨_, by rw [u_ HN]; rfl, by rw [u_ HN]; exact dn_nil _, HA3.b⟩
 | true =>
 by_cases g1 : kc = 0
 case neg =>
  have HN : Hid (parseP v = .no 30) := by
   show _ = _
   rw [u_ HP, if_neg (fun h => g1 h.1)]
  have z1 : (kc != 0) = true := by simpa using g1
  have z2 : (kc == 0) = false := by simpa using g1
  clear g1
  go_wp2
  go_ret2
  exact ⟨_, by rw [u_ HN]; rfl, by rw [u_ HN]; exact dn_nil _, HA3.b⟩
 subst g1
 by_cases g2 : kt = 16
 case neg =>
  have HN : Hid (parseP v = .no 30) := by
   show _ = _
   rw [u_ HP, if_neg (fun h => g2 h.2.1)]
  have z1 : (kt != 16) = true := by simpa using g2
  have z2 : (kt == 16) = false := by simpa using g2
  clear g2
  go_wp2
  go_ret2
  exact ⟨_, by rw [u_ HN]; rfl, by rw [u_ HN]; exact dn_nil _, HA3.b⟩
 subst g2
 by_cases h16 : 16 < kk
 ·have HN : Hid (parseP v = .no 30) := by
   show _ = _
   rw [u_ HP, if_neg (fun h => by omega)]
  obtain ⟨z1, z1n⟩ := ltLV 16 16 kk
  go_wp2
  go_ret2
  exact ⟨_, by rw [u_ HN]; rfl, by rw [u_ HN]; exact dn_nil _, HA3.b⟩
 obtain ⟨z1, z1n⟩ := ltLVf 16 16 kk
 have HP2 : Hid (parseP v = match attrsP v.kids with | none => .no 30 | some l => if l.all namedA = true then .yes (l.map (·.1)) else .no 31) := by
  show _ = _
  rw [u_ HP, if_pos (by simp; omega)]
 clear HP
 go_wp2
 clear k0 k1 k2 k3 k4 z1 z1n
 go_loopw [4, 5, 6] (fun dd ee ii wr => ∃ (i c U : Nat) (sp : Option Addr) (l : List ((Bs × Bs) × Int)), i ≤ kk ∧ dd = .slice sp i c ∧ ee = .int .i64 (U : Int) ∧ ii = .int .i64 (i : Int) ∧ Hid (attrsP (v.kids.take i) = some l) ∧ Hid (l.length = i) ∧ Hid ((l.all namedA = true ∧ U = 0) ∨ (l.all namedA = false ∧ U = 31)) ∧ Hid (QRow w3 wr (.slice sp i c) (l.map (·.1)))) (fun _ _ ii _ => kk - (intOf ii).toNat)
 case atStart => exact ⟨0, 0, 0, none, [], by omega, rfl, rfl, rfl, rfl, rfl, Or.inl ⟨rfl, rfl⟩, qrow_nil w3⟩
 case round =>
  obtain ⟨i, c, U, sp, l, hi, rfl, rfl, rfl, Hl, Hli, Hu, HAr⟩ := hrel
  have HBr : Hid (Below w.heap.size w wr) := HA3.b.trans (HAr.b.mono HA3.b.size)
  have HXr := h_ (HA3.call HAr.b)
  obtain ⟨k0, k1, k2, k3, k4⟩ := five_at (u_ HXr)
  by_cases hlt : i < kk
  ·have hil : i < v.kids.length := by have := u_ Hkk; omega
   obtain ⟨k, hk⟩ : ∃ k, v.kids[i]? = some k := ⟨_, List.getElem?_eq_getElem hil⟩
   obtain ⟨b, o, ds, rfl, hcd, hvk⟩ := kid_at (u_ HV wr (u_ HBr)) hk
   obtain ⟨nk, hvk⟩ := hvk
   obtain ⟨p1, q1, p2, q2, rfl⟩ := hvk.form
   obtain ⟨pc, pt, pm, pl, pk, hpc, hpt, hpm, hpl, hpk⟩ := ex5 k
   rw [hpc, hpt, hpm, hpl, hpk] at hvk hcd
   obtain ⟨d0, d1, d2, d3, d4⟩ := hcd.five
   have hwk : weight k ≤ 100000 := by
    have h1 := weight_kid hk
    have h2 := weight_eq v
    have h3 := u_ Hw
    omega
   have Hpair := h_ (qpair_c wr S _ k ⟨nk, hvk⟩)
   obtain ⟨PV, hPV⟩ := exq (pairV k)
   have hwp := pairV_weight k
   have hAk := attrP_pair k
   rw [hPV] at hwp hAk
   obtain ⟨OV, TV, PK⟩ := PV
   unfold PairA at Hpair
   rw [hPV] at Hpair
   simp only at Hpair hwp hAk
   unfold dcells at Hpair
   have HAk := h_ hAk
   have HwO : Hid (weight OV ≤ 100000 ∧ weight TV ≤ 100000) := ⟨by omega, by omega⟩
   obtain ⟨f1, f1n⟩ := ltVV i kk
   have m0 : (0 : Int) ≤ (i : Int) := by omega
   have m1 : (i : Int) < (kk : Int) := by omega
   have Hk := h_ hk
   clear hvk hcd hpc hpt hpm hpl hpk hk hPV hAk hwp hwk
   go_wp2_with fail
   refine Hpair.mono ?_
   rintro e w6 ⟨xs, ys, rfl, hx, hy, hb⟩
   obtain ⟨no, hx⟩ := hx
   obtain ⟨nt, hy⟩ := hy
   obtain ⟨o1, r1, o2, r2, rfl⟩ := hx.form
   obtain ⟨t1, u1, t2, u2, rfl⟩ := hy.form
   obtain ⟨oc, og, om, ol, ok, hoc, hog, hom, hol, hok⟩ := ex5 OV
   obtain ⟨tc, tg, tm, tl, tk, htc, htg, htm, htl, htk⟩ := ex5 TV
   simp only [hoc, hog, hom, hol, hok] at hx ⊢
   simp only [htc, htg, htm, htl, htk] at hy ⊢
   have HTg := h_ htg
   unfold dcells at hx hy ⊢
   have HA6 := h_ (HAr.call hb)
   have HX6 := h_ (HXr.call hb)
   have hO := Blk.new HX6.b #[.int .i64 0, .int .i64 0, .bool false, .slice none 0 0, .slice none 0 0] 33
   obtain ⟨w7, hw7⟩ := exq (w6.alloc (.cells #[.int .i64 0, .int .i64 0, .bool false, .slice none 0 0, .slice none 0 0] 33))
   obtain ⟨OB, eOB⟩ := exq w6.heap.size
   have hb7 := allocB hw7
   obtain ⟨TB, eTB⟩ := exq w7.heap.size
   have e7 : TB = OB + 1 := by rw [← eTB, ← hw7, ← eOB]; simp
   rw [hw7, eOB] at hO
   have hT := Blk.new hO.b #[.int .i64 0, .int .i64 0, .bool false, .slice none 0 0, .slice none 0 0] 33
   obtain ⟨wz, hwz⟩ := exq (w7.alloc (.cells #[.int .i64 0, .int .i64 0, .bool false, .slice none 0 0, .slice none 0 0] 33))
   have hbz := allocB hwz
   rw [hwz, eTB] at hT
   have hOz := hO.call hbz
   have hb6z : Below w6.heap.size w6 wz := hb7.trans (hbz.mono hb7.size)
   obtain ⟨wy, hwy⟩ := exq (wz.setRow OB #[.int .i64 oc, .int .i64 og, .bool om, .slice o1 ol r1, .slice o2 ok r2])
   have hOy := hOz.set #[.int .i64 oc, .int .i64 og, .bool om, .slice o1 ol r1, .slice o2 ok r2]
   have hTy := hT.other hOz.ge (by omega : TB ≠ OB) #[.int .i64 oc, .int .i64 og, .bool om, .slice o1 ol r1, .slice o2 ok r2]
   have hb6y := set_below hb6z (by omega : w6.heap.size ≤ OB) #[.int .i64 oc, .int .i64 og, .bool om, .slice o1 ol r1, .slice o2 ok r2]
   rw [hwy] at hOy hTy hb6y
   obtain ⟨w8, hw8⟩ := exq (wy.setRow TB #[.int .i64 tc, .int .i64 tg, .bool tm, .slice t1 tl u1, .slice t2 tk u2])
   have hT8 := hTy.set #[.int .i64 tc, .int .i64 tg, .bool tm, .slice t1 tl u1, .slice t2 tk u2]
   have hb68 := set_below hb6y (by omega : w6.heap.size ≤ TB) #[.int .i64 tc, .int .i64 tg, .bool tm, .slice t1 tl u1, .slice t2 tk u2]
   rw [hw8] at hT8 hb68
   have HT8 := h_ hT8
   have HOx := h_ (hOy.other hTy.ge (by omega : OB ≠ TB) #[.int .i64 tc, .int .i64 tg, .bool tm, .slice t1 tl u1, .slice t2 tk u2])
   rw [hw8] at HOx
   have HA8 := h_ (HA6.call hb68)
   have HX8 := h_ (HX6.call hb68)
   have Hx8 := h_ (hx.below hb68)
   have Hy8 := h_ (hy.below hb68)
   have Hoid := h_ (qoid_c w8 no S _ OV (u_ Hx8) HwO.1)
   have HOz := h_ hOz
   have HTy := h_ hTy
   have H5o : Hid ((#[.int .i64 oc, .int .i64 og, .bool om, .slice o1 ol r1, .slice o2 ok r2] : Array Value).all (·.oneCell') = true) := by show _ = true; simp [Value.oneCell']
   have H5t : Hid ((#[.int .i64 tc, .int .i64 tg, .bool tm, .slice t1 tl u1, .slice t2 tk u2] : Array Value).all (·.oneCell') = true) := by show _ = true; simp [Value.oneCell']
   clear hx hy hoc hog hom hol hok htc htg htm htl htk hO hT hb7 hbz hb6z hb6y hb68 hb HA6 HX6 HAr HXr Hpair d0 d1 d2 d3 d4 k0 k1 k2 k3 k4 e7 hOz hOy hTy hT8
   go_upto_region 9 with (first
    | (refine wpList_store_row rfl 33 _ _ rfl OB _ rfl rfl 33 _ HOz.res rvalue5p rfl (u_ H5o) ?_; rw [hwy])
    | (refine wpList_store_row rfl 33 _ _ rfl TB _ rfl rfl 33 _ HTy.res rvalue5p rfl (u_ H5t) ?_; rw [hw8]))
   clear hwy hwz H5o H5t HOz HTy
   obtain ⟨y0, y1, y2, y3, y4⟩ := five_at (u_ HOx)
   go_wp2_with fail
   refine Hoid.mono ?_
   rintro e w9 ⟨tt, rfl, htt, hb⟩
   have HT9 := h_ (HT8.call hb)
   have HA9 := h_ (HA8.call hb)
   have HX9 := h_ (HX8.call hb)
   have HBy : Hid (BytesAt w9 (.slice t1 tl u1) TV.bytes) := by
    have h := Hy8.below hb
    cases nt with
    | zero => exact h.elim
    | succ nt =>
     obtain ⟨xb, sk, ck, e, h1, _⟩ := h
     simp only [dcells, List.cons.injEq] at e
     show BytesAt _ _ _
     rw [e.2.2.2.1]
     exact h1
   obtain ⟨OS, hOS⟩ := exq ((oidT OV).isSome)
   rw [hOS]
   have Htt := h_ htt
   clear htt hb Hoid HT8 HA8 HX8 HOx Hx8 Hy8 hw7 hw8 eOB eTB y0 y1 y2 y3 y4
   by_cases hG : PK = true ∧ OS = true
   case neg =>
    have HN : Hid (parseP v = .no 30) := by
     show _ = _
     have hnone : attrP k = none := by
      rw [u_ HAk]
      cases PK with
      | false => rfl
      | true =>
       rw [if_pos rfl]
       cases h : oidT OV with
       | none => rfl
       | some a => rw [h] at hOS; exact absurd ⟨rfl, hOS.symm⟩ hG
     have h1 : attrsP (v.kids.take (i + 1)) = none := by
      rw [List.take_add_one, u_ Hk]
      show attrsP (v.kids.take i ++ [k]) = none
      rw [attrsP_snoc, u_ Hl]
      simp only
      rw [hnone]
     have h2 := attrsP_none _ (v.kids.drop (i + 1)) h1
     rw [List.take_append_drop] at h2
     rw [u_ HP2, h2]
    clear hOS
    cases PK <;> cases OS
    case true.true => exact absurd ⟨rfl, rfl⟩ hG
    all_goals
     clear hG
     go_wp2
     go_ret2
     exact ⟨_, by rw [u_ HN]; rfl, by rw [u_ HN]; exact dn_nil _, HX9.b⟩
   obtain ⟨rfl, rfl⟩ := hG
   obtain ⟨x, hx⟩ := Option.isSome_iff_exists.1 hOS
   have htx := u_ Htt x hx
   have Htx : Hid (bs tt = x) := by show _ = _; rw [htx, bs_st]
   have hag : attrP k = some ((x, TV.bytes), tg) := by
    rw [u_ HAk, if_pos rfl, hx, u_ HTg]
    rfl
   have Hl2 : Hid (attrsP (v.kids.take (i + 1)) = some (l ++ [((x, TV.bytes), tg)])) := by
    show _ = _
    rw [List.take_add_one, u_ Hk]
    show attrsP (v.kids.take i ++ [k]) = _
    rw [attrsP_snoc, u_ Hl]
    simp only
    rw [hag]
   have Hli2 : Hid ((l ++ [((x, TV.bytes), tg)]).length = i + 1) := by show _ = _; rw [List.length_append, u_ Hli]; rfl
   have cv := conv_str (u_ HBy)
   obtain ⟨ts, hts⟩ := exq (st TV.bytes)
   rw [hts] at cv
   have Hts : Hid (bs ts = TV.bytes) := by show _ = _; rw [← hts, bs_st]
   have hsz : ts.size ≤ 1000000 := by
    rw [← bs_len, u_ Hts]
    have h1 := weight_eq TV
    have h2 := HwO.2
    omega
   obtain ⟨P, hP⟩ := exq (textP TV.bytes)
   obtain ⟨Q, hQ⟩ := exq (decide (tg = (textT TV.bytes : Int)))
   obtain ⟨TT, hTT⟩ := exq (textT TV.bytes)
   have q1 : ((TT : Int) != tg) = !Q := by
    rw [← hQ, ← hTT]
    by_cases h : tg = (textT TV.bytes : Int)
    ·rw [decide_eq_true h, h]; simp
    ·rw [decide_eq_false h]; simpa using fun e => h e.symm
   have HnA : Hid (namedA ((x, TV.bytes), tg) = (P && Q)) := by show _ = _; unfold namedA; rw [hP, hQ]
   have Hit : Hid (∀ wr, Calls Tryz.prog 59 #[.string ts] wr fun e w' => e = .returned (.bool P) ∧ Below wr.heap.size wr w') := fun wr => by
    have h := qtexty_c wr ts hsz
    rw [u_ Hts, hP] at h
    exact h
   have Htt2 : Hid (∀ wr, Calls Tryz.prog 60 #[.string ts] wr fun e w' => e = .returned (.int .i64 (TT : Int)) ∧ w' = wr) := fun wr => by
    have h := qkind_c wr ts hsz
    rw [u_ Hts, hTT] at h
    exact h
   have HBa : Hid ([(bs tt, bs ts)] = [(x, TV.bytes)]) := by show _ = _; rw [u_ Htx, u_ Hts]
   have hi16 : i ≤ 16 := by omega
   obtain ⟨y0, y1, y2, y3, y4⟩ := five_at (u_ HT9)
   have HSx : Hid (∀ wr, Below w9.heap.size w9 wr → wr.cell? ⟨TB, 1, none⟩ = some (.int .i64 tg)) := fun wr hb => (HT9.call hb).cell 1 _ rfl
   have HLm : Hid ((l.map (·.1)).length = i ∧ ((l ++ [((x, TV.bytes), tg)]).map (·.1)).length = i + 1 ∧ (l ++ [((x, TV.bytes), tg)]).map (·.1) = l.map (·.1) ++ [(x, TV.bytes)]) := ⟨by rw [List.length_map]; exact u_ Hli, by rw [List.length_map]; exact u_ Hli2, by rw [List.map_append]; rfl⟩
   clear hOS hx htx hag Htt hts hP hQ hTT hsz Hl
   go_upto_region 13 with fail
   clear y0 y1 y2 y3 y4 cv
   cases P with
   | false =>
    have Hu2 : Hid (((l ++ [((x, TV.bytes), tg)]).all namedA = true ∧ 31 = 0) ∨ ((l ++ [((x, TV.bytes), tg)]).all namedA = false ∧ 31 = 31)) := Or.inr ⟨by rw [List.all_append, List.all_cons, u_ HnA]; simp, rfl⟩
    refine wp_region_held_drew (S := fun w' => w'.cell? ⟨TB, 1, none⟩ = some (.int .i64 tg)) (by kernel_rfl) (u_ HSx _ (Below.refl _ _).drew) (fun hHeld => ?_)
    obtain ⟨x0, hx0⟩ := exq w9.drew
    have HB0 : Hid (Below w9.heap.size w9 x0) := by show Below _ _ _; rw [← hx0]; exact (Below.refl _ _).drew
    rw [hx0] at hHeld ⊢
    clear hx0
    refine wpAnyH_take (i := 0) (oi := { dst := some 63, op := .move (.tmp 12), type := 9, pos := "ref.go:223", after := #[], guard := none }) (v := ?_) rfl (by kernel_rfl) (by kernel_rfl) (by kernel_rfl) (fun _ _ _ h => h) (Or.inl ⟨by rfl, ?g1y1⟩) hHeld ?_
    case g1y1 => (intro w_ hSw; (try dsimp only at hSw); go_simp; try with_reducible rfl)
    simp only [Act.put, s1_, s2_, s3_]
    refine wpAnyH_ready (rs := [1]) (by kernel_rfl) (by simp) ?_
    refine (AllReadyH.cons (o := { dst := some 64, op := .call { callee := .value (.func 59), args := #[.tmp 63], argTypes := #[9] }, type := 4, pos := "ref.go:223", after := #[{ on := 0, ground := .data }], guard := none }) rfl (fun K_ hK_ => ?_) AllReadyH.nil)
    go_simp
    go_at_call 59
    refine (u_ Hit x0).mono ?_
    rintro e w11 ⟨rfl, hb⟩
    have HB1 := h_ (HB0.trans (hb.mono HB0.size))
    clear hb
    go_simp
    refine hK_.out _ _ (u_ HSx w11 (u_ HB1)) (fun hHeld => ?_)
    clear hK_ K_
    refine wpAnyH_take (i := 2) (oi := { dst := some 65, op := .unOp .not 4 (.tmp 64), type := 4, pos := "ref.go:223", after := #[{ on := 1, ground := .data }], guard := none }) (v := ?_) rfl (by kernel_rfl) (by kernel_rfl) (by kernel_rfl) (fun _ _ _ h => h) (Or.inl ⟨by rfl, ?g1y2⟩) hHeld ?_
    case g1y2 => (intro w_ hSw; (try dsimp only at hSw); go_simp; try with_reducible rfl)
    simp only [Act.put, s1_, s2_, s3_]
    refine wpAnyH_take (i := 3) (oi := { dst := some 66, op := .move (.tmp 65), type := 4, pos := "ref.go:223", after := #[{ on := 2, ground := .data }, { on := 1, ground := .chain }], guard := none }) (v := ?_) rfl (by kernel_rfl) (by kernel_rfl) (by kernel_rfl) (fun _ _ _ h => h) (Or.inl ⟨by rfl, ?g1y3⟩) hHeld ?_
    case g1y3 => (intro w_ hSw; (try dsimp only at hSw); go_simp; try with_reducible rfl)
    simp only [Act.put, s1_, s2_, s3_]
    refine wpAnyH_take (i := 4) (oi := { dst := some 67, op := .move (.tmp 12), type := 9, pos := "ref.go:223", after := #[{ on := 3, ground := .guard }], guard := some (3, false) }) (v := undef) rfl (by kernel_rfl) (by kernel_rfl) (by kernel_rfl) (fun _ _ _ h => h) (Or.inr ⟨by rfl, rfl⟩) hHeld ?_
    simp only [Act.put, s1_, s2_, s3_]
    refine wpAnyH_take (i := 6) (oi := { dst := some 69, op := .fieldAddr 33 (.tmp 8) 1, type := 0, pos := "ref.go:223", after := #[{ on := 3, ground := .guard }], guard := some (3, false) }) (v := undef) rfl (by kernel_rfl) (by kernel_rfl) (by kernel_rfl) (fun _ _ _ h => h) (Or.inr ⟨by rfl, rfl⟩) hHeld ?_
    simp only [Act.put, s1_, s2_, s3_]
    refine wpAnyH_take (i := 7) (oi := { dst := some 70, op := .load 3 (.tmp 69), type := 3, pos := "ref.go:223", after := #[{ on := 6, ground := .data }, { on := 3, ground := .guard }], guard := some (3, false) }) (v := undef) rfl (by kernel_rfl) (by kernel_rfl) (by kernel_rfl) (fun _ _ _ h => h) (Or.inr ⟨by rfl, rfl⟩) hHeld ?_
    simp only [Act.put, s1_, s2_, s3_]
    refine wpAnyH_take (i := 5) (oi := { dst := some 68, op := .call { callee := .value (.func 60), args := #[.tmp 67], argTypes := #[9] }, type := 3, pos := "ref.go:223", after := #[{ on := 4, ground := .data }, { on := 3, ground := .chain }, { on := 3, ground := .guard }], guard := some (3, false) }) (v := undef) rfl (by kernel_rfl) (by kernel_rfl) (by kernel_rfl) (fun _ _ _ h => h) (Or.inr ⟨by rfl, rfl⟩) hHeld ?_
    simp only [Act.put, s1_, s2_, s3_]
    refine wpAnyH_take (i := 8) (oi := { dst := some 71, op := .binOp .neq 3 (.tmp 68) (.tmp 70) 3, type := 4, pos := "ref.go:223", after := #[{ on := 5, ground := .data }, { on := 7, ground := .data }, { on := 3, ground := .guard }], guard := some (3, false) }) (v := undef) rfl (by kernel_rfl) (by kernel_rfl) (by kernel_rfl) (fun _ _ _ h => h) (Or.inr ⟨by rfl, rfl⟩) hHeld ?_
    simp only [Act.put, s1_, s2_, s3_]
    refine wpAnyH_take (i := 9) (oi := { dst := some 72, op := .pick (.tmp 66) (.const (.bool true)) (.tmp 71), type := 4, pos := "ref.go:223", after := #[{ on := 3, ground := .data }, { on := 8, ground := .data }], guard := none }) (v := ?_) rfl (by kernel_rfl) (by kernel_rfl) (by kernel_rfl) (fun _ _ _ h => h) (Or.inl ⟨by rfl, ?g1y9⟩) hHeld ?_
    case g1y9 => (intro w_ hSw; (try dsimp only at hSw); go_simp; try with_reducible rfl)
    simp only [Act.put, s1_, s2_, s3_]
    refine wpAnyH_done (by kernel_rfl) ?_ _
    clear hHeld
    have HBz := HB1
    have HA10 := h_ (HA9.call (u_ HBz))
    have Hone := h_ (one_qattr w11 tt ts)
    have HA11 := h_ (HA10.call ((Below.refl w11.heap.size w11).alloc (Nat.le_refl _) (.cells #[.string tt, .string ts] 110)))
    go_wp2_with (at_builtin; refine wpList_append_qattrs rfl _ _ rfl (.slice sp i c) (.slice (some ⟨w11.heap.size, 0, none⟩) 1 1) (l.map (·.1)) [(x, TV.bytes)] rfl (u_ HA11) rfl (by rw [← u_ HBa]; exact u_ Hone) (by simp) (by rw [HLm.1]; simp only [List.length_singleton]; omega) ?_
                 intro v3 W3 hR3 _
                 rw [← HLm.2.2] at hR3
                 obtain ⟨p3, q3, rfl⟩ := hR3.form
                 rw [HLm.2.1] at hR3 ⊢
                 have HR3 := h_ hR3
                 clear hR3)
    go_roundw
    case rel =>
     first
      | exact ⟨i + 1, q3, 31, p3, l ++ [((x, TV.bytes), tg)], by omega, rfl, by go_num, by go_num, Hl2, Hli2, Hu2, HR3⟩
      | ((repeat apply Exists.intro); exact ⟨⟨i + 1, q3, 31, p3, l ++ [((x, TV.bytes), tg)], by omega, rfl, by go_num, by go_num, Hl2, Hli2, Hu2, HR3⟩, rfl⟩)
    case measure => simp [intOf]; omega
   | true =>
    cases Q with
    | false =>
     have Hu2 : Hid (((l ++ [((x, TV.bytes), tg)]).all namedA = true ∧ 31 = 0) ∨ ((l ++ [((x, TV.bytes), tg)]).all namedA = false ∧ 31 = 31)) := Or.inr ⟨by rw [List.all_append, List.all_cons, u_ HnA]; simp, rfl⟩
     refine wp_region_held_drew (S := fun w' => w'.cell? ⟨TB, 1, none⟩ = some (.int .i64 tg)) (by kernel_rfl) (u_ HSx _ (Below.refl _ _).drew) (fun hHeld => ?_)
     obtain ⟨x0, hx0⟩ := exq w9.drew
     have HB0 : Hid (Below w9.heap.size w9 x0) := by show Below _ _ _; rw [← hx0]; exact (Below.refl _ _).drew
     rw [hx0] at hHeld ⊢
     clear hx0
     refine wpAnyH_take (i := 0) (oi := { dst := some 63, op := .move (.tmp 12), type := 9, pos := "ref.go:223", after := #[], guard := none }) (v := ?_) rfl (by kernel_rfl) (by kernel_rfl) (by kernel_rfl) (fun _ _ _ h => h) (Or.inl ⟨by rfl, ?g2y1⟩) hHeld ?_
     case g2y1 => (intro w_ hSw; (try dsimp only at hSw); go_simp; try with_reducible rfl)
     simp only [Act.put, s1_, s2_, s3_]
     refine wpAnyH_ready (rs := [1]) (by kernel_rfl) (by simp) ?_
     refine (AllReadyH.cons (o := { dst := some 64, op := .call { callee := .value (.func 59), args := #[.tmp 63], argTypes := #[9] }, type := 4, pos := "ref.go:223", after := #[{ on := 0, ground := .data }], guard := none }) rfl (fun K_ hK_ => ?_) AllReadyH.nil)
     go_simp
     go_at_call 59
     refine (u_ Hit x0).mono ?_
     rintro e w11 ⟨rfl, hb⟩
     have HB1 := h_ (HB0.trans (hb.mono HB0.size))
     clear hb
     go_simp
     refine hK_.out _ _ (u_ HSx w11 (u_ HB1)) (fun hHeld => ?_)
     clear hK_ K_
     refine wpAnyH_take (i := 2) (oi := { dst := some 65, op := .unOp .not 4 (.tmp 64), type := 4, pos := "ref.go:223", after := #[{ on := 1, ground := .data }], guard := none }) (v := ?_) rfl (by kernel_rfl) (by kernel_rfl) (by kernel_rfl) (fun _ _ _ h => h) (Or.inl ⟨by rfl, ?g2y2⟩) hHeld ?_
     case g2y2 => (intro w_ hSw; (try dsimp only at hSw); go_simp; try with_reducible rfl)
     simp only [Act.put, s1_, s2_, s3_]
     refine wpAnyH_take (i := 3) (oi := { dst := some 66, op := .move (.tmp 65), type := 4, pos := "ref.go:223", after := #[{ on := 2, ground := .data }, { on := 1, ground := .chain }], guard := none }) (v := ?_) rfl (by kernel_rfl) (by kernel_rfl) (by kernel_rfl) (fun _ _ _ h => h) (Or.inl ⟨by rfl, ?g2y3⟩) hHeld ?_
     case g2y3 => (intro w_ hSw; (try dsimp only at hSw); go_simp; try with_reducible rfl)
     simp only [Act.put, s1_, s2_, s3_]
     refine wpAnyH_take (i := 4) (oi := { dst := some 67, op := .move (.tmp 12), type := 9, pos := "ref.go:223", after := #[{ on := 3, ground := .guard }], guard := some (3, false) }) (v := ?_) rfl (by kernel_rfl) (by kernel_rfl) (by kernel_rfl) (fun _ _ _ h => h) (Or.inl ⟨by rfl, ?g2y4⟩) hHeld ?_
     case g2y4 => (intro w_ hSw; (try dsimp only at hSw); go_simp; try with_reducible rfl)
     simp only [Act.put, s1_, s2_, s3_]
     refine wpAnyH_take (i := 6) (oi := { dst := some 69, op := .fieldAddr 33 (.tmp 8) 1, type := 0, pos := "ref.go:223", after := #[{ on := 3, ground := .guard }], guard := some (3, false) }) (v := ?_) rfl (by kernel_rfl) (by kernel_rfl) (by kernel_rfl) (fun _ _ _ h => h) (Or.inl ⟨by rfl, ?g2y5⟩) hHeld ?_
     case g2y5 => (intro w_ hSw; (try dsimp only at hSw); go_simp; try with_reducible rfl)
     simp only [Act.put, s1_, s2_, s3_]
     refine wpAnyH_take (i := 7) (oi := { dst := some 70, op := .load 3 (.tmp 69), type := 3, pos := "ref.go:223", after := #[{ on := 6, ground := .data }, { on := 3, ground := .guard }], guard := some (3, false) }) (v := ?_) rfl (by kernel_rfl) (by kernel_rfl) (by kernel_rfl) (fun _ _ _ h => h) (Or.inl ⟨by rfl, ?g2y6⟩) hHeld ?_
     case g2y6 => (intro w_ hSw; (try dsimp only at hSw); go_simp; try with_reducible rfl)
     simp only [Act.put, s1_, s2_, s3_]
     refine wpAnyH_ready (rs := [5]) (by kernel_rfl) (by simp) ?_
     refine (AllReadyH.cons (o := { dst := some 68, op := .call { callee := .value (.func 60), args := #[.tmp 67], argTypes := #[9] }, type := 3, pos := "ref.go:223", after := #[{ on := 4, ground := .data }, { on := 3, ground := .chain }, { on := 3, ground := .guard }], guard := some (3, false) }) rfl (fun K_ hK_ => ?_) AllReadyH.nil)
     go_simp
     go_at_call 60
     refine (u_ Htt2 w11).mono ?_
     rintro e w12 ⟨rfl, hw12⟩
     have hw12s := hw12.symm
     subst hw12s
     go_simp
     refine hK_.out _ _ (u_ HSx _ (u_ HB1)) (fun hHeld => ?_)
     clear hK_ K_
     refine wpAnyH_take (i := 8) (oi := { dst := some 71, op := .binOp .neq 3 (.tmp 68) (.tmp 70) 3, type := 4, pos := "ref.go:223", after := #[{ on := 5, ground := .data }, { on := 7, ground := .data }, { on := 3, ground := .guard }], guard := some (3, false) }) (v := ?_) rfl (by kernel_rfl) (by kernel_rfl) (by kernel_rfl) (fun _ _ _ h => h) (Or.inl ⟨by rfl, ?g2y7⟩) hHeld ?_
     case g2y7 => (intro w_ hSw; (try dsimp only at hSw); go_simp; try with_reducible rfl)
     simp only [Act.put, s1_, s2_, s3_]
     refine wpAnyH_take (i := 9) (oi := { dst := some 72, op := .pick (.tmp 66) (.const (.bool true)) (.tmp 71), type := 4, pos := "ref.go:223", after := #[{ on := 3, ground := .data }, { on := 8, ground := .data }], guard := none }) (v := ?_) rfl (by kernel_rfl) (by kernel_rfl) (by kernel_rfl) (fun _ _ _ h => h) (Or.inl ⟨by rfl, ?g2y8⟩) hHeld ?_
     case g2y8 => (intro w_ hSw; (try dsimp only at hSw); go_simp; try with_reducible rfl)
     simp only [Act.put, s1_, s2_, s3_]
     refine wpAnyH_done (by kernel_rfl) ?_ _
     clear hHeld
     have HBz := HB1
     have HA10 := h_ (HA9.call (u_ HBz))
     have Hone := h_ (one_qattr w11 tt ts)
     have HA11 := h_ (HA10.call ((Below.refl w11.heap.size w11).alloc (Nat.le_refl _) (.cells #[.string tt, .string ts] 110)))
     go_wp2_with (at_builtin; refine wpList_append_qattrs rfl _ _ rfl (.slice sp i c) (.slice (some ⟨w11.heap.size, 0, none⟩) 1 1) (l.map (·.1)) [(x, TV.bytes)] rfl (u_ HA11) rfl (by rw [← u_ HBa]; exact u_ Hone) (by simp) (by rw [HLm.1]; simp only [List.length_singleton]; omega) ?_
                  intro v3 W3 hR3 _
                  rw [← HLm.2.2] at hR3
                  obtain ⟨p3, q3, rfl⟩ := hR3.form
                  rw [HLm.2.1] at hR3 ⊢
                  have HR3 := h_ hR3
                  clear hR3)
     go_roundw
     case rel =>
      first
       | exact ⟨i + 1, q3, 31, p3, l ++ [((x, TV.bytes), tg)], by omega, rfl, by go_num, by go_num, Hl2, Hli2, Hu2, HR3⟩
       | ((repeat apply Exists.intro); exact ⟨⟨i + 1, q3, 31, p3, l ++ [((x, TV.bytes), tg)], by omega, rfl, by go_num, by go_num, Hl2, Hli2, Hu2, HR3⟩, rfl⟩)
     case measure => simp [intOf]; omega
    | true =>
     have Hu2 : Hid (((l ++ [((x, TV.bytes), tg)]).all namedA = true ∧ U = 0) ∨ ((l ++ [((x, TV.bytes), tg)]).all namedA = false ∧ U = 31)) := by
      rcases u_ Hu with ⟨h1, h2⟩ | ⟨h1, h2⟩
      ·exact Or.inl ⟨by rw [List.all_append, h1, List.all_cons, u_ HnA]; rfl, h2⟩
      ·exact Or.inr ⟨by rw [List.all_append, h1]; rfl, h2⟩
     refine wp_region_held_drew (S := fun w' => w'.cell? ⟨TB, 1, none⟩ = some (.int .i64 tg)) (by kernel_rfl) (u_ HSx _ (Below.refl _ _).drew) (fun hHeld => ?_)
     obtain ⟨x0, hx0⟩ := exq w9.drew
     have HB0 : Hid (Below w9.heap.size w9 x0) := by show Below _ _ _; rw [← hx0]; exact (Below.refl _ _).drew
     rw [hx0] at hHeld ⊢
     clear hx0
     refine wpAnyH_take (i := 0) (oi := { dst := some 63, op := .move (.tmp 12), type := 9, pos := "ref.go:223", after := #[], guard := none }) (v := ?_) rfl (by kernel_rfl) (by kernel_rfl) (by kernel_rfl) (fun _ _ _ h => h) (Or.inl ⟨by rfl, ?g3y1⟩) hHeld ?_
     case g3y1 => (intro w_ hSw; (try dsimp only at hSw); go_simp; try with_reducible rfl)
     simp only [Act.put, s1_, s2_, s3_]
     refine wpAnyH_ready (rs := [1]) (by kernel_rfl) (by simp) ?_
     refine (AllReadyH.cons (o := { dst := some 64, op := .call { callee := .value (.func 59), args := #[.tmp 63], argTypes := #[9] }, type := 4, pos := "ref.go:223", after := #[{ on := 0, ground := .data }], guard := none }) rfl (fun K_ hK_ => ?_) AllReadyH.nil)
     go_simp
     go_at_call 59
     refine (u_ Hit x0).mono ?_
     rintro e w11 ⟨rfl, hb⟩
     have HB1 := h_ (HB0.trans (hb.mono HB0.size))
     clear hb
     go_simp
     refine hK_.out _ _ (u_ HSx w11 (u_ HB1)) (fun hHeld => ?_)
     clear hK_ K_
     refine wpAnyH_take (i := 2) (oi := { dst := some 65, op := .unOp .not 4 (.tmp 64), type := 4, pos := "ref.go:223", after := #[{ on := 1, ground := .data }], guard := none }) (v := ?_) rfl (by kernel_rfl) (by kernel_rfl) (by kernel_rfl) (fun _ _ _ h => h) (Or.inl ⟨by rfl, ?g3y2⟩) hHeld ?_
     case g3y2 => (intro w_ hSw; (try dsimp only at hSw); go_simp; try with_reducible rfl)
     simp only [Act.put, s1_, s2_, s3_]
     refine wpAnyH_take (i := 3) (oi := { dst := some 66, op := .move (.tmp 65), type := 4, pos := "ref.go:223", after := #[{ on := 2, ground := .data }, { on := 1, ground := .chain }], guard := none }) (v := ?_) rfl (by kernel_rfl) (by kernel_rfl) (by kernel_rfl) (fun _ _ _ h => h) (Or.inl ⟨by rfl, ?g3y3⟩) hHeld ?_
     case g3y3 => (intro w_ hSw; (try dsimp only at hSw); go_simp; try with_reducible rfl)
     simp only [Act.put, s1_, s2_, s3_]
     refine wpAnyH_take (i := 4) (oi := { dst := some 67, op := .move (.tmp 12), type := 9, pos := "ref.go:223", after := #[{ on := 3, ground := .guard }], guard := some (3, false) }) (v := ?_) rfl (by kernel_rfl) (by kernel_rfl) (by kernel_rfl) (fun _ _ _ h => h) (Or.inl ⟨by rfl, ?g3y4⟩) hHeld ?_
     case g3y4 => (intro w_ hSw; (try dsimp only at hSw); go_simp; try with_reducible rfl)
     simp only [Act.put, s1_, s2_, s3_]
     refine wpAnyH_take (i := 6) (oi := { dst := some 69, op := .fieldAddr 33 (.tmp 8) 1, type := 0, pos := "ref.go:223", after := #[{ on := 3, ground := .guard }], guard := some (3, false) }) (v := ?_) rfl (by kernel_rfl) (by kernel_rfl) (by kernel_rfl) (fun _ _ _ h => h) (Or.inl ⟨by rfl, ?g3y5⟩) hHeld ?_
     case g3y5 => (intro w_ hSw; (try dsimp only at hSw); go_simp; try with_reducible rfl)
     simp only [Act.put, s1_, s2_, s3_]
     refine wpAnyH_take (i := 7) (oi := { dst := some 70, op := .load 3 (.tmp 69), type := 3, pos := "ref.go:223", after := #[{ on := 6, ground := .data }, { on := 3, ground := .guard }], guard := some (3, false) }) (v := ?_) rfl (by kernel_rfl) (by kernel_rfl) (by kernel_rfl) (fun _ _ _ h => h) (Or.inl ⟨by rfl, ?g3y6⟩) hHeld ?_
     case g3y6 => (intro w_ hSw; (try dsimp only at hSw); go_simp; try with_reducible rfl)
     simp only [Act.put, s1_, s2_, s3_]
     refine wpAnyH_ready (rs := [5]) (by kernel_rfl) (by simp) ?_
     refine (AllReadyH.cons (o := { dst := some 68, op := .call { callee := .value (.func 60), args := #[.tmp 67], argTypes := #[9] }, type := 3, pos := "ref.go:223", after := #[{ on := 4, ground := .data }, { on := 3, ground := .chain }, { on := 3, ground := .guard }], guard := some (3, false) }) rfl (fun K_ hK_ => ?_) AllReadyH.nil)
     go_simp
     go_at_call 60
     refine (u_ Htt2 w11).mono ?_
     rintro e w12 ⟨rfl, hw12⟩
     have hw12s := hw12.symm
     subst hw12s
     go_simp
     refine hK_.out _ _ (u_ HSx _ (u_ HB1)) (fun hHeld => ?_)
     clear hK_ K_
     refine wpAnyH_take (i := 8) (oi := { dst := some 71, op := .binOp .neq 3 (.tmp 68) (.tmp 70) 3, type := 4, pos := "ref.go:223", after := #[{ on := 5, ground := .data }, { on := 7, ground := .data }, { on := 3, ground := .guard }], guard := some (3, false) }) (v := ?_) rfl (by kernel_rfl) (by kernel_rfl) (by kernel_rfl) (fun _ _ _ h => h) (Or.inl ⟨by rfl, ?g3y7⟩) hHeld ?_
     case g3y7 => (intro w_ hSw; (try dsimp only at hSw); go_simp; try with_reducible rfl)
     simp only [Act.put, s1_, s2_, s3_]
     refine wpAnyH_take (i := 9) (oi := { dst := some 72, op := .pick (.tmp 66) (.const (.bool true)) (.tmp 71), type := 4, pos := "ref.go:223", after := #[{ on := 3, ground := .data }, { on := 8, ground := .data }], guard := none }) (v := ?_) rfl (by kernel_rfl) (by kernel_rfl) (by kernel_rfl) (fun _ _ _ h => h) (Or.inl ⟨by rfl, ?g3y8⟩) hHeld ?_
     case g3y8 => (intro w_ hSw; (try dsimp only at hSw); go_simp; try with_reducible rfl)
     simp only [Act.put, s1_, s2_, s3_]
     refine wpAnyH_done (by kernel_rfl) ?_ _
     clear hHeld
     have HBz := HB1
     have HA10 := h_ (HA9.call (u_ HBz))
     have Hone := h_ (one_qattr w11 tt ts)
     have HA11 := h_ (HA10.call ((Below.refl w11.heap.size w11).alloc (Nat.le_refl _) (.cells #[.string tt, .string ts] 110)))
     go_wp2_with (at_builtin; refine wpList_append_qattrs rfl _ _ rfl (.slice sp i c) (.slice (some ⟨w11.heap.size, 0, none⟩) 1 1) (l.map (·.1)) [(x, TV.bytes)] rfl (u_ HA11) rfl (by rw [← u_ HBa]; exact u_ Hone) (by simp) (by rw [HLm.1]; simp only [List.length_singleton]; omega) ?_
                  intro v3 W3 hR3 _
                  rw [← HLm.2.2] at hR3
                  obtain ⟨p3, q3, rfl⟩ := hR3.form
                  rw [HLm.2.1] at hR3 ⊢
                  have HR3 := h_ hR3
                  clear hR3)
     go_roundw
     case rel =>
      first
       | exact ⟨i + 1, q3, U, p3, l ++ [((x, TV.bytes), tg)], by omega, rfl, by go_num, by go_num, Hl2, Hli2, Hu2, HR3⟩
       | ((repeat apply Exists.intro); exact ⟨⟨i + 1, q3, U, p3, l ++ [((x, TV.bytes), tg)], by omega, rfl, by go_num, by go_num, Hl2, Hli2, Hu2, HR3⟩, rfl⟩)
     case measure => simp [intOf]; omega
  ·obtain ⟨f1, f1n⟩ := ltVVf i kk
   have hall : attrsP v.kids = some l := by
    have h := u_ Hl
    rw [List.take_of_length_le (by have := u_ Hkk; omega)] at h
    exact h
   rcases u_ Hu with ⟨h1, rfl⟩ | ⟨h1, rfl⟩
   ·have HN : Hid (parseP v = .yes (l.map (·.1))) := by show _ = _; rw [u_ HP2, hall]; simp only; rw [if_pos h1]
    clear hall h1
    go_wp2
    go_ret2
    exact ⟨_, by rw [u_ HN]; rfl, by rw [u_ HN]; exact HAr.dn, u_ HBr⟩
   ·have HN : Hid (parseP v = .no 31) := by show _ = _; rw [u_ HP2, hall]; simp only; rw [if_neg (by rw [h1]; simp)]
    clear hall h1
    go_wp2
    go_ret2
    exact ⟨_, by rw [u_ HN]; rfl, by rw [u_ HN]; exact dn_nil _, u_ HBr⟩
end Q
end Go.Proofs.YtcofnockikninaaGreatDoor
