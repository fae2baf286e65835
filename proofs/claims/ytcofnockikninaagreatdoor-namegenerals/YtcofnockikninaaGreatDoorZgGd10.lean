/- Parts of the walk. -/
import Derived.Test.YtcofnockikninaaGreatDoorZgPq10
import Derived.Test.YtcofnockikninaaGreatDoorZgPc10
import Derived.Test.YtcofnockikninaaGreatDoorZgRe10
import Derived.Test.YtcofnockikninaaGreatDoorZgRf10
set_option maxRecDepth 100000
set_option maxHeartbeats 16000000
namespace Go.Proofs.YtcofnockikninaaGreatDoor
open Go.RowKit
theorem dn_bounds {d : List (Bs × Bs)} {v : DV} (h : dnV d = .yes v) : d.length ≤ 16 ∧ ∀ a ∈ d, a.1.length ≤ 1000 ∧ a.2.length ≤ 64 := by
 obtain ⟨h1, h2, h3, _⟩ := dnV_open h
 refine ⟨h1, fun a ha => ⟨?_, ?_⟩⟩
 ·obtain ⟨gs, hg⟩ := Option.isSome_iff_exists.1 (h2 a ha)
  have hT := oidT_V a.1
  rw [hg] at hT
  exact oidT_len hT
 ·have a3 := h3 a ha
  unfold textP at a3
  simp only [Bool.and_eq_true, decide_eq_true_eq] at a3
  exact a3.1.2
theorem attrs_weight : ∀ {d : List (Bs × Bs)}, (∀ a ∈ d, a.1.length ≤ 1000 ∧ a.2.length ≤ 64) → weights (d.map attrDV) ≤ d.length * 1100
 | [], _ => by simp [weights]
 | a :: d, h => by
  have ih := attrs_weight (d := d) (fun x hx => h x (List.mem_cons_of_mem _ hx))
  have h1 := oidV_weight a.1
  have h2 := (h a List.mem_cons_self).2
  have h3 : weight (attrDV a) = 3 + weight (oidV a.1) + a.2.length := by unfold attrDV pairDV; simp only [weight, weights, List.length_nil]; omega
  rw [List.map_cons]
  simp only [weights, List.length_cons]
  omega
theorem dnV_weight (d : List (Bs × Bs)) : weight (valOf (dnV d)) ≤ 20000 := by
 cases h : dnV d with
 | no e => show weight (.mk 0 0 false [] []) ≤ _; decide
 | yes v =>
  obtain ⟨h1, h2⟩ := dn_bounds h
  have h3 := attrs_weight h2
  show weight v ≤ _
  rw [(dnV_open h).2.2.2]
  simp only [weight, List.length_nil]
  omega
namespace Q
open N K
end Q
theorem dn_kept {a b : World} {x : Value} {d : List (Bs × Bs)} {G : Nat} {i0 : Int} {s0 : ByteArray} {p : Option Addr} {q r : Nat} {T : TypeId} (h : DnAt a x d) (hG : a.heap[G]? = some (.cells #[.int .i64 i0, .string s0, .slice p q r] T (0, 0))) (hg : a.grownBy b (some G)) : DnAt b x d := by
 obtain ⟨sp, c, rfl, h1, h2, h3⟩ := h
 refine ⟨sp, c, rfl, h1, h2, fun hd => ?_⟩
 obtain ⟨bb, o, e, hc⟩ := h3 hd
 have hne : bb ≠ G := by
  intro e2
  subst e2
  obtain ⟨y, hy⟩ : ∃ y, d[0]? = some y := by
   match d, hd with
   | y :: _, _ => exact ⟨y, rfl⟩
  obtain ⟨k1, k2⟩ := hc 0 y hy
  rw [cell_of_row _ _ _ _ T (0, 0) hG] at k1 k2
  match o, k1, k2 with
  | 0, k1, _ => simp at k1
  | 1, _, k2 => simp at k2
  | 2, k1, _ => simp at k1
  | o + 3, k1, _ => simp at k1
 refine ⟨bb, o, e, fun i y hi => ?_⟩
 obtain ⟨k1, k2⟩ := hc i y hi
 have hb : b.heap[bb]? = a.heap[bb]? := hg.block bb (World.block_lt_of_cell? _ _ k1) (fun e => hne (by simpa using e))
 exact ⟨by rw [World.cell?_of_block hb]; exact k1, by rw [World.cell?_of_block hb]; exact k2⟩
theorem bytes_of_val {n : Nat} {S : Nat → Prop} {w : World} {c t : Int} {m : Bool} {x : Value} {xk : Value} {v : DV} (h : VAt n S w (dcells c t m x xk) v) : BytesAt w x v.bytes := by
 cases n with
 | zero => exact h.elim
 | succ n =>
  obtain ⟨xb, sk, ck, e, h1, _⟩ := h
  simp only [dcells, List.cons.injEq] at e
  rw [e.2.2.2.1]
  exact h1
namespace N
open K
theorem hasform_c (w : World) (kc kt : Int) (km : Bool) (s1 s2 : Option Addr) (kl kk c1 c2 : Nat) : Calls Tryz.prog 63 #[.agg #[.int .i64 kc, .int .i64 kt, .bool km, .slice s1 kl c1, .slice s2 kk c2]] w fun e w' => e = .returned (.bool (decide (kc = 2) && kindP kt && (if kt = 4 then km && decide (kk = 1) else !km))) ∧ Below w.heap.size w w' := by
 obtain ⟨w1, X, hw1, eX, hA⟩ := blkN (Below.refl w.heap.size w) #[.int .i64 kc, .int .i64 kt, .bool km, .slice s1 kl c1, .slice s2 kk c2] 25
 obtain ⟨k0, k1, k2, k3, k4⟩ := five_at hA
 have HA := h_ hA
 clear hA
 obtain ⟨KP, hKP⟩ := exq (kindP kt)
 have Hk := h_ (iskind_c w1 kt)
 rw [hKP] at Hk
 by_cases g1 : kc = 2
 case neg =>
  have z1 : (kc != 2) = true := by simpa using g1
  have z2 : (kc == 2) = false := by simpa using g1
  have HE : Hid ((decide (kc = 2) && KP && (if kt = 4 then km && decide (kk = 1) else !km)) = false) := by show _ = _; rw [decide_eq_false g1]; rfl
  rw [hKP, u_ HE]
  clear g1 HE hKP
  go_enter Tryz.func63, Tryz.ntmps63
  go_wp2
  go_ret
  exact ⟨rfl, HA.b⟩
 subst g1
 rw [hKP, decide_eq_true rfl, Bool.true_and]
 cases KP with
 | false =>
  rw [Bool.false_and]
  clear hKP
  go_enter Tryz.func63, Tryz.ntmps63
  go_wp2_with (go_at_call 67; refine Hk.mono ?_; rintro e w2 ⟨rfl, hw⟩; have := hw.symm; subst this)
  go_ret
  exact ⟨rfl, HA.b⟩
 | true =>
 rw [Bool.true_and]
 by_cases g4 : kt = 4
 ·rw [if_pos g4]
  subst g4
  obtain ⟨D, hD⟩ := exq (decide (kk = 1))
  have z1 : ((kk : Int) == 1) = D := by rw [← hD]; by_cases h : kk = 1 <;> simp [h] <;> omega
  rw [hD]
  clear hD hKP
  cases km <;>
   (go_enter Tryz.func63, Tryz.ntmps63
    go_wp2_with (go_at_call 67; refine Hk.mono ?_; rintro e w2 ⟨rfl, hw⟩; have := hw.symm; subst this)
    go_ret
    exact ⟨by cases D <;> rfl, HA.b⟩)
 ·rw [if_neg g4]
  have z1 : (kt == 4) = false := by simpa using g4
  clear g4 hKP
  go_enter Tryz.func63, Tryz.ntmps63
  go_wp2_with (go_at_call 67; refine Hk.mono ?_; rintro e w2 ⟨rfl, hw⟩; have := hw.symm; subst this)
  go_ret
  exact ⟨rfl, HA.b⟩
end N
theorem gen3 : (Tryz.prog.info? 56).map (·.size) = some 3 := by kernel_rfl
namespace N
open K
theorem parseg_c (w : World) (hRd : Rdy w) (S : Nat → Prop) (cs : List Value) (v : DV) (hv : ValAt S w cs v) (hw : weight v ≤ 1000000) (limit : Bool) :
  Calls Tryz.prog 29 #[.agg cs.toArray, .bool limit] w fun e w' => ∃ ds : List Value, e = .returned (.tuple #[.agg ds.toArray, .int .i64 (errOf (parseG limit v) : Int)]) ∧ GenAt w' ds (genTold (parseG limit v)) ∧ Below w.heap.size w w' := by
 obtain ⟨n, hv⟩ := hv
 obtain ⟨s1, c1, s2, c2, rfl⟩ := hv.form
 obtain ⟨kc, kt, km, kl, kk, hkc, hkt, hkm, hkl, hkk⟩ := ex5 v
 rw [hkc, hkt, hkm, hkl, hkk] at hv ⊢
 obtain ⟨w1, X, hw1, eX, hA⟩ := blkN (Below.refl w.heap.size w) #[.int .i64 kc, .int .i64 kt, .bool km, .slice s1 kl c1, .slice s2 kk c2] 25
 have hR := Blk.new hA.b #[.int .i64 0, .string { data := #[] }, .slice none 0 0] 56
 have hA2 := hA.lit (.cells #[.int .i64 0, .string { data := #[] }, .slice none 0 0] 56)
 obtain ⟨w2, hw2⟩ : ∃ x, w1.alloc (.cells #[.int .i64 0, .string { data := #[] }, .slice none 0 0] 56) = x := ⟨_, rfl⟩
 obtain ⟨R, eR⟩ := exq w1.heap.size
 rw [hw2, eR] at hR
 rw [hw2] at hA2
 have HV : Hid (∀ wr, Below w.heap.size w wr → VAt n S wr (dcells kc kt km (.slice s1 kl c1) (.slice s2 kk c2)) v) := fun wr hb => hv.below hb
 obtain ⟨RV, hRV⟩ := exq (rightV v)
 obtain ⟨HF, hHF⟩ := exq (hasF v)
 have HP : Hid (parseG limit v = if HF = true ∧ RV = true then inner1 limit v else .no 30) := by show _ = _; unfold parseG; rw [hHF, hRV]
 have HFo : Hid (HF = true → kc = 2 ∧ kindP kt = true ∧ ((kt = 4 ∧ km = true ∧ kk = 1) ∨ (kt ≠ 4 ∧ km = false))) := fun h => by
  have h2 := hasForm_open (hHF.trans h)
  rw [hkc, hkt, hkm, hkk] at h2
  exact h2
 have HFd : Hid ((decide (kc = 2) && kindP kt && (if kt = 4 then km && decide (kk = 1) else !km)) = HF) := by
  show _ = _
  rw [← hHF]
  unfold hasF
  rw [hkc, hkt, hkm, hkk]
 have HI4 : Hid (kt = 4 → inner1 limit v = (match parseP (kid0 v) with | .no _ => .no 31 | .yes d => named1 limit ⟨4, v.bytes, d⟩)) := fun h => by
  have e := inner1_4 (limit := limit) (hkt.trans h)
  rw [hkt, h] at e
  exact e
 have HI : Hid (kt ≠ 4 → inner1 limit v = named1 limit ⟨kt, v.bytes, []⟩) := fun h => by
  rw [inner1_n (fun e => h (hkt.symm.trans e)), hkt]
 have H3 : Hid ((#[.int .i64 0, .string { data := #[] }, .slice none 0 0] : Array Value).all (·.oneCell') = true) := by show _ = true; simp [Value.oneCell']
 have Hkk : Hid (v.kids.length = kk) := hkk
 have Hw := h_ hw
 have HA2 := h_ hA2
 have HR2 := h_ hR
 obtain ⟨k0, k1, k2, k3, k4⟩ := five_at hA2
 have Hhf := h_ (hasform_c w2 kc kt km s1 s2 kl kk c1 c2)
 rw [u_ HFd] at Hhf
 have Hri : Hid (∀ wr, Below w.heap.size w wr → Calls Tryz.prog 37 #[.agg #[.int .i64 kc, .int .i64 kt, .bool km, .slice s1 kl c1, .slice s2 kk c2]] wr fun e w' => e = .returned (.bool RV) ∧ Below wr.heap.size wr w') := fun wr hb => by
  have h := isright_c wr S _ v (hRd.below hb).tabs ⟨n, hv.below hb⟩ hw
  rw [hRV] at h
  exact h
 have HRd : Hid (∀ wr, Below w.heap.size w wr → Rdy wr) := fun wr hb => hRd.below hb
 have HRV := h_ hRV
 have Hmade : Hid (km = true → v.made = true) := fun h => hkm.trans h
 unfold dcells
 clear hA hA2 hR hv hRd hw hkc hkt hkm hkl hkk hRV hHF
 go_enter Tryz.func29, Tryz.ntmps29
 go_wp2_with fail
 refine Hhf.mono ?_
 rintro e w3 ⟨rfl, hb⟩
 have HA3 := h_ (HA2.call hb)
 have HR3 := h_ (HR2.call hb)
 clear hb k0 k1 k2 k3 k4 hw1 hw2 eR eX HA2 HR2 Hhf
 obtain ⟨k0, k1, k2, k3, k4⟩ := five_at (u_ HA3)
 cases HF with
 | false =>
  have HN : Hid (parseG limit v = .no 30) := by show _ = _; rw [u_ HP, if_neg (fun h => by cases h.1)]
  have HRz := HR3
  go_upto_region 2 with fail
  go_wp2_with (refine wpList_store_row rfl 56 _ _ rfl R _ rfl rfl 56 _ HRz.res gen3 rfl (u_ H3) ?_)
  exact bodyPost_ret (res_row_tmp Tryz.results29 _ _ R 56 #[.int .i64 0, .string { data := #[] }, .slice none 0 0] (0, 0) _ rfl (HRz.set #[.int .i64 0, .string { data := #[] }, .slice none 0 0]).res Tryz.underlying56 rfl gen3 _ rfl) rfl ⟨[.int .i64 0, .string { data := #[] }, .slice none 0 0], by rw [u_ HN]; rfl, by rw [u_ HN]; exact ⟨{ data := #[] }, none, 0, rfl, rfl, dn_nil _⟩, (HRz.set #[.int .i64 0, .string { data := #[] }, .slice none 0 0]).b⟩
 | true =>
 go_wp2_with fail
 refine (u_ Hri w3 HA3.b).mono ?_
 rintro e w4 ⟨rfl, hb⟩
 have HA4 := h_ (HA3.call hb)
 have HR4 := h_ (HR3.call hb)
 clear hb k0 k1 k2 k3 k4 HA3 HR3 Hri
 cases RV with
 | false =>
  have HN : Hid (parseG limit v = .no 30) := by show _ = _; rw [u_ HP, if_neg (fun h => by cases h.2)]
  have HRz := HR4
  go_upto_region 2 with fail
  go_wp2_with (refine wpList_store_row rfl 56 _ _ rfl R _ rfl rfl 56 _ HRz.res gen3 rfl (u_ H3) ?_)
  exact bodyPost_ret (res_row_tmp Tryz.results29 _ _ R 56 #[.int .i64 0, .string { data := #[] }, .slice none 0 0] (0, 0) _ rfl (HRz.set #[.int .i64 0, .string { data := #[] }, .slice none 0 0]).res Tryz.underlying56 rfl gen3 _ rfl) rfl ⟨[.int .i64 0, .string { data := #[] }, .slice none 0 0], by rw [u_ HN]; rfl, by rw [u_ HN]; exact ⟨{ data := #[] }, none, 0, rfl, rfl, dn_nil _⟩, (HRz.set #[.int .i64 0, .string { data := #[] }, .slice none 0 0]).b⟩
 | true =>
 have HRt : Hid (rightV v = true) := HRV
 have HPI : Hid (parseG limit v = inner1 limit v) := by show _ = _; rw [u_ HP, if_pos (by simp)]
 have HBy := h_ (bytes_of_val (u_ HV w4 HA4.b))
 have cv := conv_str (u_ HBy)
 obtain ⟨tx, htx⟩ := exq (st v.bytes)
 rw [htx] at cv
 have Htx : Hid (bs tx = v.bytes) := by show _ = _; rw [← htx, bs_st]
 have Hts : Hid (tx.size ≤ 1000000) := by
  have h1 : weight v = 1 + v.bytes.length + weights v.kids := by cases v; simp only [weight, DV.bytes, DV.kids]
  have h2 := u_ Hw
  show _ ≤ _
  rw [← bs_len, u_ Htx]
  omega
 clear htx HP HFd HRV
 obtain ⟨_, _, hcase⟩ := u_ HFo (by simp)
 rcases hcase with ⟨rfl, rfl, rfl⟩ | ⟨hn4, rfl⟩
 ·obtain ⟨kd, hkd⟩ : ∃ kd, v.kids[0]? = some kd := ⟨_, List.getElem?_eq_getElem (by have := u_ Hkk; omega)⟩
  have hk0 : kid0 v = kd := by unfold kid0; rw [List.getD_eq_getElem?_getD, hkd]; rfl
  have hwk : weight kd ≤ 1000000 := by
   have h1 := weight_kid hkd
   have h2 : weight v = 1 + v.bytes.length + weights v.kids := by cases v; simp only [weight, DV.bytes, DV.kids]
   have h3 := u_ Hw
   omega
  have hnil : v.bytes = [] := by
   obtain ⟨x, hx⟩ := rightV_open (u_ HRt)
   have hm := u_ Hmade rfl
   cases hvv : v with
   | mk c t m b ks =>
    rw [hvv] at hx hm
    obtain ⟨_, _, _, _, _, h6, _⟩ := write_open hx
    exact h6 hm
  obtain ⟨b, o, ds, rfl, hcd, hvk⟩ := kid_at (u_ HV w4 HA4.b) hkd
  obtain ⟨nk, hvk⟩ := hvk
  obtain ⟨p1, q1, p2, q2, rfl⟩ := hvk.form
  obtain ⟨pc, pt, pm, pl, pk, hpc, hpt, hpm, hpl, hpk⟩ := ex5 kd
  rw [hpc, hpt, hpm, hpl, hpk] at hvk hcd
  rw [Nat.zero_mul, Nat.add_zero] at hcd
  obtain ⟨w5, hw5⟩ := exq (w4.alloc (.cells #[.int .i64 4, .string tx, .slice none 0 0] 56))
  obtain ⟨G, eG⟩ := exq w4.heap.size
  have hG := Blk.new HA4.b #[.int .i64 4, .string tx, .slice none 0 0] 56
  have hb5 := allocB hw5
  rw [hw5, eG] at hG
  have HA5 := h_ (HA4.call hb5)
  have HR5 := h_ (HR4.call hb5)
  have HG5 := h_ hG
  have HGR : Hid (R < G) := by show _ < _; have := HR4.lt; omega
  obtain ⟨m0, m1, m2, m3, m4⟩ := five_at (u_ HA5)
  obtain ⟨d0, d1, d2, d3, d4⟩ := (hcd.below hb5).five
  obtain ⟨k0, k1, k2, k3, k4⟩ := five_at (u_ HA4)
  have HPd := h_ (parsedn_c w5 (u_ HRd w5 HA5.b) S _ kd ⟨nk, hvk.below hb5⟩ hwk)
  obtain ⟨PE, hPE⟩ := exq (errOf (parseP kd))
  obtain ⟨PD, hPD⟩ := exq (dnTold (parseP kd))
  unfold ParseA at HPd
  rw [hPE, hPD] at HPd
  unfold dcells at HPd
  have HI2 : Hid (parseG limit v = match parseP kd with | .no _ => .no 31 | .yes d => named1 limit ⟨4, [], d⟩) := by show _ = _; rw [u_ HPI, u_ HI4 rfl, hk0, hnil]
  have Htx0 : Hid (bs tx = []) := by show _ = _; rw [u_ Htx, hnil]
  have HPl : Hid (PD.length ≤ 1000000) := by show _ ≤ _; rw [← hPD]; have := dnTold_len kd; omega
  have HPe := h_ hPE
  have HPdd := h_ hPD
  have Hw5 := h_ hw5
  rw [← hw5] at m0 m1 m2 m3 m4 d0 d1 d2 d3 d4
  clear hkd hk0 hwk hnil hcd hvk hpc hpt hpm hpl hpk hG hb5 hPE hPD hw5 HA4 HR4
  go_wp2_with fail
  rw [u_ Hw5]
  refine HPd.mono ?_
  rintro e w6 ⟨x6, rfl, hx6, hb⟩
  obtain ⟨sd, cd, rfl⟩ := hx6.form
  obtain ⟨ND, hND⟩ := exq PD.length
  rw [hND] at hx6 HPl ⊢
  have HND := h_ hND
  have HR6 := h_ (HR5.call hb)
  have HG6 := h_ (HG5.call hb)
  have HD6 := h_ hx6
  clear hND hx6 hb HPd m0 m1 m2 m3 m4 d0 d1 d2 d3 d4 k0 k1 k2 k3 k4 HR5 HG5 HA5 Hw5 eG cv
  cases hp : parseP kd with
  | no e2 =>
   have HN : Hid (parseG limit v = .no 31) := by show _ = _; rw [u_ HI2, hp]
   have h0 : PE ≠ 0 := by rw [← u_ HPe, hp]; exact parseP_pos hp
   have z1 : ((PE : Int) != 0) = true := by simp; omega
   have z2 : ((PE : Int) == 0) = false := by simp; omega
   clear hp h0
   have HRz := HR6
   go_upto_region 7 with fail
   go_wp2_with (refine wpList_store_row rfl 56 _ _ rfl R _ rfl rfl 56 _ HRz.res gen3 rfl (u_ H3) ?_)
   exact bodyPost_ret (res_row_tmp Tryz.results29 _ _ R 56 #[.int .i64 0, .string { data := #[] }, .slice none 0 0] (0, 0) _ rfl (HRz.set #[.int .i64 0, .string { data := #[] }, .slice none 0 0]).res Tryz.underlying56 rfl gen3 _ rfl) rfl ⟨[.int .i64 0, .string { data := #[] }, .slice none 0 0], by rw [u_ HN]; rfl, by rw [u_ HN]; exact ⟨{ data := #[] }, none, 0, rfl, rfl, dn_nil _⟩, (HRz.set #[.int .i64 0, .string { data := #[] }, .slice none 0 0]).b⟩
  | yes D =>
   obtain rfl : D = PD := by rw [← u_ HPdd, hp]; rfl
   obtain rfl : 0 = PE := by rw [← u_ HPe, hp]; rfl
   have HI3 : Hid (parseG limit v = named1 limit ⟨4, [], D⟩) := by show _ = _; rw [u_ HI2, hp]
   clear hp HPe HPdd HI2
   obtain ⟨w7, hw7⟩ := exq (w6.setCell ⟨G, 2, none⟩ (.slice sd ND cd))
   have hg6 : w6.grownBy (w6.setCell ⟨G, 2, none⟩ (.slice sd ND cd)) (some G) := grown_setCell (World.grownBy.refl _ _) ⟨G, 2, none⟩ _ rfl
   have hD7 := dn_kept (u_ HD6) HG6.res hg6
   have hG7 : Blk w (w6.setCell ⟨G, 2, none⟩ (.slice sd ND cd)) G #[.int .i64 4, .string tx, .slice sd ND cd] 56 := Blk.put (cs := [.int .i64 4, .string tx, .slice none 0 0]) (u_ HG6) 2 (by simp) _
   have hR7 : Blk w (w6.setCell ⟨G, 2, none⟩ (.slice sd ND cd)) R #[.int .i64 0, .string { data := #[] }, .slice none 0 0] 56 := ⟨by rw [hg6.block R HR6.lt (fun e => by simp only [Option.some.injEq] at e; have := u_ HGR; omega)]; exact HR6.res, hG7.b, HR6.ge⟩
   rw [hw7] at hD7 hG7 hR7
   have g2 : w6.cell? ⟨G, 2, none⟩ = some (.slice none 0 0) := HG6.cell 2 _ rfl
   have gf : w6.frozen? ⟨G, 2, none⟩ = false := HG6.frozen 2
   obtain ⟨h0, h1, h2⟩ := three_at hG7
   have Hnm := h_ (isnamed_c w7 ⟨4, [], D⟩ tx sd ND cd limit (by have := u_ Hts; omega) (u_ Htx0) (u_ HND) (by have := u_ HPl; omega))
   obtain ⟨NM, hNM⟩ := exq (namedP ⟨4, [], D⟩ limit)
   rw [hNM] at Hnm
   simp only at Hnm
   have HNM := h_ hNM
   have HD7 := h_ hD7
   have HG7 := h_ hG7
   have HR7 := h_ hR7
   clear hg6 hD7 hG7 hR7 hNM HD6 HG6 HR6
   go_wp2_with fail
   refine Hnm.mono ?_
   rintro e w8 ⟨rfl, hb⟩
   have HG8 := h_ (HG7.call hb)
   have HR8 := h_ (HR7.call hb)
   have HD8 := h_ (HD7.below hb)
   clear hb Hnm g2 gf h0 h1 h2 hw7 HD7 HG7 HR7
   cases NM with
   | false =>
    have HN : Hid (parseG limit v = .no 31) := by show _ = _; rw [u_ HI3]; unfold named1; rw [u_ HNM]; rfl
    have HRz := HR8
    go_upto_region 10 with fail
    go_wp2_with (refine wpList_store_row rfl 56 _ _ rfl R _ rfl rfl 56 _ HRz.res gen3 rfl (u_ H3) ?_)
    exact bodyPost_ret (res_row_tmp Tryz.results29 _ _ R 56 #[.int .i64 0, .string { data := #[] }, .slice none 0 0] (0, 0) _ rfl (HRz.set #[.int .i64 0, .string { data := #[] }, .slice none 0 0]).res Tryz.underlying56 rfl gen3 _ rfl) rfl ⟨[.int .i64 0, .string { data := #[] }, .slice none 0 0], by rw [u_ HN]; rfl, by rw [u_ HN]; exact ⟨{ data := #[] }, none, 0, rfl, rfl, dn_nil _⟩, (HRz.set #[.int .i64 0, .string { data := #[] }, .slice none 0 0]).b⟩
   | true =>
    have HN : Hid (parseG limit v = .yes ⟨4, [], D⟩) := by show _ = _; rw [u_ HI3]; unfold named1; rw [u_ HNM]; rfl
    obtain ⟨h0, h1, h2⟩ := three_at (u_ HG8)
    have H3b : Hid ((#[.int .i64 4, .string tx, .slice sd ND cd] : Array Value).all (·.oneCell') = true) := by show _ = true; simp [Value.oneCell']
    have hDr := dn_kept (u_ HD8) HR8.res (grown_setRowN w8 R #[.int .i64 4, .string tx, .slice sd ND cd])
    have HDr := h_ hDr
    clear hDr
    go_upto_region 11 with fail
    go_wp2_with (refine wpList_store_row rfl 56 _ _ rfl R _ rfl rfl 56 _ HR8.res gen3 rfl (u_ H3b) ?_)
    exact bodyPost_ret (res_row_tmp Tryz.results29 _ _ R 56 #[.int .i64 4, .string tx, .slice sd ND cd] (0, 0) _ rfl (HR8.set #[.int .i64 4, .string tx, .slice sd ND cd]).res Tryz.underlying56 rfl gen3 _ rfl) rfl ⟨[.int .i64 4, .string tx, .slice sd ND cd], by rw [u_ HN]; rfl, by rw [u_ HN]; exact ⟨tx, sd, cd, by rw [show (genTold (.yes ⟨4, [], D⟩)).dir.length = ND from u_ HND]; rfl, u_ Htx0, by rw [show (genTold (.yes ⟨4, [], D⟩)).dir.length = ND from u_ HND]; exact u_ HDr⟩, (HR8.set #[.int .i64 4, .string tx, .slice sd ND cd]).b⟩
 ·have HIn : Hid (parseG limit v = named1 limit ⟨kt, v.bytes, []⟩) := by show _ = _; rw [u_ HPI, u_ HI hn4]
  have y4 : (kt == 4) = false := by simpa using hn4
  obtain ⟨w5, hw5⟩ := exq (w4.alloc (.cells #[.int .i64 kt, .string tx, .slice none 0 0] 56))
  obtain ⟨G, eG⟩ := exq w4.heap.size
  have hG := Blk.new HA4.b #[.int .i64 kt, .string tx, .slice none 0 0] 56
  have hb5 := allocB hw5
  rw [hw5, eG] at hG
  have HA5 := h_ (HA4.call hb5)
  have HR5 := h_ (HR4.call hb5)
  have HG5 := h_ hG
  obtain ⟨m0, m1, m2, m3, m4⟩ := five_at (u_ HA5)
  obtain ⟨k0, k1, k2, k3, k4⟩ := five_at (u_ HA4)
  obtain ⟨g0, g1, g2⟩ := three_at hG
  have Hnm := h_ (isnamed_c w5 ⟨kt, v.bytes, []⟩ tx none 0 0 limit (by have := u_ Hts; omega) (u_ Htx) rfl (by omega))
  obtain ⟨NM, hNM⟩ := exq (namedP ⟨kt, v.bytes, []⟩ limit)
  rw [hNM] at Hnm
  simp only at Hnm
  have HNM := h_ hNM
  have Hw5 := h_ hw5
  rw [← hw5] at m0 m1 m2 m3 m4 g0 g1 g2
  clear hG hb5 hw5 hNM HA4 HR4 hn4
  go_wp2_with fail
  rw [u_ Hw5]
  refine Hnm.mono ?_
  rintro e w8 ⟨rfl, hb⟩
  have HG8 := h_ (HG5.call hb)
  have HR8 := h_ (HR5.call hb)
  clear hb Hnm g0 g1 g2 m0 m1 m2 m3 m4 k0 k1 k2 k3 k4 HA5 HR5 HG5 Hw5 eG cv
  cases NM with
  | false =>
   have HN : Hid (parseG limit v = .no 31) := by show _ = _; rw [u_ HIn]; unfold named1; rw [u_ HNM]; rfl
   have HRz := HR8
   go_upto_region 10 with fail
   go_wp2_with (refine wpList_store_row rfl 56 _ _ rfl R _ rfl rfl 56 _ HRz.res gen3 rfl (u_ H3) ?_)
   exact bodyPost_ret (res_row_tmp Tryz.results29 _ _ R 56 #[.int .i64 0, .string { data := #[] }, .slice none 0 0] (0, 0) _ rfl (HRz.set #[.int .i64 0, .string { data := #[] }, .slice none 0 0]).res Tryz.underlying56 rfl gen3 _ rfl) rfl ⟨[.int .i64 0, .string { data := #[] }, .slice none 0 0], by rw [u_ HN]; rfl, by rw [u_ HN]; exact ⟨{ data := #[] }, none, 0, rfl, rfl, dn_nil _⟩, (HRz.set #[.int .i64 0, .string { data := #[] }, .slice none 0 0]).b⟩
  | true =>
   have HN : Hid (parseG limit v = .yes ⟨kt, v.bytes, []⟩) := by show _ = _; rw [u_ HIn]; unfold named1; rw [u_ HNM]; rfl
   obtain ⟨h0, h1, h2⟩ := three_at (u_ HG8)
   have H3b : Hid ((#[.int .i64 kt, .string tx, .slice none 0 0] : Array Value).all (·.oneCell') = true) := by show _ = true; simp [Value.oneCell']
   go_upto_region 11 with fail
   go_wp2_with (refine wpList_store_row rfl 56 _ _ rfl R _ rfl rfl 56 _ HR8.res gen3 rfl (u_ H3b) ?_)
   exact bodyPost_ret (res_row_tmp Tryz.results29 _ _ R 56 #[.int .i64 kt, .string tx, .slice none 0 0] (0, 0) _ rfl (HR8.set #[.int .i64 kt, .string tx, .slice none 0 0]).res Tryz.underlying56 rfl gen3 _ rfl) rfl ⟨[.int .i64 kt, .string tx, .slice none 0 0], by rw [u_ HN]; rfl, by rw [u_ HN]; exact ⟨tx, none, 0, rfl, u_ Htx, dn_nil _⟩, (HR8.set #[.int .i64 kt, .string tx, .slice none 0 0]).b⟩
end N
theorem bitAt_drop (b : Bs) (h i : Nat) : bitAt (b.drop h) i = decide ((b.getD (h + i / 8) 0).toNat / 2 ^ (7 - i % 8) % 2 = 1) := by
 unfold bitAt
 rw [List.getD_eq_getElem?_getD, List.getElem?_drop, ← List.getD_eq_getElem?_getD]
namespace Q
open N K
theorem qiskind_c (w : World) (k : Int) : Calls Tryz.prog 65 #[.int .i64 k] w fun e w' => e = .returned (.bool (kindP k)) ∧ w' = w := by
 obtain ⟨A, hA⟩ := exq (decide (k = 1))
 obtain ⟨B, hB⟩ := exq (decide (k = 2))
 obtain ⟨C, hC⟩ := exq (decide (k = 4))
 obtain ⟨D, hD⟩ := exq (decide (k = 6))
 obtain ⟨E, hE⟩ := exq (decide (k = 7))
 have HT : Hid (kindP k = (A || B || C || D || E)) := by show _ = _; unfold kindP; rw [hA, hB, hC, hD, hE]
 have a1 : (k == 1) = A := hA
 have b1 : (k == 2) = B := hB
 have c1 : (k == 4) = C := hC
 have d1 : (k == 6) = D := hD
 have e1 : (k == 7) = E := hE
 clear hA hB hC hD hE
 cases A <;> cases B <;> cases C <;> cases D <;>
  (go_enter Tryz.func65, Tryz.ntmps65
   go_wp2
   go_ret
   exact ⟨by rw [u_ HT]; cases E <;> rfl, rfl⟩)
theorem qright_c (w : World) (g : Gen) (s : ByteArray) (sp : Option Addr) (n c : Nat) (limit : Bool) (hs : s.size ≤ 1000000) (ht : bs s = g.text) (hd : g.dir.length = n) (hn : n ≤ 1000000000) :
  Calls Tryz.prog 66 #[.agg #[.int .i64 g.kind, .string s, .slice sp n c], .bool limit] w fun e w' => e = .returned (.bool (namedP g limit)) ∧ Below w.heap.size w w' := by
 obtain ⟨k, hk⟩ := exq g.kind
 obtain ⟨w1, X, hw1, eX, hA⟩ := blkN (Below.refl w.heap.size w) #[.int .i64 k, .string s, .slice sp n c] 71
 obtain ⟨k0, k1, k2⟩ := three_at hA
 have HA := h_ hA
 rw [hk]
 obtain ⟨N, hN⟩ := exq s.size
 have hlen : (bs s).length = N := by rw [bs_len, hN]
 by_cases h4 : k = 4
 ·have HT : Hid (namedP g limit = (limit || decide (0 < n))) := by show _ = _; unfold namedP; rw [hk, if_pos h4, hd]
  subst h4
  obtain ⟨B, hB⟩ := exq (decide (0 < n))
  have b1 : decide ((0 : Int) < (n : Int)) = B := by rw [← hB, decide_eq_decide]; omega
  rw [hB] at HT
  clear hA hk hd ht hlen
  cases limit <;> cases B <;>
   (go_enter Tryz.func66, Tryz.ntmps66
    go_wp2
    go_ret
    exact ⟨by rw [u_ HT]; rfl, HA.b⟩)
 have d4 : (k == 4) = false := by simpa using h4
 by_cases h7 : k = 7
 ·have HT : Hid (namedP g limit = addrP limit (bs s)) := by show _ = _; unfold namedP; rw [hk, if_neg h4, if_pos h7, ht]
  subst h7
  cases limit with
  | false =>
   obtain ⟨A, hA4⟩ := exq (decide (N = 4))
   obtain ⟨B, hB⟩ := exq (decide (N = 16))
   have a1 : ((N : Int) == 4) = A := by rw [← hA4]; by_cases h : N = 4 <;> simp [h] <;> omega
   have b1 : ((N : Int) == 16) = B := by rw [← hB]; by_cases h : N = 16 <;> simp [h] <;> omega
   have HT2 : Hid (namedP g false = (A || B)) := by show _ = _; rw [u_ HT]; unfold addrP; rw [if_pos rfl, hlen, hA4, hB]
   clear hA hk hd ht hlen hA4 hB HT h4
   cases A <;> cases B <;> (go_enter Tryz.func66, Tryz.ntmps66; go_wp2; go_ret; exact ⟨by rw [u_ HT2]; rfl, HA.b⟩)
  | true =>
   by_cases h8 : N = 8 ∨ N = 32
   case neg =>
    have HF : Hid (namedP g true = false) := by
     show _ = _
     rw [u_ HT]
     unfold addrP
     rw [if_neg (by simp), hlen]
     have h1 : decide (N = 8) = false := decide_eq_false (fun h => h8 (Or.inl h))
     have h2 : decide (N = 32) = false := decide_eq_false (fun h => h8 (Or.inr h))
     rw [h1, h2]
     rfl
    have y1 : ((N : Int) != 8) = true := by simp; omega
    have y2 : ((N : Int) == 8) = false := by simp; omega
    have y3 : ((N : Int) != 32) = true := by simp; omega
    have y4 : ((N : Int) == 32) = false := by simp; omega
    clear hA hk hd ht hlen h4 h8 HT
    go_enter Tryz.func66, Tryz.ntmps66
    go_wp2
    go_ret
    exact ⟨by rw [u_ HF]; rfl, HA.b⟩
   obtain ⟨H, hH⟩ := exq (N / 2)
   obtain ⟨L, hL⟩ := exq (4 * N)
   have eH : (N : Int) / 2 = (H : Int) := by omega
   have eL : (4 : Int) * (N : Int) = (L : Int) := by omega
   have HT2 : Hid (namedP g true = maskTo ((bs s).drop H) L) := by
    show _ = _
    rw [u_ HT]
    unfold addrP
    rw [if_neg (by simp), hlen, hH]
    have h1 : (decide (N = 8) || decide (N = 32)) = true := by rcases h8 with h | h <;> simp [h]
    rw [h1, Bool.true_and]
    unfold maskP
    rw [List.length_drop, hlen]
    congr 1
    omega
   obtain ⟨M, hM⟩ := exq ((bs s).drop H)
   rw [hM] at HT2
   have HNL : Hid (s.size = N ∧ 2 * H = N ∧ L = 8 * H ∧ N ≤ 32) := ⟨hN, by omega, by omega, by omega⟩
   have hL2 : L ≤ 128 := by omega
   have HMb : Hid (∀ i, bitAt M i = decide (((bs s).getD (H + i / 8) 0).toNat / 2 ^ (7 - i % 8) % 2 = 1)) := fun i => by rw [← hM]; exact bitAt_drop _ _ _
   have bN : N ≤ 32 := by omega
   have bH : H ≤ 16 := by omega
   have y1 : (((N : Int) != 8) && ((N : Int) != 32)) = false := by rcases h8 with h | h <;> subst h <;> rfl
   obtain ⟨Y1, hY1⟩ := exq ((N : Int) != 8)
   obtain ⟨Y2, hY2⟩ := exq ((N : Int) != 32)
   rw [hY1, hY2] at y1
   have HF : Hid (∀ m, m ≤ L → maskTo M m = false → namedP g true = false) := fun m hm h => by rw [u_ HT2]; exact maskTo_no hm h
   clear hA hk hd ht hlen h4 h8 HT hH hL hM
   go_enter Tryz.func66, Tryz.ntmps66
   cases Y1 <;> cases Y2
   case true.true => cases y1
   all_goals
    clear y1
    go_wp2
    clear hY1 hY2 hN
    go_loopw [6, 7] (fun ee ii wr => ∃ (i : Nat) (u : Bool), i ≤ L ∧ ee = .bool u ∧ ii = .int .i64 (i : Int) ∧ wr = w1 ∧ Hid (maskTo M i = true) ∧ Hid (u = (!decide (i = 0) && !bitAt M (i - 1)))) (fun _ ii _ => L - (intOf ii).toNat)
    case atStart => exact ⟨0, false, by omega, rfl, rfl, rfl, rfl, rfl⟩
    case round =>
     obtain ⟨i, u, hi, rfl, rfl, hwr, HM, HU⟩ := hrel
     have := hwr.symm
     subst this
     by_cases hlt : i < L
     ·obtain ⟨f1, f1n⟩ := ltVV i L
      obtain ⟨q, hq⟩ := exq (i / 8)
      obtain ⟨r, hr⟩ := exq (i % 8)
      obtain ⟨t, ht⟩ := exq (7 - r)
      obtain ⟨j, hj⟩ := exq (H + q)
      have eq : (i : Int) / 8 = (q : Int) := by omega
      have er : (i : Int) % 8 = (r : Int) := by omega
      have et : (7 : Int) - (r : Int) = (t : Int) := by omega
      have ej : (H : Int) + (q : Int) = (j : Int) := by omega
      have hjN : j < s.size := by have := u_ HNL; omega
      obtain ⟨p, hp⟩ := exq (((bs s).getD j 0).toNat)
      have hp2 : p < 256 := by rw [← hp]; exact ((bs s).getD j 0).toNat_lt
      have ix : ∀ w, (Instr.index 9 (.string s) (.int .i64 (j : Int))).run Tryz.prog w = .ok (.int .u8 (p : Int)) w := fun w => index_str s j hjN p hp w
      obtain ⟨z, hz⟩ := exq (p / 2 ^ t)
      have ez : (p : Int) / 2 ^ t = (z : Int) := by rw [← hz]; simp
      have hzp : z ≤ p := by rw [← hz]; exact Nat.div_le_self _ _
      have uz : IntKind.u8.wrap (z : Int) = (z : Int) := by rw [IntKind.wrap_u8']; omega
      obtain ⟨y, hy⟩ := exq (z % 2)
      have ey : (z : Int) % 2 = (y : Int) := by omega
      have bz : z ≤ 255 := by omega
      obtain ⟨o, ho⟩ := exq (bitAt M i)
      have hyo : ((y : Int) == 1) = o := by
       rw [← ho, u_ HMb, hq, hr, ht, hj, hp, hz, hy]
       by_cases h1 : y = 1 <;> simp [h1] <;> omega
      have HS : Hid (maskTo M (i + 1) = !(o && u)) := by
       show _ = _
       rw [maskTo_succ, u_ HM, u_ HU, ho]
       cases decide (i = 0) <;> cases o <;> cases bitAt M (i - 1) <;> rfl
      have HU2 : Hid ((!o) = (!decide (i + 1 = 0) && !bitAt M (i + 1 - 1))) := by
       show _ = _
       rw [Nat.add_sub_cancel, ho]
       simp
      clear hq hr ht hp hz hy ho HM HU hj hzp
      cases o with
      | false =>
       have HS2 : Hid (maskTo M (i + 1) = true) := by show _ = _; rw [u_ HS]; rfl
       have HU3 : Hid (true = (!decide (i + 1 = 0) && !bitAt M (i + 1 - 1))) := u_ HU2
       cases u
       all_goals
        go_wp2
        go_roundw
        case rel =>
         first
          | exact ⟨i + 1, true, by omega, rfl, by go_num, rfl, HS2, HU3⟩
          | exact ⟨i + 1, true, by omega, rfl, by go_num, trivial, HS2, HU3⟩
          | ((repeat apply Exists.intro); exact ⟨⟨i + 1, true, by omega, rfl, by go_num, rfl, HS2, HU3⟩, rfl⟩)
        case measure => simp [intOf]; omega
      | true =>
       cases u with
       | true =>
        have HF2 : Hid (namedP g true = false) := u_ HF (i + 1) (by omega) (by rw [u_ HS]; rfl)
        go_wp2
        go_ret
        exact ⟨by rw [u_ HF2]; rfl, by first | exact HA.b | (rw [← eX]; exact HA.b)⟩
       | false =>
        have HS2 : Hid (maskTo M (i + 1) = true) := by show _ = _; rw [u_ HS]; rfl
        have HU3 : Hid (false = (!decide (i + 1 = 0) && !bitAt M (i + 1 - 1))) := u_ HU2
        go_wp2
        go_roundw
        case rel =>
         first
          | exact ⟨i + 1, false, by omega, rfl, by go_num, rfl, HS2, HU3⟩
          | exact ⟨i + 1, false, by omega, rfl, by go_num, trivial, HS2, HU3⟩
          | ((repeat apply Exists.intro); exact ⟨⟨i + 1, false, by omega, rfl, by go_num, rfl, HS2, HU3⟩, rfl⟩)
        case measure => simp [intOf]; omega
     ·obtain ⟨f1, f1n⟩ := ltVVf i L
      have HF2 : Hid (namedP g true = true) := by
       show _ = _
       rw [u_ HT2]
       have e : i = L := by omega
       rw [← e]
       exact u_ HM
      go_wp2
      go_ret
      exact ⟨by rw [u_ HF2]; rfl, by first | exact HA.b | (rw [← eX]; exact HA.b)⟩
 ·have d7 : (k == 7) = false := by simpa using h7
  obtain ⟨E, hE⟩ := exq (decide (0 < N))
  obtain ⟨L, hL⟩ := exq (decide (N ≤ 64))
  have HT : Hid (namedP g limit = ((limit || E) && L && ascP (bs s))) := by
   show _ = _
   unfold namedP
   rw [hk, if_neg h4, if_neg h7, ← ht, hlen, hL]
   have h1 : (!decide (bs s = [])) = E := by
    rw [← hE, ← hlen]
    cases bs s with
    | nil => simp
    | cons x l => simp
   rw [h1]
  have he : decide ((0 : Int) < (N : Int)) = E := by rw [← hE, decide_eq_decide]; omega
  have hl : decide ((N : Int) ≤ 64) = L := by rw [← hL, decide_eq_decide]; omega
  have bN : N ≤ 1000000 := by omega
  have HEL : Hid (E = false → L = true ∧ N = 0) := fun h => by
   rw [← hE] at h
   rw [← hL]
   have := of_decide_eq_false h
   exact ⟨decide_eq_true (by omega), by omega⟩
  have HEt : Hid (E = true → 0 < N) := fun h => by
   rw [← hE] at h
   exact of_decide_eq_true h
  have HN := h_ hN
  have Hlen := h_ hlen
  clear hA hk hd ht hE hL h4 h7 hN hlen hs
  go_enter Tryz.func66, Tryz.ntmps66
  have eN : s.size = N := u_ HN
  go_wp2
  clear eN
  go_loopw [9] (fun ii wr => ∃ i : Nat, i ≤ N ∧ ii = .int .i64 (i : Int) ∧ wr = w1 ∧ Hid (∀ x ∈ (bs s).take i, x.toNat < 128)) (fun ii _ => N - (intOf ii).toNat)
  case atStart => exact ⟨0, by omega, rfl, rfl, fun x hx => by simp at hx⟩
  case round =>
   obtain ⟨i, hi, rfl, hwr, HM⟩ := hrel
   have := hwr.symm
   subst this
   by_cases hlt : i < N
   ·obtain ⟨f1, f1n⟩ := ltVV i N
    obtain ⟨p, hp⟩ := exq (((bs s).getD i 0).toNat)
    have ix : ∀ w, (Instr.index 9 (.string s) (.int .i64 (i : Int))).run Tryz.prog w = .ok (.int .u8 (p : Int)) w := fun w => index_str s i (by have := u_ HN; omega) p hp w
    have hil : i < (bs s).length := by have := u_ Hlen; omega
    by_cases h128 : 128 ≤ p
    ·obtain ⟨z1, z1n⟩ := leLV 128 128 p
     have HF : Hid (namedP g limit = false) := by
      show _ = _
      rw [u_ HT]
      have h1 : ascP (bs s) = false := by
       unfold ascP
       rw [List.all_eq_false]
       refine ⟨(bs s).getD i 0, ?_, by rw [decide_eq_true_eq, hp]; omega⟩
       rw [List.getD_eq_getElem?_getD, List.getElem?_eq_getElem hil]
       exact List.getElem_mem hil
      rw [h1, Bool.and_false]
     clear hp hil
     go_wp2
     go_ret
     exact ⟨by rw [u_ HF]; rfl, by first | exact HA.b | (rw [← eX]; exact HA.b)⟩
    ·obtain ⟨z1, z1n⟩ := leLVf 128 128 p
     have HM2 : Hid (∀ x ∈ (bs s).take (i + 1), x.toNat < 128) := fun x hx => by
      rw [List.take_add_one, List.getElem?_eq_getElem hil, List.mem_append] at hx
      rcases hx with hx | hx
      ·exact u_ HM x hx
      ·simp only [Option.toList_some, List.mem_singleton] at hx
       rw [List.getD_eq_getElem?_getD, List.getElem?_eq_getElem hil, Option.getD_some] at hp
       rw [hx]
       omega
     clear hp hil
     go_wp2
     go_roundw
     case rel =>
      first
       | exact ⟨i + 1, by omega, by go_num, rfl, HM2⟩
       | exact ⟨i + 1, by omega, by go_num, trivial, HM2⟩
       | ((repeat apply Exists.intro); exact ⟨⟨i + 1, by omega, by go_num, rfl, HM2⟩, rfl⟩)
     case measure => simp [intOf]; omega
   ·obtain ⟨f1, f1n⟩ := ltVVf i N
    have HT2 : Hid (namedP g limit = ((limit || E) && L)) := by
     show _ = _
     rw [u_ HT]
     have h1 : ascP (bs s) = true := by
      unfold ascP
      rw [List.all_eq_true]
      intro x hx
      exact decide_eq_true (u_ HM x (by rw [List.take_of_length_le (by have := u_ Hlen; omega)]; exact hx))
     rw [h1, Bool.and_true]
    cases E with
    | false =>
     obtain ⟨rfl, rfl⟩ := u_ HEL rfl
     clear he hl f1 f1n
     obtain rfl : i = 0 := by omega
     cases limit <;>
      (go_wp2
       go_ret
       exact ⟨by rw [u_ HT2]; rfl, by first | exact HA.b | (rw [← eX]; exact HA.b)⟩)
    | true =>
     have he3 := u_ HEt rfl
     have he2 : decide (0 < N) = true := decide_eq_true he3
     cases limit <;>
      (go_wp2
       go_ret
       exact ⟨by rw [u_ HT2]; cases L <;> rfl, by first | exact HA.b | (rw [← eX]; exact HA.b)⟩)
end Q
theorem qgen3 : (Tryz.prog.info? 71).map (·.size) = some 3 := by kernel_rfl
namespace Q
open N K
theorem qparseg_c (w : World) (S : Nat → Prop) (cs : List Value) (v : DV) (hv : ValAt S w cs v) (hw : weight v ≤ 100000) (limit : Bool) :
  Calls Tryz.prog 30 #[.agg cs.toArray, .bool limit] w fun e w' => ∃ ds : List Value, e = .returned (.tuple #[.agg ds.toArray, .int .i64 (errOf (parseG limit v) : Int)]) ∧ GenAt w' ds (genTold (parseG limit v)) ∧ Below w.heap.size w w' := by
 obtain ⟨n, hv⟩ := hv
 obtain ⟨s1, c1, s2, c2, rfl⟩ := hv.form
 obtain ⟨kc, kt, km, kl, kk, hkc, hkt, hkm, hkl, hkk⟩ := ex5 v
 rw [hkc, hkt, hkm, hkl, hkk] at hv ⊢
 obtain ⟨w1, X, hw1, eX, hA⟩ := blkN (Below.refl w.heap.size w) #[.int .i64 kc, .int .i64 kt, .bool km, .slice s1 kl c1, .slice s2 kk c2] 33
 have hR := Blk.new hA.b #[.int .i64 0, .string { data := #[] }, .slice none 0 0] 71
 have hA2 := hA.lit (.cells #[.int .i64 0, .string { data := #[] }, .slice none 0 0] 71)
 obtain ⟨w2, hw2⟩ : ∃ x, w1.alloc (.cells #[.int .i64 0, .string { data := #[] }, .slice none 0 0] 71) = x := ⟨_, rfl⟩
 obtain ⟨R, eR⟩ := exq w1.heap.size
 rw [hw2, eR] at hR
 rw [hw2] at hA2
 have HV : Hid (∀ wr, Below w.heap.size w wr → VAt n S wr (dcells kc kt km (.slice s1 kl c1) (.slice s2 kk c2)) v) := fun wr hb => hv.below hb
 obtain ⟨RV, hRV⟩ := exq (rightV v)
 obtain ⟨HF, hHF⟩ := exq (hasF v)
 have HP : Hid (parseG limit v = if HF = true ∧ RV = true then inner1 limit v else .no 30) := by show _ = _; unfold parseG; rw [hHF, hRV]
 have HFo : Hid (HF = true → kc = 2 ∧ kindP kt = true ∧ ((kt = 4 ∧ km = true ∧ kk = 1) ∨ (kt ≠ 4 ∧ km = false))) := fun h => by
  have h2 := hasForm_open (hHF.trans h)
  rw [hkc, hkt, hkm, hkk] at h2
  exact h2
 have HFd : Hid ((decide (kc = 2) && kindP kt && (if kt = 4 then km && decide (kk = 1) else !km)) = HF) := by
  show _ = _
  rw [← hHF]
  unfold hasF
  rw [hkc, hkt, hkm, hkk]
 have HI4 : Hid (kt = 4 → inner1 limit v = (match parseP (kid0 v) with | .no _ => .no 31 | .yes d => named1 limit ⟨4, v.bytes, d⟩)) := fun h => by
  have e := inner1_4 (limit := limit) (hkt.trans h)
  rw [hkt, h] at e
  exact e
 have HI : Hid (kt ≠ 4 → inner1 limit v = named1 limit ⟨kt, v.bytes, []⟩) := fun h => by
  rw [inner1_n (fun e => h (hkt.symm.trans e)), hkt]
 have H3 : Hid ((#[.int .i64 0, .string { data := #[] }, .slice none 0 0] : Array Value).all (·.oneCell') = true) := by show _ = true; simp [Value.oneCell']
 have Hkk : Hid (v.kids.length = kk) := hkk
 have Hw := h_ hw
 have HA2 := h_ hA2
 have HR2 := h_ hR
 obtain ⟨k0, k1, k2, k3, k4⟩ := five_at hA2
 have Hcan := h_ (can_q n S v w2 _ (hv.below hA2.b) hw)
 rw [hRV] at Hcan
 have HRV := h_ hRV
 have Hmade : Hid (km = true → v.made = true) := fun h => hkm.trans h
 unfold dcells at Hcan ⊢
 clear hA hA2 hR hv hw hkc hkt hkm hkl hkk hRV hHF
 go_enter Tryz.func30, Tryz.ntmps30
 go_wp2_with fail
 refine Hcan.mono ?_
 rintro e w4 ⟨rfl, hb⟩
 have HA4 := h_ (HA2.call hb)
 have HR4 := h_ (HR2.call hb)
 clear hb k0 k1 k2 k3 k4 hw1 hw2 eR eX HA2 HR2 Hcan
 obtain ⟨k0, k1, k2, k3, k4⟩ := five_at (u_ HA4)
 cases RV with
 | false =>
  have HN : Hid (parseG limit v = .no 30) := by show _ = _; rw [u_ HP, if_neg (fun h => by cases h.2)]
  have HRz := HR4
  go_upto_region 2 with fail
  go_wp2_with (refine wpList_store_row rfl 71 _ _ rfl R _ rfl rfl 71 _ HRz.res qgen3 rfl (u_ H3) ?_)
  exact bodyPost_ret (res_row_tmp Tryz.results30 _ _ R 71 #[.int .i64 0, .string { data := #[] }, .slice none 0 0] (0, 0) _ rfl (HRz.set #[.int .i64 0, .string { data := #[] }, .slice none 0 0]).res Tryz.underlying71 rfl qgen3 _ rfl) rfl ⟨[.int .i64 0, .string { data := #[] }, .slice none 0 0], by rw [u_ HN]; rfl, by rw [u_ HN]; exact ⟨{ data := #[] }, none, 0, rfl, rfl, dn_nil _⟩, (HRz.set #[.int .i64 0, .string { data := #[] }, .slice none 0 0]).b⟩
 | true =>
 have Hki := h_ (qiskind_c w4 kt)
 cases HF with
 | false =>
  have HN : Hid (parseG limit v = .no 30) := by show _ = _; rw [u_ HP, if_neg (fun h => by cases h.1)]
  have hFd := u_ HFd
  by_cases g1 : kc = 2
  case neg =>
   have z1 : (kc != 2) = true := by simpa using g1
   have z2 : (kc == 2) = false := by simpa using g1
   clear g1 hFd
   have HRz := HR4
   go_upto_region 2 with fail
   go_wp2_with (refine wpList_store_row rfl 71 _ _ rfl R _ rfl rfl 71 _ HRz.res qgen3 rfl (u_ H3) ?_)
   exact bodyPost_ret (res_row_tmp Tryz.results30 _ _ R 71 #[.int .i64 0, .string { data := #[] }, .slice none 0 0] (0, 0) _ rfl (HRz.set #[.int .i64 0, .string { data := #[] }, .slice none 0 0]).res Tryz.underlying71 rfl qgen3 _ rfl) rfl ⟨[.int .i64 0, .string { data := #[] }, .slice none 0 0], by rw [u_ HN]; rfl, by rw [u_ HN]; exact ⟨{ data := #[] }, none, 0, rfl, rfl, dn_nil _⟩, (HRz.set #[.int .i64 0, .string { data := #[] }, .slice none 0 0]).b⟩
  subst g1
  rw [decide_eq_true rfl, Bool.true_and] at hFd
  obtain ⟨KP, hKP⟩ := exq (kindP kt)
  rw [hKP] at Hki hFd
  clear hKP
  cases KP with
  | false =>
   clear hFd
   have HRz := HR4
   go_upto_region 2 with (go_at_call 65; refine Hki.mono ?_; rintro e wk ⟨rfl, hwk⟩; have := hwk.symm; subst this)
   go_wp2_with (refine wpList_store_row rfl 71 _ _ rfl R _ rfl rfl 71 _ HRz.res qgen3 rfl (u_ H3) ?_)
   exact bodyPost_ret (res_row_tmp Tryz.results30 _ _ R 71 #[.int .i64 0, .string { data := #[] }, .slice none 0 0] (0, 0) _ rfl (HRz.set #[.int .i64 0, .string { data := #[] }, .slice none 0 0]).res Tryz.underlying71 rfl qgen3 _ rfl) rfl ⟨[.int .i64 0, .string { data := #[] }, .slice none 0 0], by rw [u_ HN]; rfl, by rw [u_ HN]; exact ⟨{ data := #[] }, none, 0, rfl, rfl, dn_nil _⟩, (HRz.set #[.int .i64 0, .string { data := #[] }, .slice none 0 0]).b⟩
  | true =>
  rw [Bool.true_and] at hFd
  by_cases g4 : kt = 4
  ·rw [if_pos g4] at hFd
   subst g4
   cases km with
   | false =>
    clear hFd
    have HRz := HR4
    go_upto_region 2 with (go_at_call 65; refine Hki.mono ?_; rintro e wk ⟨rfl, hwk⟩; have := hwk.symm; subst this)
    go_wp2_with (refine wpList_store_row rfl 71 _ _ rfl R _ rfl rfl 71 _ HRz.res qgen3 rfl (u_ H3) ?_)
    exact bodyPost_ret (res_row_tmp Tryz.results30 _ _ R 71 #[.int .i64 0, .string { data := #[] }, .slice none 0 0] (0, 0) _ rfl (HRz.set #[.int .i64 0, .string { data := #[] }, .slice none 0 0]).res Tryz.underlying71 rfl qgen3 _ rfl) rfl ⟨[.int .i64 0, .string { data := #[] }, .slice none 0 0], by rw [u_ HN]; rfl, by rw [u_ HN]; exact ⟨{ data := #[] }, none, 0, rfl, rfl, dn_nil _⟩, (HRz.set #[.int .i64 0, .string { data := #[] }, .slice none 0 0]).b⟩
   | true =>
    rw [Bool.true_and] at hFd
    have hk1 := of_decide_eq_false hFd
    have z1 : ((kk : Int) != 1) = true := by simp; omega
    have z2 : ((kk : Int) == 1) = false := by simp; omega
    clear hFd hk1
    have HRz := HR4
    go_upto_region 2 with (go_at_call 65; refine Hki.mono ?_; rintro e wk ⟨rfl, hwk⟩; have := hwk.symm; subst this)
    go_wp2_with (refine wpList_store_row rfl 71 _ _ rfl R _ rfl rfl 71 _ HRz.res qgen3 rfl (u_ H3) ?_)
    exact bodyPost_ret (res_row_tmp Tryz.results30 _ _ R 71 #[.int .i64 0, .string { data := #[] }, .slice none 0 0] (0, 0) _ rfl (HRz.set #[.int .i64 0, .string { data := #[] }, .slice none 0 0]).res Tryz.underlying71 rfl qgen3 _ rfl) rfl ⟨[.int .i64 0, .string { data := #[] }, .slice none 0 0], by rw [u_ HN]; rfl, by rw [u_ HN]; exact ⟨{ data := #[] }, none, 0, rfl, rfl, dn_nil _⟩, (HRz.set #[.int .i64 0, .string { data := #[] }, .slice none 0 0]).b⟩
  ·rw [if_neg g4] at hFd
   have y4 : (kt == 4) = false := by simpa using g4
   cases km with
   | false => cases hFd
   | true =>
    clear hFd g4
    have HRz := HR4
    go_upto_region 2 with (go_at_call 65; refine Hki.mono ?_; rintro e wk ⟨rfl, hwk⟩; have := hwk.symm; subst this)
    go_wp2_with (refine wpList_store_row rfl 71 _ _ rfl R _ rfl rfl 71 _ HRz.res qgen3 rfl (u_ H3) ?_)
    exact bodyPost_ret (res_row_tmp Tryz.results30 _ _ R 71 #[.int .i64 0, .string { data := #[] }, .slice none 0 0] (0, 0) _ rfl (HRz.set #[.int .i64 0, .string { data := #[] }, .slice none 0 0]).res Tryz.underlying71 rfl qgen3 _ rfl) rfl ⟨[.int .i64 0, .string { data := #[] }, .slice none 0 0], by rw [u_ HN]; rfl, by rw [u_ HN]; exact ⟨{ data := #[] }, none, 0, rfl, rfl, dn_nil _⟩, (HRz.set #[.int .i64 0, .string { data := #[] }, .slice none 0 0]).b⟩
 | true =>
 have HRt : Hid (rightV v = true) := HRV
 rw [(u_ HFo (by simp)).2.1] at Hki
 obtain rfl : kc = 2 := (u_ HFo (by simp)).1
 have HPI : Hid (parseG limit v = inner1 limit v) := by show _ = _; rw [u_ HP, if_pos (by simp)]
 have HBy := h_ (bytes_of_val (u_ HV w4 HA4.b))
 have cv := conv_str (u_ HBy)
 obtain ⟨tx, htx⟩ := exq (st v.bytes)
 rw [htx] at cv
 have Htx : Hid (bs tx = v.bytes) := by show _ = _; rw [← htx, bs_st]
 have Hts : Hid (tx.size ≤ 1000000) := by
  have h1 : weight v = 1 + v.bytes.length + weights v.kids := by cases v; simp only [weight, DV.bytes, DV.kids]
  have h2 := u_ Hw
  show _ ≤ _
  rw [← bs_len, u_ Htx]
  omega
 clear htx HP HFd HRV
 obtain ⟨_, _, hcase⟩ := u_ HFo (by simp)
 rcases hcase with ⟨rfl, rfl, rfl⟩ | ⟨hn4, rfl⟩
 ·obtain ⟨kd, hkd⟩ : ∃ kd, v.kids[0]? = some kd := ⟨_, List.getElem?_eq_getElem (by have := u_ Hkk; omega)⟩
  have hk0 : kid0 v = kd := by unfold kid0; rw [List.getD_eq_getElem?_getD, hkd]; rfl
  have hwk : weight kd ≤ 100000 := by
   have h1 := weight_kid hkd
   have h2 : weight v = 1 + v.bytes.length + weights v.kids := by cases v; simp only [weight, DV.bytes, DV.kids]
   have h3 := u_ Hw
   omega
  have hnil : v.bytes = [] := by
   obtain ⟨x, hx⟩ := rightV_open (u_ HRt)
   have hm := u_ Hmade rfl
   cases hvv : v with
   | mk c t m b ks =>
    rw [hvv] at hx hm
    obtain ⟨_, _, _, _, _, h6, _⟩ := write_open hx
    exact h6 hm
  obtain ⟨b, o, ds, rfl, hcd, hvk⟩ := kid_at (u_ HV w4 HA4.b) hkd
  obtain ⟨nk, hvk⟩ := hvk
  obtain ⟨p1, q1, p2, q2, rfl⟩ := hvk.form
  obtain ⟨pc, pt, pm, pl, pk, hpc, hpt, hpm, hpl, hpk⟩ := ex5 kd
  rw [hpc, hpt, hpm, hpl, hpk] at hvk hcd
  rw [Nat.zero_mul, Nat.add_zero] at hcd
  obtain ⟨w5, hw5⟩ := exq (w4.alloc (.cells #[.int .i64 4, .string tx, .slice none 0 0] 71))
  obtain ⟨G, eG⟩ := exq w4.heap.size
  have hG := Blk.new HA4.b #[.int .i64 4, .string tx, .slice none 0 0] 71
  have hb5 := allocB hw5
  rw [hw5, eG] at hG
  have HA5 := h_ (HA4.call hb5)
  have HR5 := h_ (HR4.call hb5)
  have HG5 := h_ hG
  have HGR : Hid (R < G) := by show _ < _; have := HR4.lt; omega
  obtain ⟨m0, m1, m2, m3, m4⟩ := five_at (u_ HA5)
  obtain ⟨d0, d1, d2, d3, d4⟩ := (hcd.below hb5).five
  have HPd := h_ (qparsedn_c w5 nk S _ kd (hvk.below hb5) hwk)
  obtain ⟨PE, hPE⟩ := exq (errOf (parseP kd))
  obtain ⟨PD, hPD⟩ := exq (dnTold (parseP kd))
  unfold ParseA at HPd
  rw [hPE, hPD] at HPd
  unfold dcells at HPd
  have HI2 : Hid (parseG limit v = match parseP kd with | .no _ => .no 31 | .yes d => named1 limit ⟨4, [], d⟩) := by show _ = _; rw [u_ HPI, u_ HI4 rfl, hk0, hnil]
  have Htx0 : Hid (bs tx = []) := by show _ = _; rw [u_ Htx, hnil]
  have HPl : Hid (PD.length ≤ 1000000) := by show _ ≤ _; rw [← hPD]; have := dnTold_len kd; omega
  have HPe := h_ hPE
  have HPdd := h_ hPD
  have Hw5 := h_ hw5
  rw [← hw5] at m0 m1 m2 m3 m4 d0 d1 d2 d3 d4
  clear hkd hk0 hwk hnil hcd hvk hpc hpt hpm hpl hpk hG hb5 hPE hPD hw5 HA4 HR4
  go_wp2_with (go_at_call 65; refine Hki.mono ?_; rintro e wk ⟨rfl, hwk⟩; have := hwk.symm; subst this)
  rw [u_ Hw5]
  refine HPd.mono ?_
  rintro e w6 ⟨x6, rfl, hx6, hb⟩
  obtain ⟨sd, cd, rfl⟩ := hx6.form
  obtain ⟨ND, hND⟩ := exq PD.length
  rw [hND] at hx6 HPl ⊢
  have HND := h_ hND
  have HR6 := h_ (HR5.call hb)
  have HG6 := h_ (HG5.call hb)
  have HD6 := h_ hx6
  clear hND hx6 hb HPd m0 m1 m2 m3 m4 d0 d1 d2 d3 d4 k0 k1 k2 k3 k4 HR5 HG5 HA5 Hw5 eG cv
  cases hp : parseP kd with
  | no e2 =>
   have HN : Hid (parseG limit v = .no 31) := by show _ = _; rw [u_ HI2, hp]
   have h0 : PE ≠ 0 := by rw [← u_ HPe, hp]; exact parseP_pos hp
   have z1 : ((PE : Int) != 0) = true := by simp; omega
   have z2 : ((PE : Int) == 0) = false := by simp; omega
   clear hp h0
   have HRz := HR6
   go_upto_region 7 with fail
   go_wp2_with (refine wpList_store_row rfl 71 _ _ rfl R _ rfl rfl 71 _ HRz.res qgen3 rfl (u_ H3) ?_)
   exact bodyPost_ret (res_row_tmp Tryz.results30 _ _ R 71 #[.int .i64 0, .string { data := #[] }, .slice none 0 0] (0, 0) _ rfl (HRz.set #[.int .i64 0, .string { data := #[] }, .slice none 0 0]).res Tryz.underlying71 rfl qgen3 _ rfl) rfl ⟨[.int .i64 0, .string { data := #[] }, .slice none 0 0], by rw [u_ HN]; rfl, by rw [u_ HN]; exact ⟨{ data := #[] }, none, 0, rfl, rfl, dn_nil _⟩, (HRz.set #[.int .i64 0, .string { data := #[] }, .slice none 0 0]).b⟩
  | yes D =>
   obtain rfl : D = PD := by rw [← u_ HPdd, hp]; rfl
   obtain rfl : 0 = PE := by rw [← u_ HPe, hp]; rfl
   have HI3 : Hid (parseG limit v = named1 limit ⟨4, [], D⟩) := by show _ = _; rw [u_ HI2, hp]
   clear hp HPe HPdd HI2
   obtain ⟨w7, hw7⟩ := exq (w6.setCell ⟨G, 2, none⟩ (.slice sd ND cd))
   have hg6 : w6.grownBy (w6.setCell ⟨G, 2, none⟩ (.slice sd ND cd)) (some G) := grown_setCell (World.grownBy.refl _ _) ⟨G, 2, none⟩ _ rfl
   have hD7 := dn_kept (u_ HD6) HG6.res hg6
   have hG7 : Blk w (w6.setCell ⟨G, 2, none⟩ (.slice sd ND cd)) G #[.int .i64 4, .string tx, .slice sd ND cd] 71 := Blk.put (cs := [.int .i64 4, .string tx, .slice none 0 0]) (u_ HG6) 2 (by simp) _
   have hR7 : Blk w (w6.setCell ⟨G, 2, none⟩ (.slice sd ND cd)) R #[.int .i64 0, .string { data := #[] }, .slice none 0 0] 71 := ⟨by rw [hg6.block R HR6.lt (fun e => by simp only [Option.some.injEq] at e; have := u_ HGR; omega)]; exact HR6.res, hG7.b, HR6.ge⟩
   rw [hw7] at hD7 hG7 hR7
   have g2 : w6.cell? ⟨G, 2, none⟩ = some (.slice none 0 0) := HG6.cell 2 _ rfl
   have gf : w6.frozen? ⟨G, 2, none⟩ = false := HG6.frozen 2
   obtain ⟨h0, h1, h2⟩ := three_at hG7
   have Hnm := h_ (qright_c w7 ⟨4, [], D⟩ tx sd ND cd limit (u_ Hts) (u_ Htx0) (u_ HND) (by have := u_ HPl; omega))
   obtain ⟨NM, hNM⟩ := exq (namedP ⟨4, [], D⟩ limit)
   rw [hNM] at Hnm
   simp only at Hnm
   have HNM := h_ hNM
   have HD7 := h_ hD7
   have HG7 := h_ hG7
   have HR7 := h_ hR7
   clear hg6 hD7 hG7 hR7 hNM HD6 HG6 HR6
   go_wp2_with fail
   refine Hnm.mono ?_
   rintro e w8 ⟨rfl, hb⟩
   have HG8 := h_ (HG7.call hb)
   have HR8 := h_ (HR7.call hb)
   have HD8 := h_ (HD7.below hb)
   clear hb Hnm g2 gf h0 h1 h2 hw7 HD7 HG7 HR7
   cases NM with
   | false =>
    have HN : Hid (parseG limit v = .no 31) := by show _ = _; rw [u_ HI3]; unfold named1; rw [u_ HNM]; rfl
    have HRz := HR8
    go_upto_region 10 with fail
    go_wp2_with (refine wpList_store_row rfl 71 _ _ rfl R _ rfl rfl 71 _ HRz.res qgen3 rfl (u_ H3) ?_)
    exact bodyPost_ret (res_row_tmp Tryz.results30 _ _ R 71 #[.int .i64 0, .string { data := #[] }, .slice none 0 0] (0, 0) _ rfl (HRz.set #[.int .i64 0, .string { data := #[] }, .slice none 0 0]).res Tryz.underlying71 rfl qgen3 _ rfl) rfl ⟨[.int .i64 0, .string { data := #[] }, .slice none 0 0], by rw [u_ HN]; rfl, by rw [u_ HN]; exact ⟨{ data := #[] }, none, 0, rfl, rfl, dn_nil _⟩, (HRz.set #[.int .i64 0, .string { data := #[] }, .slice none 0 0]).b⟩
   | true =>
    have HN : Hid (parseG limit v = .yes ⟨4, [], D⟩) := by show _ = _; rw [u_ HI3]; unfold named1; rw [u_ HNM]; rfl
    obtain ⟨h0, h1, h2⟩ := three_at (u_ HG8)
    have H3b : Hid ((#[.int .i64 4, .string tx, .slice sd ND cd] : Array Value).all (·.oneCell') = true) := by show _ = true; simp [Value.oneCell']
    have hDr := dn_kept (u_ HD8) HR8.res (grown_setRowN w8 R #[.int .i64 4, .string tx, .slice sd ND cd])
    have HDr := h_ hDr
    clear hDr
    go_upto_region 11 with fail
    go_wp2_with (refine wpList_store_row rfl 71 _ _ rfl R _ rfl rfl 71 _ HR8.res qgen3 rfl (u_ H3b) ?_)
    exact bodyPost_ret (res_row_tmp Tryz.results30 _ _ R 71 #[.int .i64 4, .string tx, .slice sd ND cd] (0, 0) _ rfl (HR8.set #[.int .i64 4, .string tx, .slice sd ND cd]).res Tryz.underlying71 rfl qgen3 _ rfl) rfl ⟨[.int .i64 4, .string tx, .slice sd ND cd], by rw [u_ HN]; rfl, by rw [u_ HN]; exact ⟨tx, sd, cd, by rw [show (genTold (.yes ⟨4, [], D⟩)).dir.length = ND from u_ HND]; rfl, u_ Htx0, by rw [show (genTold (.yes ⟨4, [], D⟩)).dir.length = ND from u_ HND]; exact u_ HDr⟩, (HR8.set #[.int .i64 4, .string tx, .slice sd ND cd]).b⟩
 ·have HIn : Hid (parseG limit v = named1 limit ⟨kt, v.bytes, []⟩) := by show _ = _; rw [u_ HPI, u_ HI hn4]
  have y4 : (kt == 4) = false := by simpa using hn4
  obtain ⟨w5, hw5⟩ := exq (w4.alloc (.cells #[.int .i64 kt, .string tx, .slice none 0 0] 71))
  obtain ⟨G, eG⟩ := exq w4.heap.size
  have hG := Blk.new HA4.b #[.int .i64 kt, .string tx, .slice none 0 0] 71
  have hb5 := allocB hw5
  rw [hw5, eG] at hG
  have HA5 := h_ (HA4.call hb5)
  have HR5 := h_ (HR4.call hb5)
  have HG5 := h_ hG
  obtain ⟨m0, m1, m2, m3, m4⟩ := five_at (u_ HA5)
  obtain ⟨g0, g1, g2⟩ := three_at hG
  have Hnm := h_ (qright_c w5 ⟨kt, v.bytes, []⟩ tx none 0 0 limit (u_ Hts) (u_ Htx) rfl (by omega))
  obtain ⟨NM, hNM⟩ := exq (namedP ⟨kt, v.bytes, []⟩ limit)
  rw [hNM] at Hnm
  simp only at Hnm
  have HNM := h_ hNM
  have Hw5 := h_ hw5
  rw [← hw5] at m0 m1 m2 m3 m4 g0 g1 g2
  clear hG hb5 hw5 hNM HA4 HR4 hn4
  go_wp2_with (go_at_call 65; refine Hki.mono ?_; rintro e wk ⟨rfl, hwk⟩; have := hwk.symm; subst this)
  rw [u_ Hw5]
  refine Hnm.mono ?_
  rintro e w8 ⟨rfl, hb⟩
  have HG8 := h_ (HG5.call hb)
  have HR8 := h_ (HR5.call hb)
  clear hb Hnm g0 g1 g2 m0 m1 m2 m3 m4 k0 k1 k2 k3 k4 HA5 HR5 HG5 Hw5 eG cv
  cases NM with
  | false =>
   have HN : Hid (parseG limit v = .no 31) := by show _ = _; rw [u_ HIn]; unfold named1; rw [u_ HNM]; rfl
   have HRz := HR8
   go_upto_region 10 with fail
   go_wp2_with (refine wpList_store_row rfl 71 _ _ rfl R _ rfl rfl 71 _ HRz.res qgen3 rfl (u_ H3) ?_)
   exact bodyPost_ret (res_row_tmp Tryz.results30 _ _ R 71 #[.int .i64 0, .string { data := #[] }, .slice none 0 0] (0, 0) _ rfl (HRz.set #[.int .i64 0, .string { data := #[] }, .slice none 0 0]).res Tryz.underlying71 rfl qgen3 _ rfl) rfl ⟨[.int .i64 0, .string { data := #[] }, .slice none 0 0], by rw [u_ HN]; rfl, by rw [u_ HN]; exact ⟨{ data := #[] }, none, 0, rfl, rfl, dn_nil _⟩, (HRz.set #[.int .i64 0, .string { data := #[] }, .slice none 0 0]).b⟩
  | true =>
   have HN : Hid (parseG limit v = .yes ⟨kt, v.bytes, []⟩) := by show _ = _; rw [u_ HIn]; unfold named1; rw [u_ HNM]; rfl
   obtain ⟨h0, h1, h2⟩ := three_at (u_ HG8)
   have H3b : Hid ((#[.int .i64 kt, .string tx, .slice none 0 0] : Array Value).all (·.oneCell') = true) := by show _ = true; simp [Value.oneCell']
   go_upto_region 11 with fail
   go_wp2_with (refine wpList_store_row rfl 71 _ _ rfl R _ rfl rfl 71 _ HR8.res qgen3 rfl (u_ H3b) ?_)
   exact bodyPost_ret (res_row_tmp Tryz.results30 _ _ R 71 #[.int .i64 kt, .string tx, .slice none 0 0] (0, 0) _ rfl (HR8.set #[.int .i64 kt, .string tx, .slice none 0 0]).res Tryz.underlying71 rfl qgen3 _ rfl) rfl ⟨[.int .i64 kt, .string tx, .slice none 0 0], by rw [u_ HN]; rfl, by rw [u_ HN]; exact ⟨tx, none, 0, rfl, u_ Htx, dn_nil _⟩, (HR8.set #[.int .i64 kt, .string tx, .slice none 0 0]).b⟩
end Q
end Go.Proofs.YtcofnockikninaaGreatDoor
