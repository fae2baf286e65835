/- Parts of the walk. -/
import Derived.Test.YtcofnockikninaaGreatDoorZgGd10
import Derived.Test.YtcofnockikninaaGreatDoorZgRf10
import Derived.Test.YtcofnockikninaaGreatDoorZgPq10
import Derived.Test.YtcofnockikninaaGreatDoorZgQa
import Derived.Test.YtcofnockikninaaGreatDoorZgDb10
import Derived.Test.YtcofnockikninaaGreatDoorZgOR
set_option maxRecDepth 100000
set_option maxHeartbeats 16000000
namespace Go.Proofs.YtcofnockikninaaGreatDoor
open Go.RowKit
theorem genV_form {dn : List (Bs × Bs) → Told DV} {g : Gen} {limit : Bool} (h : formG g = false) : genV dn g limit = .no 30 := by unfold genV; rw [if_pos h]
theorem genV_named {dn : List (Bs × Bs) → Told DV} {g : Gen} {limit : Bool} (h : formG g = true) (hn : namedP g limit = false) : genV dn g limit = .no 31 := by unfold genV; rw [if_neg (by rw [h]; simp), if_pos hn]
theorem genV_4 {dn : List (Bs × Bs) → Told DV} {g : Gen} {limit : Bool} (h : formG g = true) (hn : namedP g limit = true) (h4 : g.kind = 4) : genV dn g limit = (match dn g.dir with | .no _ => .no 31 | .yes d => .yes (.mk 2 4 true [] [d])) := by unfold genV; rw [if_neg (by rw [h]; simp), if_neg (by rw [hn]; simp), if_pos h4]; rfl
theorem genV_n {dn : List (Bs × Bs) → Told DV} {g : Gen} {limit : Bool} (h : formG g = true) (hn : namedP g limit = true) (h4 : g.kind ≠ 4) : genV dn g limit = .yes (.mk 2 g.kind false g.text []) := by unfold genV; rw [if_neg (by rw [h]; simp), if_neg (by rw [hn]; simp), if_neg h4]
theorem genV_4no {g : Gen} {limit : Bool} {e : Nat} (h : formG g = true) (h4 : g.kind = 4) (hd : dnV g.dir = .no e) : genV dnV g limit = .no 31 := by
 cases hn : namedP g limit with
 | false => exact genV_named h hn
 | true => rw [genV_4 h hn h4, hd]
theorem dnV_errG {d : List (Bs × Bs)} {e : Nat} (h : dnV d = .no e) : e ≠ 0 := by
 unfold dnV at h
 split at h
 ·injection h with h; omega
 ·split at h
  ·injection h with h; omega
  ·split at h
   ·injection h with h; omega
   ·cases h
namespace Q
open N K
theorem qgenv_c (w : World) (cs : List Value) (g : Gen) (limit : Bool) (hg : GenAt w cs g) (ht : g.text.length ≤ 1000000) (hdl : g.dir.length ≤ 1000000000) (hll : ∀ a ∈ g.dir, a.1.length ≤ 1000000 ∧ a.2.length ≤ 1000000) :
  Calls Tryz.prog 33 #[.agg cs.toArray, .bool limit] w fun e w' => ∃ ds : List Value, e = .returned (.tuple #[.agg ds.toArray, .int .i64 (errOf (genV dnV g limit) : Int)]) ∧ ValAt (fun k => w.heap.size ≤ k) w' ds (valOf (genV dnV g limit)) ∧ Below w.heap.size w w' := by
 obtain ⟨s, sp, c, rfl, hst, hdn⟩ := hg.form
 obtain ⟨k, hk⟩ := exq g.kind
 obtain ⟨n, hn⟩ := exq g.dir.length
 have hs : s.size ≤ 1000000 := by rw [← bs_len, hst]; exact ht
 have HNm : Hid (∀ wr : World, Calls Tryz.prog 66 #[.agg #[.int .i64 k, .string s, .slice sp n c], .bool limit] wr fun e w' => e = .returned (.bool (namedP g limit)) ∧ Below wr.heap.size wr w') := fun wr => by
  have := qright_c wr g s sp n c limit hs hst hn (by omega)
  rw [hk] at this
  exact this
 rw [hk, hn]
 rw [hn] at hdn hdl
 obtain ⟨w1, X, hw1, eX, hA⟩ := blkN (Below.refl w.heap.size w) #[.int .i64 k, .string s, .slice sp n c] 71
 have hR0 := Blk.new hA.b #[.int .i64 0, .int .i64 0, .bool false, .slice none 0 0, .slice none 0 0] 33
 have hA1 := hA.lit (.cells #[.int .i64 0, .int .i64 0, .bool false, .slice none 0 0, .slice none 0 0] 33)
 obtain ⟨w2, hw2⟩ := exq (w1.alloc (.cells #[.int .i64 0, .int .i64 0, .bool false, .slice none 0 0, .slice none 0 0] 33))
 obtain ⟨R, eR⟩ := exq w1.heap.size
 rw [hw2, eR] at hR0
 rw [hw2] at hA1
 obtain ⟨k0, k1, k2⟩ := three_at hA1
 have HA := h_ hA1
 have HR := h_ hR0
 have HR2 : Hid (R < w2.heap.size ∧ w.heap.size ≤ w2.heap.size) := ⟨hR0.lt, hR0.b.size⟩
 have Hki := h_ (qiskind_c w2 k)
 have H5 : Hid ((#[.int .i64 0, .int .i64 0, .bool false, .slice none 0 0, .slice none 0 0] : Array Value).all (·.oneCell') = true) := by show _ = true; simp [Value.oneCell']
 have HD : Hid (DnAt w2 (.slice sp n c) g.dir) := hdn.below hR0.b
 obtain ⟨KP, hKP⟩ := exq (kindP k)
 rw [hKP] at Hki
 have HF : Hid (formG g = (KP && (decide (k = 4) || decide (n = 0)) && (!decide (k = 4) || decide (bs s = [])))) := by show _ = _; unfold formG; rw [hk, hn, hKP, hst]
 have Hk := h_ hk
 have Hn := h_ hn
 have Hst := h_ hst
 have Hll := h_ hll
 have Hs := h_ hs
 unfold gcells
 clear hA hA1 hR0 hdn hst hk hn hKP hll ht
 go_enter Tryz.func33, Tryz.ntmps33
 cases KP with
 | false =>
  have HE : Hid (errOf (genV dnV g limit) = 30 ∧ valOf (genV dnV g limit) = .mk 0 0 false [] []) := by rw [genV_form (by rw [u_ HF]; rfl)]; exact ⟨rfl, rfl⟩
  go_upto_region 2 with (go_at_call 65; refine Hki.mono ?_; rintro e wk ⟨rfl, hwk⟩; have := hwk.symm; subst this)
  go_wp2_with (refine wpList_store_row rfl 33 _ _ rfl R _ rfl rfl 33 _ HR.res value5r rfl (u_ H5) ?_)
  exact bodyPost_ret (res_row_tmp Tryz.results33 _ _ R 33 #[.int .i64 0, .int .i64 0, .bool false, .slice none 0 0, .slice none 0 0] (0, 0) _ rfl (HR.set #[.int .i64 0, .int .i64 0, .bool false, .slice none 0 0, .slice none 0 0]).res Tryz.underlying33 rfl value5r _ rfl) rfl ⟨_, by rw [HE.1]; rfl, by rw [HE.2]; exact zero_val _ _, (HR.set #[.int .i64 0, .int .i64 0, .bool false, .slice none 0 0, .slice none 0 0]).b⟩
 | true =>
 by_cases h4 : k = 4
 ·subst h4
  obtain ⟨E, hE⟩ := exq (decide (bs s = []))
  have e1 : (s.toList == ([] : Bs)) = E := by rw [nil_str, hE]
  have e2 : (s.toList != ([] : Bs)) = !E := by rw [← e1]; rfl
  have HF2 : Hid (formG g = E) := by show _ = _; rw [u_ HF, hE]; cases E <;> rfl
  clear hE HF
  cases E with
  | false =>
   have HE : Hid (errOf (genV dnV g limit) = 30 ∧ valOf (genV dnV g limit) = .mk 0 0 false [] []) := by rw [genV_form (u_ HF2)]; exact ⟨rfl, rfl⟩
   go_upto_region 2 with (go_at_call 65; refine Hki.mono ?_; rintro e wk ⟨rfl, hwk⟩; have := hwk.symm; subst this)
   go_wp2_with (refine wpList_store_row rfl 33 _ _ rfl R _ rfl rfl 33 _ HR.res value5r rfl (u_ H5) ?_)
   exact bodyPost_ret (res_row_tmp Tryz.results33 _ _ R 33 #[.int .i64 0, .int .i64 0, .bool false, .slice none 0 0, .slice none 0 0] (0, 0) _ rfl (HR.set #[.int .i64 0, .int .i64 0, .bool false, .slice none 0 0, .slice none 0 0]).res Tryz.underlying33 rfl value5r _ rfl) rfl ⟨_, by rw [HE.1]; rfl, by rw [HE.2]; exact zero_val _ _, (HR.set #[.int .i64 0, .int .i64 0, .bool false, .slice none 0 0, .slice none 0 0]).b⟩
  | true =>
  have Hdv := h_ (qdnv_c w2 sp n c g.dir (u_ HD) (u_ Hll) (u_ Hn) (by omega))
  obtain ⟨V, hV⟩ := exq (valOf (dnV g.dir))
  obtain ⟨er, her⟩ := exq (errOf (dnV g.dir))
  rw [hV, her] at Hdv
  have HVV := h_ hV
  have HER := h_ her
  clear hV her
  go_wp2_with (go_at_call 65; refine Hki.mono ?_; rintro e wk ⟨rfl, hwk⟩; have := hwk.symm; subst this)
  refine Hdv.mono ?_
  rintro e w3 ⟨ds3, rfl, hv3, hb⟩
  obtain ⟨n3, hv3⟩ := hv3
  obtain ⟨p1, q1, p2, q2, rfl⟩ := hv3.form
  obtain ⟨vc, vt, vm, vl, vk, hvc, hvt, hvm, hvl, hvk⟩ := ex5 V
  simp only [hvc, hvt, hvm, hvl, hvk] at hv3 ⊢
  unfold dcells at hv3 ⊢
  have HA3 := h_ (HA.call hb)
  have HR3 := h_ (HR.call hb)
  obtain ⟨w4, Y, hw4, eY, hY⟩ := blkN HA3.b #[.int .i64 vc, .int .i64 vt, .bool vm, .slice p1 vl q1, .slice p2 vk q2] 33
  have hb4 := allocB hw4
  have HA4 := h_ (HA3.call hb4)
  have HR4 := h_ (HR3.call hb4)
  have HY4 := h_ hY
  have HV4 := h_ (hv3.below hb4)
  have HS4 : Hid (w2.heap.size ≤ w4.heap.size) := by show _ ≤ _; have := hb.size; have := hb4.size; omega
  clear hvc hvt hvm hvl hvk hv3 hb hb4 hY Hdv HA3 HR3 k0 k1 k2 e1 e2
  obtain ⟨k0, k1, k2⟩ := three_at (u_ HA4)
  cases hq : dnV g.dir with
  | no e2 =>
   have HE : Hid (errOf (genV dnV g limit) = 31 ∧ valOf (genV dnV g limit) = .mk 0 0 false [] []) := by rw [genV_4no (u_ HF2) (u_ Hk) hq]; exact ⟨rfl, rfl⟩
   have h0 : er ≠ 0 := by rw [← u_ HER, hq]; exact dnV_errG hq
   have z1 : ((er : Int) != 0) = true := by simp; omega
   have z2 : ((er : Int) == 0) = false := by simp; omega
   clear hq h0
   go_upto_region 6 with fail
   go_wp2_with (refine wpList_store_row rfl 33 _ _ rfl R _ rfl rfl 33 _ HR4.res value5r rfl (u_ H5) ?_)
   exact bodyPost_ret (res_row_tmp Tryz.results33 _ _ R 33 #[.int .i64 0, .int .i64 0, .bool false, .slice none 0 0, .slice none 0 0] (0, 0) _ rfl (HR4.set #[.int .i64 0, .int .i64 0, .bool false, .slice none 0 0, .slice none 0 0]).res Tryz.underlying33 rfl value5r _ rfl) rfl ⟨_, by rw [HE.1]; rfl, by rw [HE.2]; exact zero_val _ _, (HR4.set #[.int .i64 0, .int .i64 0, .bool false, .slice none 0 0, .slice none 0 0]).b⟩
  | yes V2 =>
   obtain rfl : V2 = V := by rw [← u_ HVV, hq]; rfl
   obtain rfl : 0 = er := by rw [← u_ HER, hq]; rfl
   obtain ⟨NM, hNM⟩ := exq (namedP g limit)
   have Hq := h_ hq
   have HNM := h_ hNM
   have Hnm := h_ (u_ HNm w4)
   rw [hNM] at Hnm
   clear hq hNM HNm
   go_wp2_with fail
   refine Hnm.mono ?_
   rintro e w5 ⟨rfl, hb⟩
   have HR5 := h_ (HR4.call hb)
   have HY5 := h_ (HY4.call hb)
   have HV5 := h_ (HV4.below hb)
   have HS5 : Hid (w2.heap.size ≤ w5.heap.size) := by show _ ≤ _; have := u_ HS4; have := hb.size; omega
   clear hb Hnm HR4 HY4 HV4 HA4 HS4 k0 k1 k2 hw4 eY
   cases NM with
   | false =>
    have HE : Hid (errOf (genV dnV g limit) = 31 ∧ valOf (genV dnV g limit) = .mk 0 0 false [] []) := by rw [genV_named (u_ HF2) (u_ HNM)]; exact ⟨rfl, rfl⟩
    go_upto_region 6 with fail
    go_wp2_with (refine wpList_store_row rfl 33 _ _ rfl R _ rfl rfl 33 _ HR5.res value5r rfl (u_ H5) ?_)
    exact bodyPost_ret (res_row_tmp Tryz.results33 _ _ R 33 #[.int .i64 0, .int .i64 0, .bool false, .slice none 0 0, .slice none 0 0] (0, 0) _ rfl (HR5.set #[.int .i64 0, .int .i64 0, .bool false, .slice none 0 0, .slice none 0 0]).res Tryz.underlying33 rfl value5r _ rfl) rfl ⟨_, by rw [HE.1]; rfl, by rw [HE.2]; exact zero_val _ _, (HR5.set #[.int .i64 0, .int .i64 0, .bool false, .slice none 0 0, .slice none 0 0]).b⟩
   | true =>
    have HVs : Hid (genV dnV g limit = .yes (.mk 2 4 true [] [V2])) := by show _ = _; rw [genV_4 (u_ HF2) (u_ HNM) (u_ Hk), u_ Hq]
    obtain ⟨y0, y1, y2, y3, y4⟩ := five_at (u_ HY5)
    obtain ⟨w6, KB, hw6, eKB, hK⟩ := blkN HR5.b #[.int .i64 vc, .int .i64 vt, .bool vm, .slice p1 vl q1, .slice p2 vk q2] 33
    have hb6 := allocB hw6
    have HR6 := h_ (HR5.call hb6)
    have H6 : Hid ((#[.int .i64 2, .int .i64 4, .bool true, .slice none 0 0, .slice (some ⟨KB, 0, none⟩) 1 1] : Array Value).all (·.oneCell') = true) := by show _ = true; simp [Value.oneCell']
    have hval : VAt (n3 + 1) (fun b => w2.heap.size ≤ b) w6 (dcells 2 4 true (.slice none 0 0) (.slice (some ⟨KB, 0, none⟩) 1 1)) (.mk 2 4 true [] [V2]) := by
     refine val_made (vs := [V2]) rfl (Nat.le_refl _) (by omega) (by have := u_ HS5; show _ ≤ _; omega) fun j x hj => ?_
     match j, hj with
     | 0, hj =>
      simp only [List.getElem?_cons_zero, Option.some.injEq] at hj
      subst hj
      exact ⟨_, five_cells hK (ds := [.int .i64 vc, .int .i64 vt, .bool vm, .slice p1 vl q1, .slice p2 vk q2]) rfl (fun j h => by have h5 : j = 0 ∨ j = 1 ∨ j = 2 ∨ j = 3 ∨ j = 4 := (by omega); rcases h5 with rfl | rfl | rfl | rfl | rfl <;> rfl), HV5.below hb6⟩
     | j + 1, hj => simp at hj
    have HVal := h_ (VAt.kept hval (grown_setRowN w6 R #[.int .i64 2, .int .i64 4, .bool true, .slice none 0 0, .slice (some ⟨KB, 0, none⟩) 1 1]) (fun g e hs => by simp only [Option.some.injEq] at e; have := HR2.1; omega))
    clear hK hb6 hval HR5 HY5 HV5
    go_upto_region 7 with fail
    go_wp2_with (refine wpList_store_row rfl 33 _ _ rfl R _ rfl rfl 33 _ HR6.res value5r rfl (u_ H6) ?_)
    exact bodyPost_ret (res_row_tmp Tryz.results33 _ _ R 33 #[.int .i64 2, .int .i64 4, .bool true, .slice none 0 0, .slice (some ⟨KB, 0, none⟩) 1 1] (0, 0) _ rfl (HR6.set #[.int .i64 2, .int .i64 4, .bool true, .slice none 0 0, .slice (some ⟨KB, 0, none⟩) 1 1]).res Tryz.underlying33 rfl value5r _ rfl) rfl ⟨[.int .i64 2, .int .i64 4, .bool true, .slice none 0 0, .slice (some ⟨KB, 0, none⟩) 1 1], by rw [u_ HVs]; rfl, by rw [u_ HVs]; exact ⟨_, HVal.mono fun b hb _ => by have := HR2.2; omega⟩, (HR6.set #[.int .i64 2, .int .i64 4, .bool true, .slice none 0 0, .slice (some ⟨KB, 0, none⟩) 1 1]).b⟩
 ·have d4 : (k == 4) = false := by simpa using h4
  have d4' : (k != 4) = true := by simpa using h4
  by_cases hn0 : n = 0
  case neg =>
   obtain ⟨z1, z1n⟩ := ltLV 0 0 n
   have HE : Hid (errOf (genV dnV g limit) = 30 ∧ valOf (genV dnV g limit) = .mk 0 0 false [] []) := by rw [genV_form (by rw [u_ HF, decide_eq_false h4, decide_eq_false hn0]; rfl)]; exact ⟨rfl, rfl⟩
   clear h4 hn0
   go_upto_region 2 with (go_at_call 65; refine Hki.mono ?_; rintro e wk ⟨rfl, hwk⟩; have := hwk.symm; subst this)
   go_wp2_with (refine wpList_store_row rfl 33 _ _ rfl R _ rfl rfl 33 _ HR.res value5r rfl (u_ H5) ?_)
   exact bodyPost_ret (res_row_tmp Tryz.results33 _ _ R 33 #[.int .i64 0, .int .i64 0, .bool false, .slice none 0 0, .slice none 0 0] (0, 0) _ rfl (HR.set #[.int .i64 0, .int .i64 0, .bool false, .slice none 0 0, .slice none 0 0]).res Tryz.underlying33 rfl value5r _ rfl) rfl ⟨_, by rw [HE.1]; rfl, by rw [HE.2]; exact zero_val _ _, (HR.set #[.int .i64 0, .int .i64 0, .bool false, .slice none 0 0, .slice none 0 0]).b⟩
  obtain ⟨z1, z1n⟩ := ltLVf 0 0 n
  have HF2 : Hid (formG g = true) := by show _ = _; rw [u_ HF, decide_eq_false h4, decide_eq_true hn0]; rfl
  have H4 : Hid (g.kind ≠ 4) := by show _ ≠ _; rw [u_ Hk]; exact h4
  obtain ⟨NM, hNM⟩ := exq (namedP g limit)
  have HNM := h_ hNM
  have Hnm := h_ (u_ HNm w2)
  rw [hNM] at Hnm
  clear hNM HNm hn0 h4 HF
  go_wp2_with (go_at_call 65; refine Hki.mono ?_; rintro e wk ⟨rfl, hwk⟩; have := hwk.symm; subst this)
  refine Hnm.mono ?_
  rintro e w3 ⟨rfl, hb⟩
  have HA3 := h_ (HA.call hb)
  have HR3 := h_ (HR.call hb)
  clear hb Hnm k0 k1 k2 HA HR hw1 hw2 eR eX
  obtain ⟨k0, k1, k2⟩ := three_at (u_ HA3)
  cases NM with
  | false =>
   have HE : Hid (errOf (genV dnV g limit) = 31 ∧ valOf (genV dnV g limit) = .mk 0 0 false [] []) := by rw [genV_named (u_ HF2) (u_ HNM)]; exact ⟨rfl, rfl⟩
   go_upto_region 9 with fail
   go_wp2_with (refine wpList_store_row rfl 33 _ _ rfl R _ rfl rfl 33 _ HR3.res value5r rfl (u_ H5) ?_)
   exact bodyPost_ret (res_row_tmp Tryz.results33 _ _ R 33 #[.int .i64 0, .int .i64 0, .bool false, .slice none 0 0, .slice none 0 0] (0, 0) _ rfl (HR3.set #[.int .i64 0, .int .i64 0, .bool false, .slice none 0 0, .slice none 0 0]).res Tryz.underlying33 rfl value5r _ rfl) rfl ⟨_, by rw [HE.1]; rfl, by rw [HE.2]; exact zero_val _ _, (HR3.set #[.int .i64 0, .int .i64 0, .bool false, .slice none 0 0, .slice none 0 0]).b⟩
  | true =>
   have HVs : Hid (genV dnV g limit = .yes (.mk 2 k false (bs s) [])) := by show _ = _; rw [genV_n (u_ HF2) (u_ HNM) (u_ H4), u_ Hk, u_ Hst]
   obtain ⟨cp, w4, hcv, hby, hb⟩ := conv_bytes w3 s
   obtain ⟨BB, hBB⟩ := exq w3.heap.size
   obtain ⟨N, hN⟩ := exq s.size
   rw [hBB, hN] at hcv hby
   have HR4 := h_ (HR3.call hb)
   have H6 : Hid ((#[.int .i64 2, .int .i64 k, .bool false, .slice (some ⟨BB, 0, none⟩) N cp, .slice none 0 0] : Array Value).all (·.oneCell') = true) := by show _ = true; simp [Value.oneCell']
   have hRB : R ≠ BB := by have := HR3.lt; omega
   have hwB : w.heap.size ≤ BB := by have := HR3.b.size; omega
   have HVal := h_ (leaf_S (S := fun b => w.heap.size ≤ b) 2 k (bytes_setRow hby R hRB #[.int .i64 2, .int .i64 k, .bool false, .slice (some ⟨BB, 0, none⟩) N cp, .slice none 0 0]) (fun j hj => by simp only [Value.ownBlock, Option.some.injEq] at hj; omega) (by rw [bs_len]; have := u_ Hs; omega))
   clear hby hb HR3 HA3 hRB hwB hBB
   go_upto_region 10 with fail
   go_wp2_with (refine wpList_store_row rfl 33 _ _ rfl R _ rfl rfl 33 _ HR4.res value5r rfl (u_ H6) ?_)
   exact bodyPost_ret (res_row_tmp Tryz.results33 _ _ R 33 #[.int .i64 2, .int .i64 k, .bool false, .slice (some ⟨BB, 0, none⟩) N cp, .slice none 0 0] (0, 0) _ rfl (HR4.set #[.int .i64 2, .int .i64 k, .bool false, .slice (some ⟨BB, 0, none⟩) N cp, .slice none 0 0]).res Tryz.underlying33 rfl value5r _ rfl) rfl ⟨[.int .i64 2, .int .i64 k, .bool false, .slice (some ⟨BB, 0, none⟩) N cp, .slice none 0 0], by rw [u_ HVs]; rfl, by rw [u_ HVs]; exact u_ HVal, (HR4.set #[.int .i64 2, .int .i64 k, .bool false, .slice (some ⟨BB, 0, none⟩) N cp, .slice none 0 0]).b⟩
end Q
namespace Q
open N K
theorem qgen3 : (Tryz.prog.info? 71).map (·.size) = some 3 := by kernel_rfl
theorem other3 (w : World) {X R : Nat} (h : X ≠ R) (j : Nat) (x y z : Value) : (((w.setCell ⟨R, 0, none⟩ x).setCell ⟨R, 1, none⟩ y).setCell ⟨R, 2, none⟩ z).cell? ⟨X, j, none⟩ = w.cell? ⟨X, j, none⟩ := by
 rw [World.cell?_setCell_far _ _ _ _ (fun e => h e.symm), World.cell?_setCell_far _ _ _ _ (fun e => h e.symm), World.cell?_setCell_far _ _ _ _ (fun e => h e.symm)]
theorem dn_put3 {w w3 : World} {R : Nat} {a : Int} {b : ByteArray} {p : Option Addr} {n c : Nat} {T : TypeId} {v : Value} {d : List (Bs × Bs)} (hd : DnAt w3 v d) (hR : Blk w w3 R #[.int .i64 a, .string b, .slice p n c] T) (x y z : Value) : DnAt (((w3.setCell ⟨R, 0, none⟩ x).setCell ⟨R, 1, none⟩ y).setCell ⟨R, 2, none⟩ z) v d := by
 obtain ⟨sp, cp, e, h1, h2, h3⟩ := hd
 refine ⟨sp, cp, e, h1, h2, fun hne => ?_⟩
 obtain ⟨bb, oo, e2, hc⟩ := h3 hne
 have hbR : bb ≠ R := by
  rintro rfl
  cases d with
  | nil => exact hne rfl
  | cons q d =>
   obtain ⟨c1, c2⟩ := hc 0 q rfl
   rw [cell_of_row _ _ _ _ _ _ hR.res] at c1 c2
   rcases (by omega : oo = 0 ∨ oo = 1 ∨ oo = 2 ∨ 3 ≤ oo) with rfl | rfl | rfl | h
   ·simp at c1
   ·simp at c2
   ·simp at c1
   ·rw [Array.getElem?_eq_none (by simp; omega)] at c1; cases c1
 refine ⟨bb, oo, e2, fun i q hi => ?_⟩
 rw [other3 _ hbR, other3 _ hbR]
 exact hc i q hi
theorem general_c (w : World) (cs : List Value) (g : Gen) (hg : GenAt w cs g) (hdl : g.dir.length ≤ 10000) :
  Calls Tryz.prog 32 #[.agg cs.toArray] w fun e w' => ∃ ds : List Value, e = .returned (.agg ds.toArray) ∧ GenAt w' ds g ∧ Below w.heap.size w w' := by
 obtain ⟨s, sp, c, rfl, hst, hdn⟩ := hg.form
 obtain ⟨k, hk⟩ := exq g.kind
 obtain ⟨n, hn⟩ := exq g.dir.length
 rw [hk, hn]
 rw [hn] at hdn hdl
 obtain ⟨w1, X, hw1, eX, hA⟩ := blkN (Below.refl w.heap.size w) #[.int .i64 k, .string s, .slice sp n c] 56
 have hR0 := Blk.new hA.b #[.int .i64 0, .string { data := #[] }, .slice none 0 0] 71
 have hA1 := hA.lit (.cells #[.int .i64 0, .string { data := #[] }, .slice none 0 0] 71)
 obtain ⟨w2, hw2⟩ : ∃ w2, w1.alloc (.cells #[.int .i64 0, .string { data := #[] }, .slice none 0 0] 71) = w2 := ⟨_, rfl⟩
 obtain ⟨R, eR⟩ := exq w1.heap.size
 have hXR : X ≠ R := by have := hA.lt; omega
 rw [hw2, eR] at hR0
 rw [hw2] at hA1
 obtain ⟨k0, k1, k2⟩ := three_at hA1
 have HA := h_ hA1
 have HR := h_ hR0
 have HD : Hid (DnAt w2 (.slice sp n c) g.dir) := hdn.below hR0.b
 have Hk := h_ hk
 have Hn := h_ hn
 have Hst := h_ hst
 have HX : Hid (w.heap.size ≤ X) := by show _ ≤ _; omega
 unfold gcells
 clear hA hA1 hR0 hdn hst hk hn hg
 go_enter Tryz.func32, Tryz.ntmps32
 go_wp2
 clear hw1 hw2 eR eX
 have Hat := h_ (attrs_c w2.drew sp n c g.dir (HD.below (Below.refl _ _).drew) (u_ Hn) hdl)
 go_region_held3 (fun w' => w'.cell? ⟨X, 0, none⟩ = some (.int .i64 k) ∧ w'.cell? ⟨X, 1, none⟩ = some (.string s) ∧ w'.cell? ⟨X, 2, none⟩ = some (.slice sp n c)) (go_keep)
  ((first
    | (go_at_call 26
       refine Hat.mono ?_
       rintro e w3 ⟨sq, kq, rfl, hdq, hb3⟩
       have Hb3 : Hid (Below w2.heap.size w2 w3) := (Below.refl w2.heap.size w2).drew.trans hb3
       have HDq := h_ hdq
       have HA3 := h_ (HA.call (u_ Hb3))
       have HR3 := h_ (HR.call (u_ Hb3))
       obtain ⟨a0, a1, a2⟩ := three_at (u_ HA3)
       obtain ⟨r0, r1, r2⟩ := three_at (u_ HR3)
       have b0 := (other3 w3 hXR 0 (.int .i64 k) (.string s) (.slice sq n kq)).trans a0
       have b1 := (other3 w3 hXR 1 (.int .i64 k) (.string s) (.slice sq n kq)).trans a1
       have b2 := (other3 w3 hXR 2 (.int .i64 k) (.string s) (.slice sq n kq)).trans a2
       have z0 := HR3.frozen 0
       have z1 := HR3.frozen 1
       have z2 := HR3.frozen 2
       clear hdq hb3)))
 have HR4 := h_ (HR3.put3 (.int .i64 k) (.string s) (.slice sq n kq))
 have HD4 := h_ (dn_put3 (u_ HDq) (u_ HR3) (.int .i64 k) (.string s) (.slice sq n kq))
 clear a0 a1 a2 r0 r1 r2 b0 b1 b2 z0 z1 z2
 go_wp2
 exact bodyPost_ret (results_cell_row Tryz.results32 _ _ R 71 #[.int .i64 k, .string s, .slice sq n kq] (0, 0) _ rfl HR4.res Tryz.underlying71 rfl qgen3) rfl ⟨[.int .i64 k, .string s, .slice sq n kq], rfl, ⟨s, sq, kq, by rw [u_ Hk, u_ Hn]; rfl, u_ Hst, by rw [u_ Hn]; exact u_ HD4⟩, HR4.b⟩
end Q
theorem class_val {S : Nat → Prop} {w : World} {c t : Int} {xb xk : Value} {ks : List DV} (h : ValAt S w (dcells 0 t true xb xk) (.mk 0 t true [] ks)) : ValAt S w (dcells c t true xb xk) (.mk c t true [] ks) := by
 obtain ⟨n, h⟩ := h
 cases n with
 | zero => exact h.elim
 | succ n =>
  obtain ⟨xb', sk, ck, e, r⟩ := h
  refine ⟨n + 1, xb', sk, ck, ?_, r⟩
  simp only [dcells, List.cons.injEq, and_true, true_and, DV.cls, DV.tag, DV.made, DV.kids] at e ⊢
  exact e
theorem dnV_no {d : List (Bs × Bs)} {e : Nat} (h : dnV d = .no e) : e ≠ 0 := by
 unfold dnV at h
 split at h
 ·cases h; omega
 ·split at h
  ·cases h; omega
  ·split at h
   ·cases h; omega
   ·cases h
namespace N
open K
theorem genv4_c (w : World) (hRd : Rdy w) (cs : List Value) (g : Gen) (limit : Bool) (hg : GenAt w cs g) (ht : g.text.length ≤ 1000000000) (hdl : g.dir.length ≤ 1000000000) (hll : ∀ a ∈ g.dir, a.1.length ≤ 1000000 ∧ a.2.length ≤ 1000000) (h4 : g.kind = 4) :
  Calls Tryz.prog 31 #[.agg cs.toArray, .bool limit] w fun e w' => ∃ ds : List Value, e = .returned (.tuple #[.agg ds.toArray, .int .i64 (errOf (genV dnV g limit) : Int)]) ∧ ValAt (fun k => w.heap.size ≤ k) w' ds (valOf (genV dnV g limit)) ∧ Below w.heap.size w w' := by
 obtain ⟨s, sp, c, rfl, hst, hdn⟩ := hg.form
 obtain ⟨n, hn⟩ := exq g.dir.length
 have hs : s.size ≤ 1000000000 := by rw [← bs_len, hst]; exact ht
 have HNm : Hid (∀ wr : World, Calls Tryz.prog 64 #[.agg #[.int .i64 4, .string s, .slice sp n c], .bool limit] wr fun e w' => e = .returned (.bool (namedP g limit)) ∧ Below wr.heap.size wr w') := fun wr => by
  have := isnamed_c wr g s sp n c limit hs hst hn (by omega)
  rw [h4] at this
  exact this
 rw [h4, hn]
 rw [hn] at hdn
 obtain ⟨w1, X, hw1, eX, hA⟩ := blkN (Below.refl w.heap.size w) #[.int .i64 4, .string s, .slice sp n c] 56
 have hR0 := Blk.new hA.b #[.int .i64 0, .int .i64 0, .bool false, .slice none 0 0, .slice none 0 0] 25
 have hA1 := hA.lit (.cells #[.int .i64 0, .int .i64 0, .bool false, .slice none 0 0, .slice none 0 0] 25)
 obtain ⟨w2, hw2⟩ := exq (w1.alloc (.cells #[.int .i64 0, .int .i64 0, .bool false, .slice none 0 0, .slice none 0 0] 25))
 obtain ⟨R, eR⟩ := exq w1.heap.size
 rw [hw2, eR] at hR0
 rw [hw2] at hA1
 obtain ⟨k0, k1, k2⟩ := three_at hA1
 have HA := h_ hA1
 have HR := h_ hR0
 have Hk := h_ (iskind_c w2 4)
 rw [show kindP 4 = true from rfl] at Hk
 have H5 : Hid ((#[.int .i64 0, .int .i64 0, .bool false, .slice none 0 0, .slice none 0 0] : Array Value).all (·.oneCell') = true) := by show _ = true; simp [Value.oneCell']
 have HDn : Hid (∀ wr, Below w.heap.size w wr → Calls Tryz.prog 24 #[.slice sp n c] wr fun e w' => ∃ ds : List Value, e = .returned (.tuple #[.agg ds.toArray, .int .i64 (errOf (dnV g.dir) : Int)]) ∧ ValAt (fun k => wr.heap.size ≤ k) w' ds (valOf (dnV g.dir)) ∧ Below wr.heap.size wr w') := fun wr hb => dnv_c wr (hRd.below hb) sp n c g.dir (hdn.below hb) hll hn (by omega)
 obtain ⟨E, hE⟩ := exq (decide (bs s = []))
 have he : (s.toList == ([] : Bs)) = E := by rw [nil_str, hE]
 have hfm : formG g = E := by
  unfold formG
  rw [h4, ← hst, hE]
  cases E <;> rfl
 have HXR : Hid (X < R ∧ w.heap.size ≤ R) := ⟨by have := hA.lt; omega, by have := hA.b.size; omega⟩
 unfold gcells
 cases E with
 | false =>
  have HE : Hid (errOf (genV dnV g limit) = 30 ∧ valOf (genV dnV g limit) = .mk 0 0 false [] []) := by
   have e : genV dnV g limit = .no 30 := by unfold genV; rw [if_pos hfm]
   rw [e]
   exact ⟨rfl, rfl⟩
  clear hA hA1 hR0 hdn hst hfm h4 hn hE hRd hll
  go_enter Tryz.func31, Tryz.ntmps31
  go_wp2_with fail
  refine Hk.mono ?_
  rintro e w' ⟨rfl, hw⟩
  obtain rfl := hw
  go_upto_region 2 with fail
  go_wp2_with (refine wpList_store_row rfl 25 _ _ rfl R _ rfl rfl 25 _ HR.res value5 rfl (u_ H5) ?_)
  exact bodyPost_ret (res_row_tmp Tryz.results31 _ _ R 25 #[.int .i64 0, .int .i64 0, .bool false, .slice none 0 0, .slice none 0 0] (0, 0) _ rfl (HR.set #[.int .i64 0, .int .i64 0, .bool false, .slice none 0 0, .slice none 0 0]).res Tryz.underlying25 rfl value5 _ rfl) rfl ⟨_, by rw [HE.1]; rfl, by rw [HE.2]; exact zero_val _ _, (HR.set #[.int .i64 0, .int .i64 0, .bool false, .slice none 0 0, .slice none 0 0]).b⟩
 | true =>
  obtain ⟨U, hU⟩ := exq (namedP g limit)
  rw [hU] at HNm
  have HV : Hid (genV dnV g limit = if U = false then .no 31 else (match dnV g.dir with | .no _ => .no 31 | .yes d => .yes (.mk 2 4 true [] [d]))) := by
   show _ = _
   unfold genV
   rw [if_neg (by rw [hfm]; simp), hU, if_pos h4]
   rfl
  clear hA hA1 hR0 hdn hst hfm h4 hn hE hRd hll hU
  go_enter Tryz.func31, Tryz.ntmps31
  go_wp2_with (go_at_call 67; refine Hk.mono ?_; rintro e w' ⟨rfl, hw⟩; obtain rfl := hw)
  refine (u_ HNm _).mono ?_
  rintro e w3 ⟨rfl, hb3⟩
  have HA3 := h_ (HA.call hb3)
  have HR3 := h_ (HR.call hb3)
  clear hb3 k0 k1 k2 hw1 hw2 eR HA HR HNm Hk
  obtain ⟨k0, k1, k2⟩ := three_at (u_ HA3)
  cases U with
  | false =>
   have HE : Hid (errOf (genV dnV g limit) = 31 ∧ valOf (genV dnV g limit) = .mk 0 0 false [] []) := by rw [u_ HV]; exact ⟨rfl, rfl⟩
   go_wp2_with (refine wpList_store_row rfl 25 _ _ rfl R _ rfl rfl 25 _ HR3.res value5 rfl (u_ H5) ?_)
   exact bodyPost_ret (res_row_tmp Tryz.results31 _ _ R 25 #[.int .i64 0, .int .i64 0, .bool false, .slice none 0 0, .slice none 0 0] (0, 0) _ rfl (HR3.set #[.int .i64 0, .int .i64 0, .bool false, .slice none 0 0, .slice none 0 0]).res Tryz.underlying25 rfl value5 _ rfl) rfl ⟨_, by rw [HE.1]; rfl, by rw [HE.2]; exact zero_val _ _, (HR3.set #[.int .i64 0, .int .i64 0, .bool false, .slice none 0 0, .slice none 0 0]).b⟩
  | true =>
   have HV2 : Hid (genV dnV g limit = match dnV g.dir with | .no _ => .no 31 | .yes d => .yes (.mk 2 4 true [] [d])) := u_ HV
   have H7 := h_ (u_ HDn w3 HA3.b)
   clear HV HDn
   go_wp2_with fail
   refine H7.mono ?_
   rintro e w4 ⟨ds4, rfl, hv4, hb⟩
   have HA4 := h_ (HA3.call hb)
   have HR4 := h_ (HR3.call hb)
   have HB34 : Hid (R < w3.heap.size ∧ w3.heap.size ≤ w4.heap.size) := ⟨HR3.lt, hb.size⟩
   obtain ⟨n4, hv4⟩ := hv4
   obtain ⟨p1, q1, p2, q2, rfl⟩ := hv4.form
   have HV4 := h_ hv4
   obtain ⟨V, hV⟩ := exq (valOf (dnV g.dir))
   rw [hV] at HV4
   simp only [hV]
   obtain ⟨vc, vt, vm, vl, vk, hvc, hvt, hvm, hvl, hvk⟩ := ex5 V
   simp only [hvc, hvt, hvm, hvl, hvk] at HV4 ⊢
   have HVV := h_ hV
   clear hvc hvt hvm hvl hvk hV hv4 hb H7 HA3 HR3 k0 k1 k2
   unfold dcells at HV4 ⊢
   obtain ⟨w5, Y, hw5, eY, hY⟩ := blkN HA4.b #[.int .i64 vc, .int .i64 vt, .bool vm, .slice p1 vl q1, .slice p2 vk q2] 25
   have hb := allocB hw5
   obtain ⟨y0, y1, y2, y3, y4⟩ := five_at hY
   have HA5 := h_ (HA4.call hb)
   have HR5 := h_ (HR4.call hb)
   have HV5 := h_ (HV4.below hb)
   obtain ⟨k0, k1, k2⟩ := three_at (u_ HA5)
   obtain ⟨er, her⟩ := exq (errOf (dnV g.dir))
   rw [her]
   cases hD : dnV g.dir with
   | no e =>
    have HE : Hid (errOf (genV dnV g limit) = 31 ∧ valOf (genV dnV g limit) = .mk 0 0 false [] []) := by rw [u_ HV2, hD]; exact ⟨rfl, rfl⟩
    have hne : er ≠ 0 := by rw [← her, hD]; exact dnV_no hD
    have z1 : ((er : Int) != 0) = true := by simp; omega
    have z2 : ((er : Int) == 0) = false := by simp; omega
    clear hY hb HA4 HR4 HV4 her hne hD HV2
    go_upto_region 9 with fail
    go_wp2_with (refine wpList_store_row rfl 25 _ _ rfl R _ rfl rfl 25 _ HR5.res value5 rfl (u_ H5) ?_)
    exact bodyPost_ret (res_row_tmp Tryz.results31 _ _ R 25 #[.int .i64 0, .int .i64 0, .bool false, .slice none 0 0, .slice none 0 0] (0, 0) _ rfl (HR5.set #[.int .i64 0, .int .i64 0, .bool false, .slice none 0 0, .slice none 0 0]).res Tryz.underlying25 rfl value5 _ rfl) rfl ⟨_, by rw [HE.1]; rfl, by rw [HE.2]; exact zero_val _ _, (HR5.set #[.int .i64 0, .int .i64 0, .bool false, .slice none 0 0, .slice none 0 0]).b⟩
   | yes dd =>
    have hdd : V = dd := by rw [← u_ HVV, hD]; rfl
    subst hdd
    have HE : Hid (errOf (genV dnV g limit) = 0 ∧ valOf (genV dnV g limit) = .mk 2 4 true [] [V]) := by rw [u_ HV2, hD]; exact ⟨rfl, rfl⟩
    have he0 : er = 0 := by rw [← her, hD]; rfl
    subst he0
    obtain ⟨w6, LB, hw6, eL, hL⟩ := blkN HA5.b #[.int .i64 vc, .int .i64 vt, .bool vm, .slice p1 vl q1, .slice p2 vk q2] 25
    have hb6 := allocB hw6
    have HL6 := h_ hL
    have HA6 := h_ (HA5.call hb6)
    have HR6 := h_ (HR5.call hb6)
    have HV6 := h_ (HV5.below hb6)
    have HLR : Hid (R < LB ∧ w.heap.size ≤ LB) := by
     have h1 := u_ HB34
     have h2 := hb.size
     have h3 := HA5.b.size
     exact ⟨by omega, by omega⟩
    have H8 : Hid ((#[.int .i64 2, .int .i64 4, .bool true, .slice none 0 0, .slice (some ⟨LB, 0, none⟩) 1 1] : Array Value).all (·.oneCell') = true) := by show _ = true; simp [Value.oneCell']
    clear hY hb HA4 HR4 HV4 her hD HV2 hL hb6 HA5 HR5 HV5
    go_upto_region 10 with fail
    go_wp2_with (refine wpList_store_row rfl 25 _ _ rfl R _ rfl rfl 25 _ HR6.res value5 rfl (u_ H8) ?_)
    refine bodyPost_ret (res_row_tmp Tryz.results31 _ _ R 25 #[.int .i64 2, .int .i64 4, .bool true, .slice none 0 0, .slice (some ⟨LB, 0, none⟩) 1 1] (0, 0) _ rfl (HR6.set #[.int .i64 2, .int .i64 4, .bool true, .slice none 0 0, .slice (some ⟨LB, 0, none⟩) 1 1]).res Tryz.underlying25 rfl value5 _ rfl) rfl ⟨[.int .i64 2, .int .i64 4, .bool true, .slice none 0 0, .slice (some ⟨LB, 0, none⟩) 1 1], by rw [HE.1]; rfl, ?_, (HR6.set #[.int .i64 2, .int .i64 4, .bool true, .slice none 0 0, .slice (some ⟨LB, 0, none⟩) 1 1]).b⟩
    rw [HE.2]
    have hv1 : ValAt (fun b => R < b) w6 [.int .i64 vc, .int .i64 vt, .bool vm, .slice p1 vl q1, .slice p2 vk q2] V := ⟨n4, HV6.mono fun b hb _ => by have := HB34.1; omega⟩
    have r1 := drow_one (u_ HL6) hv1
    have h2 := class_val (c := 2) (made_val (t := 4) (c := 1) r1 rfl (Nat.le_refl _) (by omega) HLR.1)
    have h3 := h2.kept (grown_setRowN w6 R #[.int .i64 2, .int .i64 4, .bool true, .slice none 0 0, .slice (some ⟨LB, 0, none⟩) 1 1]) (fun g e hs => by simp only [Option.some.injEq] at e; omega)
    exact h3.mono fun b hb _ => by have := u_ HXR; omega
end N
namespace N
open K
end N
end Go.Proofs.YtcofnockikninaaGreatDoor
