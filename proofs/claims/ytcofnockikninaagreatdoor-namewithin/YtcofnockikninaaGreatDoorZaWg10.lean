/- Parts of the walk. -/
import Derived.Test.YtcofnockikninaaGreatDoorZaGc10
import Derived.Test.YtcofnockikninaaGreatDoorZaRf10
import Derived.Test.YtcofnockikninaaGreatDoorZaWp10
import Derived.BigQuiet
import Derived.Deep.QuietTactic
set_option maxRecDepth 100000
set_option maxHeartbeats 16000000
namespace Go.Proofs.YtcofnockikninaaGreatDoor
open Go.RowKit
theorem genV_form {dn : List (Bs × Bs) → Told DV} {g : Gen} {limit : Bool} (h : formG g = false) : genV dn g limit = .no 30 := by unfold genV; rw [if_pos h]
theorem genV_named {dn : List (Bs × Bs) → Told DV} {g : Gen} {limit : Bool} (h : formG g = true) (hn : namedP g limit = false) : genV dn g limit = .no 31 := by unfold genV; rw [if_neg (by rw [h]; simp), if_pos hn]
theorem genV_4 {dn : List (Bs × Bs) → Told DV} {g : Gen} {limit : Bool} (h : formG g = true) (hn : namedP g limit = true) (h4 : g.kind = 4) : genV dn g limit = (match dn g.dir with | .no _ => .no 31 | .yes d => .yes (.mk 2 4 true [] [d])) := by unfold genV; rw [if_neg (by rw [h]; simp), if_neg (by rw [hn]; simp), if_pos h4]; rfl
theorem genV_n {dn : List (Bs × Bs) → Told DV} {g : Gen} {limit : Bool} (h : formG g = true) (hn : namedP g limit = true) (h4 : g.kind ≠ 4) : genV dn g limit = .yes (.mk 2 g.kind false g.text []) := by unfold genV; rw [if_neg (by rw [h]; simp), if_neg (by rw [hn]; simp), if_neg h4]
theorem genV_4no {g : Gen} {limit : Bool} {e : Nat} (h : formG g = true) (h4 : g.kind = 4) (hd : dnV g.dir = .no e) : genV dnV g limit = .no 31 := by
 cases hn : namedP g limit with
 | false => exact genV_named h hn
 | true => rw [genV_4 h hn h4, hd]
theorem dnV_errG {d : List (Bs × Bs)} {e : Nat} (h : dnV d = .no e) : e ≠ 0 := by
 unfold dnV at h
 split at h
 ·injection h with h; omega
 ·split at h
  ·injection h with h; omega
  ·split at h
   ·injection h with h; omega
   ·cases h
namespace Q
open N K
theorem qgenv_c (w : World) (cs : List Value) (g : Gen) (limit : Bool) (hg : GenAt w cs g) (ht : g.text.length ≤ 1000000) (hdl : g.dir.length ≤ 1000000000) (hll : ∀ a ∈ g.dir, a.1.length ≤ 1000000 ∧ a.2.length ≤ 1000000) :
  Calls Tryz.prog 33 #[.agg cs.toArray, .bool limit] w fun e w' => ∃ ds : List Value, e = .returned (.tuple #[.agg ds.toArray, .int .i64 (errOf (genV dnV g limit) : Int)]) ∧ ValAt (fun k => w.heap.size ≤ k) w' ds (valOf (genV dnV g limit)) ∧ Below w.heap.size w w' := by
 obtain ⟨s, sp, c, rfl, hst, hdn⟩ := hg.form
 obtain ⟨k, hk⟩ := exq g.kind
 obtain ⟨n, hn⟩ := exq g.dir.length
 have hs : s.size ≤ 1000000 := by rw [← bs_len, hst]; exact ht
 have HNm : Hid (∀ wr : World, Calls Tryz.prog 66 #[.agg #[.int .i64 k, .string s, .slice sp n c], .bool limit] wr fun e w' => e = .returned (.bool (namedP g limit)) ∧ Below wr.heap.size wr w') := fun wr => by
  have := qright_c wr g s sp n c limit hs hst hn (by omega)
  rw [hk] at this
  exact this
 rw [hk, hn]
 rw [hn] at hdn hdl
 obtain ⟨w1, X, hw1, eX, hA⟩ := blkN (Below.refl w.heap.size w) #[.int .i64 k, .string s, .slice sp n c] 71
 have hR0 := Blk.new hA.b #[.int .i64 0, .int .i64 0, .bool false, .slice none 0 0, .slice none 0 0] 33
 have hA1 := hA.lit (.cells #[.int .i64 0, .int .i64 0, .bool false, .slice none 0 0, .slice none 0 0] 33)
 obtain ⟨w2, hw2⟩ := exq (w1.alloc (.cells #[.int .i64 0, .int .i64 0, .bool false, .slice none 0 0, .slice none 0 0] 33))
 obtain ⟨R, eR⟩ := exq w1.heap.size
 rw [hw2, eR] at hR0
 rw [hw2] at hA1
 obtain ⟨k0, k1, k2⟩ := three_at hA1
 have HA := h_ hA1
 have HR := h_ hR0
 have HR2 : Hid (R < w2.heap.size ∧ w.heap.size ≤ w2.heap.size) := ⟨hR0.lt, hR0.b.size⟩
 have Hki := h_ (qiskind_c w2 k)
 have H5 : Hid ((#[.int .i64 0, .int .i64 0, .bool false, .slice none 0 0, .slice none 0 0] : Array Value).all (·.oneCell') = true) := by show _ = true; simp [Value.oneCell']
 have HD : Hid (DnAt w2 (.slice sp n c) g.dir) := hdn.below hR0.b
 obtain ⟨KP, hKP⟩ := exq (kindP k)
 rw [hKP] at Hki
 have HF : Hid (formG g = (KP && (decide (k = 4) || decide (n = 0)) && (!decide (k = 4) || decide (bs s = [])))) := by show _ = _; unfold formG; rw [hk, hn, hKP, hst]
 have Hk := h_ hk
 have Hn := h_ hn
 have Hst := h_ hst
 have Hll := h_ hll
 have Hs := h_ hs
 unfold gcells
 clear hA hA1 hR0 hdn hst hk hn hKP hll ht
 go_enter Tryz.func33, Tryz.ntmps33
 cases KP with
 | false =>
  have HE : Hid (errOf (genV dnV g limit) = 30 ∧ valOf (genV dnV g limit) = .mk 0 0 false [] []) := by rw [genV_form (by rw [u_ HF]; rfl)]; exact ⟨rfl, rfl⟩
  go_upto_region 2 with (go_at_call 65; refine Hki.mono ?_; rintro e wk ⟨rfl, hwk⟩; have := hwk.symm; subst this)
  go_wp2_with (refine wpList_store_row rfl 33 _ _ rfl R _ rfl rfl 33 _ HR.res value5r rfl (u_ H5) ?_)
  exact bodyPost_ret (res_row_tmp Tryz.results33 _ _ R 33 #[.int .i64 0, .int .i64 0, .bool false, .slice none 0 0, .slice none 0 0] (0, 0) _ rfl (HR.set #[.int .i64 0, .int .i64 0, .bool false, .slice none 0 0, .slice none 0 0]).res Tryz.underlying33 rfl value5r _ rfl) rfl ⟨_, by rw [HE.1]; rfl, by rw [HE.2]; exact zero_val _ _, (HR.set #[.int .i64 0, .int .i64 0, .bool false, .slice none 0 0, .slice none 0 0]).b⟩
 | true =>
 by_cases h4 : k = 4
 ·subst h4
  obtain ⟨E, hE⟩ := exq (decide (bs s = []))
  have e1 : (s.toList == ([] : Bs)) = E := by rw [nil_str, hE]
  have e2 : (s.toList != ([] : Bs)) = !E := by rw [← e1]; rfl
  have HF2 : Hid (formG g = E) := by show _ = _; rw [u_ HF, hE]; cases E <;> rfl
  clear hE HF
  cases E with
  | false =>
   have HE : Hid (errOf (genV dnV g limit) = 30 ∧ valOf (genV dnV g limit) = .mk 0 0 false [] []) := by rw [genV_form (u_ HF2)]; exact ⟨rfl, rfl⟩
   go_upto_region 2 with (go_at_call 65; refine Hki.mono ?_; rintro e wk ⟨rfl, hwk⟩; have := hwk.symm; subst this)
   go_wp2_with (refine wpList_store_row rfl 33 _ _ rfl R _ rfl rfl 33 _ HR.res value5r rfl (u_ H5) ?_)
   exact bodyPost_ret (res_row_tmp Tryz.results33 _ _ R 33 #[.int .i64 0, .int .i64 0, .bool false, .slice none 0 0, .slice none 0 0] (0, 0) _ rfl (HR.set #[.int .i64 0, .int .i64 0, .bool false, .slice none 0 0, .slice none 0 0]).res Tryz.underlying33 rfl value5r _ rfl) rfl ⟨_, by rw [HE.1]; rfl, by rw [HE.2]; exact zero_val _ _, (HR.set #[.int .i64 0, .int .i64 0, .bool false, .slice none 0 0, .slice none 0 0]).b⟩
  | true =>
  have Hdv := h_ (qdnv_c w2 sp n c g.dir (u_ HD) (u_ Hll) (u_ Hn) (by omega))
  obtain ⟨V, hV⟩ := exq (valOf (dnV g.dir))
  obtain ⟨er, her⟩ := exq (errOf (dnV g.dir))
  rw [hV, her] at Hdv
  have HVV := h_ hV
  have HER := h_ her
  clear hV her
  go_wp2_with (go_at_call 65; refine Hki.mono ?_; rintro e wk ⟨rfl, hwk⟩; have := hwk.symm; subst this)
  refine Hdv.mono ?_
  rintro e w3 ⟨ds3, rfl, hv3, hb⟩
  obtain ⟨n3, hv3⟩ := hv3
  obtain ⟨p1, q1, p2, q2, rfl⟩ := hv3.form
  obtain ⟨vc, vt, vm, vl, vk, hvc, hvt, hvm, hvl, hvk⟩ := ex5 V
  simp only [hvc, hvt, hvm, hvl, hvk] at hv3 ⊢
  unfold dcells at hv3 ⊢
  have HA3 := h_ (HA.call hb)
  have HR3 := h_ (HR.call hb)
  obtain ⟨w4, Y, hw4, eY, hY⟩ := blkN HA3.b #[.int .i64 vc, .int .i64 vt, .bool vm, .slice p1 vl q1, .slice p2 vk q2] 33
  have hb4 := allocB hw4
  have HA4 := h_ (HA3.call hb4)
  have HR4 := h_ (HR3.call hb4)
  have HY4 := h_ hY
  have HV4 := h_ (hv3.below hb4)
  have HS4 : Hid (w2.heap.size ≤ w4.heap.size) := by show _ ≤ _; have := hb.size; have := hb4.size; omega
  clear hvc hvt hvm hvl hvk hv3 hb hb4 hY Hdv HA3 HR3 k0 k1 k2 e1 e2
  obtain ⟨k0, k1, k2⟩ := three_at (u_ HA4)
  cases hq : dnV g.dir with
  | no e2 =>
   have HE : Hid (errOf (genV dnV g limit) = 31 ∧ valOf (genV dnV g limit) = .mk 0 0 false [] []) := by rw [genV_4no (u_ HF2) (u_ Hk) hq]; exact ⟨rfl, rfl⟩
   have h0 : er ≠ 0 := by rw [← u_ HER, hq]; exact dnV_errG hq
   have z1 : ((er : Int) != 0) = true := by simp; omega
   have z2 : ((er : Int) == 0) = false := by simp; omega
   clear hq h0
   go_upto_region 6 with fail
   go_wp2_with (refine wpList_store_row rfl 33 _ _ rfl R _ rfl rfl 33 _ HR4.res value5r rfl (u_ H5) ?_)
   exact bodyPost_ret (res_row_tmp Tryz.results33 _ _ R 33 #[.int .i64 0, .int .i64 0, .bool false, .slice none 0 0, .slice none 0 0] (0, 0) _ rfl (HR4.set #[.int .i64 0, .int .i64 0, .bool false, .slice none 0 0, .slice none 0 0]).res Tryz.underlying33 rfl value5r _ rfl) rfl ⟨_, by rw [HE.1]; rfl, by rw [HE.2]; exact zero_val _ _, (HR4.set #[.int .i64 0, .int .i64 0, .bool false, .slice none 0 0, .slice none 0 0]).b⟩
  | yes V2 =>
   obtain rfl : V2 = V := by rw [← u_ HVV, hq]; rfl
   obtain rfl : 0 = er := by rw [← u_ HER, hq]; rfl
   obtain ⟨NM, hNM⟩ := exq (namedP g limit)
   have Hq := h_ hq
   have HNM := h_ hNM
   have Hnm := h_ (u_ HNm w4)
   rw [hNM] at Hnm
   clear hq hNM HNm
   go_wp2_with fail
   refine Hnm.mono ?_
   rintro e w5 ⟨rfl, hb⟩
   have HR5 := h_ (HR4.call hb)
   have HY5 := h_ (HY4.call hb)
   have HV5 := h_ (HV4.below hb)
   have HS5 : Hid (w2.heap.size ≤ w5.heap.size) := by show _ ≤ _; have := u_ HS4; have := hb.size; omega
   clear hb Hnm HR4 HY4 HV4 HA4 HS4 k0 k1 k2 hw4 eY
   cases NM with
   | false =>
    have HE : Hid (errOf (genV dnV g limit) = 31 ∧ valOf (genV dnV g limit) = .mk 0 0 false [] []) := by rw [genV_named (u_ HF2) (u_ HNM)]; exact ⟨rfl, rfl⟩
    go_upto_region 6 with fail
    go_wp2_with (refine wpList_store_row rfl 33 _ _ rfl R _ rfl rfl 33 _ HR5.res value5r rfl (u_ H5) ?_)
    exact bodyPost_ret (res_row_tmp Tryz.results33 _ _ R 33 #[.int .i64 0, .int .i64 0, .bool false, .slice none 0 0, .slice none 0 0] (0, 0) _ rfl (HR5.set #[.int .i64 0, .int .i64 0, .bool false, .slice none 0 0, .slice none 0 0]).res Tryz.underlying33 rfl value5r _ rfl) rfl ⟨_, by rw [HE.1]; rfl, by rw [HE.2]; exact zero_val _ _, (HR5.set #[.int .i64 0, .int .i64 0, .bool false, .slice none 0 0, .slice none 0 0]).b⟩
   | true =>
    have HVs : Hid (genV dnV g limit = .yes (.mk 2 4 true [] [V2])) := by show _ = _; rw [genV_4 (u_ HF2) (u_ HNM) (u_ Hk), u_ Hq]
    obtain ⟨y0, y1, y2, y3, y4⟩ := five_at (u_ HY5)
    obtain ⟨w6, KB, hw6, eKB, hK⟩ := blkN HR5.b #[.int .i64 vc, .int .i64 vt, .bool vm, .slice p1 vl q1, .slice p2 vk q2] 33
    have hb6 := allocB hw6
    have HR6 := h_ (HR5.call hb6)
    have H6 : Hid ((#[.int .i64 2, .int .i64 4, .bool true, .slice none 0 0, .slice (some ⟨KB, 0, none⟩) 1 1] : Array Value).all (·.oneCell') = true) := by show _ = true; simp [Value.oneCell']
    have hval : VAt (n3 + 1) (fun b => w2.heap.size ≤ b) w6 (dcells 2 4 true (.slice none 0 0) (.slice (some ⟨KB, 0, none⟩) 1 1)) (.mk 2 4 true [] [V2]) := by
     refine val_made (vs := [V2]) rfl (Nat.le_refl _) (by omega) (by have := u_ HS5; show _ ≤ _; omega) fun j x hj => ?_
     match j, hj with
     | 0, hj =>
      simp only [List.getElem?_cons_zero, Option.some.injEq] at hj
      subst hj
      exact ⟨_, five_cells hK (ds := [.int .i64 vc, .int .i64 vt, .bool vm, .slice p1 vl q1, .slice p2 vk q2]) rfl (fun j h => by have h5 : j = 0 ∨ j = 1 ∨ j = 2 ∨ j = 3 ∨ j = 4 := (by omega); rcases h5 with rfl | rfl | rfl | rfl | rfl <;> rfl), HV5.below hb6⟩
     | j + 1, hj => simp at hj
    have HVal := h_ (VAt.kept hval (grown_setRowN w6 R #[.int .i64 2, .int .i64 4, .bool true, .slice none 0 0, .slice (some ⟨KB, 0, none⟩) 1 1]) (fun g e hs => by simp only [Option.some.injEq] at e; have := HR2.1; omega))
    clear hK hb6 hval HR5 HY5 HV5
    go_upto_region 7 with fail
    go_wp2_with (refine wpList_store_row rfl 33 _ _ rfl R _ rfl rfl 33 _ HR6.res value5r rfl (u_ H6) ?_)
    exact bodyPost_ret (res_row_tmp Tryz.results33 _ _ R 33 #[.int .i64 2, .int .i64 4, .bool true, .slice none 0 0, .slice (some ⟨KB, 0, none⟩) 1 1] (0, 0) _ rfl (HR6.set #[.int .i64 2, .int .i64 4, .bool true, .slice none 0 0, .slice (some ⟨KB, 0, none⟩) 1 1]).res Tryz.underlying33 rfl value5r _ rfl) rfl ⟨[.int .i64 2, .int .i64 4, .bool true, .slice none 0 0, .slice (some ⟨KB, 0, none⟩) 1 1], by rw [u_ HVs]; rfl, by rw [u_ HVs]; exact ⟨_, HVal.mono fun b hb _ => by have := HR2.2; omega⟩, (HR6.set #[.int .i64 2, .int .i64 4, .bool true, .slice none 0 0, .slice (some ⟨KB, 0, none⟩) 1 1]).b⟩
 ·have d4 : (k == 4) = false := by simpa using h4
  have d4' : (k != 4) = true := by simpa using h4
  by_cases hn0 : n = 0
  case neg =>
   obtain ⟨z1, z1n⟩ := ltLV 0 0 n
   have HE : Hid (errOf (genV dnV g limit) = 30 ∧ valOf (genV dnV g limit) = .mk 0 0 false [] []) := by rw [genV_form (by rw [u_ HF, decide_eq_false h4, decide_eq_false hn0]; rfl)]; exact ⟨rfl, rfl⟩
   clear h4 hn0
   go_upto_region 2 with (go_at_call 65; refine Hki.mono ?_; rintro e wk ⟨rfl, hwk⟩; have := hwk.symm; subst this)
   go_wp2_with (refine wpList_store_row rfl 33 _ _ rfl R _ rfl rfl 33 _ HR.res value5r rfl (u_ H5) ?_)
   exact bodyPost_ret (res_row_tmp Tryz.results33 _ _ R 33 #[.int .i64 0, .int .i64 0, .bool false, .slice none 0 0, .slice none 0 0] (0, 0) _ rfl (HR.set #[.int .i64 0, .int .i64 0, .bool false, .slice none 0 0, .slice none 0 0]).res Tryz.underlying33 rfl value5r _ rfl) rfl ⟨_, by rw [HE.1]; rfl, by rw [HE.2]; exact zero_val _ _, (HR.set #[.int .i64 0, .int .i64 0, .bool false, .slice none 0 0, .slice none 0 0]).b⟩
  obtain ⟨z1, z1n⟩ := ltLVf 0 0 n
  have HF2 : Hid (formG g = true) := by show _ = _; rw [u_ HF, decide_eq_false h4, decide_eq_true hn0]; rfl
  have H4 : Hid (g.kind ≠ 4) := by show _ ≠ _; rw [u_ Hk]; exact h4
  obtain ⟨NM, hNM⟩ := exq (namedP g limit)
  have HNM := h_ hNM
  have Hnm := h_ (u_ HNm w2)
  rw [hNM] at Hnm
  clear hNM HNm hn0 h4 HF
  go_wp2_with (go_at_call 65; refine Hki.mono ?_; rintro e wk ⟨rfl, hwk⟩; have := hwk.symm; subst this)
  refine Hnm.mono ?_
  rintro e w3 ⟨rfl, hb⟩
  have HA3 := h_ (HA.call hb)
  have HR3 := h_ (HR.call hb)
  clear hb Hnm k0 k1 k2 HA HR hw1 hw2 eR eX
  obtain ⟨k0, k1, k2⟩ := three_at (u_ HA3)
  cases NM with
  | false =>
   have HE : Hid (errOf (genV dnV g limit) = 31 ∧ valOf (genV dnV g limit) = .mk 0 0 false [] []) := by rw [genV_named (u_ HF2) (u_ HNM)]; exact ⟨rfl, rfl⟩
   go_upto_region 9 with fail
   go_wp2_with (refine wpList_store_row rfl 33 _ _ rfl R _ rfl rfl 33 _ HR3.res value5r rfl (u_ H5) ?_)
   exact bodyPost_ret (res_row_tmp Tryz.results33 _ _ R 33 #[.int .i64 0, .int .i64 0, .bool false, .slice none 0 0, .slice none 0 0] (0, 0) _ rfl (HR3.set #[.int .i64 0, .int .i64 0, .bool false, .slice none 0 0, .slice none 0 0]).res Tryz.underlying33 rfl value5r _ rfl) rfl ⟨_, by rw [HE.1]; rfl, by rw [HE.2]; exact zero_val _ _, (HR3.set #[.int .i64 0, .int .i64 0, .bool false, .slice none 0 0, .slice none 0 0]).b⟩
  | true =>
   have HVs : Hid (genV dnV g limit = .yes (.mk 2 k false (bs s) [])) := by show _ = _; rw [genV_n (u_ HF2) (u_ HNM) (u_ H4), u_ Hk, u_ Hst]
   obtain ⟨cp, w4, hcv, hby, hb⟩ := conv_bytes w3 s
   obtain ⟨BB, hBB⟩ := exq w3.heap.size
   obtain ⟨N, hN⟩ := exq s.size
   rw [hBB, hN] at hcv hby
   have HR4 := h_ (HR3.call hb)
   have H6 : Hid ((#[.int .i64 2, .int .i64 k, .bool false, .slice (some ⟨BB, 0, none⟩) N cp, .slice none 0 0] : Array Value).all (·.oneCell') = true) := by show _ = true; simp [Value.oneCell']
   have hRB : R ≠ BB := by have := HR3.lt; omega
   have hwB : w.heap.size ≤ BB := by have := HR3.b.size; omega
   have HVal := h_ (leaf_S (S := fun b => w.heap.size ≤ b) 2 k (bytes_setRow hby R hRB #[.int .i64 2, .int .i64 k, .bool false, .slice (some ⟨BB, 0, none⟩) N cp, .slice none 0 0]) (fun j hj => by simp only [Value.ownBlock, Option.some.injEq] at hj; omega) (by rw [bs_len]; have := u_ Hs; omega))
   clear hby hb HR3 HA3 hRB hwB hBB
   go_upto_region 10 with fail
   go_wp2_with (refine wpList_store_row rfl 33 _ _ rfl R _ rfl rfl 33 _ HR4.res value5r rfl (u_ H6) ?_)
   exact bodyPost_ret (res_row_tmp Tryz.results33 _ _ R 33 #[.int .i64 2, .int .i64 k, .bool false, .slice (some ⟨BB, 0, none⟩) N cp, .slice none 0 0] (0, 0) _ rfl (HR4.set #[.int .i64 2, .int .i64 k, .bool false, .slice (some ⟨BB, 0, none⟩) N cp, .slice none 0 0]).res Tryz.underlying33 rfl value5r _ rfl) rfl ⟨[.int .i64 2, .int .i64 k, .bool false, .slice (some ⟨BB, 0, none⟩) N cp, .slice none 0 0], by rw [u_ HVs]; rfl, by rw [u_ HVs]; exact u_ HVal, (HR4.set #[.int .i64 2, .int .i64 k, .bool false, .slice (some ⟨BB, 0, none⟩) N cp, .slice none 0 0]).b⟩
end Q
namespace N
open K
theorem within_unlike (w : World) (cs ds : List Value) (g l : Gen) (hg : GenAt w cs g) (hl : GenAt w ds l) (hne : g.kind ≠ l.kind) :
  Calls Tryz.prog 34 #[.agg cs.toArray, .agg ds.toArray] w fun e w' => e = .returned (.bool false) ∧ Below w.heap.size w w' := by
 have HG : Hid (∀ wr, Below w.heap.size w wr → GenAt wr cs g) := fun wr hb => hg.below hb
 have HL : Hid (∀ wr, Below w.heap.size w wr → GenAt wr ds l) := fun wr hb => hl.below hb
 obtain ⟨s, sp, c, rfl, hst, hdn⟩ := hg.form
 obtain ⟨s2, sp2, c2, rfl, hst2, hdn2⟩ := hl.form
 obtain ⟨k, hk⟩ := exq g.kind
 obtain ⟨n, hn⟩ := exq g.dir.length
 obtain ⟨k', hk'⟩ : ∃ k, l.kind = k := ⟨_, rfl⟩
 obtain ⟨n', hn'⟩ : ∃ n, l.dir.length = n := ⟨_, rfl⟩
 rw [hk, hn] at HG ⊢
 rw [hk', hn'] at HL ⊢
 rw [hk, hk'] at hne
 have z1 : (k != k') = true := by simpa using hne
 have z2 : (k == k') = false := by simpa using hne
 obtain ⟨w1, X, hw1, eX, hA⟩ := blkN (Below.refl w.heap.size w) #[.int .i64 k, .string s, .slice sp n c] 56
 have hY := Blk.new hA.b #[.int .i64 k', .string s2, .slice sp2 n' c2] 56
 have hA1 := hA.lit (.cells #[.int .i64 k', .string s2, .slice sp2 n' c2] 56)
 obtain ⟨w2, hw2⟩ := exq (w1.alloc (.cells #[.int .i64 k', .string s2, .slice sp2 n' c2] 56))
 obtain ⟨Y, eY⟩ := exq w1.heap.size
 rw [hw2, eY] at hY
 rw [hw2] at hA1
 obtain ⟨k0, k1, k2⟩ := three_at hA1
 obtain ⟨j0, j1, j2⟩ := three_at hY
 have HA := h_ hA1
 have HY := h_ hY
 unfold gcells
 clear hA hA1 hY hdn hdn2 hst hst2 hg hl hk hk' hn hn' hne
 go_enter Tryz.func34, Tryz.ntmps34
 go_wp2
 go_ret
 exact ⟨rfl, HA.b⟩
theorem within_ref1 (dn : List (Bs × Bs) → Told DV) (w : World) (cs ds : List Value) (g l : Gen) (hg : GenAt w cs g) (hl : GenAt w ds l) (htg : g.text.length ≤ 1000000) (hdg : g.dir.length ≤ 1000000) (hkk : g.kind = l.kind) (h4 : g.kind ≠ 4) (hr1 : refG dn g false = true) :
  Calls Tryz.prog 34 #[.agg cs.toArray, .agg ds.toArray] w fun e w' => e = .returned (.bool false) ∧ Below w.heap.size w w' := by
 have HG : Hid (∀ wr, Below w.heap.size w wr → GenAt wr cs g) := fun wr hb => hg.below hb
 have HL : Hid (∀ wr, Below w.heap.size w wr → GenAt wr ds l) := fun wr hb => hl.below hb
 obtain ⟨s, sp, c, rfl, hst, hdn⟩ := hg.form
 obtain ⟨s2, sp2, c2, rfl, hst2, hdn2⟩ := hl.form
 obtain ⟨k, hk⟩ := exq g.kind
 obtain ⟨n, hn⟩ := exq g.dir.length
 obtain ⟨k', hk'⟩ : ∃ k, l.kind = k := ⟨_, rfl⟩
 obtain ⟨n', hn'⟩ : ∃ n, l.dir.length = n := ⟨_, rfl⟩
 rw [hk, hn] at HG ⊢
 rw [hk', hn'] at HL ⊢
 have hkk2 : k = k' := by rw [← hk, ← hk']; exact hkk
 subst hkk2
 have HRf : Hid (∀ wr, Below w.heap.size w wr → Calls Tryz.prog 68 #[.agg #[.int .i64 k, .string s, .slice sp n c], .bool false] wr fun e w' => e = .returned (.bool true) ∧ Below wr.heap.size wr w') := fun wr hb => by
  have := isref_c dn wr _ g false (u_ HG wr hb) (by omega) (by omega) h4
  rw [hr1] at this
  exact this
 obtain ⟨w1, X, hw1, eX, hA⟩ := blkN (Below.refl w.heap.size w) #[.int .i64 k, .string s, .slice sp n c] 56
 have hY := Blk.new hA.b #[.int .i64 k, .string s2, .slice sp2 n' c2] 56
 have hA1 := hA.lit (.cells #[.int .i64 k, .string s2, .slice sp2 n' c2] 56)
 obtain ⟨w2, hw2⟩ := exq (w1.alloc (.cells #[.int .i64 k, .string s2, .slice sp2 n' c2] 56))
 obtain ⟨Y, eY⟩ := exq w1.heap.size
 rw [hw2, eY] at hY
 rw [hw2] at hA1
 obtain ⟨k0, k1, k2⟩ := three_at hA1
 obtain ⟨j0, j1, j2⟩ := three_at hY
 have HA := h_ hA1
 have HY := h_ hY
 unfold gcells
 clear hA hA1 hY hdn hdn2 hst hst2 hg hl hk hk' hn hn' hkk h4 HG HL hr1
 go_enter Tryz.func34, Tryz.ntmps34
 go_wp2_with fail
 refine (u_ HRf w2 HA.b).mono ?_
 rintro e w3 ⟨rfl, hb⟩
 have HA3 := h_ (HA.call hb)
 have HY3 := h_ (HY.call hb)
 clear hb k0 k1 k2 j0 j1 j2 HA HY hw1 hw2 eY
 obtain ⟨k0, k1, k2⟩ := three_at (u_ HA3)
 obtain ⟨j0, j1, j2⟩ := three_at (u_ HY3)
 go_wp2
 go_ret
 exact ⟨rfl, HA3.b⟩
theorem within_ref2 (dn : List (Bs × Bs) → Told DV) (w : World) (cs ds : List Value) (g l : Gen) (hg : GenAt w cs g) (hl : GenAt w ds l) (htg : g.text.length ≤ 1000000) (htl : l.text.length ≤ 1000000) (hdg : g.dir.length ≤ 1000000) (hdl : l.dir.length ≤ 1000000) (hkk : g.kind = l.kind) (h4 : g.kind ≠ 4) (hr1 : refG dn g false = false) (hr2 : refG dn l true = true) :
  Calls Tryz.prog 34 #[.agg cs.toArray, .agg ds.toArray] w fun e w' => e = .returned (.bool false) ∧ Below w.heap.size w w' := by
 have HG : Hid (∀ wr, Below w.heap.size w wr → GenAt wr cs g) := fun wr hb => hg.below hb
 have HL : Hid (∀ wr, Below w.heap.size w wr → GenAt wr ds l) := fun wr hb => hl.below hb
 obtain ⟨s, sp, c, rfl, hst, hdn⟩ := hg.form
 obtain ⟨s2, sp2, c2, rfl, hst2, hdn2⟩ := hl.form
 obtain ⟨k, hk⟩ := exq g.kind
 obtain ⟨n, hn⟩ := exq g.dir.length
 obtain ⟨k', hk'⟩ : ∃ k, l.kind = k := ⟨_, rfl⟩
 obtain ⟨n', hn'⟩ : ∃ n, l.dir.length = n := ⟨_, rfl⟩
 rw [hk, hn] at HG ⊢
 rw [hk', hn'] at HL ⊢
 have hkk2 : k = k' := by rw [← hk, ← hk']; exact hkk
 subst hkk2
 have HRf : Hid (∀ wr, Below w.heap.size w wr → Calls Tryz.prog 68 #[.agg #[.int .i64 k, .string s, .slice sp n c], .bool false] wr fun e w' => e = .returned (.bool false) ∧ Below wr.heap.size wr w') := fun wr hb => by
  have := isref_c dn wr _ g false (u_ HG wr hb) (by omega) (by omega) h4
  rw [hr1] at this
  exact this
 have HRl : Hid (∀ wr, Below w.heap.size w wr → Calls Tryz.prog 68 #[.agg #[.int .i64 k, .string s2, .slice sp2 n' c2], .bool true] wr fun e w' => e = .returned (.bool true) ∧ Below wr.heap.size wr w') := fun wr hb => by
  have := isref_c dn wr _ l true (u_ HL wr hb) (by omega) (by omega) (by rw [← hkk]; exact h4)
  rw [hr2] at this
  exact this
 obtain ⟨w1, X, hw1, eX, hA⟩ := blkN (Below.refl w.heap.size w) #[.int .i64 k, .string s, .slice sp n c] 56
 have hY := Blk.new hA.b #[.int .i64 k, .string s2, .slice sp2 n' c2] 56
 have hA1 := hA.lit (.cells #[.int .i64 k, .string s2, .slice sp2 n' c2] 56)
 obtain ⟨w2, hw2⟩ := exq (w1.alloc (.cells #[.int .i64 k, .string s2, .slice sp2 n' c2] 56))
 obtain ⟨Y, eY⟩ := exq w1.heap.size
 rw [hw2, eY] at hY
 rw [hw2] at hA1
 obtain ⟨k0, k1, k2⟩ := three_at hA1
 obtain ⟨j0, j1, j2⟩ := three_at hY
 have HA := h_ hA1
 have HY := h_ hY
 unfold gcells
 clear hA hA1 hY hdn hdn2 hst hst2 hg hl hk hk' hn hn' hkk h4 HG HL hr1 hr2
 go_enter Tryz.func34, Tryz.ntmps34
 go_wp2_with fail
 refine (u_ HRf w2 HA.b).mono ?_
 rintro e w3 ⟨rfl, hb⟩
 have HA3 := h_ (HA.call hb)
 have HY3 := h_ (HY.call hb)
 clear hb k0 k1 k2 j0 j1 j2 HA HY hw1 hw2 eY
 obtain ⟨k0, k1, k2⟩ := three_at (u_ HA3)
 obtain ⟨j0, j1, j2⟩ := three_at (u_ HY3)
 go_wp2_with fail
 refine (u_ HRl w3 HA3.b).mono ?_
 rintro e w4 ⟨rfl, hb⟩
 have HA4 := h_ (HA3.call hb)
 have HY4 := h_ (HY3.call hb)
 clear hb k0 k1 k2 j0 j1 j2 HA3 HY3
 obtain ⟨k0, k1, k2⟩ := three_at (u_ HA4)
 obtain ⟨j0, j1, j2⟩ := three_at (u_ HY4)
 go_wp2
 go_ret
 exact ⟨rfl, HA4.b⟩
theorem within_mail (dn : List (Bs × Bs) → Told DV) (w : World) (cs ds : List Value) (g l : Gen) (hg : GenAt w cs g) (hl : GenAt w ds l) (htg : g.text.length ≤ 1000000) (htl : l.text.length ≤ 1000000) (hdg : g.dir.length ≤ 1000000) (hdl : l.dir.length ≤ 1000000) (hkk : g.kind = l.kind) (h4 : g.kind = 1) (hr1 : refG dn g false = false) (hr2 : refG dn l true = false) (U : Bool) (hc : ∀ (wr : World) (s s2 : ByteArray), Below w.heap.size w wr → bs s = g.text → bs s2 = l.text → Calls Tryz.prog 69 #[.string s, .string s2] wr fun e w' => e = .returned (.bool U) ∧ Below wr.heap.size wr w') :
  Calls Tryz.prog 34 #[.agg cs.toArray, .agg ds.toArray] w fun e w' => e = .returned (.bool U) ∧ Below w.heap.size w w' := by
 have HG : Hid (∀ wr, Below w.heap.size w wr → GenAt wr cs g) := fun wr hb => hg.below hb
 have HL : Hid (∀ wr, Below w.heap.size w wr → GenAt wr ds l) := fun wr hb => hl.below hb
 obtain ⟨s, sp, c, rfl, hst, hdn⟩ := hg.form
 obtain ⟨s2, sp2, c2, rfl, hst2, hdn2⟩ := hl.form
 obtain ⟨k, hk⟩ := exq g.kind
 obtain ⟨n, hn⟩ := exq g.dir.length
 obtain ⟨k', hk'⟩ : ∃ k, l.kind = k := ⟨_, rfl⟩
 obtain ⟨n', hn'⟩ : ∃ n, l.dir.length = n := ⟨_, rfl⟩
 rw [hk, hn] at HG ⊢
 rw [hk', hn'] at HL ⊢
 have hkk2 : k = k' := by rw [← hk, ← hk']; exact hkk
 subst hkk2
 obtain rfl : k = 1 := hk.symm.trans h4
 have HRf : Hid (∀ wr, Below w.heap.size w wr → Calls Tryz.prog 68 #[.agg #[.int .i64 1, .string s, .slice sp n c], .bool false] wr fun e w' => e = .returned (.bool false) ∧ Below wr.heap.size wr w') := fun wr hb => by
  have := isref_c dn wr _ g false (u_ HG wr hb) (by omega) (by omega) (by rw [h4]; decide)
  rw [hr1] at this
  exact this
 have HRl : Hid (∀ wr, Below w.heap.size w wr → Calls Tryz.prog 68 #[.agg #[.int .i64 1, .string s2, .slice sp2 n' c2], .bool true] wr fun e w' => e = .returned (.bool false) ∧ Below wr.heap.size wr w') := fun wr hb => by
  have := isref_c dn wr _ l true (u_ HL wr hb) (by omega) (by omega) (by rw [← hkk, h4]; decide)
  rw [hr2] at this
  exact this
 obtain ⟨w1, X, hw1, eX, hA⟩ := blkN (Below.refl w.heap.size w) #[.int .i64 1, .string s, .slice sp n c] 56
 have hY := Blk.new hA.b #[.int .i64 1, .string s2, .slice sp2 n' c2] 56
 have hA1 := hA.lit (.cells #[.int .i64 1, .string s2, .slice sp2 n' c2] 56)
 obtain ⟨w2, hw2⟩ := exq (w1.alloc (.cells #[.int .i64 1, .string s2, .slice sp2 n' c2] 56))
 obtain ⟨Y, eY⟩ := exq w1.heap.size
 rw [hw2, eY] at hY
 rw [hw2] at hA1
 obtain ⟨k0, k1, k2⟩ := three_at hA1
 obtain ⟨j0, j1, j2⟩ := three_at hY
 have HA := h_ hA1
 have HY := h_ hY
 unfold gcells
 have HC : Hid (∀ wr, Below w.heap.size w wr → Calls Tryz.prog 69 #[.string s, .string s2] wr fun e w' => e = .returned (.bool U) ∧ Below wr.heap.size wr w') := fun wr hb => hc wr s s2 hb hst hst2
 clear hA hA1 hY hdn hdn2 hst hst2 hg hl hk hk' hn hn' hkk h4 HG HL hr1 hr2 hc
 go_enter Tryz.func34, Tryz.ntmps34
 go_wp2_with fail
 refine (u_ HRf w2 HA.b).mono ?_
 rintro e w3 ⟨rfl, hb⟩
 have HA3 := h_ (HA.call hb)
 have HY3 := h_ (HY.call hb)
 clear hb k0 k1 k2 j0 j1 j2 HA HY hw1 hw2 eY
 obtain ⟨k0, k1, k2⟩ := three_at (u_ HA3)
 obtain ⟨j0, j1, j2⟩ := three_at (u_ HY3)
 go_wp2_with fail
 refine (u_ HRl w3 HA3.b).mono ?_
 rintro e w4 ⟨rfl, hb⟩
 have HA4 := h_ (HA3.call hb)
 have HY4 := h_ (HY3.call hb)
 clear hb k0 k1 k2 j0 j1 j2 HA3 HY3
 obtain ⟨k0, k1, k2⟩ := three_at (u_ HA4)
 obtain ⟨j0, j1, j2⟩ := three_at (u_ HY4)
 go_wp2_with fail
 refine (u_ HC w4 HA4.b).mono ?_
 rintro e w5 ⟨rfl, hb⟩
 have HA5 := h_ (HA4.call hb)
 clear hb k0 k1 k2 j0 j1 j2 HA4 HY4
 go_wp2
 go_ret
 exact ⟨rfl, HA5.b⟩
theorem within_uri (dn : List (Bs × Bs) → Told DV) (w : World) (cs ds : List Value) (g l : Gen) (hg : GenAt w cs g) (hl : GenAt w ds l) (htg : g.text.length ≤ 1000000) (htl : l.text.length ≤ 1000000) (hdg : g.dir.length ≤ 1000000) (hdl : l.dir.length ≤ 1000000) (hkk : g.kind = l.kind) (h4 : g.kind = 6) (hr1 : refG dn g false = false) (hr2 : refG dn l true = false) (U : Bool) (hc : ∀ (wr : World) (s s2 : ByteArray), Below w.heap.size w wr → bs s = g.text → bs s2 = l.text → Calls Tryz.prog 72 #[.string s, .string s2] wr fun e w' => e = .returned (.bool U) ∧ Below wr.heap.size wr w') :
  Calls Tryz.prog 34 #[.agg cs.toArray, .agg ds.toArray] w fun e w' => e = .returned (.bool U) ∧ Below w.heap.size w w' := by
 have HG : Hid (∀ wr, Below w.heap.size w wr → GenAt wr cs g) := fun wr hb => hg.below hb
 have HL : Hid (∀ wr, Below w.heap.size w wr → GenAt wr ds l) := fun wr hb => hl.below hb
 obtain ⟨s, sp, c, rfl, hst, hdn⟩ := hg.form
 obtain ⟨s2, sp2, c2, rfl, hst2, hdn2⟩ := hl.form
 obtain ⟨k, hk⟩ := exq g.kind
 obtain ⟨n, hn⟩ := exq g.dir.length
 obtain ⟨k', hk'⟩ : ∃ k, l.kind = k := ⟨_, rfl⟩
 obtain ⟨n', hn'⟩ : ∃ n, l.dir.length = n := ⟨_, rfl⟩
 rw [hk, hn] at HG ⊢
 rw [hk', hn'] at HL ⊢
 have hkk2 : k = k' := by rw [← hk, ← hk']; exact hkk
 subst hkk2
 obtain rfl : k = 6 := hk.symm.trans h4
 have HRf : Hid (∀ wr, Below w.heap.size w wr → Calls Tryz.prog 68 #[.agg #[.int .i64 6, .string s, .slice sp n c], .bool false] wr fun e w' => e = .returned (.bool false) ∧ Below wr.heap.size wr w') := fun wr hb => by
  have := isref_c dn wr _ g false (u_ HG wr hb) (by omega) (by omega) (by rw [h4]; decide)
  rw [hr1] at this
  exact this
 have HRl : Hid (∀ wr, Below w.heap.size w wr → Calls Tryz.prog 68 #[.agg #[.int .i64 6, .string s2, .slice sp2 n' c2], .bool true] wr fun e w' => e = .returned (.bool false) ∧ Below wr.heap.size wr w') := fun wr hb => by
  have := isref_c dn wr _ l true (u_ HL wr hb) (by omega) (by omega) (by rw [← hkk, h4]; decide)
  rw [hr2] at this
  exact this
 obtain ⟨w1, X, hw1, eX, hA⟩ := blkN (Below.refl w.heap.size w) #[.int .i64 6, .string s, .slice sp n c] 56
 have hY := Blk.new hA.b #[.int .i64 6, .string s2, .slice sp2 n' c2] 56
 have hA1 := hA.lit (.cells #[.int .i64 6, .string s2, .slice sp2 n' c2] 56)
 obtain ⟨w2, hw2⟩ := exq (w1.alloc (.cells #[.int .i64 6, .string s2, .slice sp2 n' c2] 56))
 obtain ⟨Y, eY⟩ := exq w1.heap.size
 rw [hw2, eY] at hY
 rw [hw2] at hA1
 obtain ⟨k0, k1, k2⟩ := three_at hA1
 obtain ⟨j0, j1, j2⟩ := three_at hY
 have HA := h_ hA1
 have HY := h_ hY
 unfold gcells
 have HC : Hid (∀ wr, Below w.heap.size w wr → Calls Tryz.prog 72 #[.string s, .string s2] wr fun e w' => e = .returned (.bool U) ∧ Below wr.heap.size wr w') := fun wr hb => hc wr s s2 hb hst hst2
 clear hA hA1 hY hdn hdn2 hst hst2 hg hl hk hk' hn hn' hkk h4 HG HL hr1 hr2 hc
 go_enter Tryz.func34, Tryz.ntmps34
 go_wp2_with fail
 refine (u_ HRf w2 HA.b).mono ?_
 rintro e w3 ⟨rfl, hb⟩
 have HA3 := h_ (HA.call hb)
 have HY3 := h_ (HY.call hb)
 clear hb k0 k1 k2 j0 j1 j2 HA HY hw1 hw2 eY
 obtain ⟨k0, k1, k2⟩ := three_at (u_ HA3)
 obtain ⟨j0, j1, j2⟩ := three_at (u_ HY3)
 go_wp2_with fail
 refine (u_ HRl w3 HA3.b).mono ?_
 rintro e w4 ⟨rfl, hb⟩
 have HA4 := h_ (HA3.call hb)
 have HY4 := h_ (HY3.call hb)
 clear hb k0 k1 k2 j0 j1 j2 HA3 HY3
 obtain ⟨k0, k1, k2⟩ := three_at (u_ HA4)
 obtain ⟨j0, j1, j2⟩ := three_at (u_ HY4)
 go_wp2_with fail
 refine (u_ HC w4 HA4.b).mono ?_
 rintro e w5 ⟨rfl, hb⟩
 have HA5 := h_ (HA4.call hb)
 clear hb k0 k1 k2 j0 j1 j2 HA4 HY4
 go_wp2
 go_ret
 exact ⟨rfl, HA5.b⟩
theorem within_addr (dn : List (Bs × Bs) → Told DV) (w : World) (cs ds : List Value) (g l : Gen) (hg : GenAt w cs g) (hl : GenAt w ds l) (htg : g.text.length ≤ 1000000) (htl : l.text.length ≤ 1000000) (hdg : g.dir.length ≤ 1000000) (hdl : l.dir.length ≤ 1000000) (hkk : g.kind = l.kind) (h4 : g.kind = 7) (hr1 : refG dn g false = false) (hr2 : refG dn l true = false) (U : Bool) (hc : ∀ (wr : World) (s s2 : ByteArray), Below w.heap.size w wr → bs s = g.text → bs s2 = l.text → Calls Tryz.prog 73 #[.string s, .string s2] wr fun e w' => e = .returned (.bool U) ∧ Below wr.heap.size wr w') :
  Calls Tryz.prog 34 #[.agg cs.toArray, .agg ds.toArray] w fun e w' => e = .returned (.bool U) ∧ Below w.heap.size w w' := by
 have HG : Hid (∀ wr, Below w.heap.size w wr → GenAt wr cs g) := fun wr hb => hg.below hb
 have HL : Hid (∀ wr, Below w.heap.size w wr → GenAt wr ds l) := fun wr hb => hl.below hb
 obtain ⟨s, sp, c, rfl, hst, hdn⟩ := hg.form
 obtain ⟨s2, sp2, c2, rfl, hst2, hdn2⟩ := hl.form
 obtain ⟨k, hk⟩ := exq g.kind
 obtain ⟨n, hn⟩ := exq g.dir.length
 obtain ⟨k', hk'⟩ : ∃ k, l.kind = k := ⟨_, rfl⟩
 obtain ⟨n', hn'⟩ : ∃ n, l.dir.length = n := ⟨_, rfl⟩
 rw [hk, hn] at HG ⊢
 rw [hk', hn'] at HL ⊢
 have hkk2 : k = k' := by rw [← hk, ← hk']; exact hkk
 subst hkk2
 obtain rfl : k = 7 := hk.symm.trans h4
 have HRf : Hid (∀ wr, Below w.heap.size w wr → Calls Tryz.prog 68 #[.agg #[.int .i64 7, .string s, .slice sp n c], .bool false] wr fun e w' => e = .returned (.bool false) ∧ Below wr.heap.size wr w') := fun wr hb => by
  have := isref_c dn wr _ g false (u_ HG wr hb) (by omega) (by omega) (by rw [h4]; decide)
  rw [hr1] at this
  exact this
 have HRl : Hid (∀ wr, Below w.heap.size w wr → Calls Tryz.prog 68 #[.agg #[.int .i64 7, .string s2, .slice sp2 n' c2], .bool true] wr fun e w' => e = .returned (.bool false) ∧ Below wr.heap.size wr w') := fun wr hb => by
  have := isref_c dn wr _ l true (u_ HL wr hb) (by omega) (by omega) (by rw [← hkk, h4]; decide)
  rw [hr2] at this
  exact this
 obtain ⟨w1, X, hw1, eX, hA⟩ := blkN (Below.refl w.heap.size w) #[.int .i64 7, .string s, .slice sp n c] 56
 have hY := Blk.new hA.b #[.int .i64 7, .string s2, .slice sp2 n' c2] 56
 have hA1 := hA.lit (.cells #[.int .i64 7, .string s2, .slice sp2 n' c2] 56)
 obtain ⟨w2, hw2⟩ := exq (w1.alloc (.cells #[.int .i64 7, .string s2, .slice sp2 n' c2] 56))
 obtain ⟨Y, eY⟩ := exq w1.heap.size
 rw [hw2, eY] at hY
 rw [hw2] at hA1
 obtain ⟨k0, k1, k2⟩ := three_at hA1
 obtain ⟨j0, j1, j2⟩ := three_at hY
 have HA := h_ hA1
 have HY := h_ hY
 unfold gcells
 have HC : Hid (∀ wr, Below w.heap.size w wr → Calls Tryz.prog 73 #[.string s, .string s2] wr fun e w' => e = .returned (.bool U) ∧ Below wr.heap.size wr w') := fun wr hb => hc wr s s2 hb hst hst2
 clear hA hA1 hY hdn hdn2 hst hst2 hg hl hk hk' hn hn' hkk h4 HG HL hr1 hr2 hc
 go_enter Tryz.func34, Tryz.ntmps34
 go_wp2_with fail
 refine (u_ HRf w2 HA.b).mono ?_
 rintro e w3 ⟨rfl, hb⟩
 have HA3 := h_ (HA.call hb)
 have HY3 := h_ (HY.call hb)
 clear hb k0 k1 k2 j0 j1 j2 HA HY hw1 hw2 eY
 obtain ⟨k0, k1, k2⟩ := three_at (u_ HA3)
 obtain ⟨j0, j1, j2⟩ := three_at (u_ HY3)
 go_wp2_with fail
 refine (u_ HRl w3 HA3.b).mono ?_
 rintro e w4 ⟨rfl, hb⟩
 have HA4 := h_ (HA3.call hb)
 have HY4 := h_ (HY3.call hb)
 clear hb k0 k1 k2 j0 j1 j2 HA3 HY3
 obtain ⟨k0, k1, k2⟩ := three_at (u_ HA4)
 obtain ⟨j0, j1, j2⟩ := three_at (u_ HY4)
 go_wp2_with fail
 refine (u_ HC w4 HA4.b).mono ?_
 rintro e w5 ⟨rfl, hb⟩
 have HA5 := h_ (HA4.call hb)
 clear hb k0 k1 k2 j0 j1 j2 HA4 HY4
 go_wp2
 go_ret
 exact ⟨rfl, HA5.b⟩
end N
def addrTo (a l : Bs) (h n : Nat) : Bool := (List.range n).all fun i => decide ((a.getD i 0).toNat &&& (l.getD (h + i) 0).toNat = (l.getD i 0).toNat &&& (l.getD (h + i) 0).toNat)
def addrW (a l : Bs) : Bool := decide (a.length = l.length / 2) && addrTo a l (l.length / 2) (l.length / 2)
theorem addrTo_succ (a l : Bs) (h n : Nat) : addrTo a l h (n + 1) = (addrTo a l h n && decide ((a.getD n 0).toNat &&& (l.getD (h + n) 0).toNat = (l.getD n 0).toNat &&& (l.getD (h + n) 0).toNat)) := by
 unfold addrTo
 rw [List.range_succ, List.all_append]
 simp
theorem addrTo_no {a l : Bs} {h n m : Nat} (hn : n ≤ m) (hf : addrTo a l h n = false) : addrTo a l h m = false := by
 induction m with
 | zero => have : n = 0 := by omega
           subst this; exact hf
 | succ m ih =>
  by_cases e : n = m + 1
  ·subst e; exact hf
  ·rw [addrTo_succ, ih (by omega)]; rfl
namespace N
open K
theorem and_u8 (p q : Nat) (hp : p < 256) (hq : q < 256) : bits .and .u8 (p : Int) (q : Int) = ((p &&& q : Nat) : Int) := by
 have e : ∀ n : Nat, n < 256 → (BitVec.ofInt 8 (n : Int)).toNat = n := fun n hn => by rw [BitVec.toNat_ofInt]; omega
 have hx : p &&& q < 256 := Nat.lt_of_le_of_lt Nat.and_le_left hp
 show IntKind.u8.wrap ((BitVec.ofInt 8 (p : Int) &&& BitVec.ofInt 8 (q : Int)).toNat : Int) = _
 rw [BitVec.toNat_and, e p hp, e q hq, IntKind.wrap_u8']
 omega
theorem addrw_c (w : World) (s l : ByteArray) (hs : s.size ≤ 1000000) (hl : l.size ≤ 1000000) :
  Calls Tryz.prog 73 #[.string s, .string l] w fun e w' => e = .returned (.bool (addrW (bs s) (bs l))) ∧ Below w.heap.size w w' := by
 obtain ⟨A, hA⟩ := exq s.size
 obtain ⟨L, hL⟩ := exq l.size
 obtain ⟨H, hH⟩ := exq (L / 2)
 have eH : (L : Int) / 2 = (H : Int) := by omega
 have bA : A ≤ 1000000 := by omega
 have bL : L ≤ 1000000 := by omega
 have bH : H ≤ 1000000 := by omega
 have HAe := h_ hA
 have HLe := h_ hL
 have HHe := h_ hH
 have HT : Hid (addrW (bs s) (bs l) = (decide (A = H) && addrTo (bs s) (bs l) H H)) := by show _ = _; unfold addrW; rw [bs_len, bs_len, hA, hL, hH]
 have Hb := h_ (Below.refl w.heap.size w)
 clear hH hs hl
 by_cases hAH : A = H
 ·have z1 : ((A : Int) == (H : Int)) = true := by simp; omega
  have z1n : ((A : Int) != (H : Int)) = false := by simp; omega
  have HT2 : Hid (addrW (bs s) (bs l) = addrTo (bs s) (bs l) H H) := by show _ = _; rw [u_ HT, decide_eq_true hAH]; rfl
  clear HT
  have Hah := h_ hAH
  clear hAH
  go_enter Tryz.func73, Tryz.ntmps73
  go_wp2
  clear hA hL z1 z1n
  go_loopw [16] (fun ii wr => ∃ k : Nat, k ≤ H ∧ ii = .int .i64 (k : Int) ∧ Hid (addrTo (bs s) (bs l) H k = true) ∧ Hid (Below w.heap.size w wr)) (fun ii _ => H - (intOf ii).toNat)
  case atStart => exact ⟨0, by omega, rfl, rfl, Hb⟩
  case round =>
   obtain ⟨k, hk, rfl, HE, HB⟩ := hrel
   clear Hb
   by_cases hlt : k < H
   ·obtain ⟨f1, f1n⟩ := ltVV k H
    obtain ⟨m, hm⟩ := exq (H + k)
    have em : (H : Int) + (k : Int) = (m : Int) := by omega
    obtain ⟨p, hp⟩ := exq (((bs s).getD k 0).toNat)
    obtain ⟨q, hq⟩ := exq (((bs l).getD k 0).toNat)
    obtain ⟨r, hr⟩ := exq (((bs l).getD m 0).toNat)
    have hp2 : p < 256 := by rw [← hp]; exact ((bs s).getD k 0).toNat_lt
    have hq2 : q < 256 := by rw [← hq]; exact ((bs l).getD k 0).toNat_lt
    have hr2 : r < 256 := by rw [← hr]; exact ((bs l).getD m 0).toNat_lt
    have hks : k < s.size := by have := u_ HAe; have := u_ Hah; omega
    have hkl : k < l.size := by have := u_ HLe; have := u_ HHe; omega
    have hml : m < l.size := by have := u_ HLe; have := u_ HHe; omega
    have ix1 : ∀ w, (Instr.index 9 (.string s) (.int .i64 (k : Int))).run Tryz.prog w = .ok (.int .u8 (p : Int)) w := fun w => index_str s k hks p hp w
    have ix2 : ∀ w, (Instr.index 9 (.string l) (.int .i64 (k : Int))).run Tryz.prog w = .ok (.int .u8 (q : Int)) w := fun w => index_str l k hkl q hq w
    have ix3 : ∀ w, (Instr.index 9 (.string l) (.int .i64 (m : Int))).run Tryz.prog w = .ok (.int .u8 (r : Int)) w := fun w => index_str l m hml r hr w
    obtain ⟨x, hx⟩ := exq (p &&& r)
    obtain ⟨y, hy⟩ := exq (q &&& r)
    have a1 : bits .and .u8 (p : Int) (r : Int) = (x : Int) := by rw [and_u8 p r hp2 hr2, hx]
    have a2 : bits .and .u8 (q : Int) (r : Int) = (y : Int) := by rw [and_u8 q r hq2 hr2, hy]
    obtain ⟨U, hU⟩ := exq (decide (x = y))
    have u1 : ((x : Int) == (y : Int)) = U := by rw [← hU]; by_cases h : x = y <;> simp [h] <;> omega
    have u2 : ((x : Int) != (y : Int)) = !U := by rw [← u1]; rfl
    have HS : Hid (addrTo (bs s) (bs l) H (k + 1) = U) := by
     show _ = _
     rw [addrTo_succ, u_ HE, hm, hp, hq, hr, hx, hy, hU]
     rfl
    clear hp hq hr hx hy hU hm HE hks hkl hml
    cases U with
    | false =>
     simp only [Bool.not_false] at u2
     have HF : Hid (addrW (bs s) (bs l) = false) := by show _ = _; rw [u_ HT2]; exact addrTo_no (n := k + 1) (by omega) (u_ HS)
     go_wp2
     go_region
     go_wp2
     go_ret
     exact ⟨by rw [u_ HF]; rfl, HB.drew⟩
    | true =>
     simp only [Bool.not_true] at u2
     go_wp2
     go_region
     have HB2 := h_ HB.drew
     go_wp2
     go_roundw
     case rel =>
      first
       | exact ⟨k + 1, by omega, by go_num, HS, HB2⟩
       | ((repeat apply Exists.intro); exact ⟨⟨k + 1, by omega, by go_num, HS, HB2⟩, rfl⟩)
     case measure => simp [intOf]; omega
   ·obtain ⟨f1, f1n⟩ := ltVVf k H
    have HF : Hid (addrW (bs s) (bs l) = true) := by
     show _ = _
     have e : k = H := by omega
     rw [u_ HT2]
     rw [e] at HE
     exact u_ HE
    clear HE
    go_wp2
    go_ret
    exact ⟨by rw [u_ HF]; rfl, u_ HB⟩
 ·have z1 : ((A : Int) == (H : Int)) = false := by simp; omega
  have z1n : ((A : Int) != (H : Int)) = true := by simp; omega
  have HT2 : Hid (addrW (bs s) (bs l) = false) := by show _ = _; rw [u_ HT, decide_eq_false hAH]; rfl
  clear HT hAH
  go_enter Tryz.func73, Tryz.ntmps73
  go_wp2
  go_ret
  exact ⟨by rw [u_ HT2]; rfl, u_ Hb⟩
end N
namespace N
open K
def addrR (a l : Bs) : Bool := decide (2 * a.length = l.length) && addrTo a l a.length a.length
theorem xor_u8w (p q : Nat) (hp : p < 256) (hq : q < 256) : bits .xor .u8 (p : Int) (q : Int) = ((p ^^^ q : Nat) : Int) := by
 have e : ∀ n : Nat, n < 256 → (BitVec.ofInt 8 (n : Int)).toNat = n := fun n hn => by rw [BitVec.toNat_ofInt]; omega
 have hx : p ^^^ q < 2 ^ 8 := Nat.xor_lt_two_pow (by omega) (by omega)
 show IntKind.u8.wrap ((BitVec.ofInt 8 (p : Int) ^^^ BitVec.ofInt 8 (q : Int)).toNat : Int) = _
 rw [BitVec.toNat_xor, e p hp, e q hq, IntKind.wrap_u8']
 omega
theorem xor_and (p q r : Nat) : (p ^^^ q) &&& r = 0 ↔ p &&& r = q &&& r := by
 rw [Nat.and_xor_distrib_right]
 constructor
 ·intro h
  have h2 := congrArg (· ^^^ (q &&& r)) h
  simpa [Nat.xor_assoc, Nat.xor_self] using h2
 ·intro h
  rw [h, Nat.xor_self]
def withinR (g l : Gen) : Bool :=
 if refG dnV g false = true ∨ refG dnV l true = true ∨ g.kind ≠ l.kind then false
 else if g.kind = 1 then mailR g.text l.text else if g.kind = 2 then machR g.text l.text
 else if g.kind = 6 then decide (0 ≤ Lib.index g.text [58, 47, 47]) && underP (uriH g.text) l.text
 else if g.kind = 7 then addrR g.text l.text else dirP g.dir l.dir
theorem named_two {g : Gen} {b : Bool} (h : namedP g b = true) (hk : g.kind = 2) : g.text.length ≤ 64 := by
 unfold namedP at h
 rw [if_neg (by omega), if_neg (by omega)] at h
 simp only [Bool.and_eq_true, decide_eq_true_eq] at h
 exact h.1.2
theorem form_kinds {g : Gen} (h : formG g = true) : g.kind = 1 ∨ g.kind = 2 ∨ g.kind = 4 ∨ g.kind = 6 ∨ g.kind = 7 := by
 unfold formG kindP at h
 simp only [Bool.and_eq_true, Bool.or_eq_true, decide_eq_true_eq] at h
 omega
end N
namespace Q
open N K
theorem qwithin_c (w : World) (cs ds : List Value) (g l : Gen) (hg : GenAt w cs g) (hl : GenAt w ds l) (htg : g.text.length ≤ 1000000) (htl : l.text.length ≤ 1000000) (hdg : g.dir.length ≤ 1000000) (hdl : l.dir.length ≤ 1000000) (hlg : ∀ a ∈ g.dir, a.1.length ≤ 1000000 ∧ a.2.length ≤ 1000000) (hll : ∀ a ∈ l.dir, a.1.length ≤ 1000000 ∧ a.2.length ≤ 1000000) :
  Calls Tryz.prog 35 #[.agg cs.toArray, .agg ds.toArray] w fun e w' => e = .returned (.bool (withinR g l)) ∧ Below w.heap.size w w' := by
 have HG : Hid (∀ wr, Below w.heap.size w wr → _) := fun wr hb => qgenv_c wr cs g false (hg.below hb) htg (by omega) hlg
 have HL : Hid (∀ wr, Below w.heap.size w wr → _) := fun wr hb => qgenv_c wr ds l true (hl.below hb) htl (by omega) hll
 obtain ⟨s, sp, c, rfl, hst, hdn⟩ := hg.form
 obtain ⟨s2, sp2, c2, rfl, hst2, hdn2⟩ := hl.form
 obtain ⟨k, hk⟩ := exq g.kind
 obtain ⟨k', hk'⟩ : ∃ k, l.kind = k := ⟨_, rfl⟩
 obtain ⟨n, hn⟩ := exq g.dir.length
 obtain ⟨n', hn'⟩ : ∃ n, l.dir.length = n := ⟨_, rfl⟩
 obtain ⟨V, hV⟩ := exq (valOf (genV dnV g false))
 obtain ⟨V', hV'⟩ : ∃ V, valOf (genV dnV l true) = V := ⟨_, rfl⟩
 obtain ⟨er, her⟩ := exq (errOf (genV dnV g false))
 obtain ⟨er', her'⟩ : ∃ x, errOf (genV dnV l true) = x := ⟨_, rfl⟩
 obtain ⟨R1, hR1⟩ := exq (refG dnV g false)
 obtain ⟨R2, hR2⟩ := exq (refG dnV l true)
 obtain ⟨K3, hK3⟩ := exq (decide (k = k'))
 have z1 : ((er : Int) != 0) = R1 := by rw [← hR1]; unfold refG; rw [her]; by_cases h : er = 0 <;> simp [h]
 have z2 : ((er' : Int) != 0) = R2 := by rw [← hR2]; unfold refG; rw [her']; by_cases h : er' = 0 <;> simp [h]
 have z3 : (k != k') = !K3 := by rw [← hK3]; by_cases h : k = k' <;> simp [h]
 have HW : Hid (withinR g l = if R1 = true ∨ R2 = true ∨ k ≠ k' then false else if k = 1 then mailR (bs s) (bs s2) else if k = 2 then machR (bs s) (bs s2) else if k = 6 then decide (0 ≤ Lib.index (bs s) [58, 47, 47]) && underP (uriH (bs s)) (bs s2) else if k = 7 then addrR (bs s) (bs s2) else dirP g.dir l.dir) := by show _ = _; unfold withinR; rw [hk, hk', hR1, hR2, hst, hst2]
 obtain ⟨ANS, hANS⟩ := exq (withinR g l)
 rw [hANS] at HW ⊢
 have HKs : Hid (R1 = false → k = 1 ∨ k = 2 ∨ k = 4 ∨ k = 6 ∨ k = 7) := fun h => by have := form_kinds (genV_kind (hR1.trans h)).1; rw [hk] at this; exact this
 have HLn : Hid (R2 = false → k' = 2 → s2.size ≤ 64) := fun h h2 => by rw [← bs_len, hst2]; exact named_two (genV_kind (hR2.trans h)).2 (hk'.trans h2)
 have HK3 := h_ hK3
 have hs1 : s.size ≤ 1000000 := by rw [← bs_len, hst]; exact htg
 have hs2 : s2.size ≤ 1000000 := by rw [← bs_len, hst2]; exact htl
 rw [hk, hn, hV, her] at HG
 rw [hk', hn', hV', her'] at HL
 rw [hk, hn, hk', hn']
 have HD1 : Hid (∀ wr, Below w.heap.size w wr → DnAt wr (.slice sp n c) g.dir) := fun wr hb => by rw [← hn]; exact hdn.below hb
 have HD2 : Hid (∀ wr, Below w.heap.size w wr → DnAt wr (.slice sp2 n' c2) l.dir) := fun wr hb => by rw [← hn']; exact hdn2.below hb
 have Hn := h_ hn
 have Hn' := h_ hn'
 have bn : n ≤ 1000000 := by omega
 have bn' : n' ≤ 1000000 := by omega
 unfold gcells at HG HL ⊢
 obtain ⟨w1, X, hw1, eX, hA⟩ := blkN (Below.refl w.heap.size w) #[.int .i64 k, .string s, .slice sp n c] 71
 have hY := Blk.new hA.b #[.int .i64 k', .string s2, .slice sp2 n' c2] 71
 have hA1 := hA.lit (.cells #[.int .i64 k', .string s2, .slice sp2 n' c2] 71)
 obtain ⟨w2, hw2⟩ := exq (w1.alloc (.cells #[.int .i64 k', .string s2, .slice sp2 n' c2] 71))
 obtain ⟨Y, eY⟩ := exq w1.heap.size
 rw [hw2, eY] at hY
 rw [hw2] at hA1
 obtain ⟨k0, k1, k2⟩ := three_at hA1
 obtain ⟨j0, j1, j2⟩ := three_at hY
 have HA := h_ hA1
 have HY := h_ hY
 clear hA hA1 hY hdn hdn2 hst hst2 hg hl hn hn' hk hk' hV hV' her her' hR1 hR2 hK3 hANS hlg hll htg htl hdg hdl
 go_enter Tryz.func35, Tryz.ntmps35
 go_wp2_with fail
 refine (u_ HG w2 HA.b).mono ?_
 rintro e w3 ⟨ds3, rfl, ⟨n3, hv3⟩, hb⟩
 obtain ⟨p1, q1, p2, q2, rfl⟩ := hv3.form
 obtain ⟨vc, vt, vm, vl, vk, hvc, hvt, hvm, hvl, hvk⟩ := ex5 V
 simp only [hvc, hvt, hvm, hvl, hvk] at ⊢
 unfold dcells
 obtain ⟨w4, hw4⟩ := exq (w3.alloc (.cells #[.int .i64 vc, .int .i64 vt, .bool vm, .slice p1 vl q1, .slice p2 vk q2] 33))
 obtain ⟨Z, eZ⟩ := exq w3.heap.size
 have hb4 := allocB hw4
 have HA4 := h_ ((HA.call hb).call hb4)
 have HY4 := h_ ((HY.call hb).call hb4)
 clear hvc hvt hvm hvl hvk hv3 hb hb4 k0 k1 k2 j0 j1 j2 HA HY HG hw1 hw2 eY
 obtain ⟨k0, k1, k2⟩ := three_at (u_ HA4)
 obtain ⟨j0, j1, j2⟩ := three_at (u_ HY4)
 go_wp2_with fail
 refine (u_ HL w4 HA4.b).mono ?_
 rintro e w5 ⟨ds5, rfl, ⟨n5, hv5⟩, hb⟩
 obtain ⟨p3, q3, p4, q4, rfl⟩ := hv5.form
 obtain ⟨uc, hvc⟩ := exq V'.cls
 obtain ⟨ut, hvt⟩ := exq V'.tag
 obtain ⟨um, hvm⟩ := exq V'.made
 obtain ⟨ul, hvl⟩ := exq V'.bytes.length
 obtain ⟨uk, hvk⟩ := exq V'.kids.length
 simp only [hvc, hvt, hvm, hvl, hvk] at ⊢
 unfold dcells
 obtain ⟨w6, hw6⟩ := exq (w5.alloc (.cells #[.int .i64 uc, .int .i64 ut, .bool um, .slice p3 ul q3, .slice p4 uk q4] 33))
 obtain ⟨Z2, eZ2⟩ := exq w5.heap.size
 have hb6 := allocB hw6
 have HA6 := h_ ((HA4.call hb).call hb6)
 have HY6 := h_ ((HY4.call hb).call hb6)
 clear hvc hvt hvm hvl hvk hv5 hb hb6 k0 k1 k2 j0 j1 j2 HA4 HY4 HL hw4 eZ
 obtain ⟨k0, k1, k2⟩ := three_at (u_ HA6)
 obtain ⟨j0, j1, j2⟩ := three_at (u_ HY6)
 cases R1 with
 | true =>
  have HF : Hid (ANS = false) := by show _ = _; rw [u_ HW, if_pos (Or.inl rfl)]
  go_wp2
  go_ret
  exact ⟨by rw [u_ HF]; rfl, (by first | exact HA6.b | (rw [← eX]; exact HA6.b))⟩
 | false =>
 cases R2 with
 | true =>
  have HF : Hid (ANS = false) := by show _ = _; rw [u_ HW, if_pos (Or.inr (Or.inl rfl))]
  go_wp2
  go_ret
  exact ⟨by rw [u_ HF]; rfl, (by first | exact HA6.b | (rw [← eX]; exact HA6.b))⟩
 | false =>
 cases K3 with
 | false =>
  have HF : Hid (ANS = false) := by show _ = _; rw [u_ HW, if_pos (Or.inr (Or.inr (of_decide_eq_false (u_ HK3))))]
  go_wp2
  go_ret
  exact ⟨by rw [u_ HF]; rfl, (by first | exact HA6.b | (rw [← eX]; exact HA6.b))⟩
 | true =>
 have hkk := of_decide_eq_true (u_ HK3)
 have hks := u_ HKs rfl
 subst hkk
 have hno : ¬ (false = true ∨ false = true ∨ k ≠ k) := fun h => h.elim (fun h => by cases h) (fun h => h.elim (fun h => by cases h) (fun h => h rfl))
 rw [if_neg hno] at HW
 clear hno HKs HK3
 rcases hks with rfl | rfl | rfl | rfl | rfl
 ·-- 1
  have HF : Hid (ANS = mailR (bs s) (bs s2)) := u_ HW
  have H1 := h_ (qmail_c w6 s s2 hs1 hs2)
  rw [← u_ HF] at H1
  go_wp2_with fail
  refine H1.mono ?_
  rintro e w7 ⟨rfl, hb⟩
  have HB := h_ (HA6.call (drew_below hb)).b
  clear hb H1
  go_wp2
  go_ret
  exact ⟨rfl, (by first | exact u_ HB | (rw [← eX]; exact u_ HB))⟩
 ·-- 2
  have HF : Hid (ANS = machR (bs s) (bs s2)) := u_ HW
  have H1 := h_ (qmachine_c w6 s hs1)
  obtain ⟨M, hM⟩ := exq (machP (bs s))
  obtain ⟨E, hE⟩ := exq (decide (bs s2 = []))
  obtain ⟨A, hA⟩ := exq (alikeP (bs s) (bs s2))
  obtain ⟨d, hd⟩ := exq (st (46 :: bs s2))
  have ed : bs d = 46 :: bs s2 := by rw [← hd, bs_st]
  obtain ⟨U, hU⟩ := exq (endsP (bs s) (bs d))
  have HF2 : Hid (ANS = (M && (E || A || U))) := by show _ = _; rw [u_ HF]; unfold machR; rw [hM, hE, hA, ← hU, ed]
  have he : (s2.toList == ([] : Bs)) = E := by rw [nil_str]; exact hE
  have hcat : ∀ W, (Op.stringOp .add { data := #[46] } s2).run Tryz.prog W = .ok (.string d) W := fun W => by
   have := cat_str [46] (bs s2) (46 :: bs s2) rfl (by rw [bs_len]; simp; omega) W
   rw [hd, st_bs] at this
   exact this
  have H2 := h_ (qalike_c w6 s s2 hs1 hs2)
  have zd : d.size ≤ 1000000 := by rw [← bs_len, ed, List.length_cons, bs_len]; have := u_ HLn rfl rfl; omega
  have H3 : Hid (∀ wr, Calls Tryz.prog 77 #[.string s, .string d] wr fun e w' => e = .returned (.bool U) ∧ ∃ q, w' = wr.drewN q) := fun wr => by
   have := qends_c wr s d hs1 zd
   rw [hU] at this
   exact this
  rw [hM] at H1
  rw [hA] at H2
  clear hM hE hA hd ed hU HF HW zd
  cases M with
  | false =>
   go_wp2_with (go_at_call 75; refine H1.mono ?_; rintro e wk ⟨rfl, hwk⟩; have := hwk.symm; subst this)
   go_ret
   exact ⟨by rw [u_ HF2]; rfl, (by first | exact HA6.b | (rw [← eX]; exact HA6.b))⟩
  | true =>
  cases E with
  | true =>
   go_wp2_with (go_at_call 75; refine H1.mono ?_; rintro e wk ⟨rfl, hwk⟩; have := hwk.symm; subst this)
   go_ret
   exact ⟨by rw [u_ HF2]; rfl, (by first | exact HA6.b | (rw [← eX]; exact HA6.b))⟩
  | false =>
  go_wp2_with (go_at_call 75; refine H1.mono ?_; rintro e wk ⟨rfl, hwk⟩; have := hwk.symm; subst this)
  refine H2.mono ?_
  rintro e w7 ⟨rfl, hb⟩
  have HA7 := h_ (HA6.call (drew_below hb))
  have HY7 := h_ (HY6.call (drew_below hb))
  clear hb H1 H2 HA6 HY6 k0 k1 k2 j0 j1 j2 hw6 eZ2
  obtain ⟨k0, k1, k2⟩ := three_at (u_ HA7)
  obtain ⟨j0, j1, j2⟩ := three_at (u_ HY7)
  cases A with
  | true =>
   go_wp2
   go_ret
   exact ⟨by rw [u_ HF2]; rfl, (by first | exact HA7.b | (rw [← eX]; exact HA7.b))⟩
  | false =>
   go_wp2_with fail
   refine (u_ H3 w7).mono ?_
   rintro e w8 ⟨rfl, hb⟩
   have HB := h_ (HA7.call (drew_below hb)).b
   clear hb H3
   go_wp2
   go_ret
   exact ⟨by rw [u_ HF2]; rfl, (by first | exact u_ HB | (rw [← eX]; exact u_ HB))⟩
 ·-- 4
  have HF : Hid (ANS = dirP g.dir l.dir) := u_ HW
  by_cases hle : n' ≤ n
  ·obtain ⟨sq, hsl, hdq⟩ := slice_qdn (u_ HD1 w6 HA6.b) (u_ Hn) n' hle
   obtain ⟨U, hU⟩ := exq (sameP (g.dir.take n') l.dir)
   have HF2 : Hid (ANS = U) := by show _ = _; rw [u_ HF]; unfold dirP; rw [u_ Hn', decide_eq_true (by rw [u_ Hn]; omega), Bool.true_and, hU]
   have Hs : Hid (∀ q, Calls Tryz.prog 27 #[.slice sq n' c, .slice sp2 n' c2] (w6.drewN q) fun e w' => e = .returned (.bool U) ∧ ∃ m, w' = (w6.drewN q).drewN m) := fun q => by
    have hb := drew_below (w := w6) ⟨q, rfl⟩
    have := qsameq_c (w6.drewN q) sq sp2 n' n' c c2 (g.dir.take n') l.dir (hdq.below hb) (u_ HD2 _ (HA6.call hb).b) (by rw [List.length_take, u_ Hn]; omega) (u_ Hn') (by omega) (by omega)
    rw [hU] at this
    exact this
   have g1 : decide ((n' : Int) ≤ (n : Int)) = true := by simp; omega
   have g1n : decide (n' ≤ n) = true := by simp; omega
   clear hU hdq HF HW HD1 HD2
   go_wp2_with fail
   go_big_quiet (first | (go_at_call 27; refine Calls.quiet_of (u_ Hs _)))
   go_wp2
   go_ret
   exact ⟨by rw [u_ HF2]; rfl, below_drewNb HA6.b _⟩
  ·have HF2 : Hid (ANS = false) := by show _ = _; rw [u_ HF]; unfold dirP; rw [decide_eq_false (by rw [u_ Hn, u_ Hn']; omega), Bool.false_and]
   have g1 : decide ((n' : Int) ≤ (n : Int)) = false := by simp; omega
   have g1n : decide (n' ≤ n) = false := by simp; omega
   clear HF HW HD1 HD2
   go_wp2_with fail
   go_big_quiet (fail)
   go_wp2
   go_ret
   exact ⟨by rw [u_ HF2]; rfl, below_drewNb HA6.b _⟩
 ·-- 6
  have HF : Hid (ANS = (decide (0 ≤ Lib.index (bs s) [58, 47, 47]) && underP (uriH (bs s)) (bs s2))) := u_ HW
  have H1 := h_ (qhost_c w6 s hs1)
  obtain ⟨I, hI⟩ := exq (decide (0 ≤ Lib.index (bs s) [58, 47, 47]))
  rw [hI] at H1 HF
  have HI := h_ hI
  clear HW hI
  go_wp2_with fail
  refine H1.mono ?_
  rintro e w7 ⟨h, rfl, hh, zh, hwk⟩
  have := hwk.symm
  subst this
  have HH := h_ hh
  clear hh hwk H1
  cases I with
  | false =>
   go_wp2
   go_ret
   exact ⟨by rw [u_ HF]; rfl, (by first | exact HA6.b | (rw [← eX]; exact HA6.b))⟩
  | true =>
   have H2 := h_ (qunder_c w6 h s2 zh hs2)
   rw [u_ HH (of_decide_eq_true (u_ HI))] at H2
   obtain ⟨U, hU⟩ := exq (underP (uriH (bs s)) (bs s2))
   rw [hU] at H2 HF
   clear hU HH HI
   go_wp2_with fail
   refine H2.mono ?_
   rintro e w8 ⟨rfl, hb⟩
   have HB := h_ (HA6.call (drew_below hb)).b
   clear hb H2
   go_wp2
   go_ret
   exact ⟨by rw [u_ HF]; rfl, (by first | exact u_ HB | (rw [← eX]; exact u_ HB))⟩
 ·-- 7
  have HF : Hid (ANS = addrR (bs s) (bs s2)) := u_ HW
  obtain ⟨A, hA⟩ := exq s.size
  obtain ⟨L, hL⟩ := exq s2.size
  obtain ⟨D, hD⟩ := exq (2 * A)
  have eD : (2 : Int) * (A : Int) = (D : Int) := by omega
  have bA : A ≤ 1000000 := by omega
  have bL : L ≤ 1000000 := by omega
  have HD := h_ hD
  have HF2 : Hid (ANS = (decide (D = L) && addrTo (bs s) (bs s2) A A)) := by show _ = _; rw [u_ HF]; unfold addrR; rw [bs_len, bs_len, hA, hL, hD]
  by_cases hDL : D = L
  case neg =>
   have f1 : ((D : Int) != (L : Int)) = true := by simp; omega
   have f1n : ((D : Int) == (L : Int)) = false := by simp; omega
   have HF3 : Hid (ANS = false) := by show _ = _; rw [u_ HF2, decide_eq_false hDL]; rfl
   clear HW HF HF2 hD hDL
   go_wp2
   go_ret
   exact ⟨by rw [u_ HF3]; rfl, (by first | exact HA6.b | (rw [← eX]; exact HA6.b))⟩
  have f1 : ((D : Int) != (L : Int)) = false := by simp; omega
  have f1n : ((D : Int) == (L : Int)) = true := by simp; omega
  have HF3 : Hid (ANS = addrTo (bs s) (bs s2) A A) := by show _ = _; rw [u_ HF2, decide_eq_true hDL]; rfl
  have HAe := h_ hA
  have HLe := h_ hL
  have HDL := h_ hDL
  clear HW HF HF2 hD hDL
  go_wp2
  clear hA hL f1 f1n eD k0 k1 k2 j0 j1 j2 hw6 eZ2
  go_loopw [12] (fun ii wr => ∃ i : Nat, i ≤ A ∧ ii = .int .i64 (i : Int) ∧ Hid (addrTo (bs s) (bs s2) A i = true) ∧ Hid (∃ q, wr = w6.drewN q)) (fun ii _ => A - (intOf ii).toNat)
  case atStart => exact ⟨0, by omega, rfl, rfl, 0, rfl⟩
  case round =>
   obtain ⟨i, hi, rfl, HE, HB⟩ := hrel
   have HAr := h_ (HA6.call (drew_below (u_ HB)))
   have HYr := h_ (HY6.call (drew_below (u_ HB)))
   by_cases hlt : i < A
   case neg =>
    obtain ⟨f1, f1n⟩ := ltVVf i A
    have HF4 : Hid (ANS = true) := by
     show _ = _
     have e : i = A := by omega
     rw [u_ HF3, ← u_ HE, e]
    go_wp2
    go_ret
    exact ⟨by rw [u_ HF4]; rfl, HAr.b⟩
   obtain ⟨k0, k1, k2⟩ := three_at (u_ HAr)
   obtain ⟨j0, j1, j2⟩ := three_at (u_ HYr)
   obtain ⟨f1, f1n⟩ := ltVV i A
   obtain ⟨m, hm⟩ := exq (A + i)
   have em : (A : Int) + (i : Int) = (m : Int) := by omega
   obtain ⟨p, hp⟩ := exq (((bs s).getD i 0).toNat)
   obtain ⟨q, hq⟩ := exq (((bs s2).getD i 0).toNat)
   obtain ⟨r, hr⟩ := exq (((bs s2).getD m 0).toNat)
   have hp2 : p < 256 := by rw [← hp]; exact ((bs s).getD i 0).toNat_lt
   have hq2 : q < 256 := by rw [← hq]; exact ((bs s2).getD i 0).toNat_lt
   have hr2 : r < 256 := by rw [← hr]; exact ((bs s2).getD m 0).toNat_lt
   have hks : i < s.size := by have := u_ HAe; omega
   have hkl : i < s2.size := by have := u_ HLe; have := u_ HDL; have := u_ HD; omega
   have hml : m < s2.size := by have := u_ HLe; have := u_ HDL; have := u_ HD; omega
   have ix1 : ∀ w, (Instr.index 9 (.string s) (.int .i64 (i : Int))).run Tryz.prog w = .ok (.int .u8 (p : Int)) w := fun w => index_str s i hks p hp w
   have ix2 : ∀ w, (Instr.index 9 (.string s2) (.int .i64 (i : Int))).run Tryz.prog w = .ok (.int .u8 (q : Int)) w := fun w => index_str s2 i hkl q hq w
   have ix3 : ∀ w, (Instr.index 9 (.string s2) (.int .i64 (m : Int))).run Tryz.prog w = .ok (.int .u8 (r : Int)) w := fun w => index_str s2 m hml r hr w
   obtain ⟨x, hx⟩ := exq (p ^^^ q)
   have hx2 : x < 256 := by rw [← hx]; exact Nat.xor_lt_two_pow (n := 8) (by omega) (by omega)
   obtain ⟨y, hy⟩ := exq (x &&& r)
   have a1 : bits .xor .u8 (p : Int) (q : Int) = (x : Int) := by rw [xor_u8w p q hp2 hq2, hx]
   have a2 : bits .and .u8 (x : Int) (r : Int) = (y : Int) := by rw [and_u8 x r hx2 hr2, hy]
   obtain ⟨U, hU⟩ := exq (decide (y = 0))
   have u1 : ((y : Int) == 0) = U := by rw [← hU]; by_cases h : y = 0 <;> simp [h]
   have u2 : ((y : Int) != 0) = !U := by rw [← u1]; rfl
   have HS : Hid (addrTo (bs s) (bs s2) A (i + 1) = U) := by
    show _ = _
    rw [addrTo_succ, u_ HE, hm, hp, hq, hr, Bool.true_and, ← hU, ← hy, ← hx, decide_eq_decide]
    exact (xor_and p q r).symm
   clear hp hq hr hx hy hU hm HE hks hkl hml
   cases U with
   | false =>
    simp only [Bool.not_false] at u2
    have HF4 : Hid (ANS = false) := by show _ = _; rw [u_ HF3]; exact addrTo_no (n := i + 1) (by omega) (u_ HS)
    go_wp2
    go_region
    go_wp2
    go_ret
    exact ⟨by rw [u_ HF4]; rfl, HAr.b.drew⟩
   | true =>
    simp only [Bool.not_true] at u2
    have HB2 := h_ (drew_more (u_ HB))
    go_wp2
    go_region
    go_wp2
    go_roundw
    case rel =>
     first
      | exact ⟨i + 1, by omega, by go_num, HS, HB2⟩
      | ((repeat apply Exists.intro); exact ⟨⟨i + 1, by omega, by go_num, HS, HB2⟩, rfl⟩)
    case measure => simp [intOf]; omega
end Q
end Go.Proofs.YtcofnockikninaaGreatDoor
