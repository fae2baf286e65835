/- Parts of the walk. -/
import Derived.Test.YtcofnockikninaaGreatDoorZgGd10
import Derived.Test.YtcofnockikninaaGreatDoorZgDE
set_option maxRecDepth 100000
set_option maxHeartbeats 16000000
namespace Go.Proofs.YtcofnockikninaaGreatDoor
open Go.RowKit
theorem gen_bounds {g : Gen} {limit : Bool} {v : DV} (h : genV dnV g limit = .yes v) : g.text.length ≤ 64 ∧ g.dir.length ≤ 16 ∧ ∀ a ∈ g.dir, a.1.length ≤ 1000 ∧ a.2.length ≤ 64 := by
 cases hf : formG g with
 | false => rw [genV_form hf] at h; cases h
 | true =>
  cases hn : namedP g limit with
  | false => rw [genV_named hf hn] at h; cases h
  | true =>
   obtain ⟨_, hd, ht⟩ := formG_open (g := g) (by rw [hf]; decide)
   by_cases h4 : g.kind = 4
   ·rw [genV_4 hf hn h4] at h
    have ht2 : g.text = [] := ht.resolve_left (fun h => h h4)
    cases hv : dnV g.dir with
    | no e => rw [hv] at h; cases h
    | yes d =>
     obtain ⟨a, b⟩ := dn_bounds hv
     exact ⟨by rw [ht2]; simp, a, b⟩
   ·have hd2 : g.dir = [] := hd.resolve_left h4
    exact ⟨named_len hn h4, by rw [hd2]; simp, by rw [hd2]; intro a ha; cases ha⟩
theorem genV_errP {g : Gen} {limit : Bool} {e : Nat} (h : genV dnV g limit = .no e) : e ≠ 0 := by
 cases hf : formG g with
 | false => rw [genV_form hf] at h; injection h with h; omega
 | true =>
  cases hn : namedP g limit with
  | false => rw [genV_named hf hn] at h; injection h with h; omega
  | true =>
   by_cases h4 : g.kind = 4
   ·rw [genV_4 hf hn h4] at h
    cases hv : dnV g.dir with
    | no e => rw [hv] at h; injection h with h; omega
    | yes d => rw [hv] at h; cases h
   ·rw [genV_n hf hn h4] at h; cases h
theorem parseG_pos {limit : Bool} {v : DV} {e : Nat} (h : parseG limit v = .no e) : e ≠ 0 := by
 have h1 : ∀ g e, named1 limit g = .no e → e ≠ 0 := by
  intro g e h
  unfold named1 at h
  split at h
  ·cases h
  ·injection h with h; omega
 unfold parseG at h
 split at h
 ·unfold inner1 at h
  split at h
  ·split at h
   ·injection h with h; omega
   ·exact h1 _ _ h
  ·exact h1 _ _ h
 ·injection h with h; omega
theorem genV_weight (g : Gen) (limit : Bool) : weight (valOf (genV dnV g limit)) ≤ 21000 := by
 cases h : genV dnV g limit with
 | no e => show weight (.mk 0 0 false [] []) ≤ _; decide
 | yes v =>
  show weight v ≤ _
  cases hf : formG g with
  | false => rw [genV_form hf] at h; cases h
  | true =>
   cases hn : namedP g limit with
   | false => rw [genV_named hf hn] at h; cases h
   | true =>
    by_cases h4 : g.kind = 4
    ·rw [genV_4 hf hn h4] at h
     cases hv : dnV g.dir with
     | no e => rw [hv] at h; cases h
     | yes d =>
      rw [hv] at h
      injection h with h
      subst h
      have := dnV_weight g.dir
      rw [hv, show valOf (Told.yes d) = d from rfl] at this
      simp only [weight, weights, List.length_nil]
      omega
    ·rw [genV_n hf hn h4] at h
     injection h with h
     subst h
     have := named_len hn h4
     simp only [weight, weights]
     omega
theorem parse_bounds (limit : Bool) (v : DV) : (genTold (parseG limit v)).text.length ≤ 64 ∧ (genTold (parseG limit v)).dir.length ≤ 16 ∧ ∀ a ∈ (genTold (parseG limit v)).dir, a.1.length ≤ 1000 ∧ a.2.length ≤ 64 := by
 cases h : parseG limit v with
 | no e => exact ⟨by simp [genTold], by simp [genTold], by simp [genTold]⟩
 | yes D => exact gen_bounds (gen_back h)
namespace N
open K
theorem genvs_c (w : World) (hRd : Rdy w) (cs : List Value) (g : Gen) (limit : Bool) (hg : GenAt w cs g) (ht : g.text.length ≤ 1000000000) (hdl : g.dir.length ≤ 1000000000) (hll : ∀ a ∈ g.dir, a.1.length ≤ 1000000 ∧ a.2.length ≤ 1000000) :
  Calls Tryz.prog 31 #[.agg cs.toArray, .bool limit] w fun e w' => ∃ ds : List Value, e = .returned (.tuple #[.agg ds.toArray, .int .i64 (errOf (genV dnV g limit) : Int)]) ∧ ValAt (fun k => w.heap.size ≤ k) w' ds (valOf (genV dnV g limit)) ∧ Below w.heap.size w w' := by
 by_cases h4 : g.kind = 4
 ·exact genv4_c w hRd cs g limit hg ht hdl hll h4
 ·exact genv_c dnV w cs g limit hg ht hdl h4
end N
namespace Q
open N K
theorem generals_true (w0 : World) (hR : Rdy w0) (cs : List Value) (v : DV) (hv : ValAt (fun _ => True) w0 cs v) (gcs : List Value) (g : Gen) (hg : GenAt w0 gcs g) (htl : g.text.length ≤ 281474976710656) (hdl : g.dir.length ≤ 281474976710656) (hl : ∀ a ∈ g.dir, a.1.length ≤ 281474976710656 ∧ a.2.length ≤ 281474976710656) (limit : Bool) :
  Calls Tryz.prog 7 #[.agg cs.toArray, .agg gcs.toArray, .bool limit] w0 fun e w' => e = .returned (.bool true) ∧ Below w0.heap.size w0 w' := by
 obtain ⟨n, hv⟩ := hv
 obtain ⟨s1, c1, s2, c2, rfl⟩ := hv.form
 obtain ⟨kc, kt, km, kl, kk, hkc, hkt, hkm, hkl, hkk⟩ := ex5 v
 rw [hkc, hkt, hkm, hkl, hkk] at hv ⊢
 obtain ⟨gs, sp, cd, rfl, hgs, hdn⟩ := hg.form
 obtain ⟨gk, hgk⟩ := exq g.kind
 obtain ⟨nd, hnd⟩ := exq g.dir.length
 rw [hgk, hnd] at hg ⊢
 rw [hnd] at hdn hdl
 obtain ⟨w1, X, hw1, eX, hA⟩ := blkN (Below.refl w0.heap.size w0) #[.int .i64 kc, .int .i64 kt, .bool km, .slice s1 kl c1, .slice s2 kk c2] 25
 have hG := Blk.new hA.b #[.int .i64 gk, .string gs, .slice sp nd cd] 56
 have hA1 := hA.lit (.cells #[.int .i64 gk, .string gs, .slice sp nd cd] 56)
 obtain ⟨w2, hw2⟩ := exq (w1.alloc (.cells #[.int .i64 gk, .string gs, .slice sp nd cd] 56))
 obtain ⟨GB, eG⟩ := exq w1.heap.size
 rw [hw2, eG] at hG
 rw [hw2] at hA1
 have HA_w2 := h_ (hA1)
 have HGb_w2 := h_ (hG)
 have HV_w2 := h_ (hv.below hA1.b)
 have HR_w2 := h_ (hR.below hA1.b)
 have HD_w2 := h_ (hdn.below hA1.b)
 have HG_w2 := h_ (hg.below hA1.b)
 unfold dcells at HV_w2 ⊢
 unfold gcells at HG_w2 ⊢
 have Hnd := h_ hnd
 have Hgk := h_ hgk
 have Hgs := h_ hgs
 have Hl := h_ hl
 have Htl := h_ htl
 have Hanc := h_ (anchor_c w2 (u_ HR_w2))
 clear hA hA1 hG hv hkc hkt hkm hkl hkk hR hg hdn hnd hgk hgs hl htl
 go_enter Tryz.func7, Tryz.ntmps7
 go_wp2_with fail
 refine Hanc.mono ?_
 rintro e w3 ⟨rfl, hb⟩
 clear Hanc
 have HA_w3 := h_ (HA_w2.call hb)
 have HGb_w3 := h_ (HGb_w2.call hb)
 have HV_w3 := h_ (HV_w2.below hb)
 have HR_w3 := h_ (HR_w2.below hb)
 have HD_w3 := h_ (HD_w2.below hb)
 have HG_w3 := h_ (HG_w2.below hb)
 clear hb HA_w2 HGb_w2 HV_w2 HR_w2 HD_w2 HG_w2
 obtain ⟨k0, k1, k2, k3, k4⟩ := five_at (u_ HA_w3)
 have Hsp := h_ (spent_any _ n v w3 _ 30 3000 (u_ HV_w3) (by omega) (by omega))
 clear hw1 eX hw2 eG
 go_wp2_with fail
 refine Hsp.mono ?_
 rintro e w4 ⟨r, rfl, r0, r1, r2, hb⟩
 clear Hsp
 have HA_w4 := h_ (HA_w3.call hb)
 have HGb_w4 := h_ (HGb_w3.call hb)
 have HV_w4 := h_ (HV_w3.below hb)
 have HR_w4 := h_ (HR_w3.below hb)
 have HD_w4 := h_ (HD_w3.below hb)
 have HG_w4 := h_ (HG_w3.below hb)
 clear hb HA_w3 HGb_w3 HV_w3 HR_w3 HD_w3 HG_w3
 clear k0 k1 k2 k3 k4
 by_cases hr : r < 0
 ·have d1 : decide (r < 0) = true := by simpa using hr
  clear r2
  go_wp2
  go_ret
  exact ⟨rfl, HA_w4.b⟩
 have d1 : decide (r < 0) = false := by simp; omega
 have Hw : Hid (weight v ≤ 3000) := by show _ ≤ _; have := r2 (by omega); omega
 clear r2 hr r0 r1
 obtain ⟨g0, g1, g2⟩ := three_at (u_ HGb_w4)
 have Hsh := h_ (short_c w4 _ g (u_ HG_w4) (u_ Htl) (by have := u_ Hnd; omega) (u_ Hl))
 obtain ⟨SP, hSP⟩ := exq (shortP g)
 rw [hSP] at Hsh
 go_wp2_with fail
 refine Hsh.mono ?_
 rintro e w5 ⟨rfl, hb⟩
 clear Hsh
 have HA_w5 := h_ (HA_w4.call hb)
 have HGb_w5 := h_ (HGb_w4.call hb)
 have HV_w5 := h_ (HV_w4.below hb)
 have HR_w5 := h_ (HR_w4.below hb)
 have HD_w5 := h_ (HD_w4.below hb)
 have HG_w5 := h_ (HG_w4.below hb)
 clear hb HA_w4 HGb_w4 HV_w4 HR_w4 HD_w4 HG_w4
 clear g0 g1 g2
 cases SP with
 | false =>
  clear hSP
  go_wp2
  go_ret
  exact ⟨rfl, HA_w5.b⟩
 | true =>
 have Hso := h_ (short_open hSP)
 clear hSP d1
 obtain ⟨k0, k1, k2, k3, k4⟩ := five_at (u_ HA_w5)
 have H5 := h_ (parseg_c w5 (u_ HR_w5) _ _ v ⟨n, (u_ HV_w5)⟩ (by have := u_ Hw; omega) limit)
 obtain ⟨ER, hER⟩ := exq (errOf (parseG limit v))
 obtain ⟨DG, hDG⟩ := exq (genTold (parseG limit v))
 rw [hER, hDG] at H5
 have HER := h_ hER
 have HDG := h_ hDG
 obtain ⟨ak, hak⟩ := exq DG.kind
 obtain ⟨ND, hND⟩ := exq DG.dir.length
 have Hak := h_ hak
 have HND := h_ hND
 have HDB : Hid (DG.text.length ≤ 64 ∧ ND ≤ 16 ∧ ∀ a ∈ DG.dir, a.1.length ≤ 1000 ∧ a.2.length ≤ 64) := by
  show _ ∧ _
  rw [← hND, ← hDG]
  exact parse_bounds limit v
 go_wp2_with fail
 refine H5.mono ?_
 rintro e w6 ⟨ds6, rfl, hx6, hb⟩
 obtain ⟨as_, sa, ca, rfl, has, hda⟩ := hx6.form
 rw [hak, hND] at hx6 ⊢
 rw [hND] at hda
 unfold gcells at hx6 ⊢
 clear H5 k0 k1 k2 k3 k4
 have HA_w6 := h_ (HA_w5.call hb)
 have HGb_w6 := h_ (HGb_w5.call hb)
 have HV_w6 := h_ (HV_w5.below hb)
 have HR_w6 := h_ (HR_w5.below hb)
 have HD_w6 := h_ (HD_w5.below hb)
 have HG_w6 := h_ (HG_w5.below hb)
 clear hb HA_w5 HGb_w5 HV_w5 HR_w5 HD_w5 HG_w5
 have HGa_w6 := h_ (hx6)
 have HDa_w6 := h_ (hda)
 have Has := h_ has
 clear hx6 hda has hDG hER
 obtain ⟨w7, AB, hww7, eAB, hY⟩ := blkN HA_w6.b #[.int .i64 ak, .string as_, .slice sa ND ca] 56
 have hb := allocB hww7
 have HA_w7 := h_ (HA_w6.call hb)
 have HGb_w7 := h_ (HGb_w6.call hb)
 have HV_w7 := h_ (HV_w6.below hb)
 have HR_w7 := h_ (HR_w6.below hb)
 have HD_w7 := h_ (HD_w6.below hb)
 have HG_w7 := h_ (HG_w6.below hb)
 have HGa_w7 := h_ (HGa_w6.below hb)
 have HDa_w7 := h_ (HDa_w6.below hb)
 clear hb HA_w6 HGb_w6 HV_w6 HR_w6 HD_w6 HG_w6 HGa_w6 HDa_w6
 have HAb_w7 := h_ (hY)
 clear hY
 obtain ⟨k0, k1, k2, k3, k4⟩ := five_at (u_ HA_w7)
 have H6 := h_ (plain_any n _ v w7 _ (u_ HV_w7) (by have := u_ Hw; omega))
 go_wp2_with fail
 refine H6.mono ?_
 rintro e w8 ⟨ds8, rfl, hv6, hb⟩
 clear H6 k0 k1 k2 k3 k4 hww7 eAB
 have HA_w8 := h_ (HA_w7.call hb)
 have HGb_w8 := h_ (HGb_w7.call hb)
 have HV_w8 := h_ (HV_w7.below hb)
 have HR_w8 := h_ (HR_w7.below hb)
 have HD_w8 := h_ (HD_w7.below hb)
 have HG_w8 := h_ (HG_w7.below hb)
 have HGa_w8 := h_ (HGa_w7.below hb)
 have HDa_w8 := h_ (HDa_w7.below hb)
 have HAb_w8 := h_ (HAb_w7.call hb)
 clear hb HA_w7 HGb_w7 HV_w7 HR_w7 HD_w7 HG_w7 HGa_w7 HDa_w7 HAb_w7
 have H7 := h_ (qparseg_c w8 _ ds8 v ⟨n, hv6⟩ (by have := u_ Hw; omega) limit)
 rw [u_ HER, u_ HDG] at H7
 clear hv6
 go_wp2_with fail
 refine H7.mono ?_
 rintro e w9 ⟨ds9, rfl, hx7, hb⟩
 obtain ⟨bs_, sb, cb, rfl, hbs, hdb⟩ := hx7.form
 rw [hak, hND] at hx7 ⊢
 rw [hND] at hdb
 unfold gcells at hx7 ⊢
 obtain rfl : as_ = bs_ := by rw [← st_bs as_, u_ Has, ← hbs, st_bs]
 clear hbs hx7 H7
 have HA_w9 := h_ (HA_w8.call hb)
 have HGb_w9 := h_ (HGb_w8.call hb)
 have HV_w9 := h_ (HV_w8.below hb)
 have HR_w9 := h_ (HR_w8.below hb)
 have HD_w9 := h_ (HD_w8.below hb)
 have HG_w9 := h_ (HG_w8.below hb)
 have HGa_w9 := h_ (HGa_w8.below hb)
 have HDa_w9 := h_ (HDa_w8.below hb)
 have HAb_w9 := h_ (HAb_w8.call hb)
 clear hb HA_w8 HGb_w8 HV_w8 HR_w8 HD_w8 HG_w8 HGa_w8 HDa_w8 HAb_w8
 have HDq_w9 := h_ (hdb)
 clear hdb
 obtain ⟨w10, BB, hww10, eBB, hY⟩ := blkN HA_w9.b #[.int .i64 ak, .string as_, .slice sb ND cb] 71
 have hb := allocB hww10
 have HA_w10 := h_ (HA_w9.call hb)
 have HGb_w10 := h_ (HGb_w9.call hb)
 have HV_w10 := h_ (HV_w9.below hb)
 have HR_w10 := h_ (HR_w9.below hb)
 have HD_w10 := h_ (HD_w9.below hb)
 have HG_w10 := h_ (HG_w9.below hb)
 have HGa_w10 := h_ (HGa_w9.below hb)
 have HDa_w10 := h_ (HDa_w9.below hb)
 have HAb_w10 := h_ (HAb_w9.call hb)
 have HDq_w10 := h_ (HDq_w9.below hb)
 clear hb HA_w9 HGb_w9 HV_w9 HR_w9 HD_w9 HG_w9 HGa_w9 HDa_w9 HAb_w9 HDq_w9
 have HBb_w10 := h_ (hY)
 clear hY
 obtain ⟨H, hH⟩ := exq (errOf (genV dnV g limit))
 obtain ⟨V, hV⟩ := exq (valOf (genV dnV g limit))
 have HH := h_ hH
 have HVV := h_ hV
 have HWt : Hid (weight V ≤ 21000) := by show _ ≤ _; rw [← hV]; exact genV_weight g limit
 obtain ⟨g0, g1, g2⟩ := three_at (u_ HGb_w10)
 have H8 := h_ (genvs_c w10 (u_ HR_w10) _ g limit (u_ HG_w10) (by have := Hso.1; omega) (by have := Hso.2.1; omega) (fun a ha => ⟨by have := (Hso.2.2 a ha).1; omega, by have := (Hso.2.2 a ha).2; omega⟩))
 rw [hH, hV] at H8
 clear hH hV
 go_wp2_with fail
 refine H8.mono ?_
 rintro e w11 ⟨cs8, rfl, hv8, hb⟩
 obtain ⟨n8, hv8⟩ := hv8
 obtain ⟨p1, q1, p2, q2, rfl⟩ := hv8.form
 obtain ⟨vc, vt, vm, vl, vk, hvc, hvt, hvm, hvl, hvk⟩ := ex5 V
 simp only [hvc, hvt, hvm, hvl, hvk] at hv8 ⊢
 have Hvs : Hid (V.cls = vc ∧ V.tag = vt ∧ V.made = vm ∧ V.bytes.length = vl ∧ V.kids.length = vk) := ⟨hvc, hvt, hvm, hvl, hvk⟩
 clear hvc hvt hvm hvl hvk H8 g0 g1 g2 hww10 eBB
 have HA_w11 := h_ (HA_w10.call hb)
 have HGb_w11 := h_ (HGb_w10.call hb)
 have HV_w11 := h_ (HV_w10.below hb)
 have HR_w11 := h_ (HR_w10.below hb)
 have HD_w11 := h_ (HD_w10.below hb)
 have HG_w11 := h_ (HG_w10.below hb)
 have HGa_w11 := h_ (HGa_w10.below hb)
 have HDa_w11 := h_ (HDa_w10.below hb)
 have HAb_w11 := h_ (HAb_w10.call hb)
 have HDq_w11 := h_ (HDq_w10.below hb)
 have HBb_w11 := h_ (HBb_w10.call hb)
 clear hb HA_w10 HGb_w10 HV_w10 HR_w10 HD_w10 HG_w10 HGa_w10 HDa_w10 HAb_w10 HDq_w10 HBb_w10
 have HB_w11 := h_ (hv8)
 clear hv8
 unfold dcells at HB_w11 ⊢
 obtain ⟨w12, Y, hww12, eY, hY⟩ := blkN HA_w11.b #[.int .i64 vc, .int .i64 vt, .bool vm, .slice p1 vl q1, .slice p2 vk q2] 25
 have hb := allocB hww12
 have HA_w12 := h_ (HA_w11.call hb)
 have HGb_w12 := h_ (HGb_w11.call hb)
 have HV_w12 := h_ (HV_w11.below hb)
 have HR_w12 := h_ (HR_w11.below hb)
 have HD_w12 := h_ (HD_w11.below hb)
 have HG_w12 := h_ (HG_w11.below hb)
 have HGa_w12 := h_ (HGa_w11.below hb)
 have HDa_w12 := h_ (HDa_w11.below hb)
 have HAb_w12 := h_ (HAb_w11.call hb)
 have HDq_w12 := h_ (HDq_w11.below hb)
 have HBb_w12 := h_ (HBb_w11.call hb)
 have HB_w12 := h_ (HB_w11.below hb)
 clear hb HA_w11 HGb_w11 HV_w11 HR_w11 HD_w11 HG_w11 HGa_w11 HDa_w11 HAb_w11 HDq_w11 HBb_w11 HB_w11
 have HY_w12 := h_ (hY)
 clear hY
 obtain ⟨g0, g1, g2⟩ := three_at (u_ HGb_w12)
 have H9 := h_ (general_c w12 _ g (u_ HG_w12) (by have := Hso.2.1; omega))
 go_wp2_with fail
 refine H9.mono ?_
 rintro e w13 ⟨es, rfl, hq, hb⟩
 clear H9 g0 g1 g2 hww12 eY
 have HA_w13 := h_ (HA_w12.call hb)
 have HGb_w13 := h_ (HGb_w12.call hb)
 have HV_w13 := h_ (HV_w12.below hb)
 have HR_w13 := h_ (HR_w12.below hb)
 have HD_w13 := h_ (HD_w12.below hb)
 have HG_w13 := h_ (HG_w12.below hb)
 have HGa_w13 := h_ (HGa_w12.below hb)
 have HDa_w13 := h_ (HDa_w12.below hb)
 have HAb_w13 := h_ (HAb_w12.call hb)
 have HDq_w13 := h_ (HDq_w12.below hb)
 have HBb_w13 := h_ (HBb_w12.call hb)
 have HB_w13 := h_ (HB_w12.below hb)
 have HY_w13 := h_ (HY_w12.call hb)
 clear hb HA_w12 HGb_w12 HV_w12 HR_w12 HD_w12 HG_w12 HGa_w12 HDa_w12 HAb_w12 HDq_w12 HBb_w12 HB_w12 HY_w12
 have H10 := h_ (qgenv_c w13 es g limit hq (by have := Hso.1; omega) (by have := Hso.2.1; omega) (fun a ha => ⟨by have := (Hso.2.2 a ha).1; omega, by have := (Hso.2.2 a ha).2; omega⟩))
 rw [u_ HH, u_ HVV] at H10
 clear hq
 go_wp2_with fail
 refine H10.mono ?_
 rintro e w14 ⟨csr, rfl, hvr, hb⟩
 obtain ⟨nr, hvr⟩ := hvr
 obtain ⟨p3, q3, p4, q4, rfl⟩ := hvr.form
 simp only [Hvs.1, Hvs.2.1, Hvs.2.2.1, Hvs.2.2.2.1, Hvs.2.2.2.2] at hvr ⊢
 clear H10
 have HA_w14 := h_ (HA_w13.call hb)
 have HGb_w14 := h_ (HGb_w13.call hb)
 have HV_w14 := h_ (HV_w13.below hb)
 have HR_w14 := h_ (HR_w13.below hb)
 have HD_w14 := h_ (HD_w13.below hb)
 have HG_w14 := h_ (HG_w13.below hb)
 have HGa_w14 := h_ (HGa_w13.below hb)
 have HDa_w14 := h_ (HDa_w13.below hb)
 have HAb_w14 := h_ (HAb_w13.call hb)
 have HDq_w14 := h_ (HDq_w13.below hb)
 have HBb_w14 := h_ (HBb_w13.call hb)
 have HB_w14 := h_ (HB_w13.below hb)
 have HY_w14 := h_ (HY_w13.call hb)
 clear hb HA_w13 HGb_w13 HV_w13 HR_w13 HD_w13 HG_w13 HGa_w13 HDa_w13 HAb_w13 HDq_w13 HBb_w13 HB_w13 HY_w13
 have HC_w14 := h_ (hvr)
 clear hvr
 unfold dcells at HC_w14 ⊢
 obtain ⟨w15, Z, hww15, eZ, hY⟩ := blkN HA_w14.b #[.int .i64 vc, .int .i64 vt, .bool vm, .slice p3 vl q3, .slice p4 vk q4] 33
 have hb := allocB hww15
 have HA_w15 := h_ (HA_w14.call hb)
 have HGb_w15 := h_ (HGb_w14.call hb)
 have HV_w15 := h_ (HV_w14.below hb)
 have HR_w15 := h_ (HR_w14.below hb)
 have HD_w15 := h_ (HD_w14.below hb)
 have HG_w15 := h_ (HG_w14.below hb)
 have HGa_w15 := h_ (HGa_w14.below hb)
 have HDa_w15 := h_ (HDa_w14.below hb)
 have HAb_w15 := h_ (HAb_w14.call hb)
 have HDq_w15 := h_ (HDq_w14.below hb)
 have HBb_w15 := h_ (HBb_w14.call hb)
 have HB_w15 := h_ (HB_w14.below hb)
 have HY_w15 := h_ (HY_w14.call hb)
 have HC_w15 := h_ (HC_w14.below hb)
 clear hb HA_w14 HGb_w14 HV_w14 HR_w14 HD_w14 HG_w14 HGa_w14 HDa_w14 HAb_w14 HDq_w14 HBb_w14 HB_w14 HY_w14 HC_w14
 have HZ_w15 := h_ (hY)
 clear hY
 have HC9 : Hid (∀ w', Below w15.heap.size w15 w' → (w'.cell? ⟨AB, 0, none⟩ = some (.int .i64 ak) ∧ w'.cell? ⟨AB, 1, none⟩ = some (.string as_) ∧ w'.cell? ⟨AB, 2, none⟩ = some (.slice sa ND ca)) ∧ (w'.cell? ⟨BB, 0, none⟩ = some (.int .i64 ak) ∧ w'.cell? ⟨BB, 1, none⟩ = some (.string as_) ∧ w'.cell? ⟨BB, 2, none⟩ = some (.slice sb ND cb)) ∧ (w'.cell? ⟨Y, 0, none⟩ = some (.int .i64 vc) ∧ w'.cell? ⟨Y, 1, none⟩ = some (.int .i64 vt) ∧ w'.cell? ⟨Y, 2, none⟩ = some (.bool vm) ∧ w'.cell? ⟨Y, 3, none⟩ = some (.slice p1 vl q1) ∧ w'.cell? ⟨Y, 4, none⟩ = some (.slice p2 vk q2)) ∧ w'.cell? ⟨Z, 0, none⟩ = some (.int .i64 vc) ∧ w'.cell? ⟨Z, 1, none⟩ = some (.int .i64 vt) ∧ w'.cell? ⟨Z, 2, none⟩ = some (.bool vm) ∧ w'.cell? ⟨Z, 3, none⟩ = some (.slice p3 vl q3) ∧ w'.cell? ⟨Z, 4, none⟩ = some (.slice p4 vk q4)) := fun w hb => ⟨three_at (HAb_w15.call hb), three_at (HBb_w15.call hb), five_at (HY_w15.call hb), five_at (HZ_w15.call hb)⟩
 have HQS : Hid (∀ wr sr kr, DnAt wr (.slice sr ND kr) DG.dir → Below w15.heap.size w15 wr → Calls Tryz.prog 27 #[.slice sr ND kr, .slice sb ND cb] wr fun e w' => e = .returned (.bool true) ∧ Below wr.heap.size wr w') := fun wr sr kr hq hb => by
  have := qsamedn_c wr sr sb ND ND kr cb DG.dir DG.dir hq (HDq_w15.below hb) (u_ HND) (u_ HND) (by have := HDB.2.1; omega) (by have := HDB.2.1; omega)
  rw [show sameP DG.dir DG.dir = true from decide_eq_true rfl] at this
  exact this
 have H11 := h_ (attrs_c w15.drew sa ND ca DG.dir (HDa_w15.below (Below.refl _ _).drew) (u_ HND) (by have := HDB.2.1; omega))
 have H13 : Hid (∀ wr, Below w15.heap.size w15 wr → _) := fun wr hb => dsame_any _ _ n8 nr V wr _ _ (HB_w15.below hb) (HC_w15.below hb) (by have := u_ HWt; omega)
 obtain ⟨⟨a0, a1, a2⟩, ⟨b0, b1, b2⟩, ⟨y0, y1, y2, y3, y4⟩, z0, z1, z2, z3, z4⟩ := u_ HC9 w15 (Below.refl _ _)
 have x1 : ((ER : Int) != (ER : Int)) = false := by simp
 have x2 : ((H : Int) != (H : Int)) = false := by simp
 have x3 : (ak != ak) = false := by simp
 have x5 : (as_.toList != as_.toList) = false := by simp
 go_wp2
 clear hww15 eZ
 go_region_held3 (fun w' => (w'.cell? ⟨AB, 0, none⟩ = some (.int .i64 ak) ∧ w'.cell? ⟨AB, 1, none⟩ = some (.string as_) ∧ w'.cell? ⟨AB, 2, none⟩ = some (.slice sa ND ca)) ∧ (w'.cell? ⟨BB, 0, none⟩ = some (.int .i64 ak) ∧ w'.cell? ⟨BB, 1, none⟩ = some (.string as_) ∧ w'.cell? ⟨BB, 2, none⟩ = some (.slice sb ND cb)) ∧ (w'.cell? ⟨Y, 0, none⟩ = some (.int .i64 vc) ∧ w'.cell? ⟨Y, 1, none⟩ = some (.int .i64 vt) ∧ w'.cell? ⟨Y, 2, none⟩ = some (.bool vm) ∧ w'.cell? ⟨Y, 3, none⟩ = some (.slice p1 vl q1) ∧ w'.cell? ⟨Y, 4, none⟩ = some (.slice p2 vk q2)) ∧ w'.cell? ⟨Z, 0, none⟩ = some (.int .i64 vc) ∧ w'.cell? ⟨Z, 1, none⟩ = some (.int .i64 vt) ∧ w'.cell? ⟨Z, 2, none⟩ = some (.bool vm) ∧ w'.cell? ⟨Z, 3, none⟩ = some (.slice p3 vl q3) ∧ w'.cell? ⟨Z, 4, none⟩ = some (.slice p4 vk q4)) (go_keep)
  ((first
    | (go_at_call 26
       refine H11.mono ?_
       rintro e wa ⟨sr, kr, rfl, hq, hba⟩
       have Hba : Hid (Below w15.heap.size w15 wa) := (Below.refl w15.heap.size w15).drew.trans hba
       have Hq := h_ hq
       obtain ⟨⟨a0, a1, a2⟩, ⟨b0, b1, b2⟩, ⟨y0, y1, y2, y3, y4⟩, z0, z1, z2, z3, z4⟩ := u_ HC9 wa (u_ Hba)
       clear hq hba)
    | (go_at_call 27
       refine (u_ HQS wa sr kr (u_ Hq) (u_ Hba)).mono ?_
       rintro e wb ⟨rfl, hbb⟩
       have Hbb : Hid (Below w15.heap.size w15 wb) := Hba.trans (hbb.mono Hba.size)
       obtain ⟨⟨a0, a1, a2⟩, ⟨b0, b1, b2⟩, ⟨y0, y1, y2, y3, y4⟩, z0, z1, z2, z3, z4⟩ := u_ HC9 wb (u_ Hbb)
       clear hbb)
    | (go_at_call 16
       refine (u_ H13 wb (u_ Hbb)).mono ?_
       rintro e wc ⟨rfl, hbc⟩
       have Hbc : Hid (Below w15.heap.size w15 wc) := Hbb.trans (hbc.mono Hbb.size)
       obtain ⟨⟨a0, a1, a2⟩, ⟨b0, b1, b2⟩, ⟨y0, y1, y2, y3, y4⟩, z0, z1, z2, z3, z4⟩ := u_ HC9 wc (u_ Hbc)
       clear hbc)))
 clear a0 a1 a2 b0 b1 b2 y0 y1 y2 y3 y4 z0 z1 z2 z3 z4 x1 x2 x3 x5 HC9 HQS H11 H13 Hq
 have hb := u_ Hbc
 have HA_wc := h_ (HA_w15.call hb)
 have HGb_wc := h_ (HGb_w15.call hb)
 have HV_wc := h_ (HV_w15.below hb)
 have HR_wc := h_ (HR_w15.below hb)
 have HD_wc := h_ (HD_w15.below hb)
 have HG_wc := h_ (HG_w15.below hb)
 have HGa_wc := h_ (HGa_w15.below hb)
 have HDa_wc := h_ (HDa_w15.below hb)
 have HAb_wc := h_ (HAb_w15.call hb)
 have HDq_wc := h_ (HDq_w15.below hb)
 have HBb_wc := h_ (HBb_w15.call hb)
 have HB_wc := h_ (HB_w15.below hb)
 have HY_wc := h_ (HY_w15.call hb)
 have HC_wc := h_ (HC_w15.below hb)
 have HZ_wc := h_ (HZ_w15.call hb)
 clear hb HA_w15 HGb_w15 HV_w15 HR_w15 HD_w15 HG_w15 HGa_w15 HDa_w15 HAb_w15 HDq_w15 HBb_w15 HB_w15 HY_w15 HC_w15 HZ_w15
 clear Hba Hbb Hbc
 clear HC_wc
 clear HZ_wc
 clear HDq_wc
 clear HBb_wc
 cases hpq : parseG limit v
 case' no E =>
  obtain rfl : E = ER := by rw [← u_ HER, hpq]; rfl
  have HE0 : Hid (E ≠ 0) := parseG_pos hpq
  clear hpq
  have b3 : ((E : Int) == 0) = false := by have := u_ HE0; simp; omega
  obtain ⟨wq, ewq⟩ : ∃ x, x = wc := ⟨_, rfl⟩
  subst ewq
  have HA_wq := HA_wc
  have HGb_wq := HGb_wc
  have HV_wq := HV_wc
  have HR_wq := HR_wc
  have HD_wq := HD_wc
  have HG_wq := HG_wc
  have HB_wq := HB_wc
  have HY_wq := HY_wc
  clear HA_wc HGb_wc HV_wc HR_wc HD_wc HG_wc HGa_wc HDa_wc HAb_wc HB_wc HY_wc
 case' yes D =>
  obtain rfl : 0 = ER := by rw [← u_ HER, hpq]; rfl
  obtain rfl : D = DG := by rw [← u_ HDG, hpq]; rfl
  have HDn : Hid (genV dnV D limit = .yes v) := gen_back hpq
  clear hpq
  obtain ⟨a0, a1, a2⟩ := three_at (u_ HAb_wc)
  have H14 := h_ (genvs_c wc (u_ HR_wc) _ D limit (u_ HGa_wc) (by have := HDB.1; omega) (by have := HDB.2.1; have := u_ HND; omega) (fun a ha => ⟨by have := (HDB.2.2 a ha).1; omega, by have := (HDB.2.2 a ha).2; omega⟩))
  rw [u_ HDn, show errOf (Told.yes v) = 0 from rfl, show valOf (Told.yes v) = v from rfl] at H14
  go_wp2_with fail
  refine H14.mono ?_
  rintro e w16 ⟨csu, rfl, hvu, hb⟩
  obtain ⟨nu, hvu⟩ := hvu
  obtain ⟨r1, x1, r2, x2, rfl⟩ := hvu.form
  obtain ⟨uc, ut, um, ul, uk, huc, hut, hum, hul, huk⟩ := ex5 v
  simp only [huc, hut, hum, hul, huk] at hvu ⊢
  clear huc hut hum hul huk H14 a0 a1 a2
  have HA_w16 := h_ (HA_wc.call hb)
  have HGb_w16 := h_ (HGb_wc.call hb)
  have HV_w16 := h_ (HV_wc.below hb)
  have HR_w16 := h_ (HR_wc.below hb)
  have HD_w16 := h_ (HD_wc.below hb)
  have HG_w16 := h_ (HG_wc.below hb)
  have HGa_w16 := h_ (HGa_wc.below hb)
  have HDa_w16 := h_ (HDa_wc.below hb)
  have HAb_w16 := h_ (HAb_wc.call hb)
  have HB_w16 := h_ (HB_wc.below hb)
  have HY_w16 := h_ (HY_wc.call hb)
  clear hb HA_wc HGb_wc HV_wc HR_wc HD_wc HG_wc HGa_wc HDa_wc HAb_wc HB_wc HY_wc
  clear HDa_w16
  clear HGa_w16
  clear HAb_w16
  have HU_w16 := h_ (hvu)
  clear hvu
  unfold dcells at HU_w16 ⊢
  obtain ⟨w17, UB, hww17, eUB, hY⟩ := blkN HA_w16.b #[.int .i64 uc, .int .i64 ut, .bool um, .slice r1 ul x1, .slice r2 uk x2] 25
  have hb := allocB hww17
  have HA_w17 := h_ (HA_w16.call hb)
  have HGb_w17 := h_ (HGb_w16.call hb)
  have HV_w17 := h_ (HV_w16.below hb)
  have HR_w17 := h_ (HR_w16.below hb)
  have HD_w17 := h_ (HD_w16.below hb)
  have HG_w17 := h_ (HG_w16.below hb)
  have HB_w17 := h_ (HB_w16.below hb)
  have HY_w17 := h_ (HY_w16.call hb)
  have HU_w17 := h_ (HU_w16.below hb)
  clear hb HA_w16 HGb_w16 HV_w16 HR_w16 HD_w16 HG_w16 HB_w16 HY_w16 HU_w16
  have HUb_w17 := h_ (hY)
  clear hY
  have HL : Hid (∀ w', Below w17.heap.size w17 w' → w'.cell? ⟨UB, 0, none⟩ = some (.int .i64 uc) ∧ w'.cell? ⟨UB, 1, none⟩ = some (.int .i64 ut) ∧ w'.cell? ⟨UB, 2, none⟩ = some (.bool um) ∧ w'.cell? ⟨UB, 3, none⟩ = some (.slice r1 ul x1) ∧ w'.cell? ⟨UB, 4, none⟩ = some (.slice r2 uk x2)) := fun w hb => five_at (HUb_w17.call hb)
  have HK : Hid (∀ w', Below w17.heap.size w17 w' → w'.cell? ⟨X, 0, none⟩ = some (.int .i64 kc) ∧ w'.cell? ⟨X, 1, none⟩ = some (.int .i64 kt) ∧ w'.cell? ⟨X, 2, none⟩ = some (.bool km) ∧ w'.cell? ⟨X, 3, none⟩ = some (.slice s1 kl c1) ∧ w'.cell? ⟨X, 4, none⟩ = some (.slice s2 kk c2)) := fun w hb => five_at (HA_w17.call hb)
  obtain ⟨a0, a1, a2, a3, a4⟩ := u_ HK w17 (Below.refl _ _)
  obtain ⟨b0, b1, b2, b3, b4⟩ := u_ HL w17 (Below.refl _ _)
  go_wp2
  clear hww17 eUB
  go_region_held3 (fun w' => w'.cell? ⟨X, 0, none⟩ = some (.int .i64 kc) ∧ w'.cell? ⟨X, 1, none⟩ = some (.int .i64 kt) ∧ w'.cell? ⟨X, 2, none⟩ = some (.bool km) ∧ w'.cell? ⟨X, 3, none⟩ = some (.slice s1 kl c1) ∧ w'.cell? ⟨X, 4, none⟩ = some (.slice s2 kk c2) ∧ w'.cell? ⟨UB, 0, none⟩ = some (.int .i64 uc) ∧ w'.cell? ⟨UB, 1, none⟩ = some (.int .i64 ut) ∧ w'.cell? ⟨UB, 2, none⟩ = some (.bool um) ∧ w'.cell? ⟨UB, 3, none⟩ = some (.slice r1 ul x1) ∧ w'.cell? ⟨UB, 4, none⟩ = some (.slice r2 uk x2)) (go_keep)
   ((first
     | (go_at_call 13
        refine (plain_any n _ v w17.drew (dcells kc kt km (.slice s1 kl c1) (.slice s2 kk c2)) (HV_w17.below (Below.refl _ _).drew) (by have := u_ Hw; omega)).mono ?_
        rintro e wp ⟨ds2, rfl, hv14, hb14⟩
        obtain ⟨u1, u2, u3, u4, rfl⟩ := hv14.form
        have Hv14 := h_ hv14
        have Hb14 : Hid (Below w17.heap.size w17 wp) := (Below.refl w17.heap.size w17).drew.trans hb14
        obtain ⟨a0, a1, a2, a3, a4⟩ := u_ HK wp (u_ Hb14)
        obtain ⟨b0, b1, b2, b3, b4⟩ := u_ HL wp (u_ Hb14)
        clear hv14 hb14
        unfold dcells)
     | (go_at_call 16
        refine (dsame_any _ _ nu n v wp (dcells uc ut um (.slice r1 ul x1) (.slice r2 uk x2)) _ (HU_w17.below (u_ Hb14)) (u_ Hv14) (by have := u_ Hw; omega)).mono ?_
        rintro e wq ⟨rfl, hb16⟩
        have Hb16 := h_ (Hb14.trans (hb16.mono Hb14.size))
        obtain ⟨a0, a1, a2, a3, a4⟩ := u_ HK wq (u_ Hb16)
        obtain ⟨b0, b1, b2, b3, b4⟩ := u_ HL wq (u_ Hb16)
        clear hb16)))
  clear a0 a1 a2 a3 a4 b0 b1 b2 b3 b4
  have hb := u_ Hb16
  have HA_wq := h_ (HA_w17.call hb)
  have HGb_wq := h_ (HGb_w17.call hb)
  have HV_wq := h_ (HV_w17.below hb)
  have HR_wq := h_ (HR_w17.below hb)
  have HD_wq := h_ (HD_w17.below hb)
  have HG_wq := h_ (HG_w17.below hb)
  have HB_wq := h_ (HB_w17.below hb)
  have HY_wq := h_ (HY_w17.call hb)
  have HU_wq := h_ (HU_w17.below hb)
  have HUb_wq := h_ (HUb_w17.call hb)
  clear hb HA_w17 HGb_w17 HV_w17 HR_w17 HD_w17 HG_w17 HB_w17 HY_w17 HU_w17 HUb_w17
  clear HU_wq
  clear HUb_wq
  clear HL HK Hb14 Hb16 Hv14
 all_goals
  obtain ⟨y0, y1, y2, y3, y4⟩ := five_at (u_ HY_wq)
  have H15 := h_ (parseg_c wq (u_ HR_wq) _ _ V ⟨n8, (u_ HB_wq)⟩ (by have := u_ HWt; omega) limit)
  cases hq : genV dnV g limit with
  | no e2 =>
   have h0 : H ≠ 0 := by rw [← u_ HH, hq]; exact genV_errP hq
   have c1_ : ((H : Int) != 0) = true := by simp; omega
   have c2_ : ((H : Int) == 0) = false := by simp; omega
   obtain ⟨EK, hEK⟩ := exq (errOf (parseG limit V))
   rw [hEK] at H15
   clear hq h0 hEK
   go_wp2_with fail
   refine H15.mono ?_
   rintro e wt ⟨ct, rfl, hxt, hb⟩
   obtain ⟨tt, st_, kt_, rfl, _, _⟩ := hxt.form
   obtain ⟨LT, hLT⟩ := exq ((genTold (parseG limit V)).dir.length)
   obtain ⟨LK, hLK⟩ := exq ((genTold (parseG limit V)).kind)
   rw [hLT, hLK]
   have HAt := h_ (HA_wq.call hb)
   have hCb := Blk.new HAt.b #[.int .i64 LK, .string tt, .slice st_ LT kt_] 56
   obtain ⟨wu, hwu⟩ := exq (wt.alloc (.cells #[.int .i64 LK, .string tt, .slice st_ LT kt_] 56))
   rw [hwu] at hCb
   have HCb := h_ hCb
   unfold gcells
   clear hxt hb hLT hLK H15 y0 y1 y2 y3 y4 hCb
   go_wp2
   go_ret
   exact ⟨rfl, HCb.b⟩
  | yes V2 =>
   obtain rfl : V2 = V := by rw [← u_ HVV, hq]; rfl
   have hpt := gen_there hq
   obtain rfl : 0 = H := by rw [← u_ HH, hq]; rfl
   rw [hpt, show errOf (Told.yes g) = 0 from rfl, show genTold (Told.yes g) = g from rfl] at H15
   clear hq hpt
   go_wp2_with fail
   refine H15.mono ?_
   rintro e wt ⟨ct, rfl, hxt, hb⟩
   obtain ⟨tt, st_, kt_, rfl, htt, hdt⟩ := hxt.form
   rw [u_ Hnd, u_ Hgk]
   rw [u_ Hnd] at hdt
   obtain rfl : gs = tt := by rw [← st_bs gs, u_ Hgs, ← htt, st_bs]
   have HAt := h_ (HA_wq.call hb)
   have HGt := h_ (HGb_wq.call hb)
   have hCb := Blk.new HAt.b #[.int .i64 gk, .string gs, .slice st_ nd kt_] 56
   have hAu := HAt.lit (.cells #[.int .i64 gk, .string gs, .slice st_ nd kt_] 56)
   have hGu := HGt.lit (.cells #[.int .i64 gk, .string gs, .slice st_ nd kt_] 56)
   obtain ⟨wu, hwu⟩ := exq (wt.alloc (.cells #[.int .i64 gk, .string gs, .slice st_ nd kt_] 56))
   obtain ⟨CB, eCB⟩ := exq wt.heap.size
   rw [hwu] at hAu hGu
   rw [hwu, eCB] at hCb
   have hbu := allocB hwu
   have H16 := h_ (samedn_c wu st_ sp nd nd kt_ cd g.dir g.dir (hdt.below hbu) ((HD_wq.below hb).below hbu) (u_ Hnd) (u_ Hnd) (by have := Hso.2.1; have := u_ Hnd; omega) (by have := Hso.2.1; have := u_ Hnd; omega))
   rw [show sameP g.dir g.dir = true from decide_eq_true rfl] at H16
   obtain ⟨t0, t1, t2⟩ := three_at hCb
   obtain ⟨g0, g1, g2⟩ := three_at hGu
   have HAu := h_ hAu
   have x3 : (gk == gk) = true := by simp
   have x5 : (gs.toList == gs.toList) = true := by simp
   unfold gcells
   clear hxt hb hbu hdt htt H15 y0 y1 y2 y3 y4 hCb hGu hAu
   go_wp2_with fail
   refine H16.mono ?_
   rintro e wx ⟨rfl, hb⟩
   have HAx := h_ (HAu.call hb)
   clear hb
   go_wp2
   go_ret
   exact ⟨rfl, HAx.b⟩
end Q
end Go.Proofs.YtcofnockikninaaGreatDoor
