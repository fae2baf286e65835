/- Parts of the walk. -/
import Derived.Test.YtcofnockikninaaGreatDoorZaPq10
import Derived.Test.YtcofnockikninaaGreatDoorZaPc10
import Derived.Test.YtcofnockikninaaGreatDoorZaRe10
import Derived.Test.YtcofnockikninaaGreatDoorZaRf10
set_option maxRecDepth 100000
set_option maxHeartbeats 16000000
namespace Go.Proofs.YtcofnockikninaaGreatDoor
open Go.RowKit
theorem dn_bounds {d : List (Bs × Bs)} {v : DV} (h : dnV d = .yes v) : d.length ≤ 16 ∧ ∀ a ∈ d, a.1.length ≤ 1000 ∧ a.2.length ≤ 64 := by
 obtain ⟨h1, h2, h3, _⟩ := dnV_open h
 refine ⟨h1, fun a ha => ⟨?_, ?_⟩⟩
 ·obtain ⟨gs, hg⟩ := Option.isSome_iff_exists.1 (h2 a ha)
  have hT := oidT_V a.1
  rw [hg] at hT
  exact oidT_len hT
 ·have a3 := h3 a ha
  unfold textP at a3
  simp only [Bool.and_eq_true, decide_eq_true_eq] at a3
  exact a3.1.2
theorem dnV_errP {d : List (Bs × Bs)} {e : Nat} (h : dnV d = .no e) : e ≠ 0 := by
 unfold dnV at h
 split at h
 ·injection h with h; omega
 ·split at h
  ·injection h with h; omega
  ·split at h
   ·injection h with h; omega
   ·cases h
theorem attrs_weight : ∀ {d : List (Bs × Bs)}, (∀ a ∈ d, a.1.length ≤ 1000 ∧ a.2.length ≤ 64) → weights (d.map attrDV) ≤ d.length * 1100
 | [], _ => by simp [weights]
 | a :: d, h => by
  have ih := attrs_weight (d := d) (fun x hx => h x (List.mem_cons_of_mem _ hx))
  have h1 := oidV_weight a.1
  have h2 := (h a List.mem_cons_self).2
  have h3 : weight (attrDV a) = 3 + weight (oidV a.1) + a.2.length := by unfold attrDV pairDV; simp only [weight, weights, List.length_nil]; omega
  rw [List.map_cons]
  simp only [weights, List.length_cons]
  omega
theorem dnV_weight (d : List (Bs × Bs)) : weight (valOf (dnV d)) ≤ 20000 := by
 cases h : dnV d with
 | no e => show weight (.mk 0 0 false [] []) ≤ _; decide
 | yes v =>
  obtain ⟨h1, h2⟩ := dn_bounds h
  have h3 := attrs_weight h2
  show weight v ≤ _
  rw [(dnV_open h).2.2.2]
  simp only [weight, List.length_nil]
  omega
namespace Q
open N K
theorem parses_0 (w0 : World) (hR : Rdy w0) (cs : List Value) (v : DV) (hv : ValAt (fun _ => True) w0 cs v) (sp : Option Addr) (nd cd : Nat) (d : List (Bs × Bs)) (hd : DnAt w0 (.slice sp nd cd) d) (hnd : d.length = nd) (hdl : nd ≤ 281474976710656) (hl : ∀ a ∈ d, a.1.length ≤ 281474976710656 ∧ a.2.length ≤ 281474976710656) (E : Nat) (hpv : parseP v = .no E) :
  Calls Tryz.prog 6 #[.agg cs.toArray, .slice sp nd cd] w0 fun e w' => e = .returned (.bool true) ∧ Below w0.heap.size w0 w' := by
 obtain ⟨n, hv⟩ := hv
 obtain ⟨s1, c1, s2, c2, rfl⟩ := hv.form
 obtain ⟨kc, kt, km, kl, kk, hkc, hkt, hkm, hkl, hkk⟩ := ex5 v
 rw [hkc, hkt, hkm, hkl, hkk] at hv ⊢
 obtain ⟨w1, X, hw1, eX, hA⟩ := blkN (Below.refl w0.heap.size w0) #[.int .i64 kc, .int .i64 kt, .bool km, .slice s1 kl c1, .slice s2 kk c2] 25
 have HA_w1 := h_ (hA)
 have HV_w1 := h_ (hv.below hA.b)
 have HR_w1 := h_ (hR.below hA.b)
 have HD_w1 := h_ (hd.below hA.b)
 unfold dcells at HV_w1 ⊢
 have Hpv := h_ hpv
 have Hnd := h_ hnd
 have Hl := h_ hl
 have Hanc := h_ (anchor_c w1 (u_ HR_w1))
 clear hA hv hkc hkt hkm hkl hkk hR hd hpv hnd hl
 go_enter Tryz.func6, Tryz.ntmps6
 go_wp2_with fail
 refine Hanc.mono ?_
 rintro e w2 ⟨rfl, hb⟩
 clear Hanc
 have HA_w2 := h_ (HA_w1.call hb)
 have HV_w2 := h_ (HV_w1.below hb)
 have HR_w2 := h_ (HR_w1.below hb)
 have HD_w2 := h_ (HD_w1.below hb)
 clear hb HA_w1 HV_w1 HR_w1 HD_w1
 obtain ⟨k0, k1, k2, k3, k4⟩ := five_at (u_ HA_w2)
 have Hsp := h_ (spent_any _ n v w2 _ 30 3000 (u_ HV_w2) (by omega) (by omega))
 clear hw1 eX
 go_wp2_with fail
 refine Hsp.mono ?_
 rintro e w3 ⟨r, rfl, r0, r1, r2, hb⟩
 clear Hsp
 have HA_w3 := h_ (HA_w2.call hb)
 have HV_w3 := h_ (HV_w2.below hb)
 have HR_w3 := h_ (HR_w2.below hb)
 have HD_w3 := h_ (HD_w2.below hb)
 clear hb HA_w2 HV_w2 HR_w2 HD_w2
 clear k0 k1 k2 k3 k4
 by_cases hr : r < 0
 ·have d1 : decide (r < 0) = true := by simpa using hr
  clear r2
  go_wp2
  go_ret
  exact ⟨rfl, HA_w3.b⟩
 have d1 : decide (r < 0) = false := by simp; omega
 have Hw : Hid (weight v ≤ 3000) := by show _ ≤ _; have := r2 (by omega); omega
 clear r2 hr r0 r1
 have HG : Hid (GenAt w3 (gcells 0 { data := #[] } (.slice sp nd cd)) ⟨0, [], d⟩) := ⟨{ data := #[] }, sp, cd, by rw [u_ Hnd], rfl, by rw [u_ Hnd]; exact (u_ HD_w3)⟩
 have Hsh := h_ (short_c w3 _ ⟨0, [], d⟩ (u_ HG) (by simp) (by have := u_ Hnd; simp only; omega) (u_ Hl))
 obtain ⟨SP, hSP⟩ := exq (shortP ⟨0, [], d⟩)
 rw [hSP] at Hsh
 unfold gcells at Hsh
 clear HG
 go_wp2_with fail
 refine Hsh.mono ?_
 rintro e w4 ⟨rfl, hb⟩
 clear Hsh
 have HA_w4 := h_ (HA_w3.call hb)
 have HV_w4 := h_ (HV_w3.below hb)
 have HR_w4 := h_ (HR_w3.below hb)
 have HD_w4 := h_ (HD_w3.below hb)
 clear hb HA_w3 HV_w3 HR_w3 HD_w3
 cases SP with
 | false =>
  clear hSP
  go_wp2
  go_ret
  exact ⟨rfl, HA_w4.b⟩
 | true =>
 have hso := short_open hSP
 simp only at hso
 have Hso : Hid (nd ≤ 3000 ∧ ∀ a ∈ d, a.1.length ≤ 1000000 ∧ a.2.length ≤ 1000000) := ⟨by have := u_ Hnd; omega, fun a ha => ⟨by have := (hso.2.2 a ha).1; omega, by have := (hso.2.2 a ha).2; omega⟩⟩
 clear hSP hso d1
 obtain ⟨k0, k1, k2, k3, k4⟩ := five_at (u_ HA_w4)
 have H5 := h_ (parsedn_c w4 (u_ HR_w4) _ _ v ⟨n, (u_ HV_w4)⟩ (by have := u_ Hw; omega))
 unfold ParseA at H5
 rw [u_ Hpv] at H5
 rw [show errOf (Told.no E : Told (List (Bs × Bs))) = E from rfl, show dnTold (Told.no E) = [] from rfl] at H5
 have HE0 : Hid (E ≠ 0) := parseP_pos (u_ Hpv)
 go_wp2_with fail
 refine H5.mono ?_
 rintro e w5 ⟨x5, rfl, hx5, hb⟩
 obtain ⟨sa, ca, rfl⟩ := hx5.form
 rw [show ([] : List (Bs × Bs)).length = 0 from rfl] at hx5 ⊢
 clear H5 k0 k1 k2 k3 k4
 have HA_w5 := h_ (HA_w4.call hb)
 have HV_w5 := h_ (HV_w4.below hb)
 have HR_w5 := h_ (HR_w4.below hb)
 have HD_w5 := h_ (HD_w4.below hb)
 clear hb HA_w4 HV_w4 HR_w4 HD_w4
 have HDa_w5 := h_ (hx5)
 clear hx5
 obtain ⟨k0, k1, k2, k3, k4⟩ := five_at (u_ HA_w5)
 have H6 := h_ (plain_any n _ v w5 _ (u_ HV_w5) (by have := u_ Hw; omega))
 go_wp2_with fail
 refine H6.mono ?_
 rintro e w6 ⟨ds6, rfl, hv6, hb⟩
 clear H6 k0 k1 k2 k3 k4
 have HA_w6 := h_ (HA_w5.call hb)
 have HV_w6 := h_ (HV_w5.below hb)
 have HR_w6 := h_ (HR_w5.below hb)
 have HD_w6 := h_ (HD_w5.below hb)
 have HDa_w6 := h_ (HDa_w5.below hb)
 clear hb HA_w5 HV_w5 HR_w5 HD_w5 HDa_w5
 have H7 := h_ (qparsedn_c w6 n _ ds6 v hv6 (by have := u_ Hw; omega))
 unfold ParseA at H7
 rw [u_ Hpv] at H7
 rw [show errOf (Told.no E : Told (List (Bs × Bs))) = E from rfl, show dnTold (Told.no E) = [] from rfl] at H7
 clear hv6
 go_wp2_with fail
 refine H7.mono ?_
 rintro e w7 ⟨x7, rfl, hx7, hb⟩
 obtain ⟨sb, cb, rfl⟩ := hx7.form
 rw [show ([] : List (Bs × Bs)).length = 0 from rfl] at hx7 ⊢
 clear H7
 have HA_w7 := h_ (HA_w6.call hb)
 have HV_w7 := h_ (HV_w6.below hb)
 have HR_w7 := h_ (HR_w6.below hb)
 have HD_w7 := h_ (HD_w6.below hb)
 have HDa_w7 := h_ (HDa_w6.below hb)
 clear hb HA_w6 HV_w6 HR_w6 HD_w6 HDa_w6
 have HDq_w7 := h_ (hx7)
 clear hx7
 obtain ⟨H, hH⟩ := exq (errOf (dnV d))
 obtain ⟨V, hV⟩ := exq (valOf (dnV d))
 have HH := h_ hH
 have HVV := h_ hV
 have HWt : Hid (weight V ≤ 20000) := by show _ ≤ _; rw [← hV]; exact dnV_weight d
 have H8 := h_ (dnv_c w7 (u_ HR_w7) sp nd cd d (u_ HD_w7) Hso.2 (u_ Hnd) (by have := Hso.1; omega))
 rw [hH, hV] at H8
 clear hH hV
 go_wp2_with fail
 refine H8.mono ?_
 rintro e w8 ⟨cs8, rfl, hv8, hb⟩
 obtain ⟨n8, hv8⟩ := hv8
 obtain ⟨p1, q1, p2, q2, rfl⟩ := hv8.form
 obtain ⟨vc, vt, vm, vl, vk, hvc, hvt, hvm, hvl, hvk⟩ := ex5 V
 simp only [hvc, hvt, hvm, hvl, hvk] at hv8 ⊢
 have Hvs : Hid (V.cls = vc ∧ V.tag = vt ∧ V.made = vm ∧ V.bytes.length = vl ∧ V.kids.length = vk) := ⟨hvc, hvt, hvm, hvl, hvk⟩
 clear hvc hvt hvm hvl hvk H8
 have HA_w8 := h_ (HA_w7.call hb)
 have HV_w8 := h_ (HV_w7.below hb)
 have HR_w8 := h_ (HR_w7.below hb)
 have HD_w8 := h_ (HD_w7.below hb)
 have HDa_w8 := h_ (HDa_w7.below hb)
 have HDq_w8 := h_ (HDq_w7.below hb)
 clear hb HA_w7 HV_w7 HR_w7 HD_w7 HDa_w7 HDq_w7
 have HB_w8 := h_ (hv8)
 clear hv8
 unfold dcells at HB_w8 ⊢
 obtain ⟨w9, Y, hww9, eY, hY⟩ := blkN HA_w8.b #[.int .i64 vc, .int .i64 vt, .bool vm, .slice p1 vl q1, .slice p2 vk q2] 25
 have hb := allocB hww9
 have HA_w9 := h_ (HA_w8.call hb)
 have HV_w9 := h_ (HV_w8.below hb)
 have HR_w9 := h_ (HR_w8.below hb)
 have HD_w9 := h_ (HD_w8.below hb)
 have HDa_w9 := h_ (HDa_w8.below hb)
 have HDq_w9 := h_ (HDq_w8.below hb)
 have HB_w9 := h_ (HB_w8.below hb)
 clear hb HA_w8 HV_w8 HR_w8 HD_w8 HDa_w8 HDq_w8 HB_w8
 have HY_w9 := h_ (hY)
 clear hY
 have H9 := h_ (attrs_c w9 sp nd cd d (u_ HD_w9) (u_ Hnd) (by have := Hso.1; omega))
 go_wp2_with fail
 refine H9.mono ?_
 rintro e w10 ⟨sq, kq, rfl, hq, hb⟩
 clear H9 hww9 eY
 have HA_w10 := h_ (HA_w9.call hb)
 have HV_w10 := h_ (HV_w9.below hb)
 have HR_w10 := h_ (HR_w9.below hb)
 have HD_w10 := h_ (HD_w9.below hb)
 have HDa_w10 := h_ (HDa_w9.below hb)
 have HDq_w10 := h_ (HDq_w9.below hb)
 have HB_w10 := h_ (HB_w9.below hb)
 have HY_w10 := h_ (HY_w9.call hb)
 clear hb HA_w9 HV_w9 HR_w9 HD_w9 HDa_w9 HDq_w9 HB_w9 HY_w9
 have H10 := h_ (qdnv_c w10 sq nd kq d hq Hso.2 (u_ Hnd) (by have := Hso.1; omega))
 rw [u_ HH, u_ HVV] at H10
 clear hq
 go_wp2_with fail
 refine H10.mono ?_
 rintro e w11 ⟨csr, rfl, hvr, hb⟩
 obtain ⟨nr, hvr⟩ := hvr
 obtain ⟨p3, q3, p4, q4, rfl⟩ := hvr.form
 simp only [Hvs.1, Hvs.2.1, Hvs.2.2.1, Hvs.2.2.2.1, Hvs.2.2.2.2] at hvr ⊢
 clear H10
 have HA_w11 := h_ (HA_w10.call hb)
 have HV_w11 := h_ (HV_w10.below hb)
 have HR_w11 := h_ (HR_w10.below hb)
 have HD_w11 := h_ (HD_w10.below hb)
 have HDa_w11 := h_ (HDa_w10.below hb)
 have HDq_w11 := h_ (HDq_w10.below hb)
 have HB_w11 := h_ (HB_w10.below hb)
 have HY_w11 := h_ (HY_w10.call hb)
 clear hb HA_w10 HV_w10 HR_w10 HD_w10 HDa_w10 HDq_w10 HB_w10 HY_w10
 have HC_w11 := h_ (hvr)
 clear hvr
 unfold dcells at HC_w11 ⊢
 obtain ⟨w12, Z, hww12, eZ, hY⟩ := blkN HA_w11.b #[.int .i64 vc, .int .i64 vt, .bool vm, .slice p3 vl q3, .slice p4 vk q4] 33
 have hb := allocB hww12
 have HA_w12 := h_ (HA_w11.call hb)
 have HV_w12 := h_ (HV_w11.below hb)
 have HR_w12 := h_ (HR_w11.below hb)
 have HD_w12 := h_ (HD_w11.below hb)
 have HDa_w12 := h_ (HDa_w11.below hb)
 have HDq_w12 := h_ (HDq_w11.below hb)
 have HB_w12 := h_ (HB_w11.below hb)
 have HY_w12 := h_ (HY_w11.call hb)
 have HC_w12 := h_ (HC_w11.below hb)
 clear hb HA_w11 HV_w11 HR_w11 HD_w11 HDa_w11 HDq_w11 HB_w11 HY_w11 HC_w11
 have HZ_w12 := h_ (hY)
 clear hY
 have H11 := h_ (attrs_c w12 sa 0 ca ([] : List (Bs × Bs)) (u_ HDa_w12) rfl (by omega))
 have b1 : ((E : Int) != (E : Int)) = false := by simp
 have b2 : ((H : Int) != (H : Int)) = false := by simp
 go_wp2_with fail
 refine H11.mono ?_
 rintro e w13 ⟨sr, kr, rfl, hq, hb⟩
 clear H11 b1 hww12 eZ
 have HA_w13 := h_ (HA_w12.call hb)
 have HV_w13 := h_ (HV_w12.below hb)
 have HR_w13 := h_ (HR_w12.below hb)
 have HD_w13 := h_ (HD_w12.below hb)
 have HDa_w13 := h_ (HDa_w12.below hb)
 have HDq_w13 := h_ (HDq_w12.below hb)
 have HB_w13 := h_ (HB_w12.below hb)
 have HY_w13 := h_ (HY_w12.call hb)
 have HC_w13 := h_ (HC_w12.below hb)
 have HZ_w13 := h_ (HZ_w12.call hb)
 clear hb HA_w12 HV_w12 HR_w12 HD_w12 HDa_w12 HDq_w12 HB_w12 HY_w12 HC_w12 HZ_w12
 have H12 := h_ (qsamedn_c w13 sr sb 0 0 kr cb ([] : List (Bs × Bs)) ([] : List (Bs × Bs)) hq (u_ HDq_w13) rfl rfl (by omega) (by omega))
 rw [show sameP ([] : List (Bs × Bs)) ([] : List (Bs × Bs)) = true from decide_eq_true rfl] at H12
 clear hq
 go_wp2_with fail
 refine H12.mono ?_
 rintro e w14 ⟨rfl, hb⟩
 clear H12
 have HA_w14 := h_ (HA_w13.call hb)
 have HV_w14 := h_ (HV_w13.below hb)
 have HR_w14 := h_ (HR_w13.below hb)
 have HD_w14 := h_ (HD_w13.below hb)
 have HDa_w14 := h_ (HDa_w13.below hb)
 have HDq_w14 := h_ (HDq_w13.below hb)
 have HB_w14 := h_ (HB_w13.below hb)
 have HY_w14 := h_ (HY_w13.call hb)
 have HC_w14 := h_ (HC_w13.below hb)
 have HZ_w14 := h_ (HZ_w13.call hb)
 clear hb HA_w13 HV_w13 HR_w13 HD_w13 HDa_w13 HDq_w13 HB_w13 HY_w13 HC_w13 HZ_w13
 clear HDq_w14
 obtain ⟨y0, y1, y2, y3, y4⟩ := five_at (u_ HY_w14)
 obtain ⟨z0, z1, z2, z3, z4⟩ := five_at (u_ HZ_w14)
 have H13 := h_ (dsame_any _ _ n8 nr V w14 _ _ (u_ HB_w14) (u_ HC_w14) (by have := u_ HWt; omega))
 go_wp2_with fail
 refine H13.mono ?_
 rintro e w15 ⟨rfl, hb⟩
 clear H13 b2 y0 y1 y2 y3 y4 z0 z1 z2 z3 z4
 have HA_w15 := h_ (HA_w14.call hb)
 have HV_w15 := h_ (HV_w14.below hb)
 have HR_w15 := h_ (HR_w14.below hb)
 have HD_w15 := h_ (HD_w14.below hb)
 have HDa_w15 := h_ (HDa_w14.below hb)
 have HB_w15 := h_ (HB_w14.below hb)
 have HY_w15 := h_ (HY_w14.call hb)
 have HC_w15 := h_ (HC_w14.below hb)
 have HZ_w15 := h_ (HZ_w14.call hb)
 clear hb HA_w14 HV_w14 HR_w14 HD_w14 HDa_w14 HB_w14 HY_w14 HC_w14 HZ_w14
 clear HC_w15
 clear HZ_w15
 have b3 : ((E : Int) == 0) = false := by have := u_ HE0; simp; omega
 obtain ⟨y0, y1, y2, y3, y4⟩ := five_at (u_ HY_w15)
 have H15 := h_ (parsedn_c w15 (u_ HR_w15) _ _ V ⟨n8, (u_ HB_w15)⟩ (by have := u_ HWt; omega))
 unfold ParseA at H15
 cases hq : dnV d with
 | no e2 =>
  have h0 : H ≠ 0 := by rw [← u_ HH, hq]; exact dnV_errP hq
  have c1_ : ((H : Int) != 0) = true := by simp; omega
  have c2_ : ((H : Int) == 0) = false := by simp; omega
  obtain ⟨EK, hEK⟩ := exq (errOf (parseP V))
  rw [hEK] at H15
  clear hq h0 hEK
  go_wp2_with fail
  refine H15.mono ?_
  rintro e wt ⟨xt, rfl, hxt, hb⟩
  obtain ⟨st_, ct, rfl⟩ := hxt.form
  obtain ⟨LT, hLT⟩ := exq ((dnTold (parseP V)).length)
  rw [hLT]
  have HAt := h_ (HA_w15.call hb)
  clear hxt hb hLT H15 y0 y1 y2 y3 y4
  go_wp2
  go_ret
  exact ⟨rfl, HAt.b⟩
 | yes V2 =>
  obtain rfl : V2 = V := by rw [← u_ HVV, hq]; rfl
  have hpt := parse_there hq
  obtain rfl : 0 = H := by rw [← u_ HH, hq]; rfl
  rw [hpt, show errOf (Told.yes d) = 0 from rfl, show dnTold (Told.yes d) = d from rfl] at H15
  clear hq hpt
  go_wp2_with fail
  refine H15.mono ?_
  rintro e wt ⟨xt, rfl, hxt, hb⟩
  obtain ⟨st_, ct, rfl⟩ := hxt.form
  rw [u_ Hnd] at hxt ⊢
  have HAt := h_ (HA_w15.call hb)
  have H16 := h_ (samedn_c wt st_ sp nd nd ct cd d d hxt (HD_w15.below hb) (u_ Hnd) (u_ Hnd) (by have := Hso.1; omega) (by have := Hso.1; omega))
  rw [show sameP d d = true from decide_eq_true rfl] at H16
  clear hxt hb H15 y0 y1 y2 y3 y4
  go_wp2_with fail
  refine H16.mono ?_
  rintro e wu ⟨rfl, hb⟩
  have HAu := h_ (HAt.call hb)
  clear hb
  go_wp2
  go_ret
  exact ⟨rfl, HAu.b⟩
theorem parses_1 (w0 : World) (hR : Rdy w0) (cs : List Value) (v : DV) (hv : ValAt (fun _ => True) w0 cs v) (sp : Option Addr) (nd cd : Nat) (d : List (Bs × Bs)) (hd : DnAt w0 (.slice sp nd cd) d) (hnd : d.length = nd) (hdl : nd ≤ 281474976710656) (hl : ∀ a ∈ d, a.1.length ≤ 281474976710656 ∧ a.2.length ≤ 281474976710656) (D : List (Bs × Bs)) (hpv : parseP v = .yes D) :
  Calls Tryz.prog 6 #[.agg cs.toArray, .slice sp nd cd] w0 fun e w' => e = .returned (.bool true) ∧ Below w0.heap.size w0 w' := by
 obtain ⟨n, hv⟩ := hv
 obtain ⟨s1, c1, s2, c2, rfl⟩ := hv.form
 obtain ⟨kc, kt, km, kl, kk, hkc, hkt, hkm, hkl, hkk⟩ := ex5 v
 rw [hkc, hkt, hkm, hkl, hkk] at hv ⊢
 obtain ⟨w1, X, hw1, eX, hA⟩ := blkN (Below.refl w0.heap.size w0) #[.int .i64 kc, .int .i64 kt, .bool km, .slice s1 kl c1, .slice s2 kk c2] 25
 have HA_w1 := h_ (hA)
 have HV_w1 := h_ (hv.below hA.b)
 have HR_w1 := h_ (hR.below hA.b)
 have HD_w1 := h_ (hd.below hA.b)
 unfold dcells at HV_w1 ⊢
 have Hpv := h_ hpv
 have Hnd := h_ hnd
 have Hl := h_ hl
 have Hanc := h_ (anchor_c w1 (u_ HR_w1))
 clear hA hv hkc hkt hkm hkl hkk hR hd hpv hnd hl
 go_enter Tryz.func6, Tryz.ntmps6
 go_wp2_with fail
 refine Hanc.mono ?_
 rintro e w2 ⟨rfl, hb⟩
 clear Hanc
 have HA_w2 := h_ (HA_w1.call hb)
 have HV_w2 := h_ (HV_w1.below hb)
 have HR_w2 := h_ (HR_w1.below hb)
 have HD_w2 := h_ (HD_w1.below hb)
 clear hb HA_w1 HV_w1 HR_w1 HD_w1
 obtain ⟨k0, k1, k2, k3, k4⟩ := five_at (u_ HA_w2)
 have Hsp := h_ (spent_any _ n v w2 _ 30 3000 (u_ HV_w2) (by omega) (by omega))
 clear hw1 eX
 go_wp2_with fail
 refine Hsp.mono ?_
 rintro e w3 ⟨r, rfl, r0, r1, r2, hb⟩
 clear Hsp
 have HA_w3 := h_ (HA_w2.call hb)
 have HV_w3 := h_ (HV_w2.below hb)
 have HR_w3 := h_ (HR_w2.below hb)
 have HD_w3 := h_ (HD_w2.below hb)
 clear hb HA_w2 HV_w2 HR_w2 HD_w2
 clear k0 k1 k2 k3 k4
 by_cases hr : r < 0
 ·have d1 : decide (r < 0) = true := by simpa using hr
  clear r2
  go_wp2
  go_ret
  exact ⟨rfl, HA_w3.b⟩
 have d1 : decide (r < 0) = false := by simp; omega
 have Hw : Hid (weight v ≤ 3000) := by show _ ≤ _; have := r2 (by omega); omega
 clear r2 hr r0 r1
 have HG : Hid (GenAt w3 (gcells 0 { data := #[] } (.slice sp nd cd)) ⟨0, [], d⟩) := ⟨{ data := #[] }, sp, cd, by rw [u_ Hnd], rfl, by rw [u_ Hnd]; exact (u_ HD_w3)⟩
 have Hsh := h_ (short_c w3 _ ⟨0, [], d⟩ (u_ HG) (by simp) (by have := u_ Hnd; simp only; omega) (u_ Hl))
 obtain ⟨SP, hSP⟩ := exq (shortP ⟨0, [], d⟩)
 rw [hSP] at Hsh
 unfold gcells at Hsh
 clear HG
 go_wp2_with fail
 refine Hsh.mono ?_
 rintro e w4 ⟨rfl, hb⟩
 clear Hsh
 have HA_w4 := h_ (HA_w3.call hb)
 have HV_w4 := h_ (HV_w3.below hb)
 have HR_w4 := h_ (HR_w3.below hb)
 have HD_w4 := h_ (HD_w3.below hb)
 clear hb HA_w3 HV_w3 HR_w3 HD_w3
 cases SP with
 | false =>
  clear hSP
  go_wp2
  go_ret
  exact ⟨rfl, HA_w4.b⟩
 | true =>
 have hso := short_open hSP
 simp only at hso
 have Hso : Hid (nd ≤ 3000 ∧ ∀ a ∈ d, a.1.length ≤ 1000000 ∧ a.2.length ≤ 1000000) := ⟨by have := u_ Hnd; omega, fun a ha => ⟨by have := (hso.2.2 a ha).1; omega, by have := (hso.2.2 a ha).2; omega⟩⟩
 clear hSP hso d1
 obtain ⟨k0, k1, k2, k3, k4⟩ := five_at (u_ HA_w4)
 have H5 := h_ (parsedn_c w4 (u_ HR_w4) _ _ v ⟨n, (u_ HV_w4)⟩ (by have := u_ Hw; omega))
 unfold ParseA at H5
 rw [u_ Hpv] at H5
 have HDn : Hid (dnV D = .yes v) := parse_back (u_ Hpv)
 have HDb := h_ (dn_bounds (u_ HDn))
 obtain ⟨ND, hND⟩ := exq D.length
 rw [show errOf (Told.yes D) = 0 from rfl, show dnTold (Told.yes D) = D from rfl] at H5
 go_wp2_with fail
 refine H5.mono ?_
 rintro e w5 ⟨x5, rfl, hx5, hb⟩
 obtain ⟨sa, ca, rfl⟩ := hx5.form
 rw [hND] at hx5 ⊢
 clear H5 k0 k1 k2 k3 k4
 have HA_w5 := h_ (HA_w4.call hb)
 have HV_w5 := h_ (HV_w4.below hb)
 have HR_w5 := h_ (HR_w4.below hb)
 have HD_w5 := h_ (HD_w4.below hb)
 clear hb HA_w4 HV_w4 HR_w4 HD_w4
 have HDa_w5 := h_ (hx5)
 clear hx5
 obtain ⟨k0, k1, k2, k3, k4⟩ := five_at (u_ HA_w5)
 have H6 := h_ (plain_any n _ v w5 _ (u_ HV_w5) (by have := u_ Hw; omega))
 go_wp2_with fail
 refine H6.mono ?_
 rintro e w6 ⟨ds6, rfl, hv6, hb⟩
 clear H6 k0 k1 k2 k3 k4
 have HA_w6 := h_ (HA_w5.call hb)
 have HV_w6 := h_ (HV_w5.below hb)
 have HR_w6 := h_ (HR_w5.below hb)
 have HD_w6 := h_ (HD_w5.below hb)
 have HDa_w6 := h_ (HDa_w5.below hb)
 clear hb HA_w5 HV_w5 HR_w5 HD_w5 HDa_w5
 have H7 := h_ (qparsedn_c w6 n _ ds6 v hv6 (by have := u_ Hw; omega))
 unfold ParseA at H7
 rw [u_ Hpv] at H7
 rw [show errOf (Told.yes D) = 0 from rfl, show dnTold (Told.yes D) = D from rfl] at H7
 clear hv6
 go_wp2_with fail
 refine H7.mono ?_
 rintro e w7 ⟨x7, rfl, hx7, hb⟩
 obtain ⟨sb, cb, rfl⟩ := hx7.form
 rw [hND] at hx7 ⊢
 clear H7
 have HA_w7 := h_ (HA_w6.call hb)
 have HV_w7 := h_ (HV_w6.below hb)
 have HR_w7 := h_ (HR_w6.below hb)
 have HD_w7 := h_ (HD_w6.below hb)
 have HDa_w7 := h_ (HDa_w6.below hb)
 clear hb HA_w6 HV_w6 HR_w6 HD_w6 HDa_w6
 have HDq_w7 := h_ (hx7)
 clear hx7
 obtain ⟨H, hH⟩ := exq (errOf (dnV d))
 obtain ⟨V, hV⟩ := exq (valOf (dnV d))
 have HH := h_ hH
 have HVV := h_ hV
 have HWt : Hid (weight V ≤ 20000) := by show _ ≤ _; rw [← hV]; exact dnV_weight d
 have H8 := h_ (dnv_c w7 (u_ HR_w7) sp nd cd d (u_ HD_w7) Hso.2 (u_ Hnd) (by have := Hso.1; omega))
 rw [hH, hV] at H8
 clear hH hV
 go_wp2_with fail
 refine H8.mono ?_
 rintro e w8 ⟨cs8, rfl, hv8, hb⟩
 obtain ⟨n8, hv8⟩ := hv8
 obtain ⟨p1, q1, p2, q2, rfl⟩ := hv8.form
 obtain ⟨vc, vt, vm, vl, vk, hvc, hvt, hvm, hvl, hvk⟩ := ex5 V
 simp only [hvc, hvt, hvm, hvl, hvk] at hv8 ⊢
 have Hvs : Hid (V.cls = vc ∧ V.tag = vt ∧ V.made = vm ∧ V.bytes.length = vl ∧ V.kids.length = vk) := ⟨hvc, hvt, hvm, hvl, hvk⟩
 clear hvc hvt hvm hvl hvk H8
 have HA_w8 := h_ (HA_w7.call hb)
 have HV_w8 := h_ (HV_w7.below hb)
 have HR_w8 := h_ (HR_w7.below hb)
 have HD_w8 := h_ (HD_w7.below hb)
 have HDa_w8 := h_ (HDa_w7.below hb)
 have HDq_w8 := h_ (HDq_w7.below hb)
 clear hb HA_w7 HV_w7 HR_w7 HD_w7 HDa_w7 HDq_w7
 have HB_w8 := h_ (hv8)
 clear hv8
 unfold dcells at HB_w8 ⊢
 obtain ⟨w9, Y, hww9, eY, hY⟩ := blkN HA_w8.b #[.int .i64 vc, .int .i64 vt, .bool vm, .slice p1 vl q1, .slice p2 vk q2] 25
 have hb := allocB hww9
 have HA_w9 := h_ (HA_w8.call hb)
 have HV_w9 := h_ (HV_w8.below hb)
 have HR_w9 := h_ (HR_w8.below hb)
 have HD_w9 := h_ (HD_w8.below hb)
 have HDa_w9 := h_ (HDa_w8.below hb)
 have HDq_w9 := h_ (HDq_w8.below hb)
 have HB_w9 := h_ (HB_w8.below hb)
 clear hb HA_w8 HV_w8 HR_w8 HD_w8 HDa_w8 HDq_w8 HB_w8
 have HY_w9 := h_ (hY)
 clear hY
 have H9 := h_ (attrs_c w9 sp nd cd d (u_ HD_w9) (u_ Hnd) (by have := Hso.1; omega))
 go_wp2_with fail
 refine H9.mono ?_
 rintro e w10 ⟨sq, kq, rfl, hq, hb⟩
 clear H9 hww9 eY
 have HA_w10 := h_ (HA_w9.call hb)
 have HV_w10 := h_ (HV_w9.below hb)
 have HR_w10 := h_ (HR_w9.below hb)
 have HD_w10 := h_ (HD_w9.below hb)
 have HDa_w10 := h_ (HDa_w9.below hb)
 have HDq_w10 := h_ (HDq_w9.below hb)
 have HB_w10 := h_ (HB_w9.below hb)
 have HY_w10 := h_ (HY_w9.call hb)
 clear hb HA_w9 HV_w9 HR_w9 HD_w9 HDa_w9 HDq_w9 HB_w9 HY_w9
 have H10 := h_ (qdnv_c w10 sq nd kq d hq Hso.2 (u_ Hnd) (by have := Hso.1; omega))
 rw [u_ HH, u_ HVV] at H10
 clear hq
 go_wp2_with fail
 refine H10.mono ?_
 rintro e w11 ⟨csr, rfl, hvr, hb⟩
 obtain ⟨nr, hvr⟩ := hvr
 obtain ⟨p3, q3, p4, q4, rfl⟩ := hvr.form
 simp only [Hvs.1, Hvs.2.1, Hvs.2.2.1, Hvs.2.2.2.1, Hvs.2.2.2.2] at hvr ⊢
 clear H10
 have HA_w11 := h_ (HA_w10.call hb)
 have HV_w11 := h_ (HV_w10.below hb)
 have HR_w11 := h_ (HR_w10.below hb)
 have HD_w11 := h_ (HD_w10.below hb)
 have HDa_w11 := h_ (HDa_w10.below hb)
 have HDq_w11 := h_ (HDq_w10.below hb)
 have HB_w11 := h_ (HB_w10.below hb)
 have HY_w11 := h_ (HY_w10.call hb)
 clear hb HA_w10 HV_w10 HR_w10 HD_w10 HDa_w10 HDq_w10 HB_w10 HY_w10
 have HC_w11 := h_ (hvr)
 clear hvr
 unfold dcells at HC_w11 ⊢
 obtain ⟨w12, Z, hww12, eZ, hY⟩ := blkN HA_w11.b #[.int .i64 vc, .int .i64 vt, .bool vm, .slice p3 vl q3, .slice p4 vk q4] 33
 have hb := allocB hww12
 have HA_w12 := h_ (HA_w11.call hb)
 have HV_w12 := h_ (HV_w11.below hb)
 have HR_w12 := h_ (HR_w11.below hb)
 have HD_w12 := h_ (HD_w11.below hb)
 have HDa_w12 := h_ (HDa_w11.below hb)
 have HDq_w12 := h_ (HDq_w11.below hb)
 have HB_w12 := h_ (HB_w11.below hb)
 have HY_w12 := h_ (HY_w11.call hb)
 have HC_w12 := h_ (HC_w11.below hb)
 clear hb HA_w11 HV_w11 HR_w11 HD_w11 HDa_w11 HDq_w11 HB_w11 HY_w11 HC_w11
 have HZ_w12 := h_ (hY)
 clear hY
 have H11 := h_ (attrs_c w12 sa ND ca D (u_ HDa_w12) hND (by have := HDb.1; omega))
 have b1 : ((0 : Int) != (0 : Int)) = false := by simp
 have b2 : ((H : Int) != (H : Int)) = false := by simp
 go_wp2_with fail
 refine H11.mono ?_
 rintro e w13 ⟨sr, kr, rfl, hq, hb⟩
 clear H11 b1 hww12 eZ
 have HA_w13 := h_ (HA_w12.call hb)
 have HV_w13 := h_ (HV_w12.below hb)
 have HR_w13 := h_ (HR_w12.below hb)
 have HD_w13 := h_ (HD_w12.below hb)
 have HDa_w13 := h_ (HDa_w12.below hb)
 have HDq_w13 := h_ (HDq_w12.below hb)
 have HB_w13 := h_ (HB_w12.below hb)
 have HY_w13 := h_ (HY_w12.call hb)
 have HC_w13 := h_ (HC_w12.below hb)
 have HZ_w13 := h_ (HZ_w12.call hb)
 clear hb HA_w12 HV_w12 HR_w12 HD_w12 HDa_w12 HDq_w12 HB_w12 HY_w12 HC_w12 HZ_w12
 have H12 := h_ (qsamedn_c w13 sr sb ND ND kr cb D D hq (u_ HDq_w13) hND hND (by have := HDb.1; omega) (by have := HDb.1; omega))
 rw [show sameP D D = true from decide_eq_true rfl] at H12
 clear hq
 go_wp2_with fail
 refine H12.mono ?_
 rintro e w14 ⟨rfl, hb⟩
 clear H12
 have HA_w14 := h_ (HA_w13.call hb)
 have HV_w14 := h_ (HV_w13.below hb)
 have HR_w14 := h_ (HR_w13.below hb)
 have HD_w14 := h_ (HD_w13.below hb)
 have HDa_w14 := h_ (HDa_w13.below hb)
 have HDq_w14 := h_ (HDq_w13.below hb)
 have HB_w14 := h_ (HB_w13.below hb)
 have HY_w14 := h_ (HY_w13.call hb)
 have HC_w14 := h_ (HC_w13.below hb)
 have HZ_w14 := h_ (HZ_w13.call hb)
 clear hb HA_w13 HV_w13 HR_w13 HD_w13 HDa_w13 HDq_w13 HB_w13 HY_w13 HC_w13 HZ_w13
 clear HDq_w14
 obtain ⟨y0, y1, y2, y3, y4⟩ := five_at (u_ HY_w14)
 obtain ⟨z0, z1, z2, z3, z4⟩ := five_at (u_ HZ_w14)
 have H13 := h_ (dsame_any _ _ n8 nr V w14 _ _ (u_ HB_w14) (u_ HC_w14) (by have := u_ HWt; omega))
 go_wp2_with fail
 refine H13.mono ?_
 rintro e w15 ⟨rfl, hb⟩
 clear H13 b2 y0 y1 y2 y3 y4 z0 z1 z2 z3 z4
 have HA_w15 := h_ (HA_w14.call hb)
 have HV_w15 := h_ (HV_w14.below hb)
 have HR_w15 := h_ (HR_w14.below hb)
 have HD_w15 := h_ (HD_w14.below hb)
 have HDa_w15 := h_ (HDa_w14.below hb)
 have HB_w15 := h_ (HB_w14.below hb)
 have HY_w15 := h_ (HY_w14.call hb)
 have HC_w15 := h_ (HC_w14.below hb)
 have HZ_w15 := h_ (HZ_w14.call hb)
 clear hb HA_w14 HV_w14 HR_w14 HD_w14 HDa_w14 HB_w14 HY_w14 HC_w14 HZ_w14
 clear HC_w15
 clear HZ_w15
 have H14 := h_ (dnv_c w15 (u_ HR_w15) sa ND ca D (u_ HDa_w15) (fun a ha => ⟨by have := (HDb.2 a ha).1; omega, by have := (HDb.2 a ha).2; omega⟩) hND (by have := HDb.1; omega))
 rw [u_ HDn, show errOf (Told.yes v) = 0 from rfl, show valOf (Told.yes v) = v from rfl] at H14
 go_wp2_with fail
 refine H14.mono ?_
 rintro e w16 ⟨csu, rfl, hvu, hb⟩
 obtain ⟨nu, hvu⟩ := hvu
 obtain ⟨r1, x1, r2, x2, rfl⟩ := hvu.form
 obtain ⟨uc, ut, um, ul, uk, huc, hut, hum, hul, huk⟩ := ex5 v
 simp only [huc, hut, hum, hul, huk] at hvu ⊢
 clear huc hut hum hul huk H14
 have HA_w16 := h_ (HA_w15.call hb)
 have HV_w16 := h_ (HV_w15.below hb)
 have HR_w16 := h_ (HR_w15.below hb)
 have HD_w16 := h_ (HD_w15.below hb)
 have HDa_w16 := h_ (HDa_w15.below hb)
 have HB_w16 := h_ (HB_w15.below hb)
 have HY_w16 := h_ (HY_w15.call hb)
 clear hb HA_w15 HV_w15 HR_w15 HD_w15 HDa_w15 HB_w15 HY_w15
 clear HDa_w16
 have HU_w16 := h_ (hvu)
 clear hvu
 unfold dcells at HU_w16 ⊢
 obtain ⟨w17, UB, hww17, eUB, hY⟩ := blkN HA_w16.b #[.int .i64 uc, .int .i64 ut, .bool um, .slice r1 ul x1, .slice r2 uk x2] 25
 have hb := allocB hww17
 have HA_w17 := h_ (HA_w16.call hb)
 have HV_w17 := h_ (HV_w16.below hb)
 have HR_w17 := h_ (HR_w16.below hb)
 have HD_w17 := h_ (HD_w16.below hb)
 have HB_w17 := h_ (HB_w16.below hb)
 have HY_w17 := h_ (HY_w16.call hb)
 have HU_w17 := h_ (HU_w16.below hb)
 clear hb HA_w16 HV_w16 HR_w16 HD_w16 HB_w16 HY_w16 HU_w16
 have HUb_w17 := h_ (hY)
 clear hY
 have HL : Hid (∀ w', Below w17.heap.size w17 w' → w'.cell? ⟨UB, 0, none⟩ = some (.int .i64 uc) ∧ w'.cell? ⟨UB, 1, none⟩ = some (.int .i64 ut) ∧ w'.cell? ⟨UB, 2, none⟩ = some (.bool um) ∧ w'.cell? ⟨UB, 3, none⟩ = some (.slice r1 ul x1) ∧ w'.cell? ⟨UB, 4, none⟩ = some (.slice r2 uk x2)) := fun w hb => five_at (HUb_w17.call hb)
 have HK : Hid (∀ w', Below w17.heap.size w17 w' → w'.cell? ⟨X, 0, none⟩ = some (.int .i64 kc) ∧ w'.cell? ⟨X, 1, none⟩ = some (.int .i64 kt) ∧ w'.cell? ⟨X, 2, none⟩ = some (.bool km) ∧ w'.cell? ⟨X, 3, none⟩ = some (.slice s1 kl c1) ∧ w'.cell? ⟨X, 4, none⟩ = some (.slice s2 kk c2)) := fun w hb => five_at (HA_w17.call hb)
 obtain ⟨a0, a1, a2, a3, a4⟩ := u_ HK w17 (Below.refl _ _)
 obtain ⟨b0, b1, b2, b3, b4⟩ := u_ HL w17 (Below.refl _ _)
 go_wp2
 clear hww17 eUB
 go_region_held3 (fun w' => w'.cell? ⟨X, 0, none⟩ = some (.int .i64 kc) ∧ w'.cell? ⟨X, 1, none⟩ = some (.int .i64 kt) ∧ w'.cell? ⟨X, 2, none⟩ = some (.bool km) ∧ w'.cell? ⟨X, 3, none⟩ = some (.slice s1 kl c1) ∧ w'.cell? ⟨X, 4, none⟩ = some (.slice s2 kk c2) ∧ w'.cell? ⟨UB, 0, none⟩ = some (.int .i64 uc) ∧ w'.cell? ⟨UB, 1, none⟩ = some (.int .i64 ut) ∧ w'.cell? ⟨UB, 2, none⟩ = some (.bool um) ∧ w'.cell? ⟨UB, 3, none⟩ = some (.slice r1 ul x1) ∧ w'.cell? ⟨UB, 4, none⟩ = some (.slice r2 uk x2)) (go_keep)
  ((first
    | (go_at_call 13
       refine (plain_any n _ v w17.drew (dcells kc kt km (.slice s1 kl c1) (.slice s2 kk c2)) (HV_w17.below (Below.refl _ _).drew) (by have := u_ Hw; omega)).mono ?_
       rintro e wp ⟨ds2, rfl, hv14, hb14⟩
       obtain ⟨u1, u2, u3, u4, rfl⟩ := hv14.form
       have Hv14 := h_ hv14
       have Hb14 : Hid (Below w17.heap.size w17 wp) := (Below.refl w17.heap.size w17).drew.trans hb14
       obtain ⟨a0, a1, a2, a3, a4⟩ := u_ HK wp (u_ Hb14)
       obtain ⟨b0, b1, b2, b3, b4⟩ := u_ HL wp (u_ Hb14)
       clear hv14 hb14
       unfold dcells)
    | (go_at_call 16
       refine (dsame_any _ _ nu n v wp (dcells uc ut um (.slice r1 ul x1) (.slice r2 uk x2)) _ (HU_w17.below (u_ Hb14)) (u_ Hv14) (by have := u_ Hw; omega)).mono ?_
       rintro e wq ⟨rfl, hb16⟩
       have Hb16 := h_ (Hb14.trans (hb16.mono Hb14.size))
       obtain ⟨a0, a1, a2, a3, a4⟩ := u_ HK wq (u_ Hb16)
       obtain ⟨b0, b1, b2, b3, b4⟩ := u_ HL wq (u_ Hb16)
       clear hb16)))
 clear a0 a1 a2 a3 a4 b0 b1 b2 b3 b4
 have hb := u_ Hb16
 have HA_wq := h_ (HA_w17.call hb)
 have HV_wq := h_ (HV_w17.below hb)
 have HR_wq := h_ (HR_w17.below hb)
 have HD_wq := h_ (HD_w17.below hb)
 have HB_wq := h_ (HB_w17.below hb)
 have HY_wq := h_ (HY_w17.call hb)
 have HU_wq := h_ (HU_w17.below hb)
 have HUb_wq := h_ (HUb_w17.call hb)
 clear hb HA_w17 HV_w17 HR_w17 HD_w17 HB_w17 HY_w17 HU_w17 HUb_w17
 clear HU_wq
 clear HUb_wq
 clear HL HK Hb14 Hb16 Hv14
 obtain ⟨y0, y1, y2, y3, y4⟩ := five_at (u_ HY_wq)
 have H15 := h_ (parsedn_c wq (u_ HR_wq) _ _ V ⟨n8, (u_ HB_wq)⟩ (by have := u_ HWt; omega))
 unfold ParseA at H15
 cases hq : dnV d with
 | no e2 =>
  have h0 : H ≠ 0 := by rw [← u_ HH, hq]; exact dnV_errP hq
  have c1_ : ((H : Int) != 0) = true := by simp; omega
  have c2_ : ((H : Int) == 0) = false := by simp; omega
  obtain ⟨EK, hEK⟩ := exq (errOf (parseP V))
  rw [hEK] at H15
  clear hq h0 hEK
  go_wp2_with fail
  refine H15.mono ?_
  rintro e wt ⟨xt, rfl, hxt, hb⟩
  obtain ⟨st_, ct, rfl⟩ := hxt.form
  obtain ⟨LT, hLT⟩ := exq ((dnTold (parseP V)).length)
  rw [hLT]
  have HAt := h_ (HA_wq.call hb)
  clear hxt hb hLT H15 y0 y1 y2 y3 y4
  go_wp2
  go_ret
  exact ⟨rfl, HAt.b⟩
 | yes V2 =>
  obtain rfl : V2 = V := by rw [← u_ HVV, hq]; rfl
  have hpt := parse_there hq
  obtain rfl : 0 = H := by rw [← u_ HH, hq]; rfl
  rw [hpt, show errOf (Told.yes d) = 0 from rfl, show dnTold (Told.yes d) = d from rfl] at H15
  clear hq hpt
  go_wp2_with fail
  refine H15.mono ?_
  rintro e wt ⟨xt, rfl, hxt, hb⟩
  obtain ⟨st_, ct, rfl⟩ := hxt.form
  rw [u_ Hnd] at hxt ⊢
  have HAt := h_ (HA_wq.call hb)
  have H16 := h_ (samedn_c wt st_ sp nd nd ct cd d d hxt (HD_wq.below hb) (u_ Hnd) (u_ Hnd) (by have := Hso.1; omega) (by have := Hso.1; omega))
  rw [show sameP d d = true from decide_eq_true rfl] at H16
  clear hxt hb H15 y0 y1 y2 y3 y4
  go_wp2_with fail
  refine H16.mono ?_
  rintro e wu ⟨rfl, hb⟩
  have HAu := h_ (HAt.call hb)
  clear hb
  go_wp2
  go_ret
  exact ⟨rfl, HAu.b⟩
theorem parses_true (w0 : World) (hR : Rdy w0) (cs : List Value) (v : DV) (hv : ValAt (fun _ => True) w0 cs v) (sp : Option Addr) (nd cd : Nat) (d : List (Bs × Bs)) (hd : DnAt w0 (.slice sp nd cd) d) (hnd : d.length = nd) (hdl : nd ≤ 281474976710656) (hl : ∀ a ∈ d, a.1.length ≤ 281474976710656 ∧ a.2.length ≤ 281474976710656) :
  Calls Tryz.prog 6 #[.agg cs.toArray, .slice sp nd cd] w0 fun e w' => e = .returned (.bool true) ∧ Below w0.heap.size w0 w' := by
 cases h : parseP v with
 | no e => exact parses_0 w0 hR cs v hv sp nd cd d hd hnd hdl hl e h
 | yes x => exact parses_1 w0 hR cs v hv sp nd cd d hd hnd hdl hl x h
end Q
end Go.Proofs.YtcofnockikninaaGreatDoor
