/-
  The walk of the statement RingUnits: it returns true; nothing that was there has turned.
-/
import Derived.Test.YtfjolaekenmefaaLaws
namespace Go.Proofs.Ytfjolaekenmefaa
open Go.RowKit
theorem makes256 (w : World) : (Instr.makeSlice 22 (.int .i64 256) (.int .i64 256)).run Try.prog w = .ok (.slice (some ⟨w.heap.size, 0, none⟩) 256 256) (w.alloc (.cells (zeros.map nv).toArray 3)) := by
  obtain ⟨i, hi, h0, hsz, hby⟩ := info3
  have h := run_make (P := Try.prog) w 22 3 i (.int .i64 0) Try.underlying22 hi h0 .i64 .i64 256 256 (by omega) (by omega) (by rw [hby]; decide) (by decide)
  rw [h, hsz]
  have e : madeCells (Value.int .i64 0).cells ((256 : Int).toNat * 1) = (zeros.map nv).toArray := by
    rw [zeros, List.map_replicate]
    exact made_ints 256
  rw [e]
  rfl
set_option maxRecDepth 100000 in
set_option maxHeartbeats 4000000 in
theorem units_main {R : World → Prop} (C : Ring R) (w0 : World) (hR : R w0) (spa : Option Addr) (ca : Nat) (xb : Value) (a b : List Int) (ha : IntsAt w0 (.slice spa a.length ca) a) (hb : IntsAt w0 xb b) (pa : Poly a) (pb : Poly b) :
    Calls Try.prog 8 #[.slice spa a.length ca, xb] w0 fun e w' => e = .returned (.bool true) ∧ Below w0.heap.size w0 w' := by
  have va := validB_true pa
  have vb := validB_true pb
  have HC := hide C
  have R0 := hide hR
  have I_a0 := hide ha
  have P_a := hide pa
  have I_b0 := hide hb
  have P_b := hide pb
  have P_zero := hide poly_zeros
  have B0 := hide (Below.refl w0.heap.size w0)
  obtain ⟨Z, hZ⟩ : ∃ Z, (zeros.map nv).toArray = Z := ⟨_, rfl⟩
  have hmk := makes256
  rw [hZ] at hmk
  have HZ := hide hZ
  clear C hR ha hb pa pb hZ
  go_enter Try.func8, Try.ntmps8
  go_wp2_with fail
  refine (anchor_any (unhide HC) w0 (unhide R0)).mono ?_
  rintro e w1 ⟨rfl, hbel⟩
  have I_a1 := hide ((unhide I_a0).below hbel)
  have I_b1 := hide ((unhide I_b0).below hbel)
  have R1 := hide ((unhide HC).below _ _ (unhide R0) hbel)
  have B1 := hide ((unhide B0).trans (hbel.mono (unhide B0).size))
  clear hbel R0 B0 I_a0 I_b0 
  go_wp2_with fail
  refine (valid_any w1 _ a (unhide I_a1) (by have := (unhide P_a).1; omega)).mono ?_
  rw [va]
  rintro e w1 ⟨rfl, rfl⟩
  go_wp2_with fail
  refine (valid_any w1 _ b (unhide I_b1) (by have := (unhide P_b).1; omega)).mono ?_
  rw [vb]
  rintro e w1 ⟨rfl, rfl⟩
  have hbA : Below w1.heap.size w1 (w1.alloc (.cells #[] 3)) := (Below.refl _ _).alloc (Nat.le_refl _) _
  have HOA : Hid (OwnI (w1.alloc (.cells #[] 3)) w1.heap.size (.slice (some ⟨w1.heap.size, 0, none⟩) 0 0) []) := ⟨rfl, Or.inr ⟨w1.heap.size, 0, #[], rfl, Nat.le_refl _, heap_alloc_new w1 _, Nat.le_refl _, Nat.zero_le _, rfl, rfl⟩⟩
  have IaA := hide ((unhide I_a1).below hbA)
  have HbA := hide hbA
  clear hbA
  go_wp2_with (at_builtin; refine wpList_append_bytes rfl _ _ rfl w1.heap.size (.slice (some ⟨w1.heap.size, 0, none⟩) 0 0) (.slice spa a.length ca) [] a rfl (unhide HOA) rfl (unhide IaA) (by simp) (by have := (unhide P_a).1; simp; omega) ?_; intro v2 w2 hO2 hg2)
  rw [List.nil_append] at hO2
  have hb2 : Below w1.heap.size w1 w2 := Fresh.grown (unhide HOA) hg2 (unhide HbA) (by simp)
  have hb3 : Below w2.heap.size w2 (w2.alloc (.cells Z 3)) := (Below.refl _ _).alloc (Nat.le_refl _) _
  have hbel : Below w1.heap.size w1 (w2.alloc (.cells Z 3)) := hb2.trans (hb3.mono hb2.size)
  have hOz : OutAt (w2.alloc (.cells Z 3)) w2.heap.size zeros := by unfold OutAt; rw [heap_alloc_new, unhide HZ]
  have I_zero2 := hide (hOz.ints 256 (by rw [zeros, List.length_replicate]) (by omega))
  have I_was2 := hide (hO2.bytes.below hb3)
  have I_a2 := hide ((unhide I_a1).below hbel)
  have I_b2 := hide ((unhide I_b1).below hbel)
  have R2 := hide ((unhide HC).below _ _ (unhide R1) hbel)
  have B2 := hide ((unhide B1).trans (hbel.mono (unhide B1).size))
  generalize w2.alloc (.cells Z 3) = W2 at I_zero2 I_was2 I_a2 I_b2 R2 B2 ⊢
  generalize w2.heap.size = zb at I_zero2 ⊢
  clear hbel hb2 hb3 hOz hO2 hg2 HOA IaA HbA R1 B1 hmk I_a1 I_b1
  go_wp2_with fail
  refine ((unhide HC).add W2 _ _ a zeros (unhide R2) (unhide I_a2) (unhide I_zero2) (unhide P_a) (unhide P_zero)).mono ?_
  rintro e w3 ⟨v_s, s, rfl, hO, hM, hbel⟩
  have P_s := hide hM.1
  have M_s := hide hM
  have I_a3 := hide ((unhide I_a2).below hbel)
  have I_b3 := hide ((unhide I_b2).below hbel)
  have I_zero3 := hide ((unhide I_zero2).below hbel)
  have I_was3 := hide ((unhide I_was2).below hbel)
  have R3 := hide ((unhide HC).below _ _ (unhide R2) hbel)
  have B3 := hide ((unhide B2).trans (hbel.mono (unhide B2).size))
  have I_s3 := hide hO.bytes
  clear hbel R2 B2 I_a2 I_b2 I_zero2 I_was2 hO hM
  go_wp2_with fail
  refine ((unhide HC).sub w3 _ _ a a (unhide R3) (unhide I_a3) (unhide I_a3) (unhide P_a) (unhide P_a)).mono ?_
  rintro e w4 ⟨v_d, d, rfl, hO, hM, hbel⟩
  have P_d := hide hM.1
  have M_d := hide hM
  have I_a4 := hide ((unhide I_a3).below hbel)
  have I_b4 := hide ((unhide I_b3).below hbel)
  have I_zero4 := hide ((unhide I_zero3).below hbel)
  have I_was4 := hide ((unhide I_was3).below hbel)
  have I_s4 := hide ((unhide I_s3).below hbel)
  have R4 := hide ((unhide HC).below _ _ (unhide R3) hbel)
  have B4 := hide ((unhide B3).trans (hbel.mono (unhide B3).size))
  have I_d4 := hide hO.bytes
  clear hbel R3 B3 I_a3 I_b3 I_zero3 I_was3 I_s3 hO hM
  go_wp2_with fail
  refine (power_any w4 0 (by omega)).mono ?_
  rintro e w5 ⟨rfl, hO, hbel⟩
  have I_a5 := hide ((unhide I_a4).below hbel)
  have I_b5 := hide ((unhide I_b4).below hbel)
  have I_zero5 := hide ((unhide I_zero4).below hbel)
  have I_was5 := hide ((unhide I_was4).below hbel)
  have I_s5 := hide ((unhide I_s4).below hbel)
  have I_d5 := hide ((unhide I_d4).below hbel)
  have R5 := hide ((unhide HC).below _ _ (unhide R4) hbel)
  have B5 := hide ((unhide B4).trans (hbel.mono (unhide B4).size))
  have I_one5 := hide (hO.ints 256 (len_zset _ _) (by omega))
  have P_one := hide (poly_power 0)
  clear hbel R4 B4 I_a4 I_b4 I_zero4 I_was4 I_s4 I_d4 hO
  go_wp2_with fail
  refine ((unhide HC).mul w5 _ _ a (zeros.set 0 1) (unhide R5) (unhide I_a5) (unhide I_one5) (unhide P_a) (unhide P_one)).mono ?_
  rintro e w6 ⟨v_m, m, rfl, hO, hM, hbel⟩
  have P_m := hide hM.1
  have M_m := hide hM
  have I_a6 := hide ((unhide I_a5).below hbel)
  have I_b6 := hide ((unhide I_b5).below hbel)
  have I_zero6 := hide ((unhide I_zero5).below hbel)
  have I_was6 := hide ((unhide I_was5).below hbel)
  have I_s6 := hide ((unhide I_s5).below hbel)
  have I_d6 := hide ((unhide I_d5).below hbel)
  have I_one6 := hide ((unhide I_one5).below hbel)
  have R6 := hide ((unhide HC).below _ _ (unhide R5) hbel)
  have B6 := hide ((unhide B5).trans (hbel.mono (unhide B5).size))
  have I_m6 := hide hO.bytes
  clear hbel R5 B5 I_a5 I_b5 I_zero5 I_was5 I_s5 I_d5 I_one5 hO hM
  go_wp2_with fail
  refine ((unhide HC).mul w6 _ _ a zeros (unhide R6) (unhide I_a6) (unhide I_zero6) (unhide P_a) (unhide P_zero)).mono ?_
  rintro e w7 ⟨v_n, n, rfl, hO, hM, hbel⟩
  have P_n := hide hM.1
  have M_n := hide hM
  have I_a7 := hide ((unhide I_a6).below hbel)
  have I_b7 := hide ((unhide I_b6).below hbel)
  have I_zero7 := hide ((unhide I_zero6).below hbel)
  have I_was7 := hide ((unhide I_was6).below hbel)
  have I_s7 := hide ((unhide I_s6).below hbel)
  have I_d7 := hide ((unhide I_d6).below hbel)
  have I_one7 := hide ((unhide I_one6).below hbel)
  have I_m7 := hide ((unhide I_m6).below hbel)
  have R7 := hide ((unhide HC).below _ _ (unhide R6) hbel)
  have B7 := hide ((unhide B6).trans (hbel.mono (unhide B6).size))
  have I_n7 := hide hO.bytes
  clear hbel R6 B6 I_a6 I_b6 I_zero6 I_was6 I_s6 I_d6 I_one6 I_m6 hO hM
  go_wp2_with fail
  refine ((unhide HC).add w7 _ _ a b (unhide R7) (unhide I_a7) (unhide I_b7) (unhide P_a) (unhide P_b)).mono ?_
  rintro e w8 ⟨v_t, t, rfl, hO, hM, hbel⟩
  have P_t := hide hM.1
  have M_t := hide hM
  have I_a8 := hide ((unhide I_a7).below hbel)
  have I_b8 := hide ((unhide I_b7).below hbel)
  have I_zero8 := hide ((unhide I_zero7).below hbel)
  have I_was8 := hide ((unhide I_was7).below hbel)
  have I_s8 := hide ((unhide I_s7).below hbel)
  have I_d8 := hide ((unhide I_d7).below hbel)
  have I_one8 := hide ((unhide I_one7).below hbel)
  have I_m8 := hide ((unhide I_m7).below hbel)
  have I_n8 := hide ((unhide I_n7).below hbel)
  have R8 := hide ((unhide HC).below _ _ (unhide R7) hbel)
  have B8 := hide ((unhide B7).trans (hbel.mono (unhide B7).size))
  have I_t8 := hide hO.bytes
  clear hbel R7 B7 I_a7 I_b7 I_zero7 I_was7 I_s7 I_d7 I_one7 I_m7 I_n7 hO hM
  go_wp2_with fail
  refine ((unhide HC).sub w8 _ _ t b (unhide R8) (unhide I_t8) (unhide I_b8) (unhide P_t) (unhide P_b)).mono ?_
  rintro e w9 ⟨v_u, u, rfl, hO, hM, hbel⟩
  have P_u := hide hM.1
  have M_u := hide hM
  have I_a9 := hide ((unhide I_a8).below hbel)
  have I_b9 := hide ((unhide I_b8).below hbel)
  have I_zero9 := hide ((unhide I_zero8).below hbel)
  have I_was9 := hide ((unhide I_was8).below hbel)
  have I_s9 := hide ((unhide I_s8).below hbel)
  have I_d9 := hide ((unhide I_d8).below hbel)
  have I_one9 := hide ((unhide I_one8).below hbel)
  have I_m9 := hide ((unhide I_m8).below hbel)
  have I_n9 := hide ((unhide I_n8).below hbel)
  have I_t9 := hide ((unhide I_t8).below hbel)
  have R9 := hide ((unhide HC).below _ _ (unhide R8) hbel)
  have B9 := hide ((unhide B8).trans (hbel.mono (unhide B8).size))
  have I_u9 := hide hO.bytes
  clear hbel R8 B8 I_a8 I_b8 I_zero8 I_was8 I_s8 I_d8 I_one8 I_m8 I_n8 I_t8 hO hM
  go_wp2_with fail
  refine ((unhide HC).there_ w9 _ a (unhide R9) (unhide I_a9) (unhide P_a)).mono ?_
  rintro e w10 ⟨v_there_, out_there_, rfl, hO, hM, hbel⟩
  have I_a10 := hide ((unhide I_a9).below hbel)
  have I_b10 := hide ((unhide I_b9).below hbel)
  have I_zero10 := hide ((unhide I_zero9).below hbel)
  have I_was10 := hide ((unhide I_was9).below hbel)
  have I_s10 := hide ((unhide I_s9).below hbel)
  have I_d10 := hide ((unhide I_d9).below hbel)
  have I_one10 := hide ((unhide I_one9).below hbel)
  have I_m10 := hide ((unhide I_m9).below hbel)
  have I_n10 := hide ((unhide I_n9).below hbel)
  have I_t10 := hide ((unhide I_t9).below hbel)
  have I_u10 := hide ((unhide I_u9).below hbel)
  have R10 := hide ((unhide HC).below _ _ (unhide R9) hbel)
  have B10 := hide ((unhide B9).trans (hbel.mono (unhide B9).size))
  clear hbel R9 B9 I_a9 I_b9 I_zero9 I_was9 I_s9 I_d9 I_one9 I_m9 I_n9 I_t9 I_u9 hO hM
  go_wp2_with fail
  refine ((unhide HC).back w10 _ a (unhide R10) (unhide I_a10) (unhide P_a)).mono ?_
  rintro e w11 ⟨v_back, out_back, rfl, hO, hM, hbel⟩
  have I_a11 := hide ((unhide I_a10).below hbel)
  have I_b11 := hide ((unhide I_b10).below hbel)
  have I_zero11 := hide ((unhide I_zero10).below hbel)
  have I_was11 := hide ((unhide I_was10).below hbel)
  have I_s11 := hide ((unhide I_s10).below hbel)
  have I_d11 := hide ((unhide I_d10).below hbel)
  have I_one11 := hide ((unhide I_one10).below hbel)
  have I_m11 := hide ((unhide I_m10).below hbel)
  have I_n11 := hide ((unhide I_n10).below hbel)
  have I_t11 := hide ((unhide I_t10).below hbel)
  have I_u11 := hide ((unhide I_u10).below hbel)
  have R11 := hide ((unhide HC).below _ _ (unhide R10) hbel)
  have B11 := hide ((unhide B10).trans (hbel.mono (unhide B10).size))
  clear hbel R10 B10 I_a10 I_b10 I_zero10 I_was10 I_s10 I_d10 I_one10 I_m10 I_n10 I_t10 I_u10 hO hM
  have q1 := isAdd_zero (unhide P_a) (unhide M_s)
  have q2 := isSub_self (unhide M_d)
  have q3 := isMul_one (unhide P_a) (unhide M_m)
  have q4 := isMul_zero (unhide M_n)
  have q5 := isSub_add (unhide P_a) (unhide M_t) (unhide M_u)
  rw [q1] at I_s11
  rw [q2] at I_d11
  rw [q3] at I_m11
  rw [q4] at I_n11
  rw [q5] at I_u11
  clear q1 q2 q3 q4 q5 M_s M_d M_m M_n M_t M_u
  go_wp2_with fail
  refine (same_eq w11 _ _ a (unhide I_s11) (unhide I_a11) (by have := (unhide P_a).1; omega)).mono ?_
  rintro e w12 ⟨rfl, hbel⟩
  have I_a12 := hide ((unhide I_a11).below hbel)
  have I_b12 := hide ((unhide I_b11).below hbel)
  have I_zero12 := hide ((unhide I_zero11).below hbel)
  have I_was12 := hide ((unhide I_was11).below hbel)
  have I_s12 := hide ((unhide I_s11).below hbel)
  have I_d12 := hide ((unhide I_d11).below hbel)
  have I_one12 := hide ((unhide I_one11).below hbel)
  have I_m12 := hide ((unhide I_m11).below hbel)
  have I_n12 := hide ((unhide I_n11).below hbel)
  have I_t12 := hide ((unhide I_t11).below hbel)
  have I_u12 := hide ((unhide I_u11).below hbel)
  have R12 := hide ((unhide HC).below _ _ (unhide R11) hbel)
  have B12 := hide ((unhide B11).trans (hbel.mono (unhide B11).size))
  clear hbel R11 B11 I_a11 I_b11 I_zero11 I_was11 I_s11 I_d11 I_one11 I_m11 I_n11 I_t11 I_u11 
  go_wp2_with fail
  refine (same_eq w12 _ _ zeros (unhide I_d12) (unhide I_zero12) (by rw [zeros, List.length_replicate]; omega)).mono ?_
  rintro e w13 ⟨rfl, hbel⟩
  have I_a13 := hide ((unhide I_a12).below hbel)
  have I_b13 := hide ((unhide I_b12).below hbel)
  have I_zero13 := hide ((unhide I_zero12).below hbel)
  have I_was13 := hide ((unhide I_was12).below hbel)
  have I_s13 := hide ((unhide I_s12).below hbel)
  have I_d13 := hide ((unhide I_d12).below hbel)
  have I_one13 := hide ((unhide I_one12).below hbel)
  have I_m13 := hide ((unhide I_m12).below hbel)
  have I_n13 := hide ((unhide I_n12).below hbel)
  have I_t13 := hide ((unhide I_t12).below hbel)
  have I_u13 := hide ((unhide I_u12).below hbel)
  have R13 := hide ((unhide HC).below _ _ (unhide R12) hbel)
  have B13 := hide ((unhide B12).trans (hbel.mono (unhide B12).size))
  clear hbel R12 B12 I_a12 I_b12 I_zero12 I_was12 I_s12 I_d12 I_one12 I_m12 I_n12 I_t12 I_u12 
  go_wp2_with fail
  refine (same_eq w13 _ _ a (unhide I_m13) (unhide I_a13) (by have := (unhide P_a).1; omega)).mono ?_
  rintro e w14 ⟨rfl, hbel⟩
  have I_a14 := hide ((unhide I_a13).below hbel)
  have I_b14 := hide ((unhide I_b13).below hbel)
  have I_zero14 := hide ((unhide I_zero13).below hbel)
  have I_was14 := hide ((unhide I_was13).below hbel)
  have I_s14 := hide ((unhide I_s13).below hbel)
  have I_d14 := hide ((unhide I_d13).below hbel)
  have I_one14 := hide ((unhide I_one13).below hbel)
  have I_m14 := hide ((unhide I_m13).below hbel)
  have I_n14 := hide ((unhide I_n13).below hbel)
  have I_t14 := hide ((unhide I_t13).below hbel)
  have I_u14 := hide ((unhide I_u13).below hbel)
  have R14 := hide ((unhide HC).below _ _ (unhide R13) hbel)
  have B14 := hide ((unhide B13).trans (hbel.mono (unhide B13).size))
  clear hbel R13 B13 I_a13 I_b13 I_zero13 I_was13 I_s13 I_d13 I_one13 I_m13 I_n13 I_t13 I_u13 
  go_wp2_with fail
  refine (same_eq w14 _ _ zeros (unhide I_n14) (unhide I_zero14) (by rw [zeros, List.length_replicate]; omega)).mono ?_
  rintro e w15 ⟨rfl, hbel⟩
  have I_a15 := hide ((unhide I_a14).below hbel)
  have I_b15 := hide ((unhide I_b14).below hbel)
  have I_zero15 := hide ((unhide I_zero14).below hbel)
  have I_was15 := hide ((unhide I_was14).below hbel)
  have I_s15 := hide ((unhide I_s14).below hbel)
  have I_d15 := hide ((unhide I_d14).below hbel)
  have I_one15 := hide ((unhide I_one14).below hbel)
  have I_m15 := hide ((unhide I_m14).below hbel)
  have I_n15 := hide ((unhide I_n14).below hbel)
  have I_t15 := hide ((unhide I_t14).below hbel)
  have I_u15 := hide ((unhide I_u14).below hbel)
  have R15 := hide ((unhide HC).below _ _ (unhide R14) hbel)
  have B15 := hide ((unhide B14).trans (hbel.mono (unhide B14).size))
  clear hbel R14 B14 I_a14 I_b14 I_zero14 I_was14 I_s14 I_d14 I_one14 I_m14 I_n14 I_t14 I_u14 
  go_wp2_with fail
  refine (same_eq w15 _ _ a (unhide I_u15) (unhide I_a15) (by have := (unhide P_a).1; omega)).mono ?_
  rintro e w16 ⟨rfl, hbel⟩
  have I_a16 := hide ((unhide I_a15).below hbel)
  have I_b16 := hide ((unhide I_b15).below hbel)
  have I_zero16 := hide ((unhide I_zero15).below hbel)
  have I_was16 := hide ((unhide I_was15).below hbel)
  have I_s16 := hide ((unhide I_s15).below hbel)
  have I_d16 := hide ((unhide I_d15).below hbel)
  have I_one16 := hide ((unhide I_one15).below hbel)
  have I_m16 := hide ((unhide I_m15).below hbel)
  have I_n16 := hide ((unhide I_n15).below hbel)
  have I_t16 := hide ((unhide I_t15).below hbel)
  have I_u16 := hide ((unhide I_u15).below hbel)
  have R16 := hide ((unhide HC).below _ _ (unhide R15) hbel)
  have B16 := hide ((unhide B15).trans (hbel.mono (unhide B15).size))
  clear hbel R15 B15 I_a15 I_b15 I_zero15 I_was15 I_s15 I_d15 I_one15 I_m15 I_n15 I_t15 I_u15 
  go_wp2_with fail
  refine (same_eq w16 _ _ a (unhide I_a16) (unhide I_was16) (by have := (unhide P_a).1; omega)).mono ?_
  rintro e w17 ⟨rfl, hbel⟩
  have I_a17 := hide ((unhide I_a16).below hbel)
  have I_b17 := hide ((unhide I_b16).below hbel)
  have I_zero17 := hide ((unhide I_zero16).below hbel)
  have I_was17 := hide ((unhide I_was16).below hbel)
  have I_s17 := hide ((unhide I_s16).below hbel)
  have I_d17 := hide ((unhide I_d16).below hbel)
  have I_one17 := hide ((unhide I_one16).below hbel)
  have I_m17 := hide ((unhide I_m16).below hbel)
  have I_n17 := hide ((unhide I_n16).below hbel)
  have I_t17 := hide ((unhide I_t16).below hbel)
  have I_u17 := hide ((unhide I_u16).below hbel)
  have R17 := hide ((unhide HC).below _ _ (unhide R16) hbel)
  have B17 := hide ((unhide B16).trans (hbel.mono (unhide B16).size))
  clear hbel R16 B16 I_a16 I_b16 I_zero16 I_was16 I_s16 I_d16 I_one16 I_m16 I_n16 I_t16 I_u16 
  go_wp2
  go_ret
  exact ⟨rfl, unhide B17⟩
set_option maxRecDepth 100000 in
set_option maxHeartbeats 2000000 in
theorem ringUnits_any {R : World → Prop} (C : Ring R) (w : World) (hR : R w) (spa : Option Addr) (ca : Nat) (xb : Value) (a b : List Int) (ha : IntsAt w (.slice spa a.length ca) a) (hb : IntsAt w xb b) (la : a.length ≤ 4611686018427387904) (lb : b.length ≤ 4611686018427387904) :
    Calls Try.prog 8 #[.slice spa a.length ca, xb] w fun e w' => e = .returned (.bool true) ∧ Below w.heap.size w w' := by
  by_cases pa : Poly a
  · by_cases pb : Poly b
    · exact units_main C w hR spa ca xb a b ha hb pa pb
    · have va := validB_true pa
      have vb := validB_false pb
      clear pa pb
      have HC := hide C
      have HR := hide hR
      have I_a := hide ha
      have I_b := hide hb
      clear C hR ha hb
      go_enter Try.func8, Try.ntmps8
      go_wp2_with fail
      refine (anchor_any (unhide HC) w (unhide HR)).mono ?_
      rintro e w1 ⟨rfl, hb1⟩
      have J_a := hide ((unhide I_a).below hb1)
      have J_b := hide ((unhide I_b).below hb1)
      have HB1 := hide hb1
      clear hb1
      go_wp2_with fail
      refine (valid_any w1 _ a (unhide J_a) la).mono ?_
      rw [va]
      rintro e w1 ⟨rfl, rfl⟩
      go_wp2_with fail
      refine (valid_any w1 _ b (unhide J_b) lb).mono ?_
      rw [vb]
      rintro e w1 ⟨rfl, rfl⟩
      go_wp2
      go_ret
      exact ⟨rfl, unhide HB1⟩
  · have va := validB_false pa
    clear pa
    have HC := hide C
    have HR := hide hR
    have I_a := hide ha
    clear C hR ha hb
    go_enter Try.func8, Try.ntmps8
    go_wp2_with fail
    refine (anchor_any (unhide HC) w (unhide HR)).mono ?_
    rintro e w1 ⟨rfl, hb1⟩
    have J_a := hide ((unhide I_a).below hb1)
    have HB1 := hide hb1
    clear hb1
    go_wp2_with fail
    refine (valid_any w1 _ a (unhide J_a) la).mono ?_
    rw [va]
    rintro e w1 ⟨rfl, rfl⟩
    go_wp2
    go_ret
    exact ⟨rfl, unhide HB1⟩
end Go.Proofs.Ytfjolaekenmefaa
