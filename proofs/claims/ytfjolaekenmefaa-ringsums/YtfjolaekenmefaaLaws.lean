/-
  The walk of the statement RingLaws: it returns true; nothing that was there has turned.
-/
import Derived.Test.YtfjolaekenmefaaShifts
namespace Go.Proofs.Ytfjolaekenmefaa
open Go.RowKit
set_option maxRecDepth 100000 in
set_option maxHeartbeats 4000000 in
theorem laws_main {R : World → Prop} (C : Ring R) (w0 : World) (hR : R w0) (xa xb xc : Value) (a b c : List Int) (ha : IntsAt w0 xa a) (hb : IntsAt w0 xb b) (hc : IntsAt w0 xc c) (pa : Poly a) (pb : Poly b) (pc : Poly c) :
    Calls Try.prog 5 #[xa, xb, xc] w0 fun e w' => e = .returned (.bool true) ∧ Below w0.heap.size w0 w' := by
  have va := validB_true pa
  have vb := validB_true pb
  have vc := validB_true pc
  have HC := hide C
  have R0 := hide hR
  have I_a0 := hide ha
  have P_a := hide pa
  have I_b0 := hide hb
  have P_b := hide pb
  have I_c0 := hide hc
  have P_c := hide pc
  have B0 := hide (Below.refl w0.heap.size w0)
  clear C hR ha hb hc pa pb pc
  go_enter Try.func5, Try.ntmps5
  go_wp2_with fail
  refine (anchor_any (unhide HC) w0 (unhide R0)).mono ?_
  rintro e w1 ⟨rfl, hbel⟩
  have I_a1 := hide ((unhide I_a0).below hbel)
  have I_b1 := hide ((unhide I_b0).below hbel)
  have I_c1 := hide ((unhide I_c0).below hbel)
  have R1 := hide ((unhide HC).below _ _ (unhide R0) hbel)
  have B1 := hide ((unhide B0).trans (hbel.mono (unhide B0).size))
  clear hbel R0 B0 I_a0 I_b0 I_c0 
  go_wp2_with fail
  refine (valid_any w1 _ a (unhide I_a1) (by have := (unhide P_a).1; omega)).mono ?_
  rw [va]
  rintro e w1 ⟨rfl, rfl⟩
  go_wp2_with fail
  refine (valid_any w1 _ b (unhide I_b1) (by have := (unhide P_b).1; omega)).mono ?_
  rw [vb]
  rintro e w1 ⟨rfl, rfl⟩
  go_wp2_with fail
  refine (valid_any w1 _ c (unhide I_c1) (by have := (unhide P_c).1; omega)).mono ?_
  rw [vc]
  rintro e w1 ⟨rfl, rfl⟩
  go_wp2_with fail
  refine ((unhide HC).mul w1 _ _ a b (unhide R1) (unhide I_a1) (unhide I_b1) (unhide P_a) (unhide P_b)).mono ?_
  rintro e w2 ⟨v_ab, ab, rfl, hO, hM, hbel⟩
  obtain ⟨bb, cb, rfl, _, _, _⟩ := hO.poly hM.1.1
  have I_a2 := hide ((unhide I_a1).below hbel)
  have I_b2 := hide ((unhide I_b1).below hbel)
  have I_c2 := hide ((unhide I_c1).below hbel)
  have R2 := hide ((unhide HC).below _ _ (unhide R1) hbel)
  have B2 := hide ((unhide B1).trans (hbel.mono (unhide B1).size))
  have I_ab2 := hide hO.bytes
  have M_ab := hide hM
  have P_ab := hide hM.1
  clear hbel R1 B1 I_a1 I_b1 I_c1 hO hM
  go_wp2_with fail
  refine ((unhide HC).mul w2 _ _ b a (unhide R2) (unhide I_b2) (unhide I_a2) (unhide P_b) (unhide P_a)).mono ?_
  rintro e w3 ⟨v_ba, ba, rfl, hO, hM, hbel⟩
  have I_a3 := hide ((unhide I_a2).below hbel)
  have I_b3 := hide ((unhide I_b2).below hbel)
  have I_c3 := hide ((unhide I_c2).below hbel)
  have I_ab3 := hide ((unhide I_ab2).below hbel)
  have R3 := hide ((unhide HC).below _ _ (unhide R2) hbel)
  have B3 := hide ((unhide B2).trans (hbel.mono (unhide B2).size))
  have I_ba3 := hide hO.bytes
  have M_ba := hide hM
  have P_ba := hide hM.1
  clear hbel R2 B2 I_a2 I_b2 I_c2 I_ab2 hO hM
  go_wp2_with fail
  refine ((unhide HC).mul w3 _ _ b c (unhide R3) (unhide I_b3) (unhide I_c3) (unhide P_b) (unhide P_c)).mono ?_
  rintro e w4 ⟨v_bc, bc, rfl, hO, hM, hbel⟩
  have I_a4 := hide ((unhide I_a3).below hbel)
  have I_b4 := hide ((unhide I_b3).below hbel)
  have I_c4 := hide ((unhide I_c3).below hbel)
  have I_ab4 := hide ((unhide I_ab3).below hbel)
  have I_ba4 := hide ((unhide I_ba3).below hbel)
  have R4 := hide ((unhide HC).below _ _ (unhide R3) hbel)
  have B4 := hide ((unhide B3).trans (hbel.mono (unhide B3).size))
  have I_bc4 := hide hO.bytes
  have M_bc := hide hM
  have P_bc := hide hM.1
  clear hbel R3 B3 I_a3 I_b3 I_c3 I_ab3 I_ba3 hO hM
  go_wp2_with fail
  refine ((unhide HC).mul w4 _ _ ab c (unhide R4) (unhide I_ab4) (unhide I_c4) (unhide P_ab) (unhide P_c)).mono ?_
  rintro e w5 ⟨v_x, x, rfl, hO, hM, hbel⟩
  have I_a5 := hide ((unhide I_a4).below hbel)
  have I_b5 := hide ((unhide I_b4).below hbel)
  have I_c5 := hide ((unhide I_c4).below hbel)
  have I_ab5 := hide ((unhide I_ab4).below hbel)
  have I_ba5 := hide ((unhide I_ba4).below hbel)
  have I_bc5 := hide ((unhide I_bc4).below hbel)
  have R5 := hide ((unhide HC).below _ _ (unhide R4) hbel)
  have B5 := hide ((unhide B4).trans (hbel.mono (unhide B4).size))
  have I_x5 := hide hO.bytes
  have M_x := hide hM
  have P_x := hide hM.1
  clear hbel R4 B4 I_a4 I_b4 I_c4 I_ab4 I_ba4 I_bc4 hO hM
  go_wp2_with fail
  refine ((unhide HC).mul w5 _ _ a bc (unhide R5) (unhide I_a5) (unhide I_bc5) (unhide P_a) (unhide P_bc)).mono ?_
  rintro e w6 ⟨v_y, y, rfl, hO, hM, hbel⟩
  have I_a6 := hide ((unhide I_a5).below hbel)
  have I_b6 := hide ((unhide I_b5).below hbel)
  have I_c6 := hide ((unhide I_c5).below hbel)
  have I_ab6 := hide ((unhide I_ab5).below hbel)
  have I_ba6 := hide ((unhide I_ba5).below hbel)
  have I_bc6 := hide ((unhide I_bc5).below hbel)
  have I_x6 := hide ((unhide I_x5).below hbel)
  have R6 := hide ((unhide HC).below _ _ (unhide R5) hbel)
  have B6 := hide ((unhide B5).trans (hbel.mono (unhide B5).size))
  have I_y6 := hide hO.bytes
  have M_y := hide hM
  have P_y := hide hM.1
  clear hbel R5 B5 I_a5 I_b5 I_c5 I_ab5 I_ba5 I_bc5 I_x5 hO hM
  go_wp2_with fail
  refine ((unhide HC).add w6 _ _ b c (unhide R6) (unhide I_b6) (unhide I_c6) (unhide P_b) (unhide P_c)).mono ?_
  rintro e w7 ⟨v_s, s, rfl, hO, hM, hbel⟩
  have I_a7 := hide ((unhide I_a6).below hbel)
  have I_b7 := hide ((unhide I_b6).below hbel)
  have I_c7 := hide ((unhide I_c6).below hbel)
  have I_ab7 := hide ((unhide I_ab6).below hbel)
  have I_ba7 := hide ((unhide I_ba6).below hbel)
  have I_bc7 := hide ((unhide I_bc6).below hbel)
  have I_x7 := hide ((unhide I_x6).below hbel)
  have I_y7 := hide ((unhide I_y6).below hbel)
  have R7 := hide ((unhide HC).below _ _ (unhide R6) hbel)
  have B7 := hide ((unhide B6).trans (hbel.mono (unhide B6).size))
  have I_s7 := hide hO.bytes
  have M_s := hide hM
  have P_s := hide hM.1
  clear hbel R6 B6 I_a6 I_b6 I_c6 I_ab6 I_ba6 I_bc6 I_x6 I_y6 hO hM
  go_wp2_with fail
  refine ((unhide HC).mul w7 _ _ a s (unhide R7) (unhide I_a7) (unhide I_s7) (unhide P_a) (unhide P_s)).mono ?_
  rintro e w8 ⟨v_z, z, rfl, hO, hM, hbel⟩
  have I_a8 := hide ((unhide I_a7).below hbel)
  have I_b8 := hide ((unhide I_b7).below hbel)
  have I_c8 := hide ((unhide I_c7).below hbel)
  have I_ab8 := hide ((unhide I_ab7).below hbel)
  have I_ba8 := hide ((unhide I_ba7).below hbel)
  have I_bc8 := hide ((unhide I_bc7).below hbel)
  have I_x8 := hide ((unhide I_x7).below hbel)
  have I_y8 := hide ((unhide I_y7).below hbel)
  have I_s8 := hide ((unhide I_s7).below hbel)
  have R8 := hide ((unhide HC).below _ _ (unhide R7) hbel)
  have B8 := hide ((unhide B7).trans (hbel.mono (unhide B7).size))
  have I_z8 := hide hO.bytes
  have M_z := hide hM
  have P_z := hide hM.1
  clear hbel R7 B7 I_a7 I_b7 I_c7 I_ab7 I_ba7 I_bc7 I_x7 I_y7 I_s7 hO hM
  go_wp2_with fail
  refine ((unhide HC).mul w8 _ _ a c (unhide R8) (unhide I_a8) (unhide I_c8) (unhide P_a) (unhide P_c)).mono ?_
  rintro e w9 ⟨v_ac, ac, rfl, hO, hM, hbel⟩
  have I_a9 := hide ((unhide I_a8).below hbel)
  have I_b9 := hide ((unhide I_b8).below hbel)
  have I_c9 := hide ((unhide I_c8).below hbel)
  have I_ab9 := hide ((unhide I_ab8).below hbel)
  have I_ba9 := hide ((unhide I_ba8).below hbel)
  have I_bc9 := hide ((unhide I_bc8).below hbel)
  have I_x9 := hide ((unhide I_x8).below hbel)
  have I_y9 := hide ((unhide I_y8).below hbel)
  have I_s9 := hide ((unhide I_s8).below hbel)
  have I_z9 := hide ((unhide I_z8).below hbel)
  have R9 := hide ((unhide HC).below _ _ (unhide R8) hbel)
  have B9 := hide ((unhide B8).trans (hbel.mono (unhide B8).size))
  have I_ac9 := hide hO.bytes
  have M_ac := hide hM
  have P_ac := hide hM.1
  clear hbel R8 B8 I_a8 I_b8 I_c8 I_ab8 I_ba8 I_bc8 I_x8 I_y8 I_s8 I_z8 hO hM
  go_wp2_with fail
  refine ((unhide HC).add w9 _ _ ab ac (unhide R9) (unhide I_ab9) (unhide I_ac9) (unhide P_ab) (unhide P_ac)).mono ?_
  rintro e w10 ⟨v_ww, ww, rfl, hO, hM, hbel⟩
  have I_a10 := hide ((unhide I_a9).below hbel)
  have I_b10 := hide ((unhide I_b9).below hbel)
  have I_c10 := hide ((unhide I_c9).below hbel)
  have I_ab10 := hide ((unhide I_ab9).below hbel)
  have I_ba10 := hide ((unhide I_ba9).below hbel)
  have I_bc10 := hide ((unhide I_bc9).below hbel)
  have I_x10 := hide ((unhide I_x9).below hbel)
  have I_y10 := hide ((unhide I_y9).below hbel)
  have I_s10 := hide ((unhide I_s9).below hbel)
  have I_z10 := hide ((unhide I_z9).below hbel)
  have I_ac10 := hide ((unhide I_ac9).below hbel)
  have R10 := hide ((unhide HC).below _ _ (unhide R9) hbel)
  have B10 := hide ((unhide B9).trans (hbel.mono (unhide B9).size))
  have I_ww10 := hide hO.bytes
  have M_ww := hide hM
  have P_ww := hide hM.1
  clear hbel R9 B9 I_a9 I_b9 I_c9 I_ab9 I_ba9 I_bc9 I_x9 I_y9 I_s9 I_z9 I_ac9 hO hM
  go_wp2_with fail
  refine ((unhide HC).there_ w10 _ ab (unhide R10) (unhide I_ab10) (unhide P_ab)).mono ?_
  rintro e w11 ⟨v_t, t, rfl, hO, hM, hbel⟩
  have I_a11 := hide ((unhide I_a10).below hbel)
  have I_b11 := hide ((unhide I_b10).below hbel)
  have I_c11 := hide ((unhide I_c10).below hbel)
  have I_ab11 := hide ((unhide I_ab10).below hbel)
  have I_ba11 := hide ((unhide I_ba10).below hbel)
  have I_bc11 := hide ((unhide I_bc10).below hbel)
  have I_x11 := hide ((unhide I_x10).below hbel)
  have I_y11 := hide ((unhide I_y10).below hbel)
  have I_s11 := hide ((unhide I_s10).below hbel)
  have I_z11 := hide ((unhide I_z10).below hbel)
  have I_ac11 := hide ((unhide I_ac10).below hbel)
  have I_ww11 := hide ((unhide I_ww10).below hbel)
  have R11 := hide ((unhide HC).below _ _ (unhide R10) hbel)
  have B11 := hide ((unhide B10).trans (hbel.mono (unhide B10).size))
  have I_t11 := hide hO.bytes
  have M_t := hide hM
  have P_t := hide hM.1
  clear hbel R10 B10 I_a10 I_b10 I_c10 I_ab10 I_ba10 I_bc10 I_x10 I_y10 I_s10 I_z10 I_ac10 I_ww10 hO hM
  go_wp2_with fail
  refine ((unhide HC).there_ w11 _ a (unhide R11) (unhide I_a11) (unhide P_a)).mono ?_
  rintro e w12 ⟨v_ta, ta, rfl, hO, hM, hbel⟩
  have I_a12 := hide ((unhide I_a11).below hbel)
  have I_b12 := hide ((unhide I_b11).below hbel)
  have I_c12 := hide ((unhide I_c11).below hbel)
  have I_ab12 := hide ((unhide I_ab11).below hbel)
  have I_ba12 := hide ((unhide I_ba11).below hbel)
  have I_bc12 := hide ((unhide I_bc11).below hbel)
  have I_x12 := hide ((unhide I_x11).below hbel)
  have I_y12 := hide ((unhide I_y11).below hbel)
  have I_s12 := hide ((unhide I_s11).below hbel)
  have I_z12 := hide ((unhide I_z11).below hbel)
  have I_ac12 := hide ((unhide I_ac11).below hbel)
  have I_ww12 := hide ((unhide I_ww11).below hbel)
  have I_t12 := hide ((unhide I_t11).below hbel)
  have R12 := hide ((unhide HC).below _ _ (unhide R11) hbel)
  have B12 := hide ((unhide B11).trans (hbel.mono (unhide B11).size))
  have I_ta12 := hide hO.bytes
  have M_ta := hide hM
  have P_ta := hide hM.1
  clear hbel R11 B11 I_a11 I_b11 I_c11 I_ab11 I_ba11 I_bc11 I_x11 I_y11 I_s11 I_z11 I_ac11 I_ww11 I_t11 hO hM
  go_wp2_with fail
  refine ((unhide HC).there_ w12 _ b (unhide R12) (unhide I_b12) (unhide P_b)).mono ?_
  rintro e w13 ⟨v_tb, tb, rfl, hO, hM, hbel⟩
  have I_a13 := hide ((unhide I_a12).below hbel)
  have I_b13 := hide ((unhide I_b12).below hbel)
  have I_c13 := hide ((unhide I_c12).below hbel)
  have I_ab13 := hide ((unhide I_ab12).below hbel)
  have I_ba13 := hide ((unhide I_ba12).below hbel)
  have I_bc13 := hide ((unhide I_bc12).below hbel)
  have I_x13 := hide ((unhide I_x12).below hbel)
  have I_y13 := hide ((unhide I_y12).below hbel)
  have I_s13 := hide ((unhide I_s12).below hbel)
  have I_z13 := hide ((unhide I_z12).below hbel)
  have I_ac13 := hide ((unhide I_ac12).below hbel)
  have I_ww13 := hide ((unhide I_ww12).below hbel)
  have I_t13 := hide ((unhide I_t12).below hbel)
  have I_ta13 := hide ((unhide I_ta12).below hbel)
  have R13 := hide ((unhide HC).below _ _ (unhide R12) hbel)
  have B13 := hide ((unhide B12).trans (hbel.mono (unhide B12).size))
  have I_tb13 := hide hO.bytes
  have M_tb := hide hM
  have P_tb := hide hM.1
  clear hbel R12 B12 I_a12 I_b12 I_c12 I_ab12 I_ba12 I_bc12 I_x12 I_y12 I_s12 I_z12 I_ac12 I_ww12 I_t12 I_ta12 hO hM
  go_wp2_with fail
  refine ((unhide HC).point w13 _ _ ta tb (unhide R13) (unhide I_ta13) (unhide I_tb13) (unhide P_ta) (unhide P_tb)).mono ?_
  rintro e w14 ⟨v_u, u, rfl, hO, hM, hbel⟩
  have I_a14 := hide ((unhide I_a13).below hbel)
  have I_b14 := hide ((unhide I_b13).below hbel)
  have I_c14 := hide ((unhide I_c13).below hbel)
  have I_ab14 := hide ((unhide I_ab13).below hbel)
  have I_ba14 := hide ((unhide I_ba13).below hbel)
  have I_bc14 := hide ((unhide I_bc13).below hbel)
  have I_x14 := hide ((unhide I_x13).below hbel)
  have I_y14 := hide ((unhide I_y13).below hbel)
  have I_s14 := hide ((unhide I_s13).below hbel)
  have I_z14 := hide ((unhide I_z13).below hbel)
  have I_ac14 := hide ((unhide I_ac13).below hbel)
  have I_ww14 := hide ((unhide I_ww13).below hbel)
  have I_t14 := hide ((unhide I_t13).below hbel)
  have I_ta14 := hide ((unhide I_ta13).below hbel)
  have I_tb14 := hide ((unhide I_tb13).below hbel)
  have R14 := hide ((unhide HC).below _ _ (unhide R13) hbel)
  have B14 := hide ((unhide B13).trans (hbel.mono (unhide B13).size))
  have I_u14 := hide hO.bytes
  have M_u := hide hM
  have P_u := hide hM.1
  clear hbel R13 B13 I_a13 I_b13 I_c13 I_ab13 I_ba13 I_bc13 I_x13 I_y13 I_s13 I_z13 I_ac13 I_ww13 I_t13 I_ta13 I_tb13 hO hM
  have q1 := isMul_comm (unhide M_ab) (unhide M_ba)
  have q2 := isMul_assoc (unhide M_ab) (unhide M_bc) (unhide M_x) (unhide M_y)
  have q3 := isMul_add (unhide M_s) (unhide M_z) (unhide M_ab) (unhide M_ac) (unhide M_ww)
  have q4 := isThere_mul (unhide M_ab) (unhide M_t) (unhide M_ta) (unhide M_tb) (unhide M_u)
  rw [← q1] at I_ba14
  rw [← q2] at I_y14
  rw [← q3] at I_ww14
  rw [← q4] at I_u14
  clear q1 q2 q3 q4 M_ab M_ba M_bc M_x M_y M_s M_z M_ac M_ww M_t M_ta M_tb M_u
  go_wp2_with fail
  refine (same_eq w14 _ _ ab (unhide I_ab14) (unhide I_ba14) (by have := (unhide P_ab).1; omega)).mono ?_
  rintro e w15 ⟨rfl, hbel⟩
  have I_a15 := hide ((unhide I_a14).below hbel)
  have I_b15 := hide ((unhide I_b14).below hbel)
  have I_c15 := hide ((unhide I_c14).below hbel)
  have I_ab15 := hide ((unhide I_ab14).below hbel)
  have I_ba15 := hide ((unhide I_ba14).below hbel)
  have I_bc15 := hide ((unhide I_bc14).below hbel)
  have I_x15 := hide ((unhide I_x14).below hbel)
  have I_y15 := hide ((unhide I_y14).below hbel)
  have I_s15 := hide ((unhide I_s14).below hbel)
  have I_z15 := hide ((unhide I_z14).below hbel)
  have I_ac15 := hide ((unhide I_ac14).below hbel)
  have I_ww15 := hide ((unhide I_ww14).below hbel)
  have I_t15 := hide ((unhide I_t14).below hbel)
  have I_ta15 := hide ((unhide I_ta14).below hbel)
  have I_tb15 := hide ((unhide I_tb14).below hbel)
  have I_u15 := hide ((unhide I_u14).below hbel)
  have R15 := hide ((unhide HC).below _ _ (unhide R14) hbel)
  have B15 := hide ((unhide B14).trans (hbel.mono (unhide B14).size))
  clear hbel R14 B14 I_a14 I_b14 I_c14 I_ab14 I_ba14 I_bc14 I_x14 I_y14 I_s14 I_z14 I_ac14 I_ww14 I_t14 I_ta14 I_tb14 I_u14 
  go_wp2_with fail
  refine (same_eq w15 _ _ x (unhide I_x15) (unhide I_y15) (by have := (unhide P_x).1; omega)).mono ?_
  rintro e w16 ⟨rfl, hbel⟩
  have I_a16 := hide ((unhide I_a15).below hbel)
  have I_b16 := hide ((unhide I_b15).below hbel)
  have I_c16 := hide ((unhide I_c15).below hbel)
  have I_ab16 := hide ((unhide I_ab15).below hbel)
  have I_ba16 := hide ((unhide I_ba15).below hbel)
  have I_bc16 := hide ((unhide I_bc15).below hbel)
  have I_x16 := hide ((unhide I_x15).below hbel)
  have I_y16 := hide ((unhide I_y15).below hbel)
  have I_s16 := hide ((unhide I_s15).below hbel)
  have I_z16 := hide ((unhide I_z15).below hbel)
  have I_ac16 := hide ((unhide I_ac15).below hbel)
  have I_ww16 := hide ((unhide I_ww15).below hbel)
  have I_t16 := hide ((unhide I_t15).below hbel)
  have I_ta16 := hide ((unhide I_ta15).below hbel)
  have I_tb16 := hide ((unhide I_tb15).below hbel)
  have I_u16 := hide ((unhide I_u15).below hbel)
  have R16 := hide ((unhide HC).below _ _ (unhide R15) hbel)
  have B16 := hide ((unhide B15).trans (hbel.mono (unhide B15).size))
  clear hbel R15 B15 I_a15 I_b15 I_c15 I_ab15 I_ba15 I_bc15 I_x15 I_y15 I_s15 I_z15 I_ac15 I_ww15 I_t15 I_ta15 I_tb15 I_u15 
  go_wp2_with fail
  refine (same_eq w16 _ _ z (unhide I_z16) (unhide I_ww16) (by have := (unhide P_z).1; omega)).mono ?_
  rintro e w17 ⟨rfl, hbel⟩
  have I_a17 := hide ((unhide I_a16).below hbel)
  have I_b17 := hide ((unhide I_b16).below hbel)
  have I_c17 := hide ((unhide I_c16).below hbel)
  have I_ab17 := hide ((unhide I_ab16).below hbel)
  have I_ba17 := hide ((unhide I_ba16).below hbel)
  have I_bc17 := hide ((unhide I_bc16).below hbel)
  have I_x17 := hide ((unhide I_x16).below hbel)
  have I_y17 := hide ((unhide I_y16).below hbel)
  have I_s17 := hide ((unhide I_s16).below hbel)
  have I_z17 := hide ((unhide I_z16).below hbel)
  have I_ac17 := hide ((unhide I_ac16).below hbel)
  have I_ww17 := hide ((unhide I_ww16).below hbel)
  have I_t17 := hide ((unhide I_t16).below hbel)
  have I_ta17 := hide ((unhide I_ta16).below hbel)
  have I_tb17 := hide ((unhide I_tb16).below hbel)
  have I_u17 := hide ((unhide I_u16).below hbel)
  have R17 := hide ((unhide HC).below _ _ (unhide R16) hbel)
  have B17 := hide ((unhide B16).trans (hbel.mono (unhide B16).size))
  clear hbel R16 B16 I_a16 I_b16 I_c16 I_ab16 I_ba16 I_bc16 I_x16 I_y16 I_s16 I_z16 I_ac16 I_ww16 I_t16 I_ta16 I_tb16 I_u16 
  go_wp2_with fail
  refine (same_eq w17 _ _ t (unhide I_t17) (unhide I_u17) (by have := (unhide P_t).1; omega)).mono ?_
  rintro e w18 ⟨rfl, hbel⟩
  have I_a18 := hide ((unhide I_a17).below hbel)
  have I_b18 := hide ((unhide I_b17).below hbel)
  have I_c18 := hide ((unhide I_c17).below hbel)
  have I_ab18 := hide ((unhide I_ab17).below hbel)
  have I_ba18 := hide ((unhide I_ba17).below hbel)
  have I_bc18 := hide ((unhide I_bc17).below hbel)
  have I_x18 := hide ((unhide I_x17).below hbel)
  have I_y18 := hide ((unhide I_y17).below hbel)
  have I_s18 := hide ((unhide I_s17).below hbel)
  have I_z18 := hide ((unhide I_z17).below hbel)
  have I_ac18 := hide ((unhide I_ac17).below hbel)
  have I_ww18 := hide ((unhide I_ww17).below hbel)
  have I_t18 := hide ((unhide I_t17).below hbel)
  have I_ta18 := hide ((unhide I_ta17).below hbel)
  have I_tb18 := hide ((unhide I_tb17).below hbel)
  have I_u18 := hide ((unhide I_u17).below hbel)
  have R18 := hide ((unhide HC).below _ _ (unhide R17) hbel)
  have B18 := hide ((unhide B17).trans (hbel.mono (unhide B17).size))
  clear hbel R17 B17 I_a17 I_b17 I_c17 I_ab17 I_ba17 I_bc17 I_x17 I_y17 I_s17 I_z17 I_ac17 I_ww17 I_t17 I_ta17 I_tb17 I_u17 
  go_wp2
  go_ret
  exact ⟨rfl, unhide B18⟩
set_option maxRecDepth 100000 in
set_option maxHeartbeats 2000000 in
theorem ringLaws_any {R : World → Prop} (C : Ring R) (w : World) (hR : R w) (xa xb xc : Value) (a b c : List Int) (ha : IntsAt w xa a) (hb : IntsAt w xb b) (hc : IntsAt w xc c) (la : a.length ≤ 4611686018427387904) (lb : b.length ≤ 4611686018427387904) (lc : c.length ≤ 4611686018427387904) :
    Calls Try.prog 5 #[xa, xb, xc] w fun e w' => e = .returned (.bool true) ∧ Below w.heap.size w w' := by
  by_cases pa : Poly a
  · by_cases pb : Poly b
    · by_cases pc : Poly c
      · exact laws_main C w hR xa xb xc a b c ha hb hc pa pb pc
      · have va := validB_true pa
        have vb := validB_true pb
        have vc := validB_false pc
        clear pa pb pc
        have HC := hide C
        have HR := hide hR
        have I_a := hide ha
        have I_b := hide hb
        have I_c := hide hc
        clear C hR ha hb hc
        go_enter Try.func5, Try.ntmps5
        go_wp2_with fail
        refine (anchor_any (unhide HC) w (unhide HR)).mono ?_
        rintro e w1 ⟨rfl, hb1⟩
        have J_a := hide ((unhide I_a).below hb1)
        have J_b := hide ((unhide I_b).below hb1)
        have J_c := hide ((unhide I_c).below hb1)
        have HB1 := hide hb1
        clear hb1
        go_wp2_with fail
        refine (valid_any w1 _ a (unhide J_a) la).mono ?_
        rw [va]
        rintro e w1 ⟨rfl, rfl⟩
        go_wp2_with fail
        refine (valid_any w1 _ b (unhide J_b) lb).mono ?_
        rw [vb]
        rintro e w1 ⟨rfl, rfl⟩
        go_wp2_with fail
        refine (valid_any w1 _ c (unhide J_c) lc).mono ?_
        rw [vc]
        rintro e w1 ⟨rfl, rfl⟩
        go_wp2
        go_ret
        exact ⟨rfl, unhide HB1⟩
    · have va := validB_true pa
      have vb := validB_false pb
      clear pa pb
      have HC := hide C
      have HR := hide hR
      have I_a := hide ha
      have I_b := hide hb
      clear C hR ha hb hc
      go_enter Try.func5, Try.ntmps5
      go_wp2_with fail
      refine (anchor_any (unhide HC) w (unhide HR)).mono ?_
      rintro e w1 ⟨rfl, hb1⟩
      have J_a := hide ((unhide I_a).below hb1)
      have J_b := hide ((unhide I_b).below hb1)
      have HB1 := hide hb1
      clear hb1
      go_wp2_with fail
      refine (valid_any w1 _ a (unhide J_a) la).mono ?_
      rw [va]
      rintro e w1 ⟨rfl, rfl⟩
      go_wp2_with fail
      refine (valid_any w1 _ b (unhide J_b) lb).mono ?_
      rw [vb]
      rintro e w1 ⟨rfl, rfl⟩
      go_wp2
      go_ret
      exact ⟨rfl, unhide HB1⟩
  · have va := validB_false pa
    clear pa
    have HC := hide C
    have HR := hide hR
    have I_a := hide ha
    clear C hR ha hb hc
    go_enter Try.func5, Try.ntmps5
    go_wp2_with fail
    refine (anchor_any (unhide HC) w (unhide HR)).mono ?_
    rintro e w1 ⟨rfl, hb1⟩
    have J_a := hide ((unhide I_a).below hb1)
    have HB1 := hide hb1
    clear hb1
    go_wp2_with fail
    refine (valid_any w1 _ a (unhide J_a) la).mono ?_
    rw [va]
    rintro e w1 ⟨rfl, rfl⟩
    go_wp2
    go_ret
    exact ⟨rfl, unhide HB1⟩
end Go.Proofs.Ytfjolaekenmefaa
