/-
  The walk of the statement RingSums: it returns true; nothing that was there has turned.
-/
import Derived.Test.YtfjolaekenmefaaUnits
namespace Go.Proofs.Ytfjolaekenmefaa
open Go.RowKit
set_option maxRecDepth 100000 in
set_option maxHeartbeats 4000000 in
theorem sums_main {R : World → Prop} (C : Ring R) (w0 : World) (hR : R w0) (xa xb : Value) (a b : List Int) (ha : IntsAt w0 xa a) (hb : IntsAt w0 xb b) (pa : Poly a) (pb : Poly b) :
    Calls Try.prog 3 #[xa, xb] w0 fun e w' => e = .returned (.bool true) ∧ Below w0.heap.size w0 w' := by
  have va := validB_true pa
  have vb := validB_true pb
  have fa : decide ((a.length : Int) ≤ 1000) = true := by have := pa.1; simp; omega
  have fb : decide ((b.length : Int) ≤ 1000) = true := by have := pb.1; simp; omega
  have HC := hide C
  have R0 := hide hR
  have I_a0 := hide ha
  have P_a := hide pa
  have I_b0 := hide hb
  have P_b := hide pb
  have B0 := hide (Below.refl w0.heap.size w0)
  clear C hR ha hb pa pb
  go_enter Try.func3, Try.ntmps3
  go_wp2_with fail
  refine (anchor_any (unhide HC) w0 (unhide R0)).mono ?_
  rintro e w1 ⟨rfl, hbel⟩
  have I_a1 := hide ((unhide I_a0).below hbel)
  have I_b1 := hide ((unhide I_b0).below hbel)
  have R1 := hide ((unhide HC).below _ _ (unhide R0) hbel)
  have B1 := hide ((unhide B0).trans (hbel.mono (unhide B0).size))
  clear hbel R0 B0 I_a0 I_b0 
  go_wp2_with fail
  refine (few_any w1 _ a (unhide I_a1)).mono ?_
  rw [fa]
  rintro e w1 ⟨rfl, rfl⟩
  go_wp2_with fail
  refine (few_any w1 _ b (unhide I_b1)).mono ?_
  rw [fb]
  rintro e w1 ⟨rfl, rfl⟩
  go_wp2_with fail
  refine (valid_any w1 _ a (unhide I_a1) (by have := (unhide P_a).1; omega)).mono ?_
  rw [va]
  rintro e w1 ⟨rfl, rfl⟩
  go_wp2_with fail
  refine (valid_any w1 _ b (unhide I_b1) (by have := (unhide P_b).1; omega)).mono ?_
  rw [vb]
  rintro e w1 ⟨rfl, rfl⟩
  go_wp2_with fail
  refine ((unhide HC).add w1 _ _ a b (unhide R1) (unhide I_a1) (unhide I_b1) (unhide P_a) (unhide P_b)).mono ?_
  rintro e w2 ⟨v_s, s, rfl, hO, hM, hbel⟩
  have I_a2 := hide ((unhide I_a1).below hbel)
  have I_b2 := hide ((unhide I_b1).below hbel)
  have R2 := hide ((unhide HC).below _ _ (unhide R1) hbel)
  have B2 := hide ((unhide B1).trans (hbel.mono (unhide B1).size))
  have I_s2 := hide hO.bytes
  have M_s := hide hM
  clear hbel R1 B1 I_a1 I_b1 hO hM
  go_wp2_with fail
  refine ((unhide HC).sub w2 _ _ a b (unhide R2) (unhide I_a2) (unhide I_b2) (unhide P_a) (unhide P_b)).mono ?_
  rintro e w3 ⟨v_d, d, rfl, hO, hM, hbel⟩
  have I_a3 := hide ((unhide I_a2).below hbel)
  have I_b3 := hide ((unhide I_b2).below hbel)
  have I_s3 := hide ((unhide I_s2).below hbel)
  have R3 := hide ((unhide HC).below _ _ (unhide R2) hbel)
  have B3 := hide ((unhide B2).trans (hbel.mono (unhide B2).size))
  have I_d3 := hide hO.bytes
  have M_d := hide hM
  clear hbel R2 B2 I_a2 I_b2 I_s2 hO hM
  go_wp2_with fail
  refine ((unhide HC).mul w3 _ _ a b (unhide R3) (unhide I_a3) (unhide I_b3) (unhide P_a) (unhide P_b)).mono ?_
  rintro e w4 ⟨v_p, p, rfl, hO, hM, hbel⟩
  have I_a4 := hide ((unhide I_a3).below hbel)
  have I_b4 := hide ((unhide I_b3).below hbel)
  have I_s4 := hide ((unhide I_s3).below hbel)
  have I_d4 := hide ((unhide I_d3).below hbel)
  have R4 := hide ((unhide HC).below _ _ (unhide R3) hbel)
  have B4 := hide ((unhide B3).trans (hbel.mono (unhide B3).size))
  have I_p4 := hide hO.bytes
  have M_p := hide hM
  clear hbel R3 B3 I_a3 I_b3 I_s3 I_d3 hO hM
  go_wp2_with fail
  refine ((unhide HC).point w4 _ _ a b (unhide R4) (unhide I_a4) (unhide I_b4) (unhide P_a) (unhide P_b)).mono ?_
  rintro e w5 ⟨v_w, q, rfl, hO, hM, hbel⟩
  have I_a5 := hide ((unhide I_a4).below hbel)
  have I_b5 := hide ((unhide I_b4).below hbel)
  have I_s5 := hide ((unhide I_s4).below hbel)
  have I_d5 := hide ((unhide I_d4).below hbel)
  have I_p5 := hide ((unhide I_p4).below hbel)
  have R5 := hide ((unhide HC).below _ _ (unhide R4) hbel)
  have B5 := hide ((unhide B4).trans (hbel.mono (unhide B4).size))
  have I_q5 := hide hO
  have M_q := hide hM
  clear hbel R4 B4 I_a4 I_b4 I_s4 I_d4 I_p4 hO hM
  go_wp2_with fail
  refine ((unhide HC).valid w5 _ a (unhide R5) (unhide I_a5) (by have := (unhide P_a).1; omega)).mono ?_
  rw [va]
  rintro e w6 ⟨rfl, hbel⟩
  have I_a6 := hide ((unhide I_a5).below hbel)
  have I_b6 := hide ((unhide I_b5).below hbel)
  have I_s6 := hide ((unhide I_s5).below hbel)
  have I_d6 := hide ((unhide I_d5).below hbel)
  have I_p6 := hide ((unhide I_p5).below hbel)
  have I_q6 := hide ((unhide I_q5).below hbel)
  have R6 := hide ((unhide HC).below _ _ (unhide R5) hbel)
  have B6 := hide ((unhide B5).trans (hbel.mono (unhide B5).size))
  clear hbel R5 B5 I_a5 I_b5 I_s5 I_d5 I_p5 I_q5 
  go_wp2_with fail
  refine (valid_any w6 _ a (unhide I_a6) (by have := (unhide P_a).1; omega)).mono ?_
  rw [va]
  rintro e w6 ⟨rfl, rfl⟩
  obtain ⟨bq, cq, rfl, _, _, hq⟩ := (unhide I_q6).poly (unhide M_q).1.1
  obtain ⟨ba, oa, ca, rfl, _, _, hca⟩ := (unhide I_a6).polyCell (unhide P_a)
  obtain ⟨bb, ob, cb, rfl, _, _, hcb⟩ := (unhide I_b6).polyCell (unhide P_b)
  have Hq := hide hq
  have Ha := hide hca
  have Hb := hide hcb
  clear hq hca hcb
  go_wp2
  go_loopw [103] (fun i wr => ∃ j : Nat, j ≤ 256 ∧ i = .int .i64 (j : Int) ∧ wr.heap = w6.heap ∧ Below w6.heap.size w6 wr) (fun i _ => 256 - (intOf i).toNat)
  case atStart => exact ⟨0, by omega, rfl, rfl, Below.refl _ _⟩
  case round =>
    obtain ⟨j, hj, rfl, hh, hbel⟩ := hrel
    by_cases hlt : j < 256
    · have e1 : wr.cell? ⟨ba, oa + j, none⟩ = some (.int .i64 (coef a j)) := by rw [← unhide Ha j hlt]; unfold World.cell?; rw [hh]
      have e2 : wr.cell? ⟨bb, ob + j, none⟩ = some (.int .i64 (coef b j)) := by rw [← unhide Hb j hlt]; unfold World.cell?; rw [hh]
      have e3 : wr.cell? ⟨bq, j, none⟩ = some (.int .i64 (coef q j)) := by rw [← unhide Hq j hlt]; unfold World.cell?; rw [hh]
      have bj := (unhide P_a).bound j
      have bk := (unhide P_b).bound j
      have pb := prod_bound bj.1 bj.2 bk.1 bk.2
      have hz : coef q j = coef a j * coef b j % 8380417 := (((unhide M_q).2 j hlt).trans (eqv_emod _).symm).eq ((unhide M_q).1.bound j).1 ((unhide M_q).1.bound j).2 (by omega) (by omega)
      rw [hz] at e3
      clear hz
      generalize coef a j = za at e1 e3 pb bj
      generalize coef b j = zb at e2 e3 pb bk
      generalize hp : za * zb = pp at e3 pb
      obtain ⟨p0, p1⟩ := pb
      have t1 : IntKind.i64.wrap pp = pp := IntWalk.i64_in _ (by omega)
      have t2 : pp.tmod 8380417 = pp % 8380417 := Int.tmod_eq_emod_of_nonneg (by omega)
      have j0 : (0 : Int) ≤ (j : Int) := by omega
      have j1 : (j : Int) < 256 := by omega
      have Hh := hide hh
      have Hbel := hide hbel
      clear hh hbel
      go_wp2
      go_region_held3 (fun w' => w'.cell? ⟨ba, oa + j, none⟩ = some (.int .i64 za) ∧ w'.cell? ⟨bb, ob + j, none⟩ = some (.int .i64 zb)) (go_keep) (fail)
      go_wp2
      go_roundw
      case rel =>
        first
          | exact ⟨j + 1, by omega, by go_num, unhide Hh, (unhide Hbel).drew⟩
          | ((repeat apply Exists.intro); exact ⟨⟨j + 1, by omega, by go_num, unhide Hh, (unhide Hbel).drew⟩, rfl⟩)
      case measure => simp [intOf]; omega
    · obtain rfl : j = 256 := by omega
      have I_a7 := hide ((unhide I_a6).below hbel)
      have I_b7 := hide ((unhide I_b6).below hbel)
      have I_s7 := hide ((unhide I_s6).below hbel)
      have I_d7 := hide ((unhide I_d6).below hbel)
      have I_p7 := hide ((unhide I_p6).below hbel)
      have B7 := hide ((unhide B6).trans (hbel.mono (unhide B6).size))
      have R7 := hide ((unhide HC).below _ _ (unhide R6) hbel)
      clear hbel hh hlt hj
      go_wp2_with fail
      refine (refAdd_any wr _ _ a b (unhide I_a7) (unhide I_b7) (unhide P_a) (unhide P_b)).mono ?_
      rintro e w8 ⟨vr, outr, rfl, hO, hM, hbel⟩
      obtain rfl := isAdd_unique (unhide M_s) hM
      have I_a8 := hide ((unhide I_a7).below hbel)
      have I_b8 := hide ((unhide I_b7).below hbel)
      have I_s8 := hide ((unhide I_s7).below hbel)
      have I_d8 := hide ((unhide I_d7).below hbel)
      have I_p8 := hide ((unhide I_p7).below hbel)
      have R8 := hide ((unhide HC).below _ _ (unhide R7) hbel)
      have B8 := hide ((unhide B7).trans (hbel.mono (unhide B7).size))
      have J := hide hO.bytes
      clear hbel hO hM R7 B7 I_a7 I_b7 I_s7 I_d7 I_p7
      go_wp2_with fail
      refine (same_eq w8 _ _ s (unhide I_s8) (unhide J) (by have := (unhide M_s).1.1; omega)).mono ?_
      rintro e w9 ⟨rfl, hbel⟩
      have I_a9 := hide ((unhide I_a8).below hbel)
      have I_b9 := hide ((unhide I_b8).below hbel)
      have I_s9 := hide ((unhide I_s8).below hbel)
      have I_d9 := hide ((unhide I_d8).below hbel)
      have I_p9 := hide ((unhide I_p8).below hbel)
      have R9 := hide ((unhide HC).below _ _ (unhide R8) hbel)
      have B9 := hide ((unhide B8).trans (hbel.mono (unhide B8).size))
      clear hbel J R8 B8 I_a8 I_b8 I_s8 I_d8 I_p8
      go_wp2_with fail
      refine (refSub_any w9 _ _ a b (unhide I_a9) (unhide I_b9) (unhide P_a) (unhide P_b)).mono ?_
      rintro e w10 ⟨vr, outr, rfl, hO, hM, hbel⟩
      obtain rfl := isSub_unique (unhide M_d) hM
      have I_a10 := hide ((unhide I_a9).below hbel)
      have I_b10 := hide ((unhide I_b9).below hbel)
      have I_s10 := hide ((unhide I_s9).below hbel)
      have I_d10 := hide ((unhide I_d9).below hbel)
      have I_p10 := hide ((unhide I_p9).below hbel)
      have R10 := hide ((unhide HC).below _ _ (unhide R9) hbel)
      have B10 := hide ((unhide B9).trans (hbel.mono (unhide B9).size))
      have J := hide hO.bytes
      clear hbel hO hM R9 B9 I_a9 I_b9 I_s9 I_d9 I_p9
      go_wp2_with fail
      refine (same_eq w10 _ _ d (unhide I_d10) (unhide J) (by have := (unhide M_d).1.1; omega)).mono ?_
      rintro e w11 ⟨rfl, hbel⟩
      have I_a11 := hide ((unhide I_a10).below hbel)
      have I_b11 := hide ((unhide I_b10).below hbel)
      have I_s11 := hide ((unhide I_s10).below hbel)
      have I_d11 := hide ((unhide I_d10).below hbel)
      have I_p11 := hide ((unhide I_p10).below hbel)
      have R11 := hide ((unhide HC).below _ _ (unhide R10) hbel)
      have B11 := hide ((unhide B10).trans (hbel.mono (unhide B10).size))
      clear hbel J R10 B10 I_a10 I_b10 I_s10 I_d10 I_p10
      go_wp2_with fail
      refine (refMul_any w11 _ _ a b (unhide I_a11) (unhide I_b11) (unhide P_a) (unhide P_b)).mono ?_
      rintro e w12 ⟨vr, outr, rfl, hO, hM, hbel⟩
      obtain rfl := isMul_unique (unhide M_p) hM
      have I_a12 := hide ((unhide I_a11).below hbel)
      have I_b12 := hide ((unhide I_b11).below hbel)
      have I_s12 := hide ((unhide I_s11).below hbel)
      have I_d12 := hide ((unhide I_d11).below hbel)
      have I_p12 := hide ((unhide I_p11).below hbel)
      have R12 := hide ((unhide HC).below _ _ (unhide R11) hbel)
      have B12 := hide ((unhide B11).trans (hbel.mono (unhide B11).size))
      have J := hide hO.bytes
      clear hbel hO hM R11 B11 I_a11 I_b11 I_s11 I_d11 I_p11
      go_wp2_with fail
      refine (same_eq w12 _ _ p (unhide I_p12) (unhide J) (by have := (unhide M_p).1.1; omega)).mono ?_
      rintro e w13 ⟨rfl, hbel⟩
      have I_a13 := hide ((unhide I_a12).below hbel)
      have I_b13 := hide ((unhide I_b12).below hbel)
      have I_s13 := hide ((unhide I_s12).below hbel)
      have I_d13 := hide ((unhide I_d12).below hbel)
      have I_p13 := hide ((unhide I_p12).below hbel)
      have R13 := hide ((unhide HC).below _ _ (unhide R12) hbel)
      have B13 := hide ((unhide B12).trans (hbel.mono (unhide B12).size))
      clear hbel J R12 B12 I_a12 I_b12 I_s12 I_d12 I_p12
      go_wp2
      go_ret
      exact ⟨rfl, unhide B13⟩
set_option maxRecDepth 100000 in
set_option maxHeartbeats 4000000 in
theorem sums_no_b {R : World → Prop} (C : Ring R) (w0 : World) (hR : R w0) (xa xb : Value) (a b : List Int) (ha : IntsAt w0 xa a) (hb : IntsAt w0 xb b) (hn : ¬ (Poly a ∧ Poly b)) (pa : Poly a) (la : a.length ≤ 1000) (lb : b.length ≤ 1000) :
    Calls Try.prog 3 #[xa, xb] w0 fun e w' => e = .returned (.bool true) ∧ Below w0.heap.size w0 w' := by
  have va := validB_true pa
  have vb := validB_false (fun h => hn ⟨pa, h⟩)
  clear pa
  have fa : decide ((a.length : Int) ≤ 1000) = true := by simp; omega
  have fb : decide ((b.length : Int) ≤ 1000) = true := by simp; omega
  have HC := hide C
  have R0 := hide hR
  have I_a0 := hide ha
  have I_b0 := hide hb
  have B0 := hide (Below.refl w0.heap.size w0)
  have HN := hide hn
  have La := hide la
  have Lb := hide lb
  clear C hR ha hb hn la lb
  go_enter Try.func3, Try.ntmps3
  go_wp2_with fail
  refine (anchor_any (unhide HC) w0 (unhide R0)).mono ?_
  rintro e w1 ⟨rfl, hbel⟩
  have I_a1 := hide ((unhide I_a0).below hbel)
  have I_b1 := hide ((unhide I_b0).below hbel)
  have R1 := hide ((unhide HC).below _ _ (unhide R0) hbel)
  have B1 := hide ((unhide B0).trans (hbel.mono (unhide B0).size))
  clear hbel R0 B0 I_a0 I_b0 
  go_wp2_with fail
  refine (few_any w1 _ a (unhide I_a1)).mono ?_
  rw [fa]
  rintro e w1 ⟨rfl, rfl⟩
  go_wp2_with fail
  refine (few_any w1 _ b (unhide I_b1)).mono ?_
  rw [fb]
  rintro e w1 ⟨rfl, rfl⟩
  go_wp2_with fail
  refine (valid_any w1 _ a (unhide I_a1) (by have := unhide La; omega)).mono ?_
  rw [va]
  rintro e w1 ⟨rfl, rfl⟩
  go_wp2_with fail
  refine (valid_any w1 _ b (unhide I_b1) (by have := unhide Lb; omega)).mono ?_
  rw [vb]
  rintro e w1 ⟨rfl, rfl⟩
  go_wp2_with fail
  refine ((unhide HC).noAdd w1 _ _ a b (unhide R1) (unhide I_a1) (unhide I_b1) (unhide La) (unhide Lb) (unhide HN)).mono ?_
  rintro e w2 ⟨v_noAdd, rfl, hO, hbel⟩
  obtain ⟨sp_noAdd, c_noAdd, rfl⟩ := ints_empty hO
  have I_a2 := hide ((unhide I_a1).below hbel)
  have I_b2 := hide ((unhide I_b1).below hbel)
  have R2 := hide ((unhide HC).below _ _ (unhide R1) hbel)
  have B2 := hide ((unhide B1).trans (hbel.mono (unhide B1).size))
  clear hbel R1 B1 I_a1 I_b1 hO
  go_wp2_with fail
  refine ((unhide HC).noSub w2 _ _ a b (unhide R2) (unhide I_a2) (unhide I_b2) (unhide La) (unhide Lb) (unhide HN)).mono ?_
  rintro e w3 ⟨v_noSub, rfl, hO, hbel⟩
  obtain ⟨sp_noSub, c_noSub, rfl⟩ := ints_empty hO
  have I_a3 := hide ((unhide I_a2).below hbel)
  have I_b3 := hide ((unhide I_b2).below hbel)
  have R3 := hide ((unhide HC).below _ _ (unhide R2) hbel)
  have B3 := hide ((unhide B2).trans (hbel.mono (unhide B2).size))
  clear hbel R2 B2 I_a2 I_b2 hO
  go_wp2_with fail
  refine ((unhide HC).noMul w3 _ _ a b (unhide R3) (unhide I_a3) (unhide I_b3) (unhide La) (unhide Lb) (unhide HN)).mono ?_
  rintro e w4 ⟨v_noMul, rfl, hO, hbel⟩
  obtain ⟨sp_noMul, c_noMul, rfl⟩ := ints_empty hO
  have I_a4 := hide ((unhide I_a3).below hbel)
  have I_b4 := hide ((unhide I_b3).below hbel)
  have R4 := hide ((unhide HC).below _ _ (unhide R3) hbel)
  have B4 := hide ((unhide B3).trans (hbel.mono (unhide B3).size))
  clear hbel R3 B3 I_a3 I_b3 hO
  go_wp2_with fail
  refine ((unhide HC).noPoint w4 _ _ a b (unhide R4) (unhide I_a4) (unhide I_b4) (unhide La) (unhide Lb) (unhide HN)).mono ?_
  rintro e w5 ⟨v_noPoint, rfl, hO, hbel⟩
  obtain ⟨sp_noPoint, c_noPoint, rfl⟩ := ints_empty hO
  have I_a5 := hide ((unhide I_a4).below hbel)
  have I_b5 := hide ((unhide I_b4).below hbel)
  have R5 := hide ((unhide HC).below _ _ (unhide R4) hbel)
  have B5 := hide ((unhide B4).trans (hbel.mono (unhide B4).size))
  clear hbel R4 B4 I_a4 I_b4 hO
  go_wp2_with fail
  refine ((unhide HC).valid w5 _ a (unhide R5) (unhide I_a5) (by have := unhide La; omega)).mono ?_
  rw [va]
  rintro e w6 ⟨rfl, hbel⟩
  have I_a6 := hide ((unhide I_a5).below hbel)
  have I_b6 := hide ((unhide I_b5).below hbel)
  have R6 := hide ((unhide HC).below _ _ (unhide R5) hbel)
  have B6 := hide ((unhide B5).trans (hbel.mono (unhide B5).size))
  clear hbel R5 B5 I_a5 I_b5 
  go_wp2_with fail
  refine (valid_any w6 _ a (unhide I_a6) (by have := unhide La; omega)).mono ?_
  rw [va]
  rintro e w6 ⟨rfl, rfl⟩
  go_wp2
  go_ret
  exact ⟨rfl, unhide B6⟩
set_option maxRecDepth 100000 in
set_option maxHeartbeats 4000000 in
theorem sums_no_a {R : World → Prop} (C : Ring R) (w0 : World) (hR : R w0) (xa xb : Value) (a b : List Int) (ha : IntsAt w0 xa a) (hb : IntsAt w0 xb b) (hn : ¬ (Poly a ∧ Poly b)) (pa : ¬ Poly a) (la : a.length ≤ 1000) (lb : b.length ≤ 1000) :
    Calls Try.prog 3 #[xa, xb] w0 fun e w' => e = .returned (.bool true) ∧ Below w0.heap.size w0 w' := by
  have va := validB_false pa
  clear pa
  have fa : decide ((a.length : Int) ≤ 1000) = true := by simp; omega
  have fb : decide ((b.length : Int) ≤ 1000) = true := by simp; omega
  have HC := hide C
  have R0 := hide hR
  have I_a0 := hide ha
  have I_b0 := hide hb
  have B0 := hide (Below.refl w0.heap.size w0)
  have HN := hide hn
  have La := hide la
  have Lb := hide lb
  clear C hR ha hb hn la lb
  go_enter Try.func3, Try.ntmps3
  go_wp2_with fail
  refine (anchor_any (unhide HC) w0 (unhide R0)).mono ?_
  rintro e w1 ⟨rfl, hbel⟩
  have I_a1 := hide ((unhide I_a0).below hbel)
  have I_b1 := hide ((unhide I_b0).below hbel)
  have R1 := hide ((unhide HC).below _ _ (unhide R0) hbel)
  have B1 := hide ((unhide B0).trans (hbel.mono (unhide B0).size))
  clear hbel R0 B0 I_a0 I_b0 
  go_wp2_with fail
  refine (few_any w1 _ a (unhide I_a1)).mono ?_
  rw [fa]
  rintro e w1 ⟨rfl, rfl⟩
  go_wp2_with fail
  refine (few_any w1 _ b (unhide I_b1)).mono ?_
  rw [fb]
  rintro e w1 ⟨rfl, rfl⟩
  go_wp2_with fail
  refine (valid_any w1 _ a (unhide I_a1) (by have := unhide La; omega)).mono ?_
  rw [va]
  rintro e w1 ⟨rfl, rfl⟩
  go_wp2_with fail
  refine ((unhide HC).noAdd w1 _ _ a b (unhide R1) (unhide I_a1) (unhide I_b1) (unhide La) (unhide Lb) (unhide HN)).mono ?_
  rintro e w2 ⟨v_noAdd, rfl, hO, hbel⟩
  obtain ⟨sp_noAdd, c_noAdd, rfl⟩ := ints_empty hO
  have I_a2 := hide ((unhide I_a1).below hbel)
  have I_b2 := hide ((unhide I_b1).below hbel)
  have R2 := hide ((unhide HC).below _ _ (unhide R1) hbel)
  have B2 := hide ((unhide B1).trans (hbel.mono (unhide B1).size))
  clear hbel R1 B1 I_a1 I_b1 hO
  go_wp2_with fail
  refine ((unhide HC).noSub w2 _ _ a b (unhide R2) (unhide I_a2) (unhide I_b2) (unhide La) (unhide Lb) (unhide HN)).mono ?_
  rintro e w3 ⟨v_noSub, rfl, hO, hbel⟩
  obtain ⟨sp_noSub, c_noSub, rfl⟩ := ints_empty hO
  have I_a3 := hide ((unhide I_a2).below hbel)
  have I_b3 := hide ((unhide I_b2).below hbel)
  have R3 := hide ((unhide HC).below _ _ (unhide R2) hbel)
  have B3 := hide ((unhide B2).trans (hbel.mono (unhide B2).size))
  clear hbel R2 B2 I_a2 I_b2 hO
  go_wp2_with fail
  refine ((unhide HC).noMul w3 _ _ a b (unhide R3) (unhide I_a3) (unhide I_b3) (unhide La) (unhide Lb) (unhide HN)).mono ?_
  rintro e w4 ⟨v_noMul, rfl, hO, hbel⟩
  obtain ⟨sp_noMul, c_noMul, rfl⟩ := ints_empty hO
  have I_a4 := hide ((unhide I_a3).below hbel)
  have I_b4 := hide ((unhide I_b3).below hbel)
  have R4 := hide ((unhide HC).below _ _ (unhide R3) hbel)
  have B4 := hide ((unhide B3).trans (hbel.mono (unhide B3).size))
  clear hbel R3 B3 I_a3 I_b3 hO
  go_wp2_with fail
  refine ((unhide HC).noPoint w4 _ _ a b (unhide R4) (unhide I_a4) (unhide I_b4) (unhide La) (unhide Lb) (unhide HN)).mono ?_
  rintro e w5 ⟨v_noPoint, rfl, hO, hbel⟩
  obtain ⟨sp_noPoint, c_noPoint, rfl⟩ := ints_empty hO
  have I_a5 := hide ((unhide I_a4).below hbel)
  have I_b5 := hide ((unhide I_b4).below hbel)
  have R5 := hide ((unhide HC).below _ _ (unhide R4) hbel)
  have B5 := hide ((unhide B4).trans (hbel.mono (unhide B4).size))
  clear hbel R4 B4 I_a4 I_b4 hO
  go_wp2_with fail
  refine ((unhide HC).valid w5 _ a (unhide R5) (unhide I_a5) (by have := unhide La; omega)).mono ?_
  rw [va]
  rintro e w6 ⟨rfl, hbel⟩
  have I_a6 := hide ((unhide I_a5).below hbel)
  have I_b6 := hide ((unhide I_b5).below hbel)
  have R6 := hide ((unhide HC).below _ _ (unhide R5) hbel)
  have B6 := hide ((unhide B5).trans (hbel.mono (unhide B5).size))
  clear hbel R5 B5 I_a5 I_b5 
  go_wp2_with fail
  refine (valid_any w6 _ a (unhide I_a6) (by have := unhide La; omega)).mono ?_
  rw [va]
  rintro e w6 ⟨rfl, rfl⟩
  go_wp2
  go_ret
  exact ⟨rfl, unhide B6⟩
set_option maxRecDepth 100000 in
set_option maxHeartbeats 4000000 in
theorem sums_many_a {R : World → Prop} (C : Ring R) (w0 : World) (hR : R w0) (xa xb : Value) (a b : List Int) (ha : IntsAt w0 xa a) (hb : IntsAt w0 xb b) (la : ¬ a.length ≤ 1000) :
    Calls Try.prog 3 #[xa, xb] w0 fun e w' => e = .returned (.bool true) ∧ Below w0.heap.size w0 w' := by
  have fa : decide ((a.length : Int) ≤ 1000) = false := by simp; omega
  have HC := hide C
  have R0 := hide hR
  have I_a0 := hide ha
  have I_b0 := hide hb
  have B0 := hide (Below.refl w0.heap.size w0)
  clear C hR ha hb
  go_enter Try.func3, Try.ntmps3
  go_wp2_with fail
  refine (anchor_any (unhide HC) w0 (unhide R0)).mono ?_
  rintro e w1 ⟨rfl, hbel⟩
  have I_a1 := hide ((unhide I_a0).below hbel)
  have I_b1 := hide ((unhide I_b0).below hbel)
  have R1 := hide ((unhide HC).below _ _ (unhide R0) hbel)
  have B1 := hide ((unhide B0).trans (hbel.mono (unhide B0).size))
  clear hbel R0 B0 I_a0 I_b0 
  go_wp2_with fail
  refine (few_any w1 _ a (unhide I_a1)).mono ?_
  rw [fa]
  rintro e w1 ⟨rfl, rfl⟩
  go_wp2
  go_ret
  exact ⟨rfl, unhide B1⟩
set_option maxRecDepth 100000 in
set_option maxHeartbeats 4000000 in
theorem sums_many_b {R : World → Prop} (C : Ring R) (w0 : World) (hR : R w0) (xa xb : Value) (a b : List Int) (ha : IntsAt w0 xa a) (hb : IntsAt w0 xb b) (la : a.length ≤ 1000) (lb : ¬ b.length ≤ 1000) :
    Calls Try.prog 3 #[xa, xb] w0 fun e w' => e = .returned (.bool true) ∧ Below w0.heap.size w0 w' := by
  have fa : decide ((a.length : Int) ≤ 1000) = true := by simp; omega
  have fb : decide ((b.length : Int) ≤ 1000) = false := by simp; omega
  have HC := hide C
  have R0 := hide hR
  have I_a0 := hide ha
  have I_b0 := hide hb
  have B0 := hide (Below.refl w0.heap.size w0)
  clear C hR ha hb
  go_enter Try.func3, Try.ntmps3
  go_wp2_with fail
  refine (anchor_any (unhide HC) w0 (unhide R0)).mono ?_
  rintro e w1 ⟨rfl, hbel⟩
  have I_a1 := hide ((unhide I_a0).below hbel)
  have I_b1 := hide ((unhide I_b0).below hbel)
  have R1 := hide ((unhide HC).below _ _ (unhide R0) hbel)
  have B1 := hide ((unhide B0).trans (hbel.mono (unhide B0).size))
  clear hbel R0 B0 I_a0 I_b0 
  go_wp2_with fail
  refine (few_any w1 _ a (unhide I_a1)).mono ?_
  rw [fa]
  rintro e w1 ⟨rfl, rfl⟩
  go_wp2_with fail
  refine (few_any w1 _ b (unhide I_b1)).mono ?_
  rw [fb]
  rintro e w1 ⟨rfl, rfl⟩
  go_wp2
  go_ret
  exact ⟨rfl, unhide B1⟩
set_option maxRecDepth 100000 in
set_option maxHeartbeats 4000000 in
theorem ringSums_any {R : World → Prop} (C : Ring R) (w0 : World) (hR : R w0) (xa xb : Value) (a b : List Int) (ha : IntsAt w0 xa a) (hb : IntsAt w0 xb b)  :
    Calls Try.prog 3 #[xa, xb] w0 fun e w' => e = .returned (.bool true) ∧ Below w0.heap.size w0 w' := by
  by_cases la : a.length ≤ 1000
  · by_cases lb : b.length ≤ 1000
    · by_cases pa : Poly a
      · by_cases pb : Poly b
        · exact sums_main C w0 hR xa xb a b ha hb pa pb
        · exact sums_no_b C w0 hR xa xb a b ha hb (fun h => pb h.2) pa la lb
      · exact sums_no_a C w0 hR xa xb a b ha hb (fun h => pa h.1) pa la lb
    · exact sums_many_b C w0 hR xa xb a b ha hb la lb
  · exact sums_many_a C w0 hR xa xb a b ha hb la
end Go.Proofs.Ytfjolaekenmefaa
