/-
  The walk of the landed rootOf.
-/
import Derived.Test.YtlhjifdahagkaaaDoorM14
namespace Go.Proofs.YtlhjifdahagkaaaDoor
open Go.RowKit
set_option maxRecDepth 100000 in
set_option maxHeartbeats 8000000 in
theorem rootof_c {R : World → Prop} {H : Bs → Bs} (C : CHash R H) (w0 : World) (hr : R w0) (h wd : Nat) (hh1 : 1 ≤ h) (hh : h ≤ 6) (hw : IsW wd) (k : Int) (xi xr xc xp xb xw xm : Value) (u0 u1 u2 u3 u4 : Int) (id cc ps bs msg : Bs) (q : Nat) (hq : q < 2 ^ h)
    (hi : BytesAt w0 xi id) (hxr : ∃ l, BytesAt w0 xr l) (hxw : ∃ l, BytesAt w0 xw l) (hc : BytesAt w0 xc cc) (hps : BytesAt w0 xp ps) (hb : BytesAt w0 xb bs) (hm : BytesAt w0 xm msg) (li : id.length ≤ 1000) (lc : cc.length ≤ 1000) (lm : msg.length ≤ 1000) (lps : ps.length = 32 * pW wd) (lb : bs.length = 32 * h) :
    Calls Tryd.prog 68 #[.agg #[.int .i64 (h : Int), .int .i64 (wd : Int), .int .i64 k, .int .i64 (pW wd : Int), .int .i64 (lsW wd : Int), xi, xr], .agg #[.int .i64 u0, .int .i64 u1, .int .i64 u2, .int .i64 u3, .int .i64 u4, .int .i64 (q : Int), xc, xp, xb, xw], xm] w0 fun e w' => ∃ v, e = .returned v ∧ BytesAt w' v (climb H id (fun z => part bs (32 * z) 32) h (2 ^ h + q) (H (head id (2 ^ h + q) 0x8282 ++ H (head id q 0x8080 ++ endsOfSig H id wd q (digit (hashed H id q cc msg) wd) (fun i => part ps (32 * i) 32) (pW wd))))) ∧ Below w0.heap.size w0 w' := by
  have HKo := fun w hr' h1 h2 h3 h4 => keyof_c C w hr' xi xc xp xm id cc ps msg h1 h2 h3 h4 li lc lm wd hw lps k q
  obtain ⟨KY, hKY⟩ : ∃ KY, H (head id q 0x8080 ++ endsOfSig H id wd q (digit (hashed H id q cc msg) wd) (fun i => part ps (32 * i) 32) (pW wd)) = KY := ⟨_, rfl⟩
  have lKY : KY.length = 32 := by rw [← hKY]; exact C.len _
  rw [hKY] at HKo
  rw [hKY]
  obtain ⟨p, hp⟩ : ∃ p, pW wd = p := ⟨_, rfl⟩
  obtain ⟨s, hls⟩ : ∃ s : Int, (lsW wd : Int) = s := ⟨_, rfl⟩
  rw [hp, hls] at HKo
  rw [hp, hls]
  have HLv := fun w => leaves_c w h hh (wd : Int) k (p : Int) s
  obtain ⟨N, hN⟩ : ∃ N, 2 ^ h = N := ⟨_, rfl⟩
  have hNb : N ≤ 64 := by rw [← hN]; exact Nat.pow_le_pow_right (show 0 < 2 by omega) hh
  rw [hN] at HLv hq
  rw [hN]
  obtain ⟨G, hG⟩ : ∃ G, N + q = G := ⟨_, rfl⟩
  rw [hG]
  obtain ⟨nd0, hnd0⟩ : ∃ nd0, H (head id G 0x8282 ++ KY) = nd0 := ⟨_, rfl⟩
  rw [hnd0]
  have lnd0 : nd0.length = 32 := by rw [← hnd0]; exact C.len _
  have Hcl : Hid (∀ z, (climb H id (fun z => part bs (32 * z) 32) z G nd0).length = 32) := fun z => by
    cases z with
    | zero => exact lnd0
    | succ z => rw [climb]; exact C.len _
  obtain ⟨si, ni, ci, rfl⟩ := hi.forms
  obtain ⟨lxr, hxr⟩ := hxr
  obtain ⟨s1, n1, c1, rfl⟩ := hxr.forms
  obtain ⟨lxw, hxw⟩ := hxw
  obtain ⟨s2, n2, c2, rfl⟩ := hxw.forms
  obtain ⟨s3, n3, c3, rfl⟩ := hc.forms
  obtain ⟨s4, n4, c4, rfl⟩ := hps.forms
  obtain ⟨sb, cb, rfl, _⟩ := bytes_open hb
  obtain ⟨nb, hnb⟩ : ∃ nb, bs.length = nb := ⟨_, rfl⟩
  rw [hnb] at hb ⊢
  have hbA : Below w0.heap.size w0 (w0.alloc (.cells #[.int .i64 (h : Int), .int .i64 (wd : Int), .int .i64 k, .int .i64 (p : Int), .int .i64 s, .slice si ni ci, .slice s1 n1 c1] 62)) := (Below.refl _ _).alloc (Nat.le_refl _) _
  have hKp := agg_new w0 [.int .i64 (h : Int), .int .i64 (wd : Int), .int .i64 k, .int .i64 (p : Int), .int .i64 s, .slice si ni ci, .slice s1 n1 c1] 62
  obtain ⟨wA, hwA⟩ : ∃ wA, w0.alloc (.cells #[.int .i64 (h : Int), .int .i64 (wd : Int), .int .i64 k, .int .i64 (p : Int), .int .i64 s, .slice si ni ci, .slice s1 n1 c1] 62) = wA := ⟨_, rfl⟩
  rw [hwA] at hbA hKp
  have hbS : Below wA.heap.size wA (wA.alloc (.cells #[.int .i64 u0, .int .i64 u1, .int .i64 u2, .int .i64 u3, .int .i64 u4, .int .i64 (q : Int), .slice s3 n3 c3, .slice s4 n4 c4, .slice sb nb cb, .slice s2 n2 c2] 79)) := (Below.refl _ _).alloc (Nat.le_refl _) _
  have hKs := agg_new wA [.int .i64 u0, .int .i64 u1, .int .i64 u2, .int .i64 u3, .int .i64 u4, .int .i64 (q : Int), .slice s3 n3 c3, .slice s4 n4 c4, .slice sb nb cb, .slice s2 n2 c2] 79
  obtain ⟨wB, hwB⟩ : ∃ wB, wA.alloc (.cells #[.int .i64 u0, .int .i64 u1, .int .i64 u2, .int .i64 u3, .int .i64 u4, .int .i64 (q : Int), .slice s3 n3 c3, .slice s4 n4 c4, .slice sb nb cb, .slice s2 n2 c2] 79) = wB := ⟨_, rfl⟩
  rw [hwB] at hbS hKs
  obtain ⟨KS, hKS⟩ : ∃ KS, wA.heap.size = KS := ⟨_, rfl⟩
  rw [hKS] at hKs
  have hbB := hbA.trans (hbS.mono hbA.size)
  have HKp := hide (hKp.below hbS)
  have HKs := hide hKs
  have HB := hide hbB
  have HX := hide (hi.below hbB)
  have Hc1 := hide (hc.below hbB)
  have Hp1 := hide (hps.below hbB)
  have Hb1 := hide (hb.below hbB)
  have Hm1 := hide (hm.below hbB)
  have HR := hide (C.below _ _ hr hbB)
  have HC := hide C
  have HKoh := hide HKo
  have HLvh := hide HLv
  have Hl := hide (And.intro li lb)
  have Hnb := hide hnb
  have HlK := hide lKY
  have Hnd0 := hide hnd0
  have Hl0 := hide lnd0
  have hG1 : N ≤ G ∧ G < 2 * N := by omega
  have hGi : (N : Int) + (q : Int) = (G : Int) := by omega
  have hGw : IntKind.i64.wrap (G : Int) = (G : Int) := IntWalk.i64_in _ (by omega)
  have qb : (q : Int) < 64 := by omega
  have qb0 : (0 : Int) ≤ (q : Int) := by omega
  have Gb : (G : Int) < 128 := by omega
  have Nb : (N : Int) ≤ 64 := by omega
  have HKpd := hide ((unhide HKp).below (Below.refl _ _).drew)
  have HKsd := hide ((unhide HKs).below (Below.refl _ _).drew)
  have Hat : Hid (∀ (w : World) (n : Int), Below wB.heap.size wB w → Calls Tryd.prog 81 #[.int .i64 n, .pointer (some ⟨w0.heap.size, 0, none⟩)] w fun e w' => e = .returned (.agg #[.slice si ni ci, .int .i64 n]) ∧ Below w.heap.size w w') := fun w n hw' => at1_c w w0.heap.size _ _ id ((unhide HKp).below hw') rfl ((unhide HX).below hw') n
  have ca0 := (unhide HKp).c 0 _ rfl
  have ca1 := (unhide HKp).c 1 _ rfl
  have ca2 := (unhide HKp).c 2 _ rfl
  have ca3 := (unhide HKp).c 3 _ rfl
  have ca4 := (unhide HKp).c 4 _ rfl
  have ca5 := (unhide HKp).c 5 _ rfl
  have ca6 := (unhide HKp).c 6 _ rfl
  have cb0 := (unhide HKs).c 0 _ rfl
  have cb1 := (unhide HKs).c 1 _ rfl
  have cb2 := (unhide HKs).c 2 _ rfl
  have cb3 := (unhide HKs).c 3 _ rfl
  have cb4 := (unhide HKs).c 4 _ rfl
  have cb5 := (unhide HKs).c 5 _ rfl
  have cb6 := (unhide HKs).c 6 _ rfl
  have cb7 := (unhide HKs).c 7 _ rfl
  have cb8 := (unhide HKs).c 8 _ rfl
  have cb9 := (unhide HKs).c 9 _ rfl
  clear hi hxr hxw hc hps hb hm hr hbA hKp hbS hKs hbB C HKo HLv hN hp hls hG hnd0 lnd0 hKY lKY li lb hnb
  go_enter Tryd.func68, Tryd.ntmps68
  go_wp2
  go_region_held3 (fun w' => w'.cell? ⟨w0.heap.size, 0, none⟩ = some (.int .i64 (h : Int)) ∧ w'.cell? ⟨w0.heap.size, 1, none⟩ = some (.int .i64 (wd : Int)) ∧ w'.cell? ⟨w0.heap.size, 2, none⟩ = some (.int .i64 k) ∧ w'.cell? ⟨w0.heap.size, 3, none⟩ = some (.int .i64 (p : Int)) ∧ w'.cell? ⟨w0.heap.size, 4, none⟩ = some (.int .i64 s) ∧ w'.cell? ⟨w0.heap.size, 5, none⟩ = some (.slice si ni ci) ∧ w'.cell? ⟨w0.heap.size, 6, none⟩ = some (.slice s1 n1 c1) ∧ w'.cell? ⟨KS, 0, none⟩ = some (.int .i64 u0) ∧ w'.cell? ⟨KS, 1, none⟩ = some (.int .i64 u1) ∧ w'.cell? ⟨KS, 2, none⟩ = some (.int .i64 u2) ∧ w'.cell? ⟨KS, 3, none⟩ = some (.int .i64 u3) ∧ w'.cell? ⟨KS, 4, none⟩ = some (.int .i64 u4) ∧ w'.cell? ⟨KS, 5, none⟩ = some (.int .i64 (q : Int)) ∧ w'.cell? ⟨KS, 6, none⟩ = some (.slice s3 n3 c3) ∧ w'.cell? ⟨KS, 7, none⟩ = some (.slice s4 n4 c4) ∧ w'.cell? ⟨KS, 8, none⟩ = some (.slice sb nb cb) ∧ w'.cell? ⟨KS, 9, none⟩ = some (.slice s2 n2 c2)) (go_keep)
    ((first
      | (go_at_call 81; (refine ((unhide Hat) wB.drew _ (Below.refl _ _).drew).mono ?_; rintro ee w1 ⟨rfl, hb1⟩; have HW1 := hide (below_left_drew hb1); have HP1 := hide ((unhide HKpd).below hb1); have HS1 := hide ((unhide HKsd).below hb1); have ma0 := (unhide HP1).c 0 _ rfl; have ma1 := (unhide HP1).c 1 _ rfl; have ma2 := (unhide HP1).c 2 _ rfl; have ma3 := (unhide HP1).c 3 _ rfl; have ma4 := (unhide HP1).c 4 _ rfl; have ma5 := (unhide HP1).c 5 _ rfl; have ma6 := (unhide HP1).c 6 _ rfl; have mb0 := (unhide HS1).c 0 _ rfl; have mb1 := (unhide HS1).c 1 _ rfl; have mb2 := (unhide HS1).c 2 _ rfl; have mb3 := (unhide HS1).c 3 _ rfl; have mb4 := (unhide HS1).c 4 _ rfl; have mb5 := (unhide HS1).c 5 _ rfl; have mb6 := (unhide HS1).c 6 _ rfl; have mb7 := (unhide HS1).c 7 _ rfl; have mb8 := (unhide HS1).c 8 _ rfl; have mb9 := (unhide HS1).c 9 _ rfl; clear hb1))
      | (go_at_call 82; (refine ((unhide HKoh) w1 ((unhide HC).below _ _ (unhide HR) (unhide HW1)) ((unhide HX).below (unhide HW1)) ((unhide Hc1).below (unhide HW1)) ((unhide Hp1).below (unhide HW1)) ((unhide Hm1).below (unhide HW1)) (by omega)).mono ?_; rintro ee w2 ⟨v2, rfl, hR2⟩; have HV2 := hide hR2.bytes; have HW2 := hide ((unhide HW1).trans (hR2.b.mono (unhide HW1).size)); have HP2 := hide ((unhide HP1).below hR2.b); have HS2 := hide ((unhide HS1).below hR2.b); have na0 := (unhide HP2).c 0 _ rfl; have na1 := (unhide HP2).c 1 _ rfl; have na2 := (unhide HP2).c 2 _ rfl; have na3 := (unhide HP2).c 3 _ rfl; have na4 := (unhide HP2).c 4 _ rfl; have na5 := (unhide HP2).c 5 _ rfl; have na6 := (unhide HP2).c 6 _ rfl; have nb0 := (unhide HS2).c 0 _ rfl; have nb1 := (unhide HS2).c 1 _ rfl; have nb2 := (unhide HS2).c 2 _ rfl; have nb3 := (unhide HS2).c 3 _ rfl; have nb4 := (unhide HS2).c 4 _ rfl; have nb5 := (unhide HS2).c 5 _ rfl; have nb6 := (unhide HS2).c 6 _ rfl; have nb7 := (unhide HS2).c 7 _ rfl; have nb8 := (unhide HS2).c 8 _ rfl; have nb9 := (unhide HS2).c 9 _ rfl; clear hR2))))
  have HW2d := hide (unhide HW2).drew
  have HP2d := hide ((unhide HP2).below (Below.refl _ _).drew)
  have HS2d := hide ((unhide HS2).below (Below.refl _ _).drew)
  have HV2d := hide ((unhide HV2).below (Below.refl _ _).drew)
  clear ma0 ma1 ma2 ma3 ma4 ma5 ma6 mb0 mb1 mb2 mb3 mb4 mb5 mb6 mb7 mb8 mb9 ca0 ca1 ca2 ca3 ca4 ca5 ca6 cb0 cb1 cb2 cb3 cb4 cb5 cb6 cb7 cb8 cb9
  go_wp2
  go_region_held3 (fun w' => w'.cell? ⟨w0.heap.size, 0, none⟩ = some (.int .i64 (h : Int)) ∧ w'.cell? ⟨w0.heap.size, 1, none⟩ = some (.int .i64 (wd : Int)) ∧ w'.cell? ⟨w0.heap.size, 2, none⟩ = some (.int .i64 k) ∧ w'.cell? ⟨w0.heap.size, 3, none⟩ = some (.int .i64 (p : Int)) ∧ w'.cell? ⟨w0.heap.size, 4, none⟩ = some (.int .i64 s) ∧ w'.cell? ⟨w0.heap.size, 5, none⟩ = some (.slice si ni ci) ∧ w'.cell? ⟨w0.heap.size, 6, none⟩ = some (.slice s1 n1 c1) ∧ w'.cell? ⟨KS, 0, none⟩ = some (.int .i64 u0) ∧ w'.cell? ⟨KS, 1, none⟩ = some (.int .i64 u1) ∧ w'.cell? ⟨KS, 2, none⟩ = some (.int .i64 u2) ∧ w'.cell? ⟨KS, 3, none⟩ = some (.int .i64 u3) ∧ w'.cell? ⟨KS, 4, none⟩ = some (.int .i64 u4) ∧ w'.cell? ⟨KS, 5, none⟩ = some (.int .i64 (q : Int)) ∧ w'.cell? ⟨KS, 6, none⟩ = some (.slice s3 n3 c3) ∧ w'.cell? ⟨KS, 7, none⟩ = some (.slice s4 n4 c4) ∧ w'.cell? ⟨KS, 8, none⟩ = some (.slice sb nb cb) ∧ w'.cell? ⟨KS, 9, none⟩ = some (.slice s2 n2 c2)) (go_keep)
    ((go_at_call 33; refine ((unhide HLvh) w2.drew).mono ?_; rintro ee w3 ⟨rfl, hb3⟩; have HV3 := hide ((unhide HV2d).below hb3); have HW3 := hide ((unhide HW2d).trans (hb3.mono (unhide HW2d).size)); have HP3 := hide ((unhide HP2d).below hb3); have HS3 := hide ((unhide HS2d).below hb3); have oa0 := (unhide HP3).c 0 _ rfl; have oa1 := (unhide HP3).c 1 _ rfl; have oa2 := (unhide HP3).c 2 _ rfl; have oa3 := (unhide HP3).c 3 _ rfl; have oa4 := (unhide HP3).c 4 _ rfl; have oa5 := (unhide HP3).c 5 _ rfl; have oa6 := (unhide HP3).c 6 _ rfl; have ob0 := (unhide HS3).c 0 _ rfl; have ob1 := (unhide HS3).c 1 _ rfl; have ob2 := (unhide HS3).c 2 _ rfl; have ob3 := (unhide HS3).c 3 _ rfl; have ob4 := (unhide HS3).c 4 _ rfl; have ob5 := (unhide HS3).c 5 _ rfl; have ob6 := (unhide HS3).c 6 _ rfl; have ob7 := (unhide HS3).c 7 _ rfl; have ob8 := (unhide HS3).c 8 _ rfl; have ob9 := (unhide HS3).c 9 _ rfl; clear hb3))
  clear na0 na1 na2 na3 na4 na5 na6 nb0 nb1 nb2 nb3 nb4 nb5 nb6 nb7 nb8 nb9
  go_wp2_with fail
  refine ((unhide Hat) w3 _ (unhide HW3)).mono ?_
  rintro ee w4 ⟨rfl, hb4⟩
  obtain ⟨k1, k2, k3, rfl⟩ := (unhide HV3).forms
  have hL4 := ll_new1 w4 _ KY 24 ((unhide HV3).below hb4)
  have hbl : Below w4.heap.size w4 (w4.alloc (.cells #[Value.slice k1 k2 k3] 24)) := (Below.refl _ _).alloc (Nat.le_refl _) _
  have HL4 := hide hL4
  have HW4 := hide ((unhide HW3).trans (hb4.mono (unhide HW3).size))
  have HW5 := hide ((unhide HW4).trans (hbl.mono (unhide HW4).size))
  clear hb4 hL4 hbl oa0 oa1 oa2 oa3 oa4 oa5 oa6 ob0 ob1 ob2 ob3 ob4 ob5 ob6 ob7 ob8 ob9
  go_wp2_with fail
  refine ((unhide HC).hash _ _ _ id G 0x8282 [KY] ((unhide HC).below _ _ (unhide HR) (unhide HW5)) ((unhide HX).below (unhide HW5)) (unhide HL4) (by omega) (by omega) (unhide Hl).1 (by have := unhide HlK; simp; omega) (by simp)).mono ?_
  rintro ee w6 ⟨v6, rfl, hR6⟩
  have HV6 : Hid (BytesAt w6 v6 (climb H id (fun z => part bs (32 * z) 32) 0 G nd0)) := by
    show BytesAt _ _ _
    have h6 := hR6.bytes
    rw [List.flatten_cons, List.flatten_nil, List.append_nil, unhide Hnd0] at h6
    exact h6
  have HW6 := hide ((unhide HW5).trans (hR6.b.mono (unhide HW5).size))
  have b8 := ((unhide HKs).below (unhide HW6)).c 8 _ rfl
  have HBe : Hid (∀ w, Below wB.heap.size wB w → BytesAt w (.slice sb nb cb) (bs.drop (32 * 0))) := fun w hw' => by rw [Nat.mul_zero]; exact (unhide Hb1).below hw'
  have HB0 := hide (unhide HBe w6 (unhide HW6))
  clear hR6 HBe hwA hwB
  go_wp2
  go_loopw [9, 10, 11] (fun pl nn be wr => ∃ (z X : Nat), z ≤ h ∧ pl = .int .i64 (X : Int) ∧ Hid (climb.climbR z G = X) ∧ X < 128 ∧ Hid (BytesAt wr nn (climb H id (fun z => part bs (32 * z) 32) z G nd0)) ∧ Hid (BytesAt wr be (bs.drop (32 * z))) ∧ Hid (Below wB.heap.size wB wr)) (fun _ _ be _ => match be with | .slice _ n _ => n | _ => 0)
  case atStart => exact ⟨0, G, by omega, rfl, rfl, by omega, HV6, HB0, HW6⟩
  case round =>
    clear HV6 HB0 HW6 b8 hGi hGw
    obtain ⟨z, X, hz, rfl, HXz, hX, HV, HBe, HW⟩ := hrel
    rename World => wc
    have Xb : (X : Int) < 128 := by omega
    have Xb0 : (0 : Int) ≤ (X : Int) := by omega
    obtain ⟨s6, c6, rfl, hc6, _, hs6⟩ := bytes_open (unhide HBe)
    obtain ⟨n1', k1', e1', rfl⟩ := (unhide HV).forms
    have hbl : (bs.drop (32 * z)).length = 32 * (h - z) := by have h1 := unhide Hl; have h2 := unhide Hnb; rw [List.length_drop]; omega
    have HBl := hide hbl
    by_cases hlt : z < h
    · obtain ⟨b6, o6, rfl, _⟩ := hs6 (by intro e; rw [e] at hbl; simp at hbl; omega)
      obtain ⟨s6, hs6e⟩ : ∃ s6, (some ⟨b6, o6, none⟩ : Option Addr) = s6 := ⟨_, rfl⟩
      rw [hs6e] at HBe
      obtain ⟨bl, hble⟩ : ∃ bl, bs.drop (32 * z) = bl := ⟨_, rfl⟩
      rw [hble] at hbl HBe HBl hc6
      have f1 : ∀ w, (Instr.sliceAt 24 (.slice s6 bl.length c6) none (some (.int .i64 32)) none).run Tryd.prog w = .ok (.slice s6 32 c6) w := fun w => by simpa using slice_front s6 bl.length c6 32 (by omega) w
      have f2 : ∀ w, (Instr.sliceAt 24 (.slice s6 bl.length c6) (some (.int .i64 32)) none none).run Tryd.prog w = .ok (.slice (cutAt s6 c6 32) (bl.length - 32) (c6 - 32)) w := fun w => by simpa using slice_rest s6 bl.length c6 32 (by omega) w
      have HB32 := hide (bytes_front (unhide HBe) 32 (by omega))
      have HBr := hide (bytes_rest (unhide HBe) 32 (by omega))
      have HBrn : Hid (bl.drop 32 = bs.drop (32 * (z + 1))) := by show _ = _; rw [← hble, List.drop_drop]; congr 1
      have HBpn : Hid (bl.take 32 = part bs (32 * z) 32) := by show _ = _; rw [← hble]; rfl
      rw [hble]
      obtain ⟨m, hm⟩ : ∃ m, bl.length = m := ⟨_, rfl⟩
      rw [hm] at f1 f2 HBr hbl
      rw [hm]
      have hm0 : (0 : Int) < (m : Int) := by omega
      have hm32 : (32 : Int) ≤ (m : Int) := by omega
      have hc32 : (32 : Int) ≤ (c6 : Int) := by omega
      obtain ⟨Y, hY⟩ : ∃ Y, X / 2 = Y := ⟨_, rfl⟩
      have hYi : (X : Int) / 2 = (Y : Int) := by omega
      have hYt : (X : Int).tdiv 2 = (Y : Int) := by rw [Int.tdiv_eq_ediv_of_nonneg (by omega)]; omega
      have HYz : Hid (climb.climbR (z + 1) G = Y) := by show climb.climbR z G / 2 = Y; rw [unhide HXz, hY]
      have HCz : Hid (climb H id (fun z => part bs (32 * z) 32) (z + 1) G nd0 = H (head id Y 0x8383 ++ (if X % 2 = 1 then part bs (32 * z) 32 ++ climb H id (fun z => part bs (32 * z) 32) z G nd0 else climb H id (fun z => part bs (32 * z) 32) z G nd0 ++ part bs (32 * z) 32))) := by show _ = _; rw [climb, unhide HXz, hY]
      have Hpl : Hid ((part bs (32 * z) 32).length = 32) := by show _ = _; unfold part; rw [List.length_take, hble, hm]; omega
      have Hcz := hide (unhide Hcl z)
      have yb : Y < 128 := by omega
      have yb0 : (0 : Int) ≤ (Y : Int) := by omega
      have yb1 : (Y : Int) < 128 := by omega
      rw [unhide HBpn] at HB32
      rw [unhide HBrn] at HBr
      have HB32d := hide ((unhide HB32).below (Below.refl _ _).drew)
      have HBrd := hide ((unhide HBr).below (Below.refl _ _).drew)
      have HVd := hide ((unhide HV).below (Below.refl _ _).drew)
      have HWd := hide (unhide HW).drew
      have hx2 : (X : Int) % 2 = 0 ∨ (X : Int) % 2 = 1 := by omega
      have Hhbl := hide hbl
      subst hs6e
      clear hm hble hY HBe HBl hbl hs6
      rcases hx2 with hx | hx
      · have hxt : (X : Int).tmod 2 = 0 := by rw [Int.tmod_eq_emod_of_nonneg (by omega)]; exact hx
        have hxn : ¬ X % 2 = 1 := by omega
        rw [if_neg hxn] at HCz
        clear hxn
        go_wp2
        go_region
        go_wp2_with fail
        refine ((unhide Hat) wc.drew _ (unhide HWd)).mono ?_
        rintro ee w7 ⟨rfl, hb7⟩
        have hL7 := ll_new2 w7 _ _ (climb H id (fun z => part bs (32 * z) 32) z G nd0) (part bs (32 * z) 32) 24 ((unhide HVd).below hb7) ((unhide HB32d).below hb7)
        have hbl : Below w7.heap.size w7 (w7.alloc (.cells #[Value.slice n1' k1' e1', Value.slice (some ⟨b6, o6, none⟩) 32 c6] 24)) := (Below.refl _ _).alloc (Nat.le_refl _) _
        have HL7 := hide hL7
        have Hb8 := hide (hb7.trans (hbl.mono hb7.size))
        have HW8 := hide ((unhide HWd).trans ((unhide Hb8).mono (unhide HWd).size))
        clear hb7 hL7 hbl
        go_wp2_with fail
        refine ((unhide HC).hash _ _ _ id Y 0x8383 [climb H id (fun z => part bs (32 * z) 32) z G nd0, part bs (32 * z) 32] ((unhide HC).below _ _ (unhide HR) (unhide HW8)) ((unhide HX).below (unhide HW8)) (unhide HL7) (by omega) (by omega) (unhide Hl).1 (by have h1 := unhide Hpl; have h2 := unhide Hcz; simp only [List.flatten_cons, List.flatten_nil, List.length_append, List.length_nil]; omega) (by simp)).mono ?_
        rintro ee w9 ⟨v9, rfl, hR9⟩
        have HV9 : Hid (BytesAt w9 v9 (climb H id (fun z => part bs (32 * z) 32) (z + 1) G nd0)) := by
          show BytesAt _ _ _
          have h9 := hR9.bytes
          rw [unhide HCz]
          simpa using h9
        have HW9 := hide ((unhide HW8).trans (hR9.b.mono (unhide HW8).size))
        have HB9 := hide ((unhide HBrd).below ((unhide Hb8).trans (hR9.b.mono (unhide Hb8).size)))
        have HYz2 := HYz
        have HB9' : Hid (BytesAt w9 (Value.slice (if c6 = 32 then some ⟨b6, o6, none⟩ else some ⟨b6, o6 + 32, none⟩) (m - 32) (c6 - 32)) (bs.drop (32 * (z + 1)))) := by
          show BytesAt _ _ _
          have := unhide HB9
          unfold cutAt at this
          simpa [Addr.add_mid] using this
        clear hR9 hYi hYt
        go_wp2
        go_roundw
        case rel =>
          first
            | exact ⟨z + 1, Y, by omega, by go_num, HYz2, yb, HV9, HB9', HW9⟩
            | ((repeat apply Exists.intro); exact ⟨⟨z + 1, Y, by omega, by go_num, HYz2, yb, HV9, HB9', HW9⟩, rfl⟩)
        case measure => have := unhide Hhbl; simp only []; omega
      · have hxt : (X : Int).tmod 2 = 1 := by rw [Int.tmod_eq_emod_of_nonneg (by omega)]; exact hx
        have hxn : X % 2 = 1 := by omega
        rw [if_pos hxn] at HCz
        clear hxn
        go_wp2
        go_region
        go_wp2_with fail
        refine ((unhide Hat) wc.drew _ (unhide HWd)).mono ?_
        rintro ee w7 ⟨rfl, hb7⟩
        have hL7 := ll_new2 w7 _ _ (part bs (32 * z) 32) (climb H id (fun z => part bs (32 * z) 32) z G nd0) 24 ((unhide HB32d).below hb7) ((unhide HVd).below hb7)
        have hbl : Below w7.heap.size w7 (w7.alloc (.cells #[Value.slice (some ⟨b6, o6, none⟩) 32 c6, Value.slice n1' k1' e1'] 24)) := (Below.refl _ _).alloc (Nat.le_refl _) _
        have HL7 := hide hL7
        have Hb8 := hide (hb7.trans (hbl.mono hb7.size))
        have HW8 := hide ((unhide HWd).trans ((unhide Hb8).mono (unhide HWd).size))
        clear hb7 hL7 hbl
        go_wp2_with fail
        refine ((unhide HC).hash _ _ _ id Y 0x8383 [part bs (32 * z) 32, climb H id (fun z => part bs (32 * z) 32) z G nd0] ((unhide HC).below _ _ (unhide HR) (unhide HW8)) ((unhide HX).below (unhide HW8)) (unhide HL7) (by omega) (by omega) (unhide Hl).1 (by have h1 := unhide Hpl; have h2 := unhide Hcz; simp only [List.flatten_cons, List.flatten_nil, List.length_append, List.length_nil]; omega) (by simp)).mono ?_
        rintro ee w9 ⟨v9, rfl, hR9⟩
        have HV9 : Hid (BytesAt w9 v9 (climb H id (fun z => part bs (32 * z) 32) (z + 1) G nd0)) := by
          show BytesAt _ _ _
          have h9 := hR9.bytes
          rw [unhide HCz]
          simpa using h9
        have HW9 := hide ((unhide HW8).trans (hR9.b.mono (unhide HW8).size))
        have HB9 := hide ((unhide HBrd).below ((unhide Hb8).trans (hR9.b.mono (unhide Hb8).size)))
        have HYz2 := HYz
        have HB9' : Hid (BytesAt w9 (Value.slice (if c6 = 32 then some ⟨b6, o6, none⟩ else some ⟨b6, o6 + 32, none⟩) (m - 32) (c6 - 32)) (bs.drop (32 * (z + 1)))) := by
          show BytesAt _ _ _
          have := unhide HB9
          unfold cutAt at this
          simpa [Addr.add_mid] using this
        clear hR9 hYi hYt
        go_wp2
        go_roundw
        case rel =>
          first
            | exact ⟨z + 1, Y, by omega, by go_num, HYz2, yb, HV9, HB9', HW9⟩
            | ((repeat apply Exists.intro); exact ⟨⟨z + 1, Y, by omega, by go_num, HYz2, yb, HV9, HB9', HW9⟩, rfl⟩)
        case measure => have := unhide Hhbl; simp only []; omega
    · obtain rfl : z = h := by omega
      rw [Nat.sub_self, Nat.mul_zero] at hbl
      rw [hbl]
      have HF := hide ((unhide HB).trans ((unhide HW).mono (unhide HB).size))
      clear hbl HBl hs6
      go_wp2
      go_ret
      exact ⟨_, rfl, unhide HV, unhide HF⟩
end Go.Proofs.YtlhjifdahagkaaaDoor
/-
  The landed publicOf in plain words.
-/
namespace Go.Proofs.YtlhjifdahagkaaaDoor
open Go.RowKit
theorem tkR_s {r : Rd} {n : Nat} (h : r.s = true) : (tkR r n).s = true := by
  unfold tkR
  split <;> simp [h]
theorem tkR_fit {r : Rd} {n : Nat} (h : n ≤ r.l.length) : tkR r n = ⟨r.l.drop n, r.s⟩ := if_pos h
theorem tkR_no {r : Rd} {n : Nat} (h : ¬ n ≤ r.l.length) : tkR r n = ⟨r.l, true⟩ := if_neg h
theorem tk_fit {r : Rd} {n : Nat} (h : n ≤ r.l.length) : tk r n = r.l.take n := if_pos h
theorem tk_no {r : Rd} {n : Nat} (h : ¬ n ≤ r.l.length) : tk r n = [] := if_neg h
theorem endB_s {r : Rd} (h : r.s = true) : endB r = false := by simp [endB, h]
theorem end56 (l : Bs) : endB (tkR (tkR (tkR (tkR ⟨l, false⟩ 4) 4) 16) 32) = decide (l.length = 56) := by
  by_cases h1 : 4 ≤ l.length
  · rw [tkR_fit (r := ⟨l, false⟩) h1]
    by_cases h2 : 4 ≤ (l.drop 4).length
    · rw [tkR_fit (r := ⟨l.drop 4, false⟩) h2]
      by_cases h3 : 16 ≤ ((l.drop 4).drop 4).length
      · rw [tkR_fit (r := ⟨(l.drop 4).drop 4, false⟩) h3]
        by_cases h4 : 32 ≤ (((l.drop 4).drop 4).drop 16).length
        · rw [tkR_fit (r := ⟨((l.drop 4).drop 4).drop 16, false⟩) h4]
          simp only [List.length_drop] at h4
          simp [endB]
          omega
        · rw [tkR_no (r := ⟨((l.drop 4).drop 4).drop 16, false⟩) h4, endB_s rfl]
          simp only [List.length_drop] at h4
          symm; simp; omega
      · rw [tkR_no (r := ⟨(l.drop 4).drop 4, false⟩) h3, endB_s (tkR_s rfl)]
        simp only [List.length_drop] at h3
        symm; simp; omega
    · rw [tkR_no (r := ⟨l.drop 4, false⟩) h2, endB_s (tkR_s (tkR_s rfl))]
      simp only [List.length_drop] at h2
      symm; simp; omega
  · rw [tkR_no (r := ⟨l, false⟩) h1, endB_s (tkR_s (tkR_s (tkR_s rfl)))]
    symm; simp; omega
/-- Is it a tree's public key? -/
def PubOK (pk : Bs) : Prop := pk.length = 56 ∧ 0 < hOf (num4 pk) ∧ 0 < wOf (num4 (pk.drop 4))
instance (pk : Bs) : Decidable (PubOK pk) := by unfold PubOK; exact inferInstance
theorem pubof_yes (w0 : World) (hW : WidAt w0) (xb : Value) (pk : Bs) (hx : BytesAt w0 xb pk) (hp : PubOK pk) (h wd : Nat) (hh : hOf (num4 pk) = h) (hw : wOf (num4 (pk.drop 4)) = wd) :
    Calls Tryd.prog 66 #[xb] w0 fun e w' => ∃ yi yr, e = .returned (.tuple #[.agg #[.int .i64 (h : Int), .int .i64 (wd : Int), .int .i64 (tyW wd : Int), .int .i64 (pW wd : Int), .int .i64 (lsW wd : Int), yi, yr], .bool true]) ∧ BytesAt w' yi (part pk 8 16) ∧ BytesAt w' yr (part pk 24 32) ∧ Below w0.heap.size w0 w' := by
  obtain ⟨h56, hh0, hw0⟩ := hp
  rw [hh] at hh0
  rw [hw] at hw0
  have f1 : 4 ≤ pk.length := by omega
  have q1 := tkR_fit (r := ⟨pk, false⟩) f1
  have f2 : 4 ≤ (pk.drop 4).length := by rw [List.length_drop]; omega
  have q2 := tkR_fit (r := ⟨pk.drop 4, false⟩) f2
  have f3 : 16 ≤ ((pk.drop 4).drop 4).length := by simp only [List.length_drop]; omega
  have q3 := tkR_fit (r := ⟨(pk.drop 4).drop 4, false⟩) f3
  have f4 : 32 ≤ (((pk.drop 4).drop 4).drop 16).length := by simp only [List.length_drop]; omega
  have e1 : numB (tk ⟨pk, false⟩ 4) = num4 pk := by rw [tk_fit (r := ⟨pk, false⟩) f1]; exact numB_four pk f1
  have e2 : numB (tk ⟨pk.drop 4, false⟩ 4) = num4 (pk.drop 4) := by rw [tk_fit (r := ⟨pk.drop 4, false⟩) f2]; exact numB_four _ f2
  have hE := end56 pk
  rw [q1, q2, q3] at hE
  refine (pubof_gen w0 hW xb pk hx (by omega) (num4 pk) (num4 (pk.drop 4)) _ _ _ e1 q1 e2 q2 q3 (h : Int) (wd : Int) (tyW wd : Int) (pW wd : Int) (lsW wd : Int) true true (fun w => (hkind_yes w (num4 pk) h hh hh0).2.2) (fun w hw' => (wkind_yes w hw' (num4 (pk.drop 4)) wd hw hw0).2)).mono ?_
  rintro e w' ⟨yi, yr, ho, b1, b2, hb⟩
  rcases ho with ⟨_, he⟩ | ⟨hn, _⟩
  · refine ⟨yi, yr, he, ?_, ?_, hb⟩
    · rw [tk_fit (r := ⟨(pk.drop 4).drop 4, false⟩) f3] at b1
      simp only [List.drop_drop] at b1
      exact b1
    · rw [tk_fit (r := ⟨((pk.drop 4).drop 4).drop 16, false⟩) f4] at b2
      simp only [List.drop_drop] at b2
      exact b2
  · exfalso
    rw [hE] at hn
    simp [h56] at hn
theorem pubof_no (w0 : World) (hW : WidAt w0) (xb : Value) (pk : Bs) (hx : BytesAt w0 xb pk) (hl : pk.length ≤ 100000) (hp : ¬ PubOK pk) :
    Calls Tryd.prog 66 #[xb] w0 fun e w' => e = .returned (.tuple #[.agg #[.int .i64 0, .int .i64 0, .int .i64 0, .int .i64 0, .int .i64 0, .slice none 0 0, .slice none 0 0], .bool false]) ∧ Below w0.heap.size w0 w' := by
  have hE := end56 pk
  obtain ⟨hv, e1⟩ : ∃ hv, numB (tk ⟨pk, false⟩ 4) = hv := ⟨_, rfl⟩
  obtain ⟨r1, q1⟩ : ∃ r1, tkR ⟨pk, false⟩ 4 = r1 := ⟨_, rfl⟩
  obtain ⟨v, e2⟩ : ∃ v, numB (tk r1 4) = v := ⟨_, rfl⟩
  obtain ⟨r2, q2⟩ : ∃ r2, tkR r1 4 = r2 := ⟨_, rfl⟩
  obtain ⟨r3, q3⟩ : ∃ r3, tkR r2 16 = r3 := ⟨_, rfl⟩
  rw [q1, q2, q3] at hE
  have Hh : ∃ (hI : Int) (okh : Bool), (okh = true → 0 < hOf hv) ∧ ∀ w, Calls Tryd.prog 80 #[.int .i64 (hv : Int)] w fun e w' => e = .returned (.tuple #[.int .i64 hI, .bool okh]) ∧ w' = w := by
    by_cases h0 : hOf hv = 0
    · exact ⟨0, false, fun h => (by cases h), fun w => hkind_no w hv h0⟩
    · exact ⟨_, true, fun _ => by omega, fun w => (hkind_yes w hv _ rfl (by omega)).2.2⟩
  have Hw : ∃ (a b c d : Int) (okw : Bool), (okw = true → 0 < wOf v) ∧ ∀ w, WidAt w → Calls Tryd.prog 79 #[.int .i64 (v : Int)] w fun e w' => e = .returned (.tuple #[.agg #[.int .i64 a, .int .i64 b, .int .i64 c, .int .i64 d], .bool okw]) ∧ Below w.heap.size w w' := by
    by_cases h0 : wOf v = 0
    · exact ⟨0, 0, 0, 0, false, fun h => (by cases h), fun w hw => wkind_no w hw v h0⟩
    · exact ⟨_, _, _, _, true, fun _ => by omega, fun w hw => (wkind_yes w hw v _ rfl (by omega)).2⟩
  obtain ⟨hI, okh, ho, Hk⟩ := Hh
  obtain ⟨a, b, c, d, okw, hwo, Wk⟩ := Hw
  refine (pubof_gen w0 hW xb pk hx hl hv v r1 r2 r3 e1 q1 e2 q2 q3 hI a b c d okh okw Hk Wk).mono ?_
  rintro e w' ⟨yi, yr, hor, _, _, hb⟩
  rcases hor with ⟨hy, _⟩ | ⟨_, he⟩
  · exfalso
    simp only [Bool.and_eq_true] at hy
    obtain ⟨⟨y1, y2⟩, y3⟩ := hy
    rw [hE] at y3
    have h56 : pk.length = 56 := by simpa using y3
    have f1 : 4 ≤ pk.length := by omega
    have q1' := tkR_fit (r := ⟨pk, false⟩) f1
    rw [q1'] at q1
    have f2 : 4 ≤ (pk.drop 4).length := by rw [List.length_drop]; omega
    have e1' : numB (tk ⟨pk, false⟩ 4) = num4 pk := by rw [tk_fit (r := ⟨pk, false⟩) f1]; exact numB_four pk f1
    have e2' : numB (tk ⟨pk.drop 4, false⟩ 4) = num4 (pk.drop 4) := by rw [tk_fit (r := ⟨pk.drop 4, false⟩) f2]; exact numB_four _ f2
    refine hp ⟨h56, ?_, ?_⟩
    · rw [← e1', e1]; exact ho y1
    · rw [← e2', q1, e2]; exact hwo y2
  · exact ⟨he, hb⟩
end Go.Proofs.YtlhjifdahagkaaaDoor
