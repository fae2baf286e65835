/-
  The walk of the landed Sign.
-/
import Derived.Test.YtlhjifdahagkaaaDoorM13
import Derived.Deep.RegionHeldLaw
namespace Go.Proofs.YtlhjifdahagkaaaDoor
open Go.RowKit
set_option maxRecDepth 100000 in
set_option maxHeartbeats 16000000 in
theorem sign_c {R : World → Prop} {H : Bs → Bs} (C : CHash R H) (w0 : World) (L h wd n : Nat) (xi xs xm : Value) (id seed msg : Bs) (hR : R w0) (hi : BytesAt w0 xi id) (hs : BytesAt w0 xs seed) (hm : BytesAt w0 xm msg) (lm : msg.length ≤ 500) (hr : RightP (L : Int) (h : Int) (wd : Int) id seed) (hn : n < 2 ^ (h * L)) :
    GivesE w0 17 #[keyV (L : Int) (h : Int) (wd : Int) xi xs, .int .i64 (n : Int), xm] (signOf H L h wd id seed n msg) := by
  have HFy := fun w hw h1 h2 => first_yes w hw L h wd xi xs id seed h1 h2 hr
  have HCo := fun w hw h1 h2 => count_c C w L h wd xi xs id seed hw h1 h2 hr
  obtain ⟨hw0, r1, r2, r3, r4, r5, r6⟩ := hr
  have hw : IsW wd := by unfold IsW; omega
  have hh1 : 1 ≤ h := by omega
  have hh6 : h ≤ 6 := by omega
  have HGr := fun w yi ys (id' seed' : Bs) (l1 : id'.length = 16) (l2 : seed'.length = 32) hr' h1 h2 => grow_c C w hr' h wd hh1 hh6 hw (tyW wd : Int) (lsW wd : Int) yi ys id' seed' h1 h2 (by omega) (by omega)
  have HGs := fun w yi ys ym (id' seed' msg' : Bs) (B q : Nat) (l1 : id'.length = 16) (l2 : seed'.length = 32) (l3 : msg'.length ≤ 500) hr' h1 h2 h3 hF hq => gsign_c C w hr' h wd hh1 hh6 hw yi ys ym id' seed' msg' B h1 h2 h3 (by omega) (by omega) (by omega) hF q hq
  have Hte : Hid (∀ id' seed', tree H id' seed' h wd = big (tyH h) 4 ++ big (tyW wd) 4 ++ id' ++ nd H id' seed' h wd 1) := fun id' seed' => tree_eq H id' seed' h wd
  have HLv := fun w (a b c d : Int) => leaves_c w h hh6 a b c d
  have hpw := p_w hw
  obtain ⟨t, ht⟩ : ∃ t, tyW wd = t := ⟨_, rfl⟩
  have htb : t ≤ 4 := by rw [← ht]; rcases hw with rfl | rfl | rfl | rfl <;> decide
  obtain ⟨p, hp⟩ : ∃ p, pW wd = p := ⟨_, rfl⟩
  obtain ⟨s, hls⟩ : ∃ s : Int, (lsW wd : Int) = s := ⟨_, rfl⟩
  obtain ⟨N, hN⟩ : ∃ N, 2 ^ h = N := ⟨_, rfl⟩
  obtain ⟨M, hM⟩ : ∃ M, 2 * N = M := ⟨_, rfl⟩
  have hNb : N ≤ 64 := by rw [← hN]; exact Nat.pow_le_pow_right (show 0 < 2 by omega) hh6
  have hN2 : 2 ≤ N := by rw [← hN]; exact Nat.le_trans (by decide) (Nat.pow_le_pow_right (show 0 < 2 by omega) hh1)
  rw [ht, hp, hls] at HFy HGr HGs
  rw [ht] at Hte
  rw [hN] at HLv HGr HGs
  rw [hM] at HGr HGs
  obtain ⟨E, hE⟩ : ∃ E, 2 ^ (h * L) = E := ⟨_, rfl⟩
  have hEb : E ≤ 262144 := by
    rw [← hE]
    exact Nat.le_trans (Nat.pow_le_pow_right (show 0 < 2 by omega) (Nat.mul_le_mul hh6 (show L ≤ 3 by omega))) (by decide)
  rw [hE] at HCo hn
  obtain ⟨S, hS⟩ : ∃ S, signOf H L h wd id seed n msg = S := ⟨_, rfl⟩
  have hSs : big (L - 1) 4 ++ signFrom H h wd n msg (L - 1) id seed = S := hS
  have hoz : ∀ id' seed' q m', (oneSig H id' seed' h wd q m').length ≤ 8800 := fun id' seed' q m' => by rw [len_one H C.len]; unfold sizeOf; omega
  rw [hS]
  obtain ⟨si, ni, ci, rfl⟩ := hi.forms
  obtain ⟨ss, ns, cs, rfl⟩ := hs.forms
  obtain ⟨sm, nm, cm, rfl⟩ := hm.forms
  have hbA : Below w0.heap.size w0 (w0.alloc (.cells #[.int .i64 (L : Int), .int .i64 (h : Int), .int .i64 (wd : Int), .slice si ni ci, .slice ss ns cs] 28)) := (Below.refl _ _).alloc (Nat.le_refl _) _
  have hK := agg_new w0 [.int .i64 (L : Int), .int .i64 (h : Int), .int .i64 (wd : Int), .slice si ni ci, .slice ss ns cs] 28
  obtain ⟨wA, hwA⟩ : ∃ wA, w0.alloc (.cells #[.int .i64 (L : Int), .int .i64 (h : Int), .int .i64 (wd : Int), .slice si ni ci, .slice ss ns cs] 28) = wA := ⟨_, rfl⟩
  rw [hwA] at hbA hK
  have c0 := hK.c 0 _ rfl
  have c1 := hK.c 1 _ rfl
  have c2 := hK.c 2 _ rfl
  have c3 := hK.c 3 _ rfl
  have c4 := hK.c 4 _ rfl
  have HK := hide hK
  have HB := hide hbA
  have Hf := hide (HFy wA (C.wid _ (C.below _ _ hR hbA)) (hi.below hbA) (hs.below hbA))
  have HX := hide (hi.below hbA)
  have HS := hide (hs.below hbA)
  have HM := hide (hm.below hbA)
  have HR := hide (C.below _ _ hR hbA)
  have HC := hide C
  have HGh := hide HGr
  have HGsh := hide HGs
  have HCoh := hide HCo
  have HLvh := hide HLv
  have Hl := hide (And.intro r5 r6)
  have HSs := hide hSs
  have Hoz := hide hoz
  have HN := hide hN
  have HM2 := hide hM
  have Lb : (L : Int) ≤ 3 := by omega
  have Lb0 : (1 : Int) ≤ (L : Int) := by omega
  have nb : (n : Int) < (E : Int) := by omega
  have nb0 : (0 : Int) ≤ (n : Int) := by omega
  have Eb : (E : Int) ≤ 262144 := by omega
  have hb6 : (h : Int) ≤ 6 := by omega
  have hb1 : (1 : Int) ≤ (h : Int) := by omega
  have Nb : (N : Int) ≤ 64 := by omega
  have Nb0 : (2 : Int) ≤ (N : Int) := by omega
  have hN0 : (N : Int) ≠ 0 := by omega
  have hMb : M ≤ 1000 := by omega
  have hM1 : 1 < M := by omega
  clear hi hs hm hbA hK HFy HCo HGr HGs HLv C ht hp hls hN hM hE hS hSs hoz hw0 hw r5 r6 hpw
  unfold keyV
  go_enter Tryd.func17, Tryd.ntmps17
  go_wp2_with fail
  refine (unhide Hf).mono ?_
  rintro e w1 ⟨rfl, hb1'⟩
  have hbV : Below w1.heap.size w1 (w1.alloc (.cells #[.int .i64 (h : Int), .int .i64 (wd : Int), .int .i64 (t : Int), .int .i64 (p : Int), .int .i64 s, .slice si ni ci, .slice ss ns cs] 56)) := (Below.refl _ _).alloc (Nat.le_refl _) _
  have hKt := agg_new w1 [.int .i64 (h : Int), .int .i64 (wd : Int), .int .i64 (t : Int), .int .i64 (p : Int), .int .i64 s, .slice si ni ci, .slice ss ns cs] 56
  obtain ⟨wC, hwC⟩ : ∃ wC, w1.alloc (.cells #[.int .i64 (h : Int), .int .i64 (wd : Int), .int .i64 (t : Int), .int .i64 (p : Int), .int .i64 s, .slice si ni ci, .slice ss ns cs] 56) = wC := ⟨_, rfl⟩
  rw [hwC] at hbV hKt
  have hbC : Below wA.heap.size wA wC := hb1'.trans (hbV.mono hb1'.size)
  have HWC := hide hbC
  have HKt := hide hKt
  have hKc := (unhide HK).below hbC
  have k0 := hKc.c 0 _ rfl
  have k1 := hKc.c 1 _ rfl
  have k2 := hKc.c 2 _ rfl
  have k3 := hKc.c 3 _ rfl
  have k4 := hKc.c 4 _ rfl
  clear hb1' hbV hKt hbC hKc c0 c1 c2 c3 c4 hwA
  go_wp2_with fail
  refine ((unhide HCoh) wC ((unhide HC).below _ _ (unhide HR) (unhide HWC)) ((unhide HX).below (unhide HWC)) ((unhide HS).below (unhide HWC))).mono ?_
  rintro e w2 ⟨rfl, hb2⟩
  have HW2 := hide ((unhide HWC).trans (hb2.mono (unhide HWC).size))
  have HKt2 := hide ((unhide HKt).below hb2)
  have m0 := ((unhide HK).below (unhide HW2)).c 0 _ rfl
  obtain ⟨L1, hL1⟩ : ∃ L1, L - 1 = L1 := ⟨_, rfl⟩
  have hL1i : (L : Int) - 1 = (L1 : Int) := by omega
  have HSs1 := HSs
  rw [hL1] at HSs1
  clear hb2 k0 k1 k2 k3 k4
  go_wp2_with fail
  refine (four_any w2 L1 (by omega)).mono ?_
  rintro e w3 ⟨v3, rfl, hR3⟩
  have HV3 := hide hR3.bytes
  have HW3 := hide ((unhide HW2).trans (hR3.b.mono (unhide HW2).size))
  have HKt3 := hide ((unhide HKt2).below hR3.b)
  have t0 := (unhide HKt3).c 0 _ rfl
  have t1 := (unhide HKt3).c 1 _ rfl
  have t2 := (unhide HKt3).c 2 _ rfl
  have t3 := (unhide HKt3).c 3 _ rfl
  have t4 := (unhide HKt3).c 4 _ rfl
  have t5 := (unhide HKt3).c 5 _ rfl
  have t6 := (unhide HKt3).c 6 _ rfl
  clear hR3 m0
  go_wp2_with fail
  refine ((unhide HGh) w3 _ _ id seed (unhide Hl).1 (unhide Hl).2 ((unhide HC).below _ _ (unhide HR) (unhide HW3)) ((unhide HX).below (unhide HW3)) ((unhide HS).below (unhide HW3))).mono ?_
  rintro e wH ⟨B0, rfl, hB0, hF0, hbH⟩
  have HWH := hide ((unhide HW3).trans (hbH.mono (unhide HW3).size))
  have hZ := heap_alloc_new wH (.cells #[.int .i64 (h : Int), .int .i64 (wd : Int), .int .i64 (t : Int), .int .i64 (p : Int), .int .i64 s, .slice si ni ci, .slice ss ns cs, .slice (some ⟨B0, 0, none⟩) M M] 65)
  have hbG : Below wH.heap.size wH (wH.alloc (.cells #[.int .i64 (h : Int), .int .i64 (wd : Int), .int .i64 (t : Int), .int .i64 (p : Int), .int .i64 s, .slice si ni ci, .slice ss ns cs, .slice (some ⟨B0, 0, none⟩) M M] 65)) := (Below.refl _ _).alloc (Nat.le_refl _) _
  obtain ⟨w4, hw4⟩ : ∃ w4, wH.alloc (.cells #[.int .i64 (h : Int), .int .i64 (wd : Int), .int .i64 (t : Int), .int .i64 (p : Int), .int .i64 s, .slice si ni ci, .slice ss ns cs, .slice (some ⟨B0, 0, none⟩) M M] 65) = w4 := ⟨_, rfl⟩
  rw [hw4] at hZ hbG
  have HZ4 := hide hZ
  have HW4 := hide hbG
  have HF4 := hide (hF0.below hbG)
  have HV4 := hide (((unhide HV3).below hbH).below hbG)
  have HX4 := hide ((((unhide HX).below (unhide HWH))).below hbG)
  have HS4 := hide ((((unhide HS).below (unhide HWH))).below hbG)
  have HKH := hide ((unhide HK).below (unhide HWH))
  have HMH := hide ((unhide HM).below (unhide HWH))
  have HRH := hide ((unhide HC).below _ _ (unhide HR) (unhide HWH))
  have HBH := hide ((unhide HB).trans ((unhide HWH).mono (unhide HB).size))
  have n0 := ((unhide HKH).below hbG).c 0 _ rfl
  obtain ⟨G, hG⟩ : ∃ G, wH.heap.size = G := ⟨_, rfl⟩
  rw [hG] at HZ4
  have HGe := hide hG
  have Hpre : Hid (big L1 4 ++ signFrom H h wd n msg L1 id seed = S) := HSs1
  have Hbl : Hid ((big L1 4).length + L1 * 9000 ≤ 40000) := by show _ ≤ _; rw [len_big]; omega
  clear hbH hbG hZ hF0 hB0 t0 t1 t2 t3 t4 t5 t6 hL1 hwC
  go_wp2
  go_loopw [10, 12] (fun u ll wr => ∃ (lv : Nat) (pre id' seed' : Bs) (sa sb : Option Addr) (na ka nb' kb B : Nat), lv ≤ 2 ∧ ll = .int .i64 (lv : Int) ∧ Hid (pre ++ signFrom H h wd n msg lv id' seed' = S) ∧ Hid (pre.length + lv * 9000 ≤ 40000) ∧ Hid (id'.length = 16 ∧ seed'.length = 32) ∧ Hid (BytesAt wr u pre)
      ∧ Hid (wr.heap[G]? = some (.cells #[.int .i64 (h : Int), .int .i64 (wd : Int), .int .i64 (t : Int), .int .i64 (p : Int), .int .i64 s, .slice sa na ka, .slice sb nb' kb, .slice (some ⟨B, 0, none⟩) M M] 65 (0, 0))) ∧ Hid (BytesAt wr (.slice sa na ka) id') ∧ Hid (BytesAt wr (.slice sb nb' kb) seed') ∧ Hid (Fill wr B M (fun j => if 0 < j then some (nd H id' seed' h wd j) else none)) ∧ Hid (Below wH.heap.size wH wr)) (fun _ ll _ => (intOf ll).toNat)
  case atStart => exact ⟨L1, big L1 4, id, seed, si, ss, ni, ci, ns, cs, B0, by omega, rfl, Hpre, Hbl, Hl, HV4, HZ4, HX4, HS4, HF4, HW4⟩
  case round =>
    clear HZ4 HX4 HS4 HF4 HW4 HV4 Hpre Hbl n0 hw4 HSs1 hL1i
    obtain ⟨lv, pre, id', seed', sa, sb, na, ka, nb', kb, B, hlv, rfl, Hpre, Hbl, Hl2, HU, HZ, HY, HYs, HF, HW⟩ := hrel
    rename World => wc
    obtain ⟨su, nu, cu, rfl⟩ := (unhide HU).forms
    have lb : (lv : Int) ≤ 2 := by omega
    have lb0 : (0 : Int) ≤ (lv : Int) := by omega
    have HKc := hide ((unhide HKH).below (unhide HW))
    have kr0 := (unhide HKc).c 0 _ rfl
    have kr1 := (unhide HKc).c 1 _ rfl
    have hGw : G < wc.heap.size := by have := (unhide HW).size; have := unhide HGe; exact (Array.getElem?_eq_some_iff.1 (unhide HZ)).1
    have HAg : Hid (AggAt wc G [.int .i64 (h : Int), .int .i64 (wd : Int), .int .i64 (t : Int), .int .i64 (p : Int), .int .i64 s, .slice sa na ka, .slice sb nb' kb, .slice (some ⟨B, 0, none⟩) M M]) := ⟨hGw, fun j v hv => by rw [cell_of_row wc G _ _ 65 (0, 0) (unhide HZ), Nat.zero_add]; simpa using hv⟩
    have g0 := (unhide HAg).c 0 _ rfl
    have g1 := (unhide HAg).c 1 _ rfl
    have g2 := (unhide HAg).c 2 _ rfl
    have g3 := (unhide HAg).c 3 _ rfl
    have g4 := (unhide HAg).c 4 _ rfl
    have g5 := (unhide HAg).c 5 _ rfl
    have g6 := (unhide HAg).c 6 _ rfl
    have g7 := (unhide HAg).c 7 _ rfl
    have hne0 : w0.heap.size ≠ G := by have h1 := (unhide HKH).1; have h2 := unhide HGe; omega
    by_cases hlt : 0 < lv
    · obtain ⟨lw, hlw⟩ : ∃ lw, lv = lw + 1 := ⟨lv - 1, by omega⟩
      have Hlw := hide hlw
      have ll0 : (0 : Int) < (lv : Int) := by omega
      obtain ⟨X, hX⟩ : ∃ X, lv * h = X := ⟨_, rfl⟩
      have hXi : (lv : Int) * (h : Int) = (X : Int) := by rw [← hX]; simp
      have hXb : X ≤ 12 := by rw [← hX]; exact Nat.mul_le_mul hlv hh6
      have Xb : (X : Int) ≤ 12 := by omega
      have Xb0 : (0 : Int) ≤ (X : Int) := by omega
      have Xw : IntKind.i64.wrap (X : Int) = (X : Int) := IntWalk.i64_in _ (by omega)
      obtain ⟨Y, hY⟩ : ∃ Y, n / 2 ^ X = Y := ⟨_, rfl⟩
      have hYi : (n : Int) / 2 ^ X = (Y : Int) := by rw [← hY]; simp
      have hYb : Y ≤ 262144 := by rw [← hY]; exact Nat.le_trans (Nat.div_le_self _ _) (by omega)
      have Yb : (Y : Int) ≤ 262144 := by omega
      have Yb0 : (0 : Int) ≤ (Y : Int) := by omega
      have Yw : IntKind.i64.wrap (Y : Int) = (Y : Int) := IntWalk.i64_in _ (by omega)
      obtain ⟨q, hq⟩ : ∃ q, Y % N = q := ⟨_, rfl⟩
      have hqN : q < N := by rw [← hq]; exact Nat.mod_lt _ (by omega)
      have hqi : (Y : Int).tmod (N : Int) = (q : Int) := by rw [Int.tmod_eq_emod_of_nonneg (by omega), ← hq]; simp
      have hqi' : (Y : Int) % (N : Int) = (q : Int) := by rw [← hq]; simp
      have qb : (q : Int) < 64 := by omega
      have qw : IntKind.i64.wrap (q : Int) = (q : Int) := IntWalk.i64_in _ (by omega)
      have Hleaf : Hid (leafAt h n (lw + 1) = q) := by
        show _ = _
        unfold leafAt
        rw [← hlw, Nat.mul_comm, hX, hY, unhide HN, hq]
      have HWd := hide (unhide HW).drew
      have HAd := hide ((unhide HAg).below (Below.refl _ _).drew)
      have HKd := hide ((unhide HKc).below (Below.refl _ _).drew)
      clear hX hY hq hlw
      go_wp2
      go_region_held_law (fun w' => w'.cell? ⟨w0.heap.size, 1, none⟩ = some (.int .i64 (h : Int)) ∧ w'.cell? ⟨G, 0, none⟩ = some (.int .i64 (h : Int)) ∧ w'.cell? ⟨G, 1, none⟩ = some (.int .i64 (wd : Int)) ∧ w'.cell? ⟨G, 2, none⟩ = some (.int .i64 (t : Int)) ∧ w'.cell? ⟨G, 3, none⟩ = some (.int .i64 (p : Int)) ∧ w'.cell? ⟨G, 4, none⟩ = some (.int .i64 s) ∧ w'.cell? ⟨G, 5, none⟩ = some (.slice sa na ka) ∧ w'.cell? ⟨G, 6, none⟩ = some (.slice sb nb' kb) ∧ w'.cell? ⟨G, 7, none⟩ = some (.slice (some ⟨B, 0, none⟩) M M)) (go_keep)
        ((go_at_call 33; refine ((unhide HLvh) wc.drew _ _ _ _).mono ?_; rintro ee w5 ⟨rfl, hb5⟩; have Hb5 := hide (below_left_drew hb5); have HA5 := hide ((unhide HAd).below hb5); have HK5 := hide ((unhide HKd).below hb5); have aa0 := (unhide HA5).c 0 _ rfl; have aa1 := (unhide HA5).c 1 _ rfl; have aa2 := (unhide HA5).c 2 _ rfl; have aa3 := (unhide HA5).c 3 _ rfl; have aa4 := (unhide HA5).c 4 _ rfl; have aa5 := (unhide HA5).c 5 _ rfl; have aa6 := (unhide HA5).c 6 _ rfl; have aa7 := (unhide HA5).c 7 _ rfl; have kk0 := (unhide HK5).c 0 _ rfl; have kk1 := (unhide HK5).c 1 _ rfl; clear hb5))
      have HW5 := hide ((unhide HW).trans ((unhide Hb5).mono (unhide HW).size))
      have HZ5 := hide (((unhide Hb5).block G hGw).trans (unhide HZ))
      have HU5 := hide ((unhide HU).below (unhide Hb5))
      have HY5 := hide ((unhide HY).below (unhide Hb5))
      have HYs5 := hide ((unhide HYs).below (unhide Hb5))
      have HF5 := hide ((unhide HF).below (unhide Hb5))
      clear HW HZ HU HY HYs HF HWd HAd HKd kr0 kr1 g0 g1 g2 g3 g4 g5 g6 g7 Hb5 HKc HAg hYi hXi
      go_wp2_with fail
      refine (below_c (unhide HC) w5 ((unhide HC).below _ _ (unhide HRH) (unhide HW5)) _ _ _ _ _ _ _ id' seed' (unhide HY5) (unhide HYs5) (by have := unhide Hl2; omega) (by have := unhide Hl2; omega) q (by omega)).mono ?_
      rintro ee w6 ⟨yi, ys, rfl, byi, bys, hb6'⟩
      obtain ⟨ia, ib, ic, rfl⟩ := byi.forms
      obtain ⟨ja, jb, jc, rfl⟩ := bys.forms
      have Hl6 : Hid ((subId H id' seed' q).length = 16 ∧ (subSeed H id' seed' q).length = 32) := hide ⟨by unfold subId; rw [List.length_take, len_secret H (unhide HC).len]; rfl, by unfold subSeed; rw [len_secret H (unhide HC).len]⟩
      obtain ⟨id2, hid2⟩ : ∃ id2, subId H id' seed' q = id2 := ⟨_, rfl⟩
      obtain ⟨sd2, hsd2⟩ : ∃ sd2, subSeed H id' seed' q = sd2 := ⟨_, rfl⟩
      rw [hid2, hsd2] at Hl6
      rw [hid2] at byi
      rw [hsd2] at bys
      have Hid2 := hide (And.intro hid2 hsd2)
      have HW6 := hide ((unhide HW5).trans (hb6'.mono (unhide HW5).size))
      have Hb56 := hide hb6'
      have Hbyi := hide byi
      have Hbys := hide bys
      clear hb6' byi bys hid2 hsd2
      go_wp2_with fail
      refine ((unhide HGh) w6 _ _ id2 sd2 (unhide Hl6).1 (unhide Hl6).2 ((unhide HC).below _ _ (unhide HRH) (unhide HW6)) (unhide Hbyi) (unhide Hbys)).mono ?_
      rintro ee w7 ⟨B2, rfl, hB2, hF7, hb7⟩
      have hbV : Below w7.heap.size w7 (w7.alloc (.cells #[.int .i64 (h : Int), .int .i64 (wd : Int), .int .i64 (t : Int), .int .i64 (p : Int), .int .i64 s, .slice ia ib ic, .slice ja jb jc, .slice (some ⟨B2, 0, none⟩) M M] 65)) := (Below.refl _ _).alloc (Nat.le_refl _) _
      have hKv := agg_new w7 [.int .i64 (h : Int), .int .i64 (wd : Int), .int .i64 (t : Int), .int .i64 (p : Int), .int .i64 s, .slice ia ib ic, .slice ja jb jc, .slice (some ⟨B2, 0, none⟩) M M] 65
      obtain ⟨w8, hw8⟩ : ∃ w8, w7.alloc (.cells #[.int .i64 (h : Int), .int .i64 (wd : Int), .int .i64 (t : Int), .int .i64 (p : Int), .int .i64 s, .slice ia ib ic, .slice ja jb jc, .slice (some ⟨B2, 0, none⟩) M M] 65) = w8 := ⟨_, rfl⟩
      rw [hw8] at hbV hKv
      have Hb58 := hide (((unhide Hb56).trans (hb7.mono (unhide Hb56).size)).trans (hbV.mono (Nat.le_trans (unhide Hb56).size hb7.size)))
      have HW8 := hide ((unhide HW5).trans ((unhide Hb58).mono (unhide HW5).size))
      have HF8 := hide (hF7.below hbV)
      have Hby8 := hide (((unhide Hbyi).below hb7).below hbV)
      have Hbs8 := hide (((unhide Hbys).below hb7).below hbV)
      have HV8 := hide hKv
      obtain ⟨V, hV⟩ : ∃ V, w7.heap.size = V := ⟨_, rfl⟩
      rw [hV] at HV8
      have hGV : G ≠ V := by have h1 := (Array.getElem?_eq_some_iff.1 (unhide HZ5)).1; have h2 := (unhide Hb56).size; have h3 := hb7.size; omega
      have vv0 := (unhide HV8).c 0 _ rfl
      have vv1 := (unhide HV8).c 1 _ rfl
      have vv2 := (unhide HV8).c 2 _ rfl
      have vv3 := (unhide HV8).c 3 _ rfl
      have vv4 := (unhide HV8).c 4 _ rfl
      have vv5 := (unhide HV8).c 5 _ rfl
      have vv6 := (unhide HV8).c 6 _ rfl
      have vv7 := (unhide HV8).c 7 _ rfl
      clear hb7 hF7 hbV hKv aa0 aa1 aa2 aa3 aa4 aa5 aa6 aa7 kk0 kk1 Hb56 hB2
      obtain ⟨xr, cr8, br8⟩ := (unhide HF8).get 1 hM1 _ rfl
      have Hcr := hide cr8
      have Hbr := hide br8
      clear cr8 br8
      go_wp2_with fail
      refine (gpub_c w8 _ _ _ _ _ _ _ id2 sd2 _ B2 M M (unhide Hby8) (unhide Hbs8) xr (unhide Hcr) (unhide Hbr) hM1 hMb).mono ?_
      rintro ee w9 ⟨rfl, hb9⟩
      have Hb89 := hide hb9
      have Hbr9 := hide ((unhide Hbr).below hb9)
      have Hby9 := hide ((unhide Hby8).below hb9)
      clear hb9 vv0 vv1 vv2 vv3 vv4 vv5 vv6 vv7
      go_wp2_with fail
      refine (pbytes_c w9 h t hh6 htb _ _ _ _ _ id2 _ (unhide Hby9) (unhide Hbr9) (by have := unhide Hl6; omega) (by rw [len_nd H (unhide HC).len]; omega)).mono ?_
      rintro ee w10 ⟨v10, rfl, hR10⟩
      rw [← unhide Hte id2 sd2] at hR10
      obtain ⟨pa, pb, pc, rfl⟩ := hR10.bytes.forms
      have Hpk := hide hR10.bytes
      have Hb810 := hide ((unhide Hb89).trans (hR10.b.mono (unhide Hb89).size))
      have Hb510 := hide ((unhide Hb58).trans ((unhide Hb810).mono (unhide Hb58).size))
      have HW10 := hide ((unhide HW5).trans ((unhide Hb510).mono (unhide HW5).size))
      have HZ10 := hide (((unhide Hb510).block G (Array.getElem?_eq_some_iff.1 (unhide HZ5)).1).trans (unhide HZ5))
      have HA10 : Hid (AggAt w10 G [.int .i64 (h : Int), .int .i64 (wd : Int), .int .i64 (t : Int), .int .i64 (p : Int), .int .i64 s, .slice sa na ka, .slice sb nb' kb, .slice (some ⟨B, 0, none⟩) M M]) := ⟨(Array.getElem?_eq_some_iff.1 (unhide HZ10)).1, fun j v hv => by rw [cell_of_row w10 G _ _ 65 (0, 0) (unhide HZ10), Nat.zero_add]; simpa using hv⟩
      have ad0 := (unhide HA10).c 0 _ rfl
      have ad1 := (unhide HA10).c 1 _ rfl
      have ad2 := (unhide HA10).c 2 _ rfl
      have ad3 := (unhide HA10).c 3 _ rfl
      have ad4 := (unhide HA10).c 4 _ rfl
      have ad5 := (unhide HA10).c 5 _ rfl
      have ad6 := (unhide HA10).c 6 _ rfl
      have ad7 := (unhide HA10).c 7 _ rfl
      have Htl : Hid ((tree H id2 sd2 h wd).length = 56) := hide (len_tree H (unhide HC).len (unhide Hl6).1 h wd)
      clear hR10
      go_wp2_with fail
      refine ((unhide HGsh) w10 _ _ _ id' seed' (tree H id2 sd2 h wd) B q (unhide Hl2).1 (unhide Hl2).2 (by rw [unhide Htl]; omega) ((unhide HC).below _ _ (unhide HRH) (unhide HW10)) ((unhide HY5).below (unhide Hb510)) ((unhide HYs5).below (unhide Hb510)) (unhide Hpk) ((unhide HF5).below (unhide Hb510)) hqN).mono ?_
      rintro ee w11 ⟨v11, rfl, hR11⟩
      obtain ⟨ga, gb, gc, rfl⟩ := hR11.bytes.forms
      have Hb511 := hide ((unhide Hb510).trans (hR11.b.mono (unhide Hb510).size))
      have hL11 := ll_new3 w11 _ _ _ pre (oneSig H id' seed' h wd q (tree H id2 sd2 h wd)) (tree H id2 sd2 h wd) 24 ((unhide HU5).below (unhide Hb511)) hR11.bytes ((unhide Hpk).below hR11.b)
      have hbl : Below w11.heap.size w11 (w11.alloc (.cells #[Value.slice su nu cu, Value.slice ga gb gc, Value.slice pa pb pc] 24)) := (Below.refl _ _).alloc (Nat.le_refl _) _
      have HL11 := hide hL11
      have Hb512 := hide ((unhide Hb511).trans (hbl.mono (unhide Hb511).size))
      have Hb812 := hide ((unhide Hb810).trans ((hR11.b.trans (hbl.mono hR11.b.size)).mono (unhide Hb810).size))
      clear hR11 hL11 hbl ad0 ad1 ad2 ad3 ad4 ad5 ad6 ad7
      go_wp2_with fail
      refine (concat_any _ _ [pre, oneSig H id' seed' h wd q (tree H id2 sd2 h wd), tree H id2 sd2 h wd] (unhide HL11) (by
        have h1 := unhide Hbl
        have h2 := unhide Htl
        have h3 := unhide Hoz id' seed' q (tree H id2 sd2 h wd)
        simp only [List.flatten_cons, List.flatten_nil, List.length_append, List.length_nil]
        omega) (by simp)).mono ?_
      rintro ee w13 ⟨v13, rfl, hR13⟩
      have Hb513 := hide ((unhide Hb512).trans (hR13.b.mono (unhide Hb512).size))
      have Hb813 := hide ((unhide Hb812).trans (hR13.b.mono (unhide Hb812).size))
      have Hsig := hide hR13.bytes
      have HW13 := hide ((unhide HW5).trans ((unhide Hb513).mono (unhide HW5).size))
      have HZ13 := hide (((unhide Hb513).block G (Array.getElem?_eq_some_iff.1 (unhide HZ5)).1).trans (unhide HZ5))
      have HV13 := hide ((unhide HV8).below (unhide Hb813))
      have Hby13 := hide ((unhide Hby8).below (unhide Hb813))
      have Hbs13 := hide ((unhide Hbs8).below (unhide Hb813))
      have HF13 := hide ((unhide HF8).below (unhide Hb813))
      have vw0 := (unhide HV13).c 0 _ rfl
      have vw1 := (unhide HV13).c 1 _ rfl
      have vw2 := (unhide HV13).c 2 _ rfl
      have vw3 := (unhide HV13).c 3 _ rfl
      have vw4 := (unhide HV13).c 4 _ rfl
      have vw5 := (unhide HV13).c 5 _ rfl
      have vw6 := (unhide HV13).c 6 _ rfl
      have vw7 := (unhide HV13).c 7 _ rfl
      have z0 : w13.cell? ⟨G, 0, none⟩ = some (.int .i64 (h : Int)) := cell_of_row w13 G 0 _ 65 (0, 0) (unhide HZ13)
      have z1 : w13.cell? ⟨G, 1, none⟩ = some (.int .i64 (wd : Int)) := cell_of_row w13 G 1 _ 65 (0, 0) (unhide HZ13)
      have z2 : w13.cell? ⟨G, 2, none⟩ = some (.int .i64 (t : Int)) := cell_of_row w13 G 2 _ 65 (0, 0) (unhide HZ13)
      have z3 : w13.cell? ⟨G, 3, none⟩ = some (.int .i64 (p : Int)) := cell_of_row w13 G 3 _ 65 (0, 0) (unhide HZ13)
      have z4 : w13.cell? ⟨G, 4, none⟩ = some (.int .i64 s) := cell_of_row w13 G 4 _ 65 (0, 0) (unhide HZ13)
      have z5 : w13.cell? ⟨G, 5, none⟩ = some (.slice sa na ka) := cell_of_row w13 G 5 _ 65 (0, 0) (unhide HZ13)
      have z6 : w13.cell? ⟨G, 6, none⟩ = some (.slice sb nb' kb) := cell_of_row w13 G 6 _ 65 (0, 0) (unhide HZ13)
      have z7 : w13.cell? ⟨G, 7, none⟩ = some (.slice (some ⟨B, 0, none⟩) M M) := cell_of_row w13 G 7 _ 65 (0, 0) (unhide HZ13)
      have fz := fun j => AggAt.fz (unhide HZ13) j
      clear hR13
      obtain ⟨W, hWe⟩ : ∃ W, ((((((((w13).setCell ⟨G, 0, none⟩ (.int .i64 (h : Int))).setCell ⟨G, 1, none⟩ (.int .i64 (wd : Int))).setCell ⟨G, 2, none⟩ (.int .i64 (t : Int))).setCell ⟨G, 3, none⟩ (.int .i64 (p : Int))).setCell ⟨G, 4, none⟩ (.int .i64 s)).setCell ⟨G, 5, none⟩ (.slice ia ib ic)).setCell ⟨G, 6, none⟩ (.slice ja jb jc)).setCell ⟨G, 7, none⟩ (.slice (some ⟨B2, 0, none⟩) M M) = W := ⟨_, rfl⟩
      have hGr : w13.grownBy W (some G) := by rw [← hWe]; exact grown8 w13 G _ _ _ _ _ _ _ _
      have HZn : Hid (W.heap[G]? = some (.cells #[.int .i64 (h : Int), .int .i64 (wd : Int), .int .i64 (t : Int), .int .i64 (p : Int), .int .i64 s, .slice ia ib ic, .slice ja jb jc, .slice (some ⟨B2, 0, none⟩) M M] 65 (0, 0))) := by show _ = _; rw [← hWe]; exact row8_set (unhide HZ13) _ _ _ _ _ _ _ _
      have HUn := hide ((unhide Hsig).keep hGr (fun hl => agg_apart (unhide HZ13) noByte8 (unhide Hsig) hl))
      have HYn := hide ((unhide Hby13).keep hGr (fun hl => agg_apart (unhide HZ13) noByte8 (unhide Hby13) hl))
      have HYsn := hide ((unhide Hbs13).keep hGr (fun hl => agg_apart (unhide HZ13) noByte8 (unhide Hbs13) hl))
      have hB2G : B2 ≠ G := fun e => by
        obtain ⟨cs', h1, h2, _⟩ := unhide HF13
        rw [e] at h2
        have h3 := unhide HZ13
        unfold RowAt at h2
        rw [h3] at h2
        injection (Option.some.inj h2) with _ h5 _
        exact absurd h5 (by decide)
      have HFn := hide ((unhide HF13).grown hGr hB2G (fun x l h1 h2 => agg_apart (unhide HZ13) noByte8 h1 h2))
      have HWn : Hid (Below wH.heap.size wH W) := hide ((unhide HW13).grown hGr (unhide HW13).size (fun k hk => by cases hk; have := unhide HGe; omega))
      have Hpn : Hid ((pre ++ oneSig H id' seed' h wd q (tree H id2 sd2 h wd) ++ tree H id2 sd2 h wd) ++ signFrom H h wd n msg lw id2 sd2 = S) := by
        show _ = _
        have h1 := unhide Hpre
        rw [unhide Hlw] at h1
        have h2 := sign_step H h wd n lw msg id' seed' pre S h1
        rw [unhide Hleaf, (unhide Hid2).1, (unhide Hid2).2] at h2
        exact h2
      have e3 : ([pre, oneSig H id' seed' h wd q (tree H id2 sd2 h wd), tree H id2 sd2 h wd] : List Bs).flatten = pre ++ oneSig H id' seed' h wd q (tree H id2 sd2 h wd) ++ tree H id2 sd2 h wd := by simp
      rw [e3] at HUn
      have Hbn : Hid ((pre ++ oneSig H id' seed' h wd q (tree H id2 sd2 h wd) ++ tree H id2 sd2 h wd).length + lw * 9000 ≤ 40000) := by
        show _ ≤ _
        have h1 := unhide Hbl
        have h2 := unhide Htl
        have h3 := unhide Hoz id' seed' q (tree H id2 sd2 h wd)
        have h4 := unhide Hlw
        rw [List.length_append, List.length_append]
        omega
      have Hlw2 : Hid ((lv : Int) - 1 = (lw : Int)) := by show _ = _; have := unhide Hlw; omega
      clear hGr e3
      go_wp2
      go_roundw
      case rel =>
        first
          | exact ⟨lw, _, id2, sd2, ia, ja, ib, ic, jb, jc, B2, by have := unhide Hlw; omega, by rw [unhide Hlw2], Hpn, Hbn, Hl6, HUn, HZn, HYn, HYsn, HFn, HWn⟩
          | ((repeat apply Exists.intro); exact ⟨⟨lw, _, id2, sd2, ia, ja, ib, ic, jb, jc, B2, by have := unhide Hlw; omega, by rw [unhide Hlw2], Hpn, Hbn, Hl6, HUn, HZn, HYn, HYsn, HFn, HWn⟩, rfl⟩)
      case measure => have := unhide Hlw; simp [intOf]; omega
    · obtain rfl : lv = 0 := by omega
      obtain ⟨q, hq⟩ : ∃ q, n % N = q := ⟨_, rfl⟩
      have hqN : q < N := by rw [← hq]; exact Nat.mod_lt _ (by omega)
      have hqi : (n : Int).tmod (N : Int) = (q : Int) := by rw [Int.tmod_eq_emod_of_nonneg (by omega), ← hq]; simp
      have hqi' : (n : Int) % (N : Int) = (q : Int) := by rw [← hq]; simp
      have qb : (q : Int) < 64 := by omega
      have qw : IntKind.i64.wrap (q : Int) = (q : Int) := IntWalk.i64_in _ (by omega)
      have Hfin : Hid (pre ++ oneSig H id' seed' h wd q msg = S) := by
        show _ = _
        have h1 := unhide Hpre
        rw [signFrom, unhide HN, hq] at h1
        exact h1
      have HWd := hide (unhide HW).drew
      have HAd := hide ((unhide HAg).below (Below.refl _ _).drew)
      have HUd := hide ((unhide HU).below (Below.refl _ _).drew)
      have HYd := hide ((unhide HY).below (Below.refl _ _).drew)
      have HYsd := hide ((unhide HYs).below (Below.refl _ _).drew)
      have HFd := hide (unhide HF).drew
      clear hq
      go_wp2
      go_region_held_law (fun w' => w'.cell? ⟨G, 0, none⟩ = some (.int .i64 (h : Int)) ∧ w'.cell? ⟨G, 1, none⟩ = some (.int .i64 (wd : Int)) ∧ w'.cell? ⟨G, 2, none⟩ = some (.int .i64 (t : Int)) ∧ w'.cell? ⟨G, 3, none⟩ = some (.int .i64 (p : Int)) ∧ w'.cell? ⟨G, 4, none⟩ = some (.int .i64 s) ∧ w'.cell? ⟨G, 5, none⟩ = some (.slice sa na ka) ∧ w'.cell? ⟨G, 6, none⟩ = some (.slice sb nb' kb) ∧ w'.cell? ⟨G, 7, none⟩ = some (.slice (some ⟨B, 0, none⟩) M M)) (go_keep)
        ((first
          | (go_at_call 33; refine ((unhide HLvh) wc.drew _ _ _ _).mono ?_; rintro ee w5 ⟨rfl, hb5⟩; have Hb5 := hide hb5; have HA5 := hide ((unhide HAd).below hb5); have aa0 := (unhide HA5).c 0 _ rfl; have aa1 := (unhide HA5).c 1 _ rfl; have aa2 := (unhide HA5).c 2 _ rfl; have aa3 := (unhide HA5).c 3 _ rfl; have aa4 := (unhide HA5).c 4 _ rfl; have aa5 := (unhide HA5).c 5 _ rfl; have aa6 := (unhide HA5).c 6 _ rfl; have aa7 := (unhide HA5).c 7 _ rfl; clear hb5)
          | (go_at_call 35; refine ((unhide HGsh) w5 _ _ _ id' seed' msg B q (unhide Hl2).1 (unhide Hl2).2 lm ((unhide HC).below _ _ (unhide HRH) ((unhide HWd).trans ((unhide Hb5).mono (unhide HWd).size))) ((unhide HYd).below (unhide Hb5)) ((unhide HYsd).below (unhide Hb5)) ((unhide HMH).below ((unhide HWd).trans ((unhide Hb5).mono (unhide HWd).size))) ((unhide HFd).below (unhide Hb5)) hqN).mono ?_; rintro ee w6 ⟨v6, rfl, hR6⟩; obtain ⟨ga, gb, gc, rfl⟩ := hR6.bytes.forms; have Hb6 := hide ((unhide Hb5).trans (hR6.b.mono (unhide Hb5).size)); have HA6 := hide ((unhide HA5).below hR6.b); have HL6 := hide (ll_new2 w6 _ _ pre (oneSig H id' seed' h wd q msg) 24 ((unhide HUd).below (unhide Hb6)) hR6.bytes); have hbl := (Below.refl w6.heap.size w6).alloc (Nat.le_refl _) (.cells #[Value.slice su nu cu, Value.slice ga gb gc] 24); have Hb7 := hide ((unhide Hb6).trans (hbl.mono (unhide Hb6).size)); have HA7 := hide ((unhide HA6).below hbl); have ab0 := (unhide HA6).c 0 _ rfl; have ab1 := (unhide HA6).c 1 _ rfl; have ab2 := (unhide HA6).c 2 _ rfl; have ab3 := (unhide HA6).c 3 _ rfl; have ab4 := (unhide HA6).c 4 _ rfl; have ab5 := (unhide HA6).c 5 _ rfl; have ab6 := (unhide HA6).c 6 _ rfl; have ab7 := (unhide HA6).c 7 _ rfl; clear hR6 hbl)
          | (go_at_call 25; refine (concat_any _ _ [pre, oneSig H id' seed' h wd q msg] (unhide HL6) (by have h1 := unhide Hbl; have h3 := unhide Hoz id' seed' q msg; simp only [List.flatten_cons, List.flatten_nil, List.length_append, List.length_nil]; omega) (by simp)).mono ?_; rintro ee w8 ⟨v8, rfl, hR8⟩; have HR8 := hide hR8; have HA8 := hide ((unhide HA7).below hR8.b); have ac0 := (unhide HA8).c 0 _ rfl; have ac1 := (unhide HA8).c 1 _ rfl; have ac2 := (unhide HA8).c 2 _ rfl; have ac3 := (unhide HA8).c 3 _ rfl; have ac4 := (unhide HA8).c 4 _ rfl; have ac5 := (unhide HA8).c 5 _ rfl; have ac6 := (unhide HA8).c 6 _ rfl; have ac7 := (unhide HA8).c 7 _ rfl; clear hR8)))
      have HFf : Hid (Row w0 w8 v8 S) := by
        show Row _ _ _ _
        have h8 := unhide HR8
        have e1 : ([pre, oneSig H id' seed' h wd q msg] : List Bs).flatten = S := by rw [← unhide Hfin]; simp
        rw [e1] at h8
        exact ((h8.up (unhide Hb7)).up (unhide HWd)).up (unhide HBH)
      go_wp2
      go_ret2
      exact ⟨_, rfl, unhide HFf⟩
end Go.Proofs.YtlhjifdahagkaaaDoor
/-
  The walk of the landed Sign where it refuses.
-/
namespace Go.Proofs.YtlhjifdahagkaaaDoor
open Go.RowKit
set_option maxRecDepth 100000 in
set_option maxHeartbeats 2000000 in
theorem nosign_c {R : World → Prop} {H : Bs → Bs} (C : CHash R H) (w0 : World) (L h wd n : Int) (xi xs xm : Value) (id seed : Bs) (hR : R w0) (hi : BytesAt w0 xi id) (hs : BytesAt w0 xs seed) (hr : ¬ RightP L h wd id seed) :
    FailsE w0 17 #[keyV L h wd xi xs, .int .i64 n, xm] 11 := by
  have HFn := fun w hw h1 h2 => first_no w hw L h wd xi xs id seed h1 h2 hr
  obtain ⟨si, ni, ci, rfl⟩ := hi.forms
  obtain ⟨ss, ns, cs, rfl⟩ := hs.forms
  have hbA : Below w0.heap.size w0 (w0.alloc (.cells #[.int .i64 L, .int .i64 h, .int .i64 wd, .slice si ni ci, .slice ss ns cs] 28)) := (Below.refl _ _).alloc (Nat.le_refl _) _
  have hK := agg_new w0 [.int .i64 L, .int .i64 h, .int .i64 wd, .slice si ni ci, .slice ss ns cs] 28
  obtain ⟨wA, hwA⟩ : ∃ wA, w0.alloc (.cells #[.int .i64 L, .int .i64 h, .int .i64 wd, .slice si ni ci, .slice ss ns cs] 28) = wA := ⟨_, rfl⟩
  rw [hwA] at hbA hK
  have c0 := hK.c 0 _ rfl
  have c1 := hK.c 1 _ rfl
  have c2 := hK.c 2 _ rfl
  have c3 := hK.c 3 _ rfl
  have c4 := hK.c 4 _ rfl
  have HK := hide hK
  have HB := hide hbA
  have Hf := hide (HFn wA (C.wid _ (C.below _ _ hR hbA)) (hi.below hbA) (hs.below hbA))
  clear hi hs hbA hK HFn C
  unfold keyV
  go_enter Tryd.func17, Tryd.ntmps17
  go_wp2_with fail
  refine (unhide Hf).mono ?_
  rintro e w1 ⟨rfl, hb1⟩
  have HBf := hide (fun o : Obj => ((unhide HB).trans (hb1.mono (unhide HB).size)).alloc (Nat.le_trans (unhide HB).size hb1.size) o)
  clear hb1 c0 c1 c2 c3 c4
  go_wp2
  go_ret2
  exact ⟨_, rfl, bytes_nil _, unhide HBf _⟩
set_option maxRecDepth 100000 in
set_option maxHeartbeats 2000000 in
theorem usedsign_c {R : World → Prop} {H : Bs → Bs} (C : CHash R H) (w0 : World) (L h wd : Nat) (n : Int) (xi xs xm : Value) (id seed : Bs) (hR : R w0) (hi : BytesAt w0 xi id) (hs : BytesAt w0 xs seed) (hr : RightP (L : Int) (h : Int) (wd : Int) id seed) (hn : ¬ (0 ≤ n ∧ n < ((2 ^ (h * L) : Nat) : Int))) :
    FailsE w0 17 #[keyV (L : Int) (h : Int) (wd : Int) xi xs, .int .i64 n, xm] 13 := by
  have HFy := fun w hw h1 h2 => first_yes w hw L h wd xi xs id seed h1 h2 hr
  have HCo := fun w hw h1 h2 => count_c C w L h wd xi xs id seed hw h1 h2 hr
  obtain ⟨t, ht⟩ : ∃ t : Int, (tyW wd : Int) = t := ⟨_, rfl⟩
  obtain ⟨p, hp⟩ : ∃ p : Int, (pW wd : Int) = p := ⟨_, rfl⟩
  obtain ⟨s, hls⟩ : ∃ s : Int, (lsW wd : Int) = s := ⟨_, rfl⟩
  rw [ht, hp, hls] at HFy
  obtain ⟨E, hE⟩ : ∃ E : Int, ((2 ^ (h * L) : Nat) : Int) = E := ⟨_, rfl⟩
  rw [hE] at HCo hn
  obtain ⟨si, ni, ci, rfl⟩ := hi.forms
  obtain ⟨ss, ns, cs, rfl⟩ := hs.forms
  have hbA : Below w0.heap.size w0 (w0.alloc (.cells #[.int .i64 (L : Int), .int .i64 (h : Int), .int .i64 (wd : Int), .slice si ni ci, .slice ss ns cs] 28)) := (Below.refl _ _).alloc (Nat.le_refl _) _
  have hK := agg_new w0 [.int .i64 (L : Int), .int .i64 (h : Int), .int .i64 (wd : Int), .slice si ni ci, .slice ss ns cs] 28
  obtain ⟨wA, hwA⟩ : ∃ wA, w0.alloc (.cells #[.int .i64 (L : Int), .int .i64 (h : Int), .int .i64 (wd : Int), .slice si ni ci, .slice ss ns cs] 28) = wA := ⟨_, rfl⟩
  rw [hwA] at hbA hK
  have c0 := hK.c 0 _ rfl
  have c1 := hK.c 1 _ rfl
  have c2 := hK.c 2 _ rfl
  have c3 := hK.c 3 _ rfl
  have c4 := hK.c 4 _ rfl
  have HK := hide hK
  have HB := hide hbA
  have Hf := hide (HFy wA (C.wid _ (C.below _ _ hR hbA)) (hi.below hbA) (hs.below hbA))
  have HX := hide (hi.below hbA)
  have HS := hide (hs.below hbA)
  have HR := hide (C.below _ _ hR hbA)
  have HC := hide C
  have HCoh := hide HCo
  clear hi hs hbA hK HFy HCo C ht hp hls hE hr
  unfold keyV
  go_enter Tryd.func17, Tryd.ntmps17
  go_wp2_with fail
  refine (unhide Hf).mono ?_
  rintro e w1 ⟨rfl, hb1⟩
  have hbV : Below w1.heap.size w1 (w1.alloc (.cells #[.int .i64 (h : Int), .int .i64 (wd : Int), .int .i64 t, .int .i64 p, .int .i64 s, .slice si ni ci, .slice ss ns cs] 56)) := (Below.refl _ _).alloc (Nat.le_refl _) _
  obtain ⟨wC, hwC⟩ : ∃ wC, w1.alloc (.cells #[.int .i64 (h : Int), .int .i64 (wd : Int), .int .i64 t, .int .i64 p, .int .i64 s, .slice si ni ci, .slice ss ns cs] 56) = wC := ⟨_, rfl⟩
  rw [hwC] at hbV
  have hbC : Below wA.heap.size wA wC := hb1.trans (hbV.mono hb1.size)
  have HWC := hide hbC
  have HBC := hide ((unhide HB).trans (hbC.mono (unhide HB).size))
  have hKc := (unhide HK).below hbC
  have k0 := hKc.c 0 _ rfl
  have k1 := hKc.c 1 _ rfl
  have k2 := hKc.c 2 _ rfl
  have k3 := hKc.c 3 _ rfl
  have k4 := hKc.c 4 _ rfl
  clear hb1 hbV hbC hKc c0 c1 c2 c3 c4 hwA
  by_cases h0 : 0 ≤ n
  · have d0 : decide (n < 0) = false := by simp; omega
    have d1 : E ≤ n := by omega
    clear hn
    go_wp2_with fail
    refine ((unhide HCoh) wC ((unhide HC).below _ _ (unhide HR) (unhide HWC)) ((unhide HX).below (unhide HWC)) ((unhide HS).below (unhide HWC))).mono ?_
    rintro e w2 ⟨rfl, hb2⟩
    have HB2 := hide ((unhide HBC).trans (hb2.mono (unhide HBC).size))
    clear hb2
    go_wp2
    go_ret2
    exact ⟨_, rfl, bytes_nil _, unhide HB2⟩
  · have d0 : n < 0 := by omega
    clear hn h0
    go_wp2
    go_ret2
    exact ⟨_, rfl, bytes_nil _, unhide HBC⟩
end Go.Proofs.YtlhjifdahagkaaaDoor
