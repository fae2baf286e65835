/-
  The walk of the landed verifies.
-/
import Derived.Test.YtlhjifdahagkaaaDoorM15
namespace Go.Proofs.YtlhjifdahagkaaaDoor
open Go.RowKit
/-- Does a storey sign a message under a tree's public key? -/
def rootP (H : Bs → Bs) (id msg : Bs) (h wd q : Nat) (cc ps bs : Bs) : Bs :=
  climb H id (fun z => part bs (32 * z) 32) h (2 ^ h + q) (H (head id (2 ^ h + q) 0x8282 ++ H (head id q 0x8080 ++ endsOfSig H id wd q (digit (hashed H id q cc msg) wd) (fun i => part ps (32 * i) 32) (pW wd))))
def verS (H : Bs → Bs) (pk msg : Bs) (h wd q : Nat) (cc ps bs : Bs) : Bool :=
  if PubOK pk ∧ hOf (num4 pk) = h ∧ wOf (num4 (pk.drop 4)) = wd then decide (part pk 24 32 = rootP H (part pk 8 16) msg h wd q cc ps bs) else false
theorem len_rootP (H : Bs → Bs) (hH : ∀ l, (H l).length = 32) (id msg : Bs) (h wd q : Nat) (hh : 1 ≤ h) (cc ps bs : Bs) : (rootP H id msg h wd q cc ps bs).length = 32 := by
  unfold rootP
  obtain ⟨k, rfl⟩ : ∃ k, h = k + 1 := ⟨h - 1, by omega⟩
  rw [climb]
  exact hH _
section
variable {R : World → Prop} {H : Bs → Bs}
set_option maxRecDepth 100000 in
set_option maxHeartbeats 4000000 in
theorem ver_no (C : CHash R H) (w0 : World) (hr : R w0) (xk xm xc xp xb xw : Value) (pk msg cc ps bs : Bs) (hk : BytesAt w0 xk pk) (_hm : BytesAt w0 xm msg) (hc : BytesAt w0 xc cc) (hps : BytesAt w0 xp ps) (hb : BytesAt w0 xb bs) (hxw : ∃ l, BytesAt w0 xw l) (lk : pk.length ≤ 100000) (hno : ¬ PubOK pk) (h' wd' q : Nat) (t' p' s' : Int) :
    Calls Tryd.prog 40 #[xk, xm, .agg #[.int .i64 (h' : Int), .int .i64 (wd' : Int), .int .i64 t', .int .i64 p', .int .i64 s', .int .i64 (q : Int), xc, xp, xb, xw]] w0 fun e w' => e = .returned (.bool false) ∧ Below w0.heap.size w0 w' := by
  obtain ⟨s3, n3, c3, rfl⟩ := hc.forms
  obtain ⟨s4, n4, c4, rfl⟩ := hps.forms
  obtain ⟨s5, n5, c5, rfl⟩ := hb.forms
  obtain ⟨lxw, hxw⟩ := hxw
  obtain ⟨s2, n2, c2, rfl⟩ := hxw.forms
  have hbA : Below w0.heap.size w0 (w0.alloc (.cells #[.int .i64 (h' : Int), .int .i64 (wd' : Int), .int .i64 t', .int .i64 p', .int .i64 s', .int .i64 (q : Int), .slice s3 n3 c3, .slice s4 n4 c4, .slice s5 n5 c5, .slice s2 n2 c2] 79)) := (Below.refl _ _).alloc (Nat.le_refl _) _
  have hKs := agg_new w0 [.int .i64 (h' : Int), .int .i64 (wd' : Int), .int .i64 t', .int .i64 p', .int .i64 s', .int .i64 (q : Int), .slice s3 n3 c3, .slice s4 n4 c4, .slice s5 n5 c5, .slice s2 n2 c2] 79
  obtain ⟨wA, hwA⟩ : ∃ wA, w0.alloc (.cells #[.int .i64 (h' : Int), .int .i64 (wd' : Int), .int .i64 t', .int .i64 p', .int .i64 s', .int .i64 (q : Int), .slice s3 n3 c3, .slice s4 n4 c4, .slice s5 n5 c5, .slice s2 n2 c2] 79) = wA := ⟨_, rfl⟩
  rw [hwA] at hbA hKs
  have HKs := hide hKs
  have HB := hide hbA
  have Hpo := hide (pubof_no wA (C.wid _ (C.below _ _ hr hbA)) xk pk (hk.below hbA) lk hno)
  clear hk _hm hc hps hb hxw hr hbA hKs C
  go_enter Tryd.func40, Tryd.ntmps40
  go_wp2_with fail
  refine (unhide Hpo).mono ?_
  rintro e w1 ⟨rfl, hb1⟩
  have HBf := hide (fun o : Obj => (((unhide HB).trans (hb1.mono (unhide HB).size)).alloc (Nat.le_trans (unhide HB).size hb1.size) o).drew)
  clear hb1
  go_wp2
  go_region
  go_wp2
  go_ret
  exact ⟨rfl, unhide HBf _⟩
set_option maxRecDepth 100000 in
set_option maxHeartbeats 4000000 in
theorem ver_height (C : CHash R H) (w0 : World) (hr : R w0) (xk xm xc xp xb xw : Value) (pk msg cc ps bs : Bs) (hk : BytesAt w0 xk pk) (_hm : BytesAt w0 xm msg) (hc : BytesAt w0 xc cc) (hps : BytesAt w0 xp ps) (hb : BytesAt w0 xb bs) (hxw : ∃ l, BytesAt w0 xw l) (_lk : pk.length ≤ 100000) (hok : PubOK pk) (h' wd' q : Nat) (hne : hOf (num4 pk) ≠ h') (t' p' s' : Int) :
    Calls Tryd.prog 40 #[xk, xm, .agg #[.int .i64 (h' : Int), .int .i64 (wd' : Int), .int .i64 t', .int .i64 p', .int .i64 s', .int .i64 (q : Int), xc, xp, xb, xw]] w0 fun e w' => e = .returned (.bool false) ∧ Below w0.heap.size w0 w' := by
  obtain ⟨s3, n3, c3, rfl⟩ := hc.forms
  obtain ⟨s4, n4, c4, rfl⟩ := hps.forms
  obtain ⟨s5, n5, c5, rfl⟩ := hb.forms
  obtain ⟨lxw, hxw⟩ := hxw
  obtain ⟨s2, n2, c2, rfl⟩ := hxw.forms
  have hbA : Below w0.heap.size w0 (w0.alloc (.cells #[.int .i64 (h' : Int), .int .i64 (wd' : Int), .int .i64 t', .int .i64 p', .int .i64 s', .int .i64 (q : Int), .slice s3 n3 c3, .slice s4 n4 c4, .slice s5 n5 c5, .slice s2 n2 c2] 79)) := (Below.refl _ _).alloc (Nat.le_refl _) _
  have hKs := agg_new w0 [.int .i64 (h' : Int), .int .i64 (wd' : Int), .int .i64 t', .int .i64 p', .int .i64 s', .int .i64 (q : Int), .slice s3 n3 c3, .slice s4 n4 c4, .slice s5 n5 c5, .slice s2 n2 c2] 79
  obtain ⟨wA, hwA⟩ : ∃ wA, w0.alloc (.cells #[.int .i64 (h' : Int), .int .i64 (wd' : Int), .int .i64 t', .int .i64 p', .int .i64 s', .int .i64 (q : Int), .slice s3 n3 c3, .slice s4 n4 c4, .slice s5 n5 c5, .slice s2 n2 c2] 79) = wA := ⟨_, rfl⟩
  rw [hwA] at hbA hKs
  have HKs := hide hKs
  have HB := hide hbA
  obtain ⟨h, hh⟩ : ∃ h, hOf (num4 pk) = h := ⟨_, rfl⟩
  obtain ⟨wd, hwe⟩ : ∃ wd, wOf (num4 (pk.drop 4)) = wd := ⟨_, rfl⟩
  have Hpo0 := pubof_yes wA (C.wid _ (C.below _ _ hr hbA)) xk pk (hk.below hbA) hok h wd hh hwe
  rw [hh] at hne
  have dn : ((h : Int) == (h' : Int)) = false := by simp; omega
  have dn2 : ¬ ((h : Int) = (h' : Int)) := by omega
  obtain ⟨t, ht⟩ : ∃ t : Int, (tyW wd : Int) = t := ⟨_, rfl⟩
  obtain ⟨p, hp⟩ : ∃ p : Int, (pW wd : Int) = p := ⟨_, rfl⟩
  obtain ⟨s, hls⟩ : ∃ s : Int, (lsW wd : Int) = s := ⟨_, rfl⟩
  rw [ht, hp, hls] at Hpo0
  have Hpo := hide Hpo0
  clear hk _hm hc hps hb hxw hr hbA hKs C Hpo0 hh hwe ht hp hls hok hne
  go_enter Tryd.func40, Tryd.ntmps40
  go_wp2_with fail
  refine (unhide Hpo).mono ?_
  rintro e w1 ⟨yi, yr, rfl, hyi, hyr, hb1⟩
  obtain ⟨i1, i2, i3, rfl⟩ := hyi.forms
  obtain ⟨j1, j2, j3, rfl⟩ := hyr.forms
  have hKp := agg_new w1 [.int .i64 (h : Int), .int .i64 (wd : Int), .int .i64 t, .int .i64 p, .int .i64 s, .slice i1 i2 i3, .slice j1 j2 j3] 62
  have hbV : Below w1.heap.size w1 (w1.alloc (.cells #[.int .i64 (h : Int), .int .i64 (wd : Int), .int .i64 t, .int .i64 p, .int .i64 s, .slice i1 i2 i3, .slice j1 j2 j3] 62)) := (Below.refl _ _).alloc (Nat.le_refl _) _
  obtain ⟨wC, hwC⟩ : ∃ wC, w1.alloc (.cells #[.int .i64 (h : Int), .int .i64 (wd : Int), .int .i64 t, .int .i64 p, .int .i64 s, .slice i1 i2 i3, .slice j1 j2 j3] 62) = wC := ⟨_, rfl⟩
  rw [hwC] at hKp hbV
  have hbC := hb1.trans (hbV.mono hb1.size)
  have HBf := hide ((unhide HB).trans (hbC.mono (unhide HB).size)).drew
  have HKp := hide hKp
  have HKsc := hide ((unhide HKs).below hbC)
  have ca0 := (unhide HKp).c 0 _ rfl
  have ca1 := (unhide HKp).c 1 _ rfl
  have ca2 := (unhide HKp).c 2 _ rfl
  have ca3 := (unhide HKp).c 3 _ rfl
  have ca4 := (unhide HKp).c 4 _ rfl
  have ca5 := (unhide HKp).c 5 _ rfl
  have ca6 := (unhide HKp).c 6 _ rfl
  have cb0 := (unhide HKsc).c 0 _ rfl
  have cb1 := (unhide HKsc).c 1 _ rfl
  have cb2 := (unhide HKsc).c 2 _ rfl
  have cb3 := (unhide HKsc).c 3 _ rfl
  have cb4 := (unhide HKsc).c 4 _ rfl
  have cb5 := (unhide HKsc).c 5 _ rfl
  have cb6 := (unhide HKsc).c 6 _ rfl
  have cb7 := (unhide HKsc).c 7 _ rfl
  have cb8 := (unhide HKsc).c 8 _ rfl
  have cb9 := (unhide HKsc).c 9 _ rfl
  clear hyi hyr hb1 hbV hbC hKp hwA
  go_wp2
  go_region
  go_wp2
  go_ret
  exact ⟨rfl, unhide HBf⟩
set_option maxRecDepth 100000 in
set_option maxHeartbeats 4000000 in
theorem ver_width (C : CHash R H) (w0 : World) (hr : R w0) (xk xm xc xp xb xw : Value) (pk msg cc ps bs : Bs) (hk : BytesAt w0 xk pk) (_hm : BytesAt w0 xm msg) (hc : BytesAt w0 xc cc) (hps : BytesAt w0 xp ps) (hb : BytesAt w0 xb bs) (hxw : ∃ l, BytesAt w0 xw l) (_lk : pk.length ≤ 100000) (hok : PubOK pk) (h' wd' q : Nat) (heq : hOf (num4 pk) = h') (hne : wOf (num4 (pk.drop 4)) ≠ wd') (t' p' s' : Int) :
    Calls Tryd.prog 40 #[xk, xm, .agg #[.int .i64 (h' : Int), .int .i64 (wd' : Int), .int .i64 t', .int .i64 p', .int .i64 s', .int .i64 (q : Int), xc, xp, xb, xw]] w0 fun e w' => e = .returned (.bool false) ∧ Below w0.heap.size w0 w' := by
  obtain ⟨s3, n3, c3, rfl⟩ := hc.forms
  obtain ⟨s4, n4, c4, rfl⟩ := hps.forms
  obtain ⟨s5, n5, c5, rfl⟩ := hb.forms
  obtain ⟨lxw, hxw⟩ := hxw
  obtain ⟨s2, n2, c2, rfl⟩ := hxw.forms
  have hbA : Below w0.heap.size w0 (w0.alloc (.cells #[.int .i64 (h' : Int), .int .i64 (wd' : Int), .int .i64 t', .int .i64 p', .int .i64 s', .int .i64 (q : Int), .slice s3 n3 c3, .slice s4 n4 c4, .slice s5 n5 c5, .slice s2 n2 c2] 79)) := (Below.refl _ _).alloc (Nat.le_refl _) _
  have hKs := agg_new w0 [.int .i64 (h' : Int), .int .i64 (wd' : Int), .int .i64 t', .int .i64 p', .int .i64 s', .int .i64 (q : Int), .slice s3 n3 c3, .slice s4 n4 c4, .slice s5 n5 c5, .slice s2 n2 c2] 79
  obtain ⟨wA, hwA⟩ : ∃ wA, w0.alloc (.cells #[.int .i64 (h' : Int), .int .i64 (wd' : Int), .int .i64 t', .int .i64 p', .int .i64 s', .int .i64 (q : Int), .slice s3 n3 c3, .slice s4 n4 c4, .slice s5 n5 c5, .slice s2 n2 c2] 79) = wA := ⟨_, rfl⟩
  rw [hwA] at hbA hKs
  have HKs := hide hKs
  have HB := hide hbA
  obtain ⟨h, hh⟩ : ∃ h, hOf (num4 pk) = h := ⟨_, rfl⟩
  obtain ⟨wd, hwe⟩ : ∃ wd, wOf (num4 (pk.drop 4)) = wd := ⟨_, rfl⟩
  have Hpo0 := pubof_yes wA (C.wid _ (C.below _ _ hr hbA)) xk pk (hk.below hbA) hok h wd hh hwe
  rw [hh] at heq
  subst heq
  rw [hwe] at hne
  have dn : ((wd : Int) == (wd' : Int)) = false := by simp; omega
  have dn2 : ¬ ((wd : Int) = (wd' : Int)) := by omega
  obtain ⟨t, ht⟩ : ∃ t : Int, (tyW wd : Int) = t := ⟨_, rfl⟩
  obtain ⟨p, hp⟩ : ∃ p : Int, (pW wd : Int) = p := ⟨_, rfl⟩
  obtain ⟨s, hls⟩ : ∃ s : Int, (lsW wd : Int) = s := ⟨_, rfl⟩
  rw [ht, hp, hls] at Hpo0
  have Hpo := hide Hpo0
  clear hk _hm hc hps hb hxw hr hbA hKs C Hpo0 hh hwe ht hp hls hok hne
  go_enter Tryd.func40, Tryd.ntmps40
  go_wp2_with fail
  refine (unhide Hpo).mono ?_
  rintro e w1 ⟨yi, yr, rfl, hyi, hyr, hb1⟩
  obtain ⟨i1, i2, i3, rfl⟩ := hyi.forms
  obtain ⟨j1, j2, j3, rfl⟩ := hyr.forms
  have hKp := agg_new w1 [.int .i64 (h : Int), .int .i64 (wd : Int), .int .i64 t, .int .i64 p, .int .i64 s, .slice i1 i2 i3, .slice j1 j2 j3] 62
  have hbV : Below w1.heap.size w1 (w1.alloc (.cells #[.int .i64 (h : Int), .int .i64 (wd : Int), .int .i64 t, .int .i64 p, .int .i64 s, .slice i1 i2 i3, .slice j1 j2 j3] 62)) := (Below.refl _ _).alloc (Nat.le_refl _) _
  obtain ⟨wC, hwC⟩ : ∃ wC, w1.alloc (.cells #[.int .i64 (h : Int), .int .i64 (wd : Int), .int .i64 t, .int .i64 p, .int .i64 s, .slice i1 i2 i3, .slice j1 j2 j3] 62) = wC := ⟨_, rfl⟩
  rw [hwC] at hKp hbV
  have hbC := hb1.trans (hbV.mono hb1.size)
  have HBf := hide ((unhide HB).trans (hbC.mono (unhide HB).size)).drew
  have HKp := hide hKp
  have HKsc := hide ((unhide HKs).below hbC)
  have ca0 := (unhide HKp).c 0 _ rfl
  have ca1 := (unhide HKp).c 1 _ rfl
  have ca2 := (unhide HKp).c 2 _ rfl
  have ca3 := (unhide HKp).c 3 _ rfl
  have ca4 := (unhide HKp).c 4 _ rfl
  have ca5 := (unhide HKp).c 5 _ rfl
  have ca6 := (unhide HKp).c 6 _ rfl
  have cb0 := (unhide HKsc).c 0 _ rfl
  have cb1 := (unhide HKsc).c 1 _ rfl
  have cb2 := (unhide HKsc).c 2 _ rfl
  have cb3 := (unhide HKsc).c 3 _ rfl
  have cb4 := (unhide HKsc).c 4 _ rfl
  have cb5 := (unhide HKsc).c 5 _ rfl
  have cb6 := (unhide HKsc).c 6 _ rfl
  have cb7 := (unhide HKsc).c 7 _ rfl
  have cb8 := (unhide HKsc).c 8 _ rfl
  have cb9 := (unhide HKsc).c 9 _ rfl
  clear hyi hyr hb1 hbV hbC hKp hwA
  go_wp2
  go_region
  go_wp2
  go_ret
  exact ⟨rfl, unhide HBf⟩
set_option maxRecDepth 100000 in
set_option maxHeartbeats 8000000 in
theorem ver_yes (C : CHash R H) (w0 : World) (hr : R w0) (xk xm xc xp xb xw : Value) (pk msg cc ps bs : Bs) (hk : BytesAt w0 xk pk) (hm : BytesAt w0 xm msg) (hc : BytesAt w0 xc cc) (hps : BytesAt w0 xp ps) (hb : BytesAt w0 xb bs) (hxw : ∃ l, BytesAt w0 xw l) (_lk : pk.length ≤ 100000) (hok : PubOK pk) (h wd q : Nat) (hh : hOf (num4 pk) = h) (hwe : wOf (num4 (pk.drop 4)) = wd) (hh1 : 1 ≤ h) (hh6 : h ≤ 6) (hw : IsW wd) (hq : q < 2 ^ h) (lc : cc.length = 32) (lps : ps.length = 32 * pW wd) (lb : bs.length = 32 * h) (lm : msg.length ≤ 1000) :
    Calls Tryd.prog 40 #[xk, xm, .agg #[.int .i64 (h : Int), .int .i64 (wd : Int), .int .i64 (tyW wd : Int), .int .i64 (pW wd : Int), .int .i64 (lsW wd : Int), .int .i64 (q : Int), xc, xp, xb, xw]] w0 fun e w' => e = .returned (.bool (decide (part pk 24 32 = rootP H (part pk 8 16) msg h wd q cc ps bs))) ∧ Below w0.heap.size w0 w' := by
  have l16 : (part pk 8 16).length = 16 := by unfold part; rw [List.length_take, List.length_drop, hok.1]; rfl
  have l32 : (part pk 24 32).length = 32 := by unfold part; rw [List.length_take, List.length_drop, hok.1]; rfl
  have HRo := fun w xi xr hr' h1 h2 h3 h4 h5 h6 h7 => rootof_c C w hr' h wd hh1 hh6 hw (tyW wd : Int) xi xr xc xp xb xw xm (h : Int) (wd : Int) (tyW wd : Int) (pW wd : Int) (lsW wd : Int) (part pk 8 16) cc ps bs msg q hq h1 h2 h3 h4 h5 h6 h7 (by omega) (by omega) lm lps lb
  have lrt := len_rootP H C.len (part pk 8 16) msg h wd q hh1 cc ps bs
  obtain ⟨rt, hrt⟩ : ∃ rt, rootP H (part pk 8 16) msg h wd q cc ps bs = rt := ⟨_, rfl⟩
  have hrt' := hrt
  unfold rootP at hrt'
  rw [hrt'] at HRo
  rw [hrt] at lrt
  rw [hrt]
  obtain ⟨s3, n3, c3, rfl⟩ := hc.forms
  obtain ⟨s4, n4, c4, rfl⟩ := hps.forms
  obtain ⟨s5, n5, c5, rfl⟩ := hb.forms
  obtain ⟨lxw, hxw⟩ := hxw
  obtain ⟨s2, n2, c2, rfl⟩ := hxw.forms
  have hbA : Below w0.heap.size w0 (w0.alloc (.cells #[.int .i64 (h : Int), .int .i64 (wd : Int), .int .i64 (tyW wd : Int), .int .i64 (pW wd : Int), .int .i64 (lsW wd : Int), .int .i64 (q : Int), .slice s3 n3 c3, .slice s4 n4 c4, .slice s5 n5 c5, .slice s2 n2 c2] 79)) := (Below.refl _ _).alloc (Nat.le_refl _) _
  have hKs := agg_new w0 [.int .i64 (h : Int), .int .i64 (wd : Int), .int .i64 (tyW wd : Int), .int .i64 (pW wd : Int), .int .i64 (lsW wd : Int), .int .i64 (q : Int), .slice s3 n3 c3, .slice s4 n4 c4, .slice s5 n5 c5, .slice s2 n2 c2] 79
  obtain ⟨wA, hwA⟩ : ∃ wA, w0.alloc (.cells #[.int .i64 (h : Int), .int .i64 (wd : Int), .int .i64 (tyW wd : Int), .int .i64 (pW wd : Int), .int .i64 (lsW wd : Int), .int .i64 (q : Int), .slice s3 n3 c3, .slice s4 n4 c4, .slice s5 n5 c5, .slice s2 n2 c2] 79) = wA := ⟨_, rfl⟩
  rw [hwA] at hbA hKs
  have HKs := hide hKs
  have HB := hide hbA
  have Hpo0 := pubof_yes wA (C.wid _ (C.below _ _ hr hbA)) xk pk (hk.below hbA) hok h wd hh hwe
  obtain ⟨t, ht⟩ : ∃ t : Int, (tyW wd : Int) = t := ⟨_, rfl⟩
  obtain ⟨p, hp⟩ : ∃ p : Int, (pW wd : Int) = p := ⟨_, rfl⟩
  obtain ⟨s, hls⟩ : ∃ s : Int, (lsW wd : Int) = s := ⟨_, rfl⟩
  rw [ht, hp, hls] at Hpo0 HRo hwA
  rw [ht, hp, hls] at HKs
  rw [ht, hp, hls]
  have Hpo := hide Hpo0
  have HRoh := hide HRo
  have HC := hide C
  have HR := hide (C.below _ _ hr hbA)
  have Hm1 := hide (hm.below hbA)
  have Hc1 := hide (hc.below hbA)
  have Hp1 := hide (hps.below hbA)
  have Hb1 := hide (hb.below hbA)
  have Hx1 : Hid (∃ l, BytesAt wA (.slice s2 n2 c2) l) := hide ⟨lxw, hxw.below hbA⟩
  have Hn := hide (And.intro (ne_of_len l32 (by omega)) (ne_of_len lrt (by omega)))
  clear hk hm hc hps hb hxw hr hbA hKs C Hpo0 HRo hh hwe ht hp hls hok lrt hrt hrt' l16 l32
  go_enter Tryd.func40, Tryd.ntmps40
  go_wp2_with fail
  refine (unhide Hpo).mono ?_
  rintro e w1 ⟨yi, yr, rfl, hyi, hyr, hb1⟩
  obtain ⟨i1, i2, i3, rfl⟩ := hyi.forms
  obtain ⟨j1, j2, j3, rfl⟩ := hyr.forms
  have hKp := agg_new w1 [.int .i64 (h : Int), .int .i64 (wd : Int), .int .i64 t, .int .i64 p, .int .i64 s, .slice i1 i2 i3, .slice j1 j2 j3] 62
  have hbV : Below w1.heap.size w1 (w1.alloc (.cells #[.int .i64 (h : Int), .int .i64 (wd : Int), .int .i64 t, .int .i64 p, .int .i64 s, .slice i1 i2 i3, .slice j1 j2 j3] 62)) := (Below.refl _ _).alloc (Nat.le_refl _) _
  obtain ⟨wC, hwC⟩ : ∃ wC, w1.alloc (.cells #[.int .i64 (h : Int), .int .i64 (wd : Int), .int .i64 t, .int .i64 p, .int .i64 s, .slice i1 i2 i3, .slice j1 j2 j3] 62) = wC := ⟨_, rfl⟩
  rw [hwC] at hKp hbV
  have hbC := hb1.trans (hbV.mono hb1.size)
  have HBC := hide ((unhide HB).trans (hbC.mono (unhide HB).size)).drew
  have HWC := hide hbC.drew
  have HKp := hide hKp
  have HKpd := hide (hKp.below (Below.refl _ _).drew)
  have HKsc := hide ((unhide HKs).below hbC)
  have HKsd := hide ((unhide HKs).below hbC.drew)
  have Hyi := hide ((hyi.below hbV).below (Below.refl _ _).drew)
  have Hyr := hide ((hyr.below hbV).below (Below.refl _ _).drew)
  obtain ⟨KP, hKPe⟩ : ∃ KP, w1.heap.size = KP := ⟨_, rfl⟩
  rw [hKPe] at HKp HKpd
  have ca0 := (unhide HKp).c 0 _ rfl
  have ca1 := (unhide HKp).c 1 _ rfl
  have ca2 := (unhide HKp).c 2 _ rfl
  have ca3 := (unhide HKp).c 3 _ rfl
  have ca4 := (unhide HKp).c 4 _ rfl
  have ca5 := (unhide HKp).c 5 _ rfl
  have ca6 := (unhide HKp).c 6 _ rfl
  have cb0 := (unhide HKsc).c 0 _ rfl
  have cb1 := (unhide HKsc).c 1 _ rfl
  have cb2 := (unhide HKsc).c 2 _ rfl
  have cb3 := (unhide HKsc).c 3 _ rfl
  have cb4 := (unhide HKsc).c 4 _ rfl
  have cb5 := (unhide HKsc).c 5 _ rfl
  have cb6 := (unhide HKsc).c 6 _ rfl
  have cb7 := (unhide HKsc).c 7 _ rfl
  have cb8 := (unhide HKsc).c 8 _ rfl
  have cb9 := (unhide HKsc).c 9 _ rfl
  clear hyi hyr hb1 hbV hbC hKp hwA
  go_wp2
  go_region_held3 (fun w' => w'.cell? ⟨KP, 0, none⟩ = some (.int .i64 (h : Int)) ∧ w'.cell? ⟨KP, 1, none⟩ = some (.int .i64 (wd : Int)) ∧ w'.cell? ⟨KP, 2, none⟩ = some (.int .i64 t) ∧ w'.cell? ⟨KP, 3, none⟩ = some (.int .i64 p) ∧ w'.cell? ⟨KP, 4, none⟩ = some (.int .i64 s) ∧ w'.cell? ⟨KP, 5, none⟩ = some (.slice i1 i2 i3) ∧ w'.cell? ⟨KP, 6, none⟩ = some (.slice j1 j2 j3) ∧ w'.cell? ⟨w0.heap.size, 0, none⟩ = some (.int .i64 (h : Int)) ∧ w'.cell? ⟨w0.heap.size, 1, none⟩ = some (.int .i64 (wd : Int)) ∧ w'.cell? ⟨w0.heap.size, 2, none⟩ = some (.int .i64 t) ∧ w'.cell? ⟨w0.heap.size, 3, none⟩ = some (.int .i64 p) ∧ w'.cell? ⟨w0.heap.size, 4, none⟩ = some (.int .i64 s) ∧ w'.cell? ⟨w0.heap.size, 5, none⟩ = some (.int .i64 (q : Int)) ∧ w'.cell? ⟨w0.heap.size, 6, none⟩ = some (.slice s3 n3 c3) ∧ w'.cell? ⟨w0.heap.size, 7, none⟩ = some (.slice s4 n4 c4) ∧ w'.cell? ⟨w0.heap.size, 8, none⟩ = some (.slice s5 n5 c5) ∧ w'.cell? ⟨w0.heap.size, 9, none⟩ = some (.slice s2 n2 c2)) (go_keep)
    ((first
      | (go_at_call 68; refine ((unhide HRoh) wC.drew _ _ ((unhide HC).below _ _ (unhide HR) (unhide HWC)) (unhide Hyi) ⟨_, unhide Hyr⟩ (by obtain ⟨l, hl⟩ := unhide Hx1; exact ⟨l, hl.below (unhide HWC)⟩) ((unhide Hc1).below (unhide HWC)) ((unhide Hp1).below (unhide HWC)) ((unhide Hb1).below (unhide HWC)) ((unhide Hm1).below (unhide HWC))).mono ?_; rintro ee w5 ⟨v5, rfl, hV5, hb5⟩; have HV5 := hide hV5; have HB5 := hide ((unhide HBC).trans (hb5.mono (unhide HBC).size)); have Hyr5 := hide ((unhide Hyr).below hb5); have HP5 := hide ((unhide HKpd).below hb5); have HS5 := hide ((unhide HKsd).below hb5); have ma0 := (unhide HP5).c 0 _ rfl; have ma1 := (unhide HP5).c 1 _ rfl; have ma2 := (unhide HP5).c 2 _ rfl; have ma3 := (unhide HP5).c 3 _ rfl; have ma4 := (unhide HP5).c 4 _ rfl; have ma5 := (unhide HP5).c 5 _ rfl; have ma6 := (unhide HP5).c 6 _ rfl; have mb0 := (unhide HS5).c 0 _ rfl; have mb1 := (unhide HS5).c 1 _ rfl; have mb2 := (unhide HS5).c 2 _ rfl; have mb3 := (unhide HS5).c 3 _ rfl; have mb4 := (unhide HS5).c 4 _ rfl; have mb5 := (unhide HS5).c 5 _ rfl; have mb6 := (unhide HS5).c 6 _ rfl; have mb7 := (unhide HS5).c 7 _ rfl; have mb8 := (unhide HS5).c 8 _ rfl; have mb9 := (unhide HS5).c 9 _ rfl; clear hV5 hb5)
      | (go_at_call 67; refine (beq_c w5 _ v5 _ _ (unhide Hyr5) (unhide HV5) (unhide Hn).1 (unhide Hn).2).mono ?_; rintro ee w6 ⟨rfl, hw6⟩; replace hw6 := hw6.symm; subst hw6)))
  go_wp2
  go_ret
  exact ⟨rfl, unhide HB5⟩
theorem ver_c (C : CHash R H) (w0 : World) (hr : R w0) (xk xm xc xp xb xw : Value) (pk msg cc ps bs : Bs) (hk : BytesAt w0 xk pk) (hm : BytesAt w0 xm msg) (hc : BytesAt w0 xc cc) (hps : BytesAt w0 xp ps) (hb : BytesAt w0 xb bs) (hxw : ∃ l, BytesAt w0 xw l) (lk : pk.length ≤ 100000) (h wd q : Nat) (hh1 : 1 ≤ h) (hh6 : h ≤ 6) (hw : IsW wd) (hq : q < 2 ^ h) (lc : cc.length = 32) (lps : ps.length = 32 * pW wd) (lb : bs.length = 32 * h) (lm : msg.length ≤ 1000) :
    Calls Tryd.prog 40 #[xk, xm, .agg #[.int .i64 (h : Int), .int .i64 (wd : Int), .int .i64 (tyW wd : Int), .int .i64 (pW wd : Int), .int .i64 (lsW wd : Int), .int .i64 (q : Int), xc, xp, xb, xw]] w0 fun e w' => e = .returned (.bool (verS H pk msg h wd q cc ps bs)) ∧ Below w0.heap.size w0 w' := by
  unfold verS
  by_cases h1 : PubOK pk
  · by_cases h2 : hOf (num4 pk) = h
    · by_cases h3 : wOf (num4 (pk.drop 4)) = wd
      · rw [if_pos ⟨h1, h2, h3⟩]
        exact ver_yes C w0 hr xk xm xc xp xb xw pk msg cc ps bs hk hm hc hps hb hxw lk h1 h wd q h2 h3 hh1 hh6 hw hq lc lps lb lm
      · rw [if_neg (fun e => h3 e.2.2)]
        exact ver_width C w0 hr xk xm xc xp xb xw pk msg cc ps bs hk hm hc hps hb hxw lk h1 h wd q h2 h3 _ _ _
    · rw [if_neg (fun e => h2 e.2.1)]
      exact ver_height C w0 hr xk xm xc xp xb xw pk msg cc ps bs hk hm hc hps hb hxw lk h1 h wd q h2 _ _ _
  · rw [if_neg (fun e => h1 e.1)]
    exact ver_no C w0 hr xk xm xc xp xb xw pk msg cc ps bs hk hm hc hps hb hxw lk h1 h wd q _ _ _
end
end Go.Proofs.YtlhjifdahagkaaaDoor
/-
  The walk of the landed reader.storey.
-/
namespace Go.Proofs.YtlhjifdahagkaaaDoor
open Go.RowKit
theorem zero10 : ∀ (j : Nat) (v : Value), (#[.int .i64 0, .int .i64 0, .int .i64 0, .int .i64 0, .int .i64 0, .int .i64 0, .slice none 0 0, .slice none 0 0, .slice none 0 0, .slice none 0 0] : Array Value)[j]? = some v → ∀ z, v ≠ .int .u8 z := fun j v h z => by
  match j, h with
  | 0, h => cases h; simp
  | 1, h => cases h; simp
  | 2, h => cases h; simp
  | 3, h => cases h; simp
  | 4, h => cases h; simp
  | 5, h => cases h; simp
  | 6, h => cases h; simp
  | 7, h => cases h; simp
  | 8, h => cases h; simp
  | 9, h => cases h; simp
  | j + 10, h => cases h
theorem row10_set {w : World} {g : Nat} {a0 a1 a2 a3 a4 a5 a6 a7 a8 a9 : Value} {t : TypeId} (h : w.heap[g]? = some (.cells #[a0, a1, a2, a3, a4, a5, a6, a7, a8, a9] t (0, 0))) (b0 b1 b2 b3 b4 b5 b6 b7 b8 b9 : Value) :
    (((((((((((w).setCell ⟨g, 0, none⟩ (b0)).setCell ⟨g, 1, none⟩ (b1)).setCell ⟨g, 2, none⟩ (b2)).setCell ⟨g, 3, none⟩ (b3)).setCell ⟨g, 4, none⟩ (b4)).setCell ⟨g, 5, none⟩ (b5)).setCell ⟨g, 6, none⟩ (b6)).setCell ⟨g, 7, none⟩ (b7)).setCell ⟨g, 8, none⟩ (b8)).setCell ⟨g, 9, none⟩ (b9)).heap[g]? = some (.cells #[b0, b1, b2, b3, b4, b5, b6, b7, b8, b9] t (0, 0)) := by
  have h0 := heap_setCell_same w g 0 _ t b0 h
  have h1 := heap_setCell_same _ g 1 _ t b1 h0
  have h2 := heap_setCell_same _ g 2 _ t b2 h1
  have h3 := heap_setCell_same _ g 3 _ t b3 h2
  have h4 := heap_setCell_same _ g 4 _ t b4 h3
  have h5 := heap_setCell_same _ g 5 _ t b5 h4
  have h6 := heap_setCell_same _ g 6 _ t b6 h5
  have h7 := heap_setCell_same _ g 7 _ t b7 h6
  have h8 := heap_setCell_same _ g 8 _ t b8 h7
  have h9 := heap_setCell_same _ g 9 _ t b9 h8
  rw [h9]
  simp only [List.setIfInBounds_toArray, List.set_cons_zero, List.set_cons_succ]
theorem grown10 (w : World) (g : Nat) (b0 b1 b2 b3 b4 b5 b6 b7 b8 b9 : Value) : w.grownBy (((((((((((w).setCell ⟨g, 0, none⟩ (b0)).setCell ⟨g, 1, none⟩ (b1)).setCell ⟨g, 2, none⟩ (b2)).setCell ⟨g, 3, none⟩ (b3)).setCell ⟨g, 4, none⟩ (b4)).setCell ⟨g, 5, none⟩ (b5)).setCell ⟨g, 6, none⟩ (b6)).setCell ⟨g, 7, none⟩ (b7)).setCell ⟨g, 8, none⟩ (b8)).setCell ⟨g, 9, none⟩ (b9)) (some g) := by
  repeat' refine grown_setCell ?_ _ _ rfl
  exact World.grownBy.refl _ _
/-- What a storey is read of. -/
structure Sto (r : Rd) (q v : Nat) (r1 r2 : Rd) : Prop where
  e1 : numB (tk r 4) = q
  q1 : tkR r 4 = r1
  e2 : numB (tk r1 4) = v
  q2 : tkR r1 4 = r2
set_option maxRecDepth 100000 in
set_option maxHeartbeats 4000000 in
theorem storey_a (w0 : World) (hW : WidAt w0) (g : Nat) (hg : 0 ≠ g) (r r1 r2 : Rd) (q v : Nat) (hr : RdAt w0 g r) (hl : r.l.length ≤ 100000) (S : Sto r q v r1 r2) (hv : wOf v = 0) :
    Calls Tryd.prog 64 #[.pointer (some ⟨g, 0, none⟩)] w0 fun e w' => e = .returned (.tuple #[.agg #[.int .i64 0, .int .i64 0, .int .i64 0, .int .i64 0, .int .i64 0, .int .i64 0, .slice none 0 0, .slice none 0 0, .slice none 0 0, .slice none 0 0], .bool false]) ∧ RdAt w' g r2 ∧ w0.grownBy w' (some g) := by
  obtain ⟨e1, q1, e2, q2⟩ := S
  have hl1 : r1.l.length ≤ 100000 := by rw [← q1]; exact Nat.le_trans (len_tkR _ _) hl
  have hl2 : r2.l.length ≤ 100000 := by rw [← q2]; exact Nat.le_trans (len_tkR _ _) hl1
  have hbA : Below w0.heap.size w0 (w0.alloc (.cells #[.int .i64 0, .int .i64 0, .int .i64 0, .int .i64 0, .int .i64 0, .int .i64 0, .slice none 0 0, .slice none 0 0, .slice none 0 0, .slice none 0 0] 79)) := (Below.refl _ _).alloc (Nat.le_refl _) _
  have hZ := heap_alloc_new w0 (.cells #[.int .i64 0, .int .i64 0, .int .i64 0, .int .i64 0, .int .i64 0, .int .i64 0, .slice none 0 0, .slice none 0 0, .slice none 0 0, .slice none 0 0] 79)
  obtain ⟨wA, hwA⟩ : ∃ wA, w0.alloc (.cells #[.int .i64 0, .int .i64 0, .int .i64 0, .int .i64 0, .int .i64 0, .int .i64 0, .slice none 0 0, .slice none 0 0, .slice none 0 0, .slice none 0 0] 79) = wA := ⟨_, rfl⟩
  rw [hwA] at hbA hZ
  have hne0 : w0.heap.size ≠ g := by have := hr.lt; omega
  have hWA := wid4 w0 hW wA hbA
  have hGA : w0.grownBy wA (some g) := grown_below (World.grownBy.refl _ _) hbA
  have Hn1 := hide (rdnum_c wA g r (hr.below hbA) hl)
  rw [e1, q1] at Hn1
  have HZA := hide hZ
  have HWA := hide hWA
  have HGA := hide hGA
  have Hv := hide hv
  have He2 := hide (And.intro e2 q2)
  clear hr hbA hZ hWA hGA hW e1 q1 e2 q2 hv
  go_enter Tryd.func64, Tryd.ntmps64
  go_wp2_with fail
  refine (unhide Hn1).mono ?_
  rintro e w1 ⟨rfl, hR1, hG1⟩
  have Hn2 := hide (rdnum_c w1 g r1 hR1 hl1)
  rw [(unhide He2).1, (unhide He2).2] at Hn2
  have HG1 := hide (grown_trans (unhide HGA) hG1)
  have HZ1 := hide ((hG1.block _ (Array.getElem?_eq_some_iff.1 (unhide HZA)).1 (by simpa using hne0)).trans (unhide HZA))
  have HW1 := hide (wid_grown (unhide HWA) hG1 hg)
  clear hR1 hG1 hwA Hn1
  go_wp2_with fail
  refine (unhide Hn2).mono ?_
  rintro e w2 ⟨rfl, hR2, hG2⟩
  have HR2 := hide hR2
  have HG2 := hide (grown_trans (unhide HG1) hG2)
  have HZ2 := hide ((hG2.block _ (Array.getElem?_eq_some_iff.1 (unhide HZ1)).1 (by simpa using hne0)).trans (unhide HZ1))
  have HW2 := hide (wid_grown (unhide HW1) hG2 hg)
  clear hR2 hG2 Hn2
  go_wp2_with fail
  refine (wkind_no w2 (unhide HW2) v (unhide Hv)).mono ?_
  rintro e w3 ⟨rfl, hb3⟩
  have HR3 := hide ((unhide HR2).below hb3)
  have HG3 := hide (grown_below (unhide HG2) hb3)
  have hZ3 := (hb3.block _ (Array.getElem?_eq_some_iff.1 (unhide HZ2)).1).trans (unhide HZ2)
  have z0 : w3.cell? ⟨w0.heap.size, 0, none⟩ = some (.int .i64 0) := cell_of_row _ w0.heap.size 0 _ 79 (0, 0) hZ3
  have z1 : w3.cell? ⟨w0.heap.size, 1, none⟩ = some (.int .i64 0) := cell_of_row _ w0.heap.size 1 _ 79 (0, 0) hZ3
  have z2 : w3.cell? ⟨w0.heap.size, 2, none⟩ = some (.int .i64 0) := cell_of_row _ w0.heap.size 2 _ 79 (0, 0) hZ3
  have z3 : w3.cell? ⟨w0.heap.size, 3, none⟩ = some (.int .i64 0) := cell_of_row _ w0.heap.size 3 _ 79 (0, 0) hZ3
  have z4 : w3.cell? ⟨w0.heap.size, 4, none⟩ = some (.int .i64 0) := cell_of_row _ w0.heap.size 4 _ 79 (0, 0) hZ3
  have z5 : w3.cell? ⟨w0.heap.size, 5, none⟩ = some (.int .i64 0) := cell_of_row _ w0.heap.size 5 _ 79 (0, 0) hZ3
  have z6 : w3.cell? ⟨w0.heap.size, 6, none⟩ = some (.slice none 0 0) := cell_of_row _ w0.heap.size 6 _ 79 (0, 0) hZ3
  have z7 : w3.cell? ⟨w0.heap.size, 7, none⟩ = some (.slice none 0 0) := cell_of_row _ w0.heap.size 7 _ 79 (0, 0) hZ3
  have z8 : w3.cell? ⟨w0.heap.size, 8, none⟩ = some (.slice none 0 0) := cell_of_row _ w0.heap.size 8 _ 79 (0, 0) hZ3
  have z9 : w3.cell? ⟨w0.heap.size, 9, none⟩ = some (.slice none 0 0) := cell_of_row _ w0.heap.size 9 _ 79 (0, 0) hZ3
  have fz := fun j => AggAt.fz hZ3 j
  have hlt3 : w0.heap.size < w3.heap.size := (Array.getElem?_eq_some_iff.1 hZ3).1
  have HX := hide (grown10 w3 w0.heap.size (.int .i64 0) (.int .i64 0) (.int .i64 0) (.int .i64 0) (.int .i64 0) (.int .i64 0) (.slice none 0 0) (.slice none 0 0) (.slice none 0 0) (.slice none 0 0))
  have HF0 : Hid (RdAt (((((((((((w3).setCell ⟨w0.heap.size, 0, none⟩ (.int .i64 0)).setCell ⟨w0.heap.size, 1, none⟩ (.int .i64 0)).setCell ⟨w0.heap.size, 2, none⟩ (.int .i64 0)).setCell ⟨w0.heap.size, 3, none⟩ (.int .i64 0)).setCell ⟨w0.heap.size, 4, none⟩ (.int .i64 0)).setCell ⟨w0.heap.size, 5, none⟩ (.int .i64 0)).setCell ⟨w0.heap.size, 6, none⟩ (.slice none 0 0)).setCell ⟨w0.heap.size, 7, none⟩ (.slice none 0 0)).setCell ⟨w0.heap.size, 8, none⟩ (.slice none 0 0)).setCell ⟨w0.heap.size, 9, none⟩ (.slice none 0 0)) g r2) := by
    show RdAt _ _ _
    obtain ⟨sr, nr, cr, hh1, hh2⟩ := unhide HR3
    exact ⟨sr, nr, cr, ((unhide HX).block g (Array.getElem?_eq_some_iff.1 hh1).1 (by simpa using hne0.symm)).trans hh1, hh2.keep (unhide HX) (fun hl => agg_apart hZ3 zero10 hh2 hl)⟩
  have HF1 : Hid (RdAt ((((((((((((w3).setCell ⟨w0.heap.size, 0, none⟩ (.int .i64 0)).setCell ⟨w0.heap.size, 1, none⟩ (.int .i64 0)).setCell ⟨w0.heap.size, 2, none⟩ (.int .i64 0)).setCell ⟨w0.heap.size, 3, none⟩ (.int .i64 0)).setCell ⟨w0.heap.size, 4, none⟩ (.int .i64 0)).setCell ⟨w0.heap.size, 5, none⟩ (.int .i64 0)).setCell ⟨w0.heap.size, 6, none⟩ (.slice none 0 0)).setCell ⟨w0.heap.size, 7, none⟩ (.slice none 0 0)).setCell ⟨w0.heap.size, 8, none⟩ (.slice none 0 0)).setCell ⟨w0.heap.size, 9, none⟩ (.slice none 0 0)).alloc (.cells #[.int .i64 0, .int .i64 0, .int .i64 0, .int .i64 0] 52)) g r2) := hide ((unhide HF0).below ((Below.refl _ _).alloc (Nat.le_refl _) _))
  have HF2 : Hid (w0.grownBy ((((((((((((w3).setCell ⟨w0.heap.size, 0, none⟩ (.int .i64 0)).setCell ⟨w0.heap.size, 1, none⟩ (.int .i64 0)).setCell ⟨w0.heap.size, 2, none⟩ (.int .i64 0)).setCell ⟨w0.heap.size, 3, none⟩ (.int .i64 0)).setCell ⟨w0.heap.size, 4, none⟩ (.int .i64 0)).setCell ⟨w0.heap.size, 5, none⟩ (.int .i64 0)).setCell ⟨w0.heap.size, 6, none⟩ (.slice none 0 0)).setCell ⟨w0.heap.size, 7, none⟩ (.slice none 0 0)).setCell ⟨w0.heap.size, 8, none⟩ (.slice none 0 0)).setCell ⟨w0.heap.size, 9, none⟩ (.slice none 0 0)).alloc (.cells #[.int .i64 0, .int .i64 0, .int .i64 0, .int .i64 0] 52)) (some g)) := by
    show World.grownBy _ _ _
    have h1 := unhide HG3
    have h2 := grown_alloc (unhide HX) (.cells #[.int .i64 0, .int .i64 0, .int .i64 0, .int .i64 0] 52)
    exact ⟨h2.os.trans h1.os, h2.tape.trans h1.tape, h2.output.trans h1.output, Nat.le_trans h1.size h2.size, fun i hi hne => (h2.block i (Nat.lt_of_lt_of_le hi h1.size) (by simp; omega)).trans (h1.block i hi hne)⟩
  clear hb3 hZ3
  go_wp2
  exact bodyPost_ret (v := .tuple #[.agg #[.int .i64 0, .int .i64 0, .int .i64 0, .int .i64 0, .int .i64 0, .int .i64 0, .slice none 0 0, .slice none 0 0, .slice none 0 0, .slice none 0 0], .bool false]) (by simp [results, Tryd.results64, go_sem, z0, z1, z2, z3, z4, z5, z6, z7, z8, z9, hlt3]) rfl ⟨rfl, unhide HF1, unhide HF2⟩
end Go.Proofs.YtlhjifdahagkaaaDoor
/-
  The walk of the landed reader.storey, onwards.
-/
namespace Go.Proofs.YtlhjifdahagkaaaDoor
open Go.RowKit
set_option maxRecDepth 100000 in
set_option maxHeartbeats 8000000 in
theorem storey_b (w0 : World) (hW : WidAt w0) (g : Nat) (hg : 0 ≠ g) (r r1 r2 r3 r4 r5 : Rd) (q v wd hvv : Nat) (hr : RdAt w0 g r) (hl : r.l.length ≤ 100000) (S : Sto r q v r1 r2) (hv : wOf v = wd ∧ 0 < wd) (Q : tkR r2 32 = r3 ∧ tkR r3 (32 * pW wd) = r4) (Q5 : numB (tk r4 4) = hvv ∧ tkR r4 4 = r5) (hh : hOf hvv = 0) :
    Calls Tryd.prog 64 #[.pointer (some ⟨g, 0, none⟩)] w0 fun e w' => e = .returned (.tuple #[.agg #[.int .i64 0, .int .i64 0, .int .i64 0, .int .i64 0, .int .i64 0, .int .i64 0, .slice none 0 0, .slice none 0 0, .slice none 0 0, .slice none 0 0], .bool false]) ∧ RdAt w' g r5 ∧ w0.grownBy w' (some g) := by
  have hW4 : IsW wd := (wkind_yes w0 hW v wd hv.1 hv.2).1
  have hp2 := p_w hW4
  have hl3 : r3.l.length ≤ 100000 := by rw [← Q.1, ← S.q2, ← S.q1]; exact Nat.le_trans (len_tkR _ _) (Nat.le_trans (len_tkR _ _) (Nat.le_trans (len_tkR _ _) hl))
  have hl4 : r4.l.length ≤ 100000 := by rw [← Q.2]; exact Nat.le_trans (len_tkR _ _) hl3
  obtain ⟨t, Htt⟩ : ∃ t : Int, Hid ((tyW wd : Int) = t) := ⟨_, rfl⟩
  obtain ⟨p, hpe⟩ : ∃ p, pW wd = p := ⟨_, rfl⟩
  obtain ⟨s, Hss⟩ : ∃ s : Int, Hid ((lsW wd : Int) = s) := ⟨_, rfl⟩
  rw [hpe] at Q hp2
  obtain ⟨pp, hppe⟩ : ∃ pp, 32 * p = pp := ⟨_, rfl⟩
  rw [hppe] at Q
  have Hpp := hide hpe
  have Hq := hide Q
  have Hq5 := hide Q5
  have hppi : (32 : Int) * (p : Int) = (pp : Int) := by omega
  have ppw : IntKind.i64.wrap (pp : Int) = (pp : Int) := IntWalk.i64_in _ (by omega)
  have pb : (p : Int) ≤ 265 := by omega
  clear hpe Q Q5 hW4
  obtain ⟨e1, q1, e2, q2⟩ := S
  have hl1 : r1.l.length ≤ 100000 := by rw [← q1]; exact Nat.le_trans (len_tkR _ _) hl
  have hl2 : r2.l.length ≤ 100000 := by rw [← q2]; exact Nat.le_trans (len_tkR _ _) hl1
  have hbA : Below w0.heap.size w0 (w0.alloc (.cells #[.int .i64 0, .int .i64 0, .int .i64 0, .int .i64 0, .int .i64 0, .int .i64 0, .slice none 0 0, .slice none 0 0, .slice none 0 0, .slice none 0 0] 79)) := (Below.refl _ _).alloc (Nat.le_refl _) _
  have hZ := heap_alloc_new w0 (.cells #[.int .i64 0, .int .i64 0, .int .i64 0, .int .i64 0, .int .i64 0, .int .i64 0, .slice none 0 0, .slice none 0 0, .slice none 0 0, .slice none 0 0] 79)
  obtain ⟨wA, hwA⟩ : ∃ wA, w0.alloc (.cells #[.int .i64 0, .int .i64 0, .int .i64 0, .int .i64 0, .int .i64 0, .int .i64 0, .slice none 0 0, .slice none 0 0, .slice none 0 0, .slice none 0 0] 79) = wA := ⟨_, rfl⟩
  rw [hwA] at hbA hZ
  have hne0 : w0.heap.size ≠ g := by have := hr.lt; omega
  have hWA := wid4 w0 hW wA hbA
  have hGA : w0.grownBy wA (some g) := grown_below (World.grownBy.refl _ _) hbA
  have Hn1 := hide (rdnum_c wA g r (hr.below hbA) hl)
  rw [e1, q1] at Hn1
  have HZA := hide hZ
  have HWA := hide hWA
  have HGA := hide hGA
  have Hv := hide hv
  have He2 := hide (And.intro e2 q2)
  clear hr hbA hZ hWA hGA hW e1 q1 e2 q2 hv
  go_enter Tryd.func64, Tryd.ntmps64
  go_wp2_with fail
  refine (unhide Hn1).mono ?_
  rintro e w1 ⟨rfl, hR1, hG1⟩
  have Hn2 := hide (rdnum_c w1 g r1 hR1 hl1)
  rw [(unhide He2).1, (unhide He2).2] at Hn2
  have HG1 := hide (grown_trans (unhide HGA) hG1)
  have HZ1 := hide ((hG1.block _ (Array.getElem?_eq_some_iff.1 (unhide HZA)).1 (by simpa using hne0)).trans (unhide HZA))
  have HW1 := hide (wid_grown (unhide HWA) hG1 hg)
  clear hR1 hG1 hwA Hn1
  go_wp2_with fail
  refine (unhide Hn2).mono ?_
  rintro e w2 ⟨rfl, hR2, hG2⟩
  have HR2 := hide hR2
  have HG2 := hide (grown_trans (unhide HG1) hG2)
  have HZ2 := hide ((hG2.block _ (Array.getElem?_eq_some_iff.1 (unhide HZ1)).1 (by simpa using hne0)).trans (unhide HZ1))
  have HW2 := hide (wid_grown (unhide HW1) hG2 hg)
  clear hR2 hG2 Hn2
  go_wp2_with fail
  refine ((wkind_yes w2 (unhide HW2) v wd (unhide Hv).1 (unhide Hv).2).2).mono ?_
  rw [unhide Htt, unhide Hpp, unhide Hss]
  rintro e w3 ⟨rfl, hb3⟩
  have hb4 : Below w3.heap.size w3 (w3.alloc (.cells #[.int .i64 (wd : Int), .int .i64 t, .int .i64 (p : Int), .int .i64 s] 52)) := (Below.refl _ _).alloc (Nat.le_refl _) _
  have hK4 := agg_new w3 [.int .i64 (wd : Int), .int .i64 t, .int .i64 (p : Int), .int .i64 s] 52
  obtain ⟨w4, hw4⟩ : ∃ w4, w3.alloc (.cells #[.int .i64 (wd : Int), .int .i64 t, .int .i64 (p : Int), .int .i64 s] 52) = w4 := ⟨_, rfl⟩
  rw [hw4] at hb4 hK4
  have hb24 := hb3.trans (hb4.mono hb3.size)
  have HR4 := hide ((unhide HR2).below hb24)
  have HG4 := hide (grown_below (unhide HG2) hb24)
  have HZ4 := hide ((hb24.block _ (Array.getElem?_eq_some_iff.1 (unhide HZ2)).1).trans (unhide HZ2))
  obtain ⟨K4, hK4e⟩ : ∃ K4, w3.heap.size = K4 := ⟨_, rfl⟩
  rw [hK4e] at hK4
  have hneK : K4 ≠ g := by have h1 := (unhide HR2).lt; have h2 := hb3.size; omega
  have hneA : K4 ≠ w0.heap.size := by have h1 := (Array.getElem?_eq_some_iff.1 (unhide HZ2)).1; have h2 := hb3.size; omega
  have HK4 := hide hK4
  have k2 := hK4.c 2 _ rfl
  have HR4d := hide ((unhide HR4).below (Below.refl _ _).drew)
  have HGd : Hid (w4.grownBy w4.drew (some g)) := hide (World.grownBy.refl w4 (some g)).drew
  clear hb3 hb4 hK4 hb24
  go_wp2
  go_region_held3 (fun w' => w'.cell? ⟨K4, 2, none⟩ = some (.int .i64 (p : Int))) (go_keep)
    ((first
      | (go_at_call_of 63 (Value.int IntKind.i64 32); refine (take_c _ g r2 32 (unhide HR4d) hl2).mono ?_; rintro e w5 ⟨v5, rfl, hV5, hR5, hG5⟩; obtain ⟨s3, n3, c3, rfl⟩ := hV5.forms; have HV5 := hide hV5; have HR5 := hide hR5; have HG5 : Hid (w4.grownBy w5 (some g)) := hide (grown_trans (unhide HGd) hG5); have m2 := ((unhide HK4).grown (unhide HG5) hneK).c 2 _ rfl; clear hV5 hR5 hG5)
      | (go_at_call_of 63 (Value.int IntKind.i64 (pp : Int)); refine (take_c _ g (tkR r2 32) pp (unhide HR5) (by rw [(unhide Hq).1]; exact hl3)).mono ?_; rintro e w6 ⟨v6, rfl, hV6, hR6, hG6⟩; obtain ⟨s4, n4, c4, rfl⟩ := hV6.forms; have HV6 := hide hV6; have HR6 := hide hR6; have HV56 := hide ((unhide HR5).keep hG6 (unhide HV5)); have HG6 : Hid (w4.grownBy w6 (some g)) := hide (grown_trans (unhide HG5) hG6); have n2 := ((unhide HK4).grown (unhide HG6) hneK).c 2 _ rfl; clear hV6 hR6 hG6)))
  rw [(unhide Hq).1] at HV6 HR6
  rw [(unhide Hq).2] at HR6
  have Hn7 := hide (rdnum_c w6 g r4 (unhide HR6) hl4)
  rw [(unhide Hq5).1, (unhide Hq5).2] at Hn7
  clear m2 n2 k2 HR4d HGd
  go_wp2_with fail
  refine (unhide Hn7).mono ?_
  rintro e w7 ⟨rfl, hR7, hG7⟩
  have HR7 := hide hR7
  have HV57 := hide ((unhide HR6).keep hG7 (unhide HV56))
  have HV67 := hide ((unhide HR6).keep hG7 (unhide HV6))
  have HG7' := hide (grown_trans (unhide HG6) hG7)
  have HG7 := hide (grown_trans (unhide HG4) (unhide HG7'))
  have HZ7 := hide (((unhide HG7').block _ (Array.getElem?_eq_some_iff.1 (unhide HZ4)).1 (by simpa using hne0)).trans (unhide HZ4))
  have HK7 := hide ((unhide HK4).grown (unhide HG7') hneK)
  clear hR7 hG7 Hn7
  go_wp2_with fail
  refine (hkind_no w7 hvv hh).mono ?_
  rintro e w7' ⟨rfl, hw7⟩
  replace hw7 := hw7.symm
  subst hw7
  have hZ7 := unhide HZ7
  have z0 : w7.cell? ⟨w0.heap.size, 0, none⟩ = some (.int .i64 0) := cell_of_row _ w0.heap.size 0 _ 79 (0, 0) hZ7
  have z1 : w7.cell? ⟨w0.heap.size, 1, none⟩ = some (.int .i64 0) := cell_of_row _ w0.heap.size 1 _ 79 (0, 0) hZ7
  have z2 : w7.cell? ⟨w0.heap.size, 2, none⟩ = some (.int .i64 0) := cell_of_row _ w0.heap.size 2 _ 79 (0, 0) hZ7
  have z3 : w7.cell? ⟨w0.heap.size, 3, none⟩ = some (.int .i64 0) := cell_of_row _ w0.heap.size 3 _ 79 (0, 0) hZ7
  have z4 : w7.cell? ⟨w0.heap.size, 4, none⟩ = some (.int .i64 0) := cell_of_row _ w0.heap.size 4 _ 79 (0, 0) hZ7
  have z5 : w7.cell? ⟨w0.heap.size, 5, none⟩ = some (.int .i64 0) := cell_of_row _ w0.heap.size 5 _ 79 (0, 0) hZ7
  have z6 : w7.cell? ⟨w0.heap.size, 6, none⟩ = some (.slice none 0 0) := cell_of_row _ w0.heap.size 6 _ 79 (0, 0) hZ7
  have z7 : w7.cell? ⟨w0.heap.size, 7, none⟩ = some (.slice none 0 0) := cell_of_row _ w0.heap.size 7 _ 79 (0, 0) hZ7
  have z8 : w7.cell? ⟨w0.heap.size, 8, none⟩ = some (.slice none 0 0) := cell_of_row _ w0.heap.size 8 _ 79 (0, 0) hZ7
  have z9 : w7.cell? ⟨w0.heap.size, 9, none⟩ = some (.slice none 0 0) := cell_of_row _ w0.heap.size 9 _ 79 (0, 0) hZ7
  have fz := fun j => AggAt.fz hZ7 j
  have HX := hide (grown10 w7 w0.heap.size (.int .i64 0) (.int .i64 0) (.int .i64 0) (.int .i64 0) (.int .i64 0) (.int .i64 0) (.slice none 0 0) (.slice none 0 0) (.slice none 0 0) (.slice none 0 0))
  have HF1 : Hid (RdAt (((((((((((w7).setCell ⟨w0.heap.size, 0, none⟩ (.int .i64 0)).setCell ⟨w0.heap.size, 1, none⟩ (.int .i64 0)).setCell ⟨w0.heap.size, 2, none⟩ (.int .i64 0)).setCell ⟨w0.heap.size, 3, none⟩ (.int .i64 0)).setCell ⟨w0.heap.size, 4, none⟩ (.int .i64 0)).setCell ⟨w0.heap.size, 5, none⟩ (.int .i64 0)).setCell ⟨w0.heap.size, 6, none⟩ (.slice none 0 0)).setCell ⟨w0.heap.size, 7, none⟩ (.slice none 0 0)).setCell ⟨w0.heap.size, 8, none⟩ (.slice none 0 0)).setCell ⟨w0.heap.size, 9, none⟩ (.slice none 0 0)) g r5) := by
    show RdAt _ _ _
    obtain ⟨sr, nr, cr, hh1, hh2⟩ := unhide HR7
    exact ⟨sr, nr, cr, ((unhide HX).block g (Array.getElem?_eq_some_iff.1 hh1).1 (by simpa using hne0.symm)).trans hh1, hh2.keep (unhide HX) (fun hl => agg_apart hZ7 zero10 hh2 hl)⟩
  have HF2 : Hid (w0.grownBy (((((((((((w7).setCell ⟨w0.heap.size, 0, none⟩ (.int .i64 0)).setCell ⟨w0.heap.size, 1, none⟩ (.int .i64 0)).setCell ⟨w0.heap.size, 2, none⟩ (.int .i64 0)).setCell ⟨w0.heap.size, 3, none⟩ (.int .i64 0)).setCell ⟨w0.heap.size, 4, none⟩ (.int .i64 0)).setCell ⟨w0.heap.size, 5, none⟩ (.int .i64 0)).setCell ⟨w0.heap.size, 6, none⟩ (.slice none 0 0)).setCell ⟨w0.heap.size, 7, none⟩ (.slice none 0 0)).setCell ⟨w0.heap.size, 8, none⟩ (.slice none 0 0)).setCell ⟨w0.heap.size, 9, none⟩ (.slice none 0 0)) (some g)) := by
    show World.grownBy _ _ _
    have h1 := unhide HG7
    have h2 := unhide HX
    exact ⟨h2.os.trans h1.os, h2.tape.trans h1.tape, h2.output.trans h1.output, Nat.le_trans h1.size h2.size, fun i hi hne => (h2.block i (Nat.lt_of_lt_of_le hi h1.size) (by simp; omega)).trans (h1.block i hi hne)⟩
  clear hZ7
  go_wp2
  exact bodyPost_ret (v := .tuple #[.agg #[.int .i64 0, .int .i64 0, .int .i64 0, .int .i64 0, .int .i64 0, .int .i64 0, .slice none 0 0, .slice none 0 0, .slice none 0 0, .slice none 0 0], .bool false]) (by simp [results, Tryd.results64, go_sem, z0, z1, z2, z3, z4, z5, z6, z7, z8, z9]) rfl ⟨rfl, unhide HF1, unhide HF2⟩
end Go.Proofs.YtlhjifdahagkaaaDoor
