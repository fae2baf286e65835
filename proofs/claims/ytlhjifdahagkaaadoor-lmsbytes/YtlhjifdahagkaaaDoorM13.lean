/-
  The walks of the landed Count and Public.
-/
import Derived.Test.YtlhjifdahagkaaaDoorM12
import Derived.Test.YtlhjifdahagkaaaDoorM08
namespace Go.Proofs.YtlhjifdahagkaaaDoor
open Go.RowKit
set_option maxRecDepth 100000 in
set_option maxHeartbeats 2000000 in
theorem count_c {R : World → Prop} {H : Bs → Bs} (C : CHash R H) (w0 : World) (L h wd : Nat) (xi xs : Value) (id seed : Bs) (hR : R w0) (hi : BytesAt w0 xi id) (hs : BytesAt w0 xs seed) (hr : RightP (L : Int) (h : Int) (wd : Int) id seed) :
    Calls Tryd.prog 15 #[keyV (L : Int) (h : Int) (wd : Int) xi xs] w0 fun e w' => e = .returned (.int .i64 ((2 ^ (h * L) : Nat) : Int)) ∧ Below w0.heap.size w0 w' := by
  have HFy := fun w hw h1 h2 => first_yes w hw L h wd xi xs id seed h1 h2 hr
  obtain ⟨si, ni, ci, rfl⟩ := hi.forms
  obtain ⟨ss, ns, cs, rfl⟩ := hs.forms
  have hbA : Below w0.heap.size w0 (w0.alloc (.cells #[.int .i64 (L : Int), .int .i64 (h : Int), .int .i64 (wd : Int), .slice si ni ci, .slice ss ns cs] 28)) := (Below.refl _ _).alloc (Nat.le_refl _) _
  have hK := agg_new w0 [.int .i64 (L : Int), .int .i64 (h : Int), .int .i64 (wd : Int), .slice si ni ci, .slice ss ns cs] 28
  obtain ⟨wA, hwA⟩ : ∃ wA, w0.alloc (.cells #[.int .i64 (L : Int), .int .i64 (h : Int), .int .i64 (wd : Int), .slice si ni ci, .slice ss ns cs] 28) = wA := ⟨_, rfl⟩
  rw [hwA] at hbA hK
  have c0 := hK.c 0 _ rfl
  have c1 := hK.c 1 _ rfl
  have c2 := hK.c 2 _ rfl
  have c3 := hK.c 3 _ rfl
  have c4 := hK.c 4 _ rfl
  have HK := hide hK
  have HB := hide hbA
  have Hf := hide (HFy wA (C.wid _ (C.below _ _ hR hbA)) (hi.below hbA) (hs.below hbA))
  obtain ⟨_, r1, r2, r3, r4, _, _⟩ := hr
  obtain ⟨E, hE⟩ : ∃ E, h * L = E := ⟨_, rfl⟩
  have hEi : (h : Int) * (L : Int) = (E : Int) := by rw [← hE]; simp
  have hEb : E ≤ 18 := by rw [← hE]; exact Nat.mul_le_mul (show h ≤ 6 by omega) (show L ≤ 3 by omega)
  have eb : (E : Int) ≤ 18 := by omega
  have e0 : (0 : Int) ≤ (E : Int) := by omega
  obtain ⟨N, hN⟩ : ∃ N, 2 ^ E = N := ⟨_, rfl⟩
  have hNi : (2 : Int) ^ E = (N : Int) := by rw [← hN]; simp
  have hNb : N ≤ 262144 := by rw [← hN]; exact Nat.pow_le_pow_right (show 0 < 2 by omega) hEb
  have nb : (N : Int) ≤ 262144 := by omega
  rw [hE, hN]
  clear hi hs hbA hK hE hN HFy C
  unfold keyV
  go_enter Tryd.func15, Tryd.ntmps15
  go_wp2_with fail
  refine (unhide Hf).mono ?_
  rintro e w1 ⟨rfl, hb1⟩
  have HK1 := hide ((unhide HK).below hb1)
  have k0 := (unhide HK1).c 0 _ rfl
  have k1 := (unhide HK1).c 1 _ rfl
  have hlt := (unhide HK1).1
  have HBf := hide (fun o : Obj => ((unhide HB).trans (hb1.mono (unhide HB).size)).alloc (Nat.le_trans (unhide HB).size hb1.size) o)
  clear hb1 c0 c1 c2 c3 c4
  go_wp2
  go_ret
  exact ⟨rfl, unhide HBf _⟩
set_option maxRecDepth 100000 in
set_option maxHeartbeats 2000000 in
theorem nocount_c {R : World → Prop} {H : Bs → Bs} (C : CHash R H) (w0 : World) (L h wd : Int) (xi xs : Value) (id seed : Bs) (hR : R w0) (hi : BytesAt w0 xi id) (hs : BytesAt w0 xs seed) (hr : ¬ RightP L h wd id seed) :
    Calls Tryd.prog 15 #[keyV L h wd xi xs] w0 fun e w' => e = .returned (.int .i64 0) ∧ Below w0.heap.size w0 w' := by
  have HFn := fun w hw h1 h2 => first_no w hw L h wd xi xs id seed h1 h2 hr
  obtain ⟨si, ni, ci, rfl⟩ := hi.forms
  obtain ⟨ss, ns, cs, rfl⟩ := hs.forms
  have hbA : Below w0.heap.size w0 (w0.alloc (.cells #[.int .i64 L, .int .i64 h, .int .i64 wd, .slice si ni ci, .slice ss ns cs] 28)) := (Below.refl _ _).alloc (Nat.le_refl _) _
  have hK := agg_new w0 [.int .i64 L, .int .i64 h, .int .i64 wd, .slice si ni ci, .slice ss ns cs] 28
  obtain ⟨wA, hwA⟩ : ∃ wA, w0.alloc (.cells #[.int .i64 L, .int .i64 h, .int .i64 wd, .slice si ni ci, .slice ss ns cs] 28) = wA := ⟨_, rfl⟩
  rw [hwA] at hbA hK
  have c0 := hK.c 0 _ rfl
  have c1 := hK.c 1 _ rfl
  have c2 := hK.c 2 _ rfl
  have c3 := hK.c 3 _ rfl
  have c4 := hK.c 4 _ rfl
  have HK := hide hK
  have HB := hide hbA
  have Hf := hide (HFn wA (C.wid _ (C.below _ _ hR hbA)) (hi.below hbA) (hs.below hbA))
  clear hi hs hbA hK HFn C
  unfold keyV
  go_enter Tryd.func15, Tryd.ntmps15
  go_wp2_with fail
  refine (unhide Hf).mono ?_
  rintro e w1 ⟨rfl, hb1⟩
  have HBf := hide (fun o : Obj => ((unhide HB).trans (hb1.mono (unhide HB).size)).alloc (Nat.le_trans (unhide HB).size hb1.size) o)
  clear hb1 c0 c1 c2 c3 c4
  go_wp2
  go_ret
  exact ⟨rfl, unhide HBf _⟩
set_option maxRecDepth 100000 in
set_option maxHeartbeats 2000000 in
theorem nopublic_c {R : World → Prop} {H : Bs → Bs} (C : CHash R H) (w0 : World) (L h wd : Int) (xi xs : Value) (id seed : Bs) (hR : R w0) (hi : BytesAt w0 xi id) (hs : BytesAt w0 xs seed) (hr : ¬ RightP L h wd id seed) :
    FailsE w0 12 #[keyV L h wd xi xs] 11 := by
  have HFn := fun w hw h1 h2 => first_no w hw L h wd xi xs id seed h1 h2 hr
  obtain ⟨si, ni, ci, rfl⟩ := hi.forms
  obtain ⟨ss, ns, cs, rfl⟩ := hs.forms
  have hbA : Below w0.heap.size w0 (w0.alloc (.cells #[.int .i64 L, .int .i64 h, .int .i64 wd, .slice si ni ci, .slice ss ns cs] 28)) := (Below.refl _ _).alloc (Nat.le_refl _) _
  have hK := agg_new w0 [.int .i64 L, .int .i64 h, .int .i64 wd, .slice si ni ci, .slice ss ns cs] 28
  obtain ⟨wA, hwA⟩ : ∃ wA, w0.alloc (.cells #[.int .i64 L, .int .i64 h, .int .i64 wd, .slice si ni ci, .slice ss ns cs] 28) = wA := ⟨_, rfl⟩
  rw [hwA] at hbA hK
  have c0 := hK.c 0 _ rfl
  have c1 := hK.c 1 _ rfl
  have c2 := hK.c 2 _ rfl
  have c3 := hK.c 3 _ rfl
  have c4 := hK.c 4 _ rfl
  have HK := hide hK
  have HB := hide hbA
  have Hf := hide (HFn wA (C.wid _ (C.below _ _ hR hbA)) (hi.below hbA) (hs.below hbA))
  clear hi hs hbA hK HFn C
  unfold keyV
  go_enter Tryd.func12, Tryd.ntmps12
  go_wp2_with fail
  refine (unhide Hf).mono ?_
  rintro e w1 ⟨rfl, hb1⟩
  have HBf := hide (fun o : Obj => ((unhide HB).trans (hb1.mono (unhide HB).size)).alloc (Nat.le_trans (unhide HB).size hb1.size) o)
  clear hb1 c0 c1 c2 c3 c4
  go_wp2
  go_ret2
  exact ⟨_, rfl, bytes_nil _, unhide HBf _⟩
theorem tree_eq (H : Bs → Bs) (id seed : Bs) (h wd : Nat) : tree H id seed h wd = big (tyH h) 4 ++ big (tyW wd) 4 ++ id ++ nd H id seed h wd 1 := by rw [nd_root]; rfl
set_option maxRecDepth 100000 in
set_option maxHeartbeats 4000000 in
theorem public_c {R : World → Prop} {H : Bs → Bs} (C : CHash R H) (w0 : World) (L h wd : Nat) (xi xs : Value) (id seed : Bs) (hR : R w0) (hi : BytesAt w0 xi id) (hs : BytesAt w0 xs seed) (hr : RightP (L : Int) (h : Int) (wd : Int) id seed) :
    GivesE w0 12 #[keyV (L : Int) (h : Int) (wd : Int) xi xs] (publicOf H L h wd id seed) := by
  have HFy := fun w hw h1 h2 => first_yes w hw L h wd xi xs id seed h1 h2 hr
  obtain ⟨hw0, r1, r2, r3, r4, r5, r6⟩ := hr
  have hw : IsW wd := by unfold IsW; omega
  have HGr := fun w hr' h1 h2 (s : Int) => grow_c C w hr' h wd (by omega) (by omega) hw (tyW wd : Int) s xi xs id seed h1 h2 (by omega) (by omega)
  have hte := tree_eq H id seed h wd
  obtain ⟨t, ht⟩ : ∃ t, tyW wd = t := ⟨_, rfl⟩
  have htb : t ≤ 4 := by rw [← ht]; rcases hw with rfl | rfl | rfl | rfl <;> decide
  obtain ⟨p, hp⟩ : ∃ p, pW wd = p := ⟨_, rfl⟩
  obtain ⟨s, hls⟩ : ∃ s : Int, (lsW wd : Int) = s := ⟨_, rfl⟩
  rw [ht, hp, hls] at HFy
  rw [ht, hp] at HGr
  rw [ht] at hte
  have Hte : Hid (publicOf H L h wd id seed = big L 4 ++ (big (tyH h) 4 ++ big t 4 ++ id ++ nd H id seed h wd 1)) := by show _ = _; unfold publicOf; rw [hte]
  have hnl := len_nd H C.len id seed h wd 1
  have hpos : 1 < 2 * 2 ^ h := by have := Nat.pow_pos (n := h) (show 0 < 2 by omega); omega
  have hM : 2 * 2 ^ h ≤ 1000 := by
    have := Nat.pow_le_pow_right (show 0 < 2 by omega) (show h ≤ 6 by omega)
    omega
  obtain ⟨M, hMe⟩ : ∃ M, 2 * 2 ^ h = M := ⟨_, rfl⟩
  rw [hMe] at HGr hpos hM
  obtain ⟨si, ni, ci, rfl⟩ := hi.forms
  obtain ⟨ss, ns, cs, rfl⟩ := hs.forms
  have hbA : Below w0.heap.size w0 (w0.alloc (.cells #[.int .i64 (L : Int), .int .i64 (h : Int), .int .i64 (wd : Int), .slice si ni ci, .slice ss ns cs] 28)) := (Below.refl _ _).alloc (Nat.le_refl _) _
  have hK := agg_new w0 [.int .i64 (L : Int), .int .i64 (h : Int), .int .i64 (wd : Int), .slice si ni ci, .slice ss ns cs] 28
  obtain ⟨wA, hwA⟩ : ∃ wA, w0.alloc (.cells #[.int .i64 (L : Int), .int .i64 (h : Int), .int .i64 (wd : Int), .slice si ni ci, .slice ss ns cs] 28) = wA := ⟨_, rfl⟩
  rw [hwA] at hbA hK
  have c0 := hK.c 0 _ rfl
  have c1 := hK.c 1 _ rfl
  have c2 := hK.c 2 _ rfl
  have c3 := hK.c 3 _ rfl
  have c4 := hK.c 4 _ rfl
  have HK := hide hK
  have HB := hide hbA
  have Hf := hide (HFy wA (C.wid _ (C.below _ _ hR hbA)) (hi.below hbA) (hs.below hbA))
  have HX := hide (hi.below hbA)
  have HS := hide (hs.below hbA)
  have HR := hide (C.below _ _ hR hbA)
  have HC := hide C
  have HGh := hide HGr
  have Hl := hide (And.intro r5 r6)
  have Lb : (L : Int) ≤ 3 := by omega
  have hh6 : h ≤ 6 := by omega
  have Hnl := hide hnl
  clear hi hs hbA hK HFy C HGr hte hnl ht hp hls hMe hw0 hw r5 r6
  unfold keyV
  go_enter Tryd.func12, Tryd.ntmps12
  go_wp2_with fail
  refine (unhide Hf).mono ?_
  rintro e w1 ⟨rfl, hb1⟩
  have hbV : Below w1.heap.size w1 (w1.alloc (.cells #[.int .i64 (h : Int), .int .i64 (wd : Int), .int .i64 (t : Int), .int .i64 (p : Int), .int .i64 s, .slice si ni ci, .slice ss ns cs] 56)) := (Below.refl _ _).alloc (Nat.le_refl _) _
  have hKt := agg_new w1 [.int .i64 (h : Int), .int .i64 (wd : Int), .int .i64 (t : Int), .int .i64 (p : Int), .int .i64 s, .slice si ni ci, .slice ss ns cs] 56
  obtain ⟨wC, hwC⟩ : ∃ wC, w1.alloc (.cells #[.int .i64 (h : Int), .int .i64 (wd : Int), .int .i64 (t : Int), .int .i64 (p : Int), .int .i64 s, .slice si ni ci, .slice ss ns cs] 56) = wC := ⟨_, rfl⟩
  rw [hwC] at hbV hKt
  have hb2 : Below wA.heap.size wA wC := hb1.trans (hbV.mono hb1.size)
  have HW := hide hb2.drew
  have HKd := hide ((unhide HK).below hb2.drew)
  have HTd := hide (hKt.below (Below.refl _ _).drew)
  have hKc := (unhide HK).below hb2
  have k0 := hKc.c 0 _ rfl
  have g0 := hKt.c 0 _ rfl
  have g1 := hKt.c 1 _ rfl
  have g2 := hKt.c 2 _ rfl
  have g3 := hKt.c 3 _ rfl
  have g4 := hKt.c 4 _ rfl
  have g5 := hKt.c 5 _ rfl
  have g6 := hKt.c 6 _ rfl
  obtain ⟨Kt, hKte⟩ : ∃ Kt, w1.heap.size = Kt := ⟨_, rfl⟩
  rw [hKte] at HTd g0 g1 g2 g3 g4 g5 g6
  clear hb1 hbV hKt hb2 hKc c0 c1 c2 c3 c4 hwA
  go_wp2
  go_region_held3 (fun w' => w'.cell? ⟨w0.heap.size, 0, none⟩ = some (.int .i64 (L : Int)) ∧ w'.cell? ⟨Kt, 0, none⟩ = some (.int .i64 (h : Int)) ∧ w'.cell? ⟨Kt, 1, none⟩ = some (.int .i64 (wd : Int)) ∧ w'.cell? ⟨Kt, 2, none⟩ = some (.int .i64 (t : Int)) ∧ w'.cell? ⟨Kt, 3, none⟩ = some (.int .i64 (p : Int)) ∧ w'.cell? ⟨Kt, 4, none⟩ = some (.int .i64 s) ∧ w'.cell? ⟨Kt, 5, none⟩ = some (.slice si ni ci) ∧ w'.cell? ⟨Kt, 6, none⟩ = some (.slice ss ns cs)) (go_keep)
    ((first
      | (go_at_call 26; refine (four_any wC.drew L (by omega)).mono ?_; rintro ee w3 ⟨v3, rfl, hR3⟩; obtain ⟨s3, n3, c3', rfl⟩ := hR3.bytes.forms; have HV3 := hide hR3.bytes; have HW3 := hide ((unhide HW).trans (hR3.b.mono (unhide HW).size)); have HK3 := hide ((unhide HKd).below hR3.b); have HT3 := hide ((unhide HTd).below hR3.b); have m0 := (unhide HK3).c 0 _ rfl; have x0 := (unhide HT3).c 0 _ rfl; have x1 := (unhide HT3).c 1 _ rfl; have x2 := (unhide HT3).c 2 _ rfl; have x3 := (unhide HT3).c 3 _ rfl; have x4 := (unhide HT3).c 4 _ rfl; have x5 := (unhide HT3).c 5 _ rfl; have x6 := (unhide HT3).c 6 _ rfl; clear hR3)
      | (go_at_call 27; refine ((unhide HGh) w3 ((unhide HC).below _ _ (unhide HR) (unhide HW3)) ((unhide HX).below (unhide HW3)) ((unhide HS).below (unhide HW3)) s).mono ?_; rintro ee w4 ⟨B, rfl, hB4, hF4, hb4⟩; have HF4 := hide hF4; have HV34 := hide ((unhide HV3).below hb4); have HW4 := hide ((unhide HW3).trans (hb4.mono (unhide HW3).size)); have HK4 := hide ((unhide HK3).below hb4); have HT4 := hide ((unhide HT3).below hb4); have n0 := (unhide HK4).c 0 _ rfl; have y0 := (unhide HT4).c 0 _ rfl; have y1 := (unhide HT4).c 1 _ rfl; have y2 := (unhide HT4).c 2 _ rfl; have y3 := (unhide HT4).c 3 _ rfl; have y4 := (unhide HT4).c 4 _ rfl; have y5 := (unhide HT4).c 5 _ rfl; have y6 := (unhide HT4).c 6 _ rfl; obtain ⟨xr, cr4, br4⟩ := hF4.get 1 hpos _ rfl; have Hcr := hide cr4; have Hbr := hide br4; clear hb4 hF4 hB4 cr4 br4)
      | (go_at_call 28; refine (gpub_c w4 _ _ _ _ _ _ _ id seed _ B M M ((unhide HX).below (unhide HW4)) ((unhide HS).below (unhide HW4)) xr (unhide Hcr) (unhide Hbr) hpos hM).mono ?_; rintro ee w5 ⟨rfl, hb5⟩; have HV35 := hide ((unhide HV34).below hb5); have Hbr5 := hide ((unhide Hbr).below hb5); have HW5 := hide ((unhide HW4).trans (hb5.mono (unhide HW4).size)); have HK5 := hide ((unhide HK4).below hb5); have HT5 := hide ((unhide HT4).below hb5); have o0 := (unhide HK5).c 0 _ rfl; have z0 := (unhide HT5).c 0 _ rfl; have z1 := (unhide HT5).c 1 _ rfl; have z2 := (unhide HT5).c 2 _ rfl; have z3 := (unhide HT5).c 3 _ rfl; have z4 := (unhide HT5).c 4 _ rfl; have z5 := (unhide HT5).c 5 _ rfl; have z6 := (unhide HT5).c 6 _ rfl; clear hb5)
      | (go_at_call 29; refine (pbytes_c w5 h t hh6 htb _ _ _ _ _ id _ ((unhide HX).below (unhide HW5)) (unhide Hbr5) (by have := unhide Hl; omega) (by rw [unhide Hnl]; omega)).mono ?_; rintro ee w6 ⟨v6, rfl, hR6⟩; obtain ⟨s6, n6, c6', rfl⟩ := hR6.bytes.forms; have HW6 := hide ((unhide HW5).trans (hR6.b.mono (unhide HW5).size)); have HK6 := hide ((unhide HK5).below hR6.b); have HT6 := hide ((unhide HT5).below hR6.b); have HL6 := hide (ll_new2 w6 _ _ (big L 4) (big (tyH h) 4 ++ big t 4 ++ id ++ nd H id seed h wd 1) 24 ((unhide HV35).below hR6.b) hR6.bytes); have hbl := (Below.refl w6.heap.size w6).alloc (Nat.le_refl _) (.cells #[Value.slice s3 n3 c3', Value.slice s6 n6 c6'] 24); have HW7 := hide ((unhide HW6).trans (hbl.mono (unhide HW6).size)); have HK7 := hide ((unhide HK6).below hbl); have HT7 := hide ((unhide HT6).below hbl); have q0 := (unhide HK6).c 0 _ rfl; have f0 := (unhide HT6).c 0 _ rfl; have f1 := (unhide HT6).c 1 _ rfl; have f2 := (unhide HT6).c 2 _ rfl; have f3 := (unhide HT6).c 3 _ rfl; have f4 := (unhide HT6).c 4 _ rfl; have f5 := (unhide HT6).c 5 _ rfl; have f6 := (unhide HT6).c 6 _ rfl; clear hR6 hbl)
      | (go_at_call 25; refine (concat_any _ _ [big L 4, big (tyH h) 4 ++ big t 4 ++ id ++ nd H id seed h wd 1] (unhide HL6) (by have h1 := unhide Hl; have h2 := unhide Hnl; simp [len_big, h1.1, h2]) (by simp)).mono ?_; rintro ee w8 ⟨v8, rfl, hR8⟩; have HR8 := hide hR8; have HK8 := hide ((unhide HK7).below hR8.b); have HT8 := hide ((unhide HT7).below hR8.b); have u0 := (unhide HK8).c 0 _ rfl; have i0 := (unhide HT8).c 0 _ rfl; have i1 := (unhide HT8).c 1 _ rfl; have i2 := (unhide HT8).c 2 _ rfl; have i3 := (unhide HT8).c 3 _ rfl; have i4 := (unhide HT8).c 4 _ rfl; have i5 := (unhide HT8).c 5 _ rfl; have i6 := (unhide HT8).c 6 _ rfl; clear hR8)))
  have HFf : Hid (Row w0 w8 v8 (publicOf H L h wd id seed)) := by
    show Row _ _ _ _
    have h8 := unhide HR8
    have e1 : ([big L 4, big (tyH h) 4 ++ big t 4 ++ id ++ nd H id seed h wd 1] : List Bs).flatten = publicOf H L h wd id seed := by rw [unhide Hte]; simp
    rw [e1] at h8
    exact (h8.up (unhide HW7)).up (unhide HB)
  go_wp2
  go_ret2
  exact ⟨_, rfl, unhide HFf⟩
end Go.Proofs.YtlhjifdahagkaaaDoor
/-
  A row of eight cells that is written over; what lives on beside it.
-/
namespace Go.Proofs.YtlhjifdahagkaaaDoor
open Go.RowKit
theorem BytesAt.keep {w w' : World} {x : Value} {l : Bs} {g : Nat} (h : BytesAt w x l) (hG : w.grownBy w' (some g)) (hap : l ≠ [] → x.ownBlock ≠ some g) : BytesAt w' x l := by
  cases l with
  | nil =>
    obtain ⟨sp, c, rfl, h1, h2, _⟩ := h
    exact ⟨sp, c, rfl, h1, h2, fun h => absurd rfl h⟩
  | cons a l => exact ValsAt.grown h hG (hap (by simp))
theorem below_left_drew {a b : World} (h : Below a.drew.heap.size a.drew b) : Below a.heap.size a b := ⟨h.os, h.tape, h.output, h.size, h.block⟩
theorem row8_set {w : World} {g : Nat} {a0 a1 a2 a3 a4 a5 a6 a7 : Value} {t : TypeId} (h : w.heap[g]? = some (.cells #[a0, a1, a2, a3, a4, a5, a6, a7] t (0, 0))) (b0 b1 b2 b3 b4 b5 b6 b7 : Value) :
    ((((((((w.setCell ⟨g, 0, none⟩ b0).setCell ⟨g, 1, none⟩ b1).setCell ⟨g, 2, none⟩ b2).setCell ⟨g, 3, none⟩ b3).setCell ⟨g, 4, none⟩ b4).setCell ⟨g, 5, none⟩ b5).setCell ⟨g, 6, none⟩ b6).setCell ⟨g, 7, none⟩ b7).heap[g]? = some (.cells #[b0, b1, b2, b3, b4, b5, b6, b7] t (0, 0)) := by
  have h0 := heap_setCell_same w g 0 _ t b0 h
  have h1 := heap_setCell_same _ g 1 _ t b1 h0
  have h2 := heap_setCell_same _ g 2 _ t b2 h1
  have h3 := heap_setCell_same _ g 3 _ t b3 h2
  have h4 := heap_setCell_same _ g 4 _ t b4 h3
  have h5 := heap_setCell_same _ g 5 _ t b5 h4
  have h6 := heap_setCell_same _ g 6 _ t b6 h5
  have h7 := heap_setCell_same _ g 7 _ t b7 h6
  rw [h7]
  simp only [List.setIfInBounds_toArray, List.set_cons_zero, List.set_cons_succ]
theorem grown8 (w : World) (g : Nat) (b0 b1 b2 b3 b4 b5 b6 b7 : Value) : w.grownBy ((((((((w.setCell ⟨g, 0, none⟩ b0).setCell ⟨g, 1, none⟩ b1).setCell ⟨g, 2, none⟩ b2).setCell ⟨g, 3, none⟩ b3).setCell ⟨g, 4, none⟩ b4).setCell ⟨g, 5, none⟩ b5).setCell ⟨g, 6, none⟩ b6).setCell ⟨g, 7, none⟩ b7) (some g) := by
  repeat' refine grown_setCell ?_ _ _ rfl
  exact World.grownBy.refl _ _
/-- No byte among eight cells. -/
theorem noByte8 {a0 a1 a2 a3 a4 : Int} {s5 s6 s7 : Option Addr} {n5 n6 n7 c5 c6 c7 : Nat} : ∀ (j : Nat) (v : Value), (#[.int .i64 a0, .int .i64 a1, .int .i64 a2, .int .i64 a3, .int .i64 a4, .slice s5 n5 c5, .slice s6 n6 c6, .slice s7 n7 c7] : Array Value)[j]? = some v → ∀ z, v ≠ .int .u8 z := fun j v h z => by
  match j, h with
  | 0, h => cases h; simp
  | 1, h => cases h; simp
  | 2, h => cases h; simp
  | 3, h => cases h; simp
  | 4, h => cases h; simp
  | 5, h => cases h; simp
  | 6, h => cases h; simp
  | 7, h => cases h; simp
  | j + 8, h => cases h
theorem sign_step (H : Bs → Bs) (h w n lv : Nat) (msg id seed pre whole : Bs) (hw : pre ++ signFrom H h w n msg (lv + 1) id seed = whole) :
    (pre ++ oneSig H id seed h w (leafAt h n (lv + 1)) (tree H (subId H id seed (leafAt h n (lv + 1))) (subSeed H id seed (leafAt h n (lv + 1))) h w) ++ tree H (subId H id seed (leafAt h n (lv + 1))) (subSeed H id seed (leafAt h n (lv + 1))) h w) ++ signFrom H h w n msg lv (subId H id seed (leafAt h n (lv + 1))) (subSeed H id seed (leafAt h n (lv + 1))) = whole := by
  rw [← hw, signFrom]
  simp only [List.append_assoc]
end Go.Proofs.YtlhjifdahagkaaaDoor
/-
  The landed reader: take, number, ended.
-/
namespace Go.Proofs.YtlhjifdahagkaaaDoor
open Go.RowKit
/-- What a reader has, and whether it was asked for more. -/
structure Rd where
  l : Bs
  s : Bool
def tk (r : Rd) (n : Nat) : Bs := if n ≤ r.l.length then r.l.take n else []
def tkR (r : Rd) (n : Nat) : Rd := if n ≤ r.l.length then ⟨r.l.drop n, r.s⟩ else ⟨r.l, true⟩
def numB (b : Bs) : Nat := b.foldl (fun a c => a * 256 + c.toNat) 0
theorem numB_snoc (b : Bs) (c : UInt8) : numB (b ++ [c]) = numB b * 256 + c.toNat := by simp [numB, List.foldl_append]
theorem numB_lt : ∀ (k : Nat) (b : Bs), b.length = k → numB b < 256 ^ k
  | 0, b, h => by rw [List.eq_nil_of_length_eq_zero h]; decide
  | k + 1, b, h => by
    obtain ⟨b', c, rfl⟩ : ∃ b' c, b = b' ++ [c] := by
      rcases List.eq_nil_or_concat b with e | ⟨r, u, e⟩
      · rw [e] at h; simp at h
      · exact ⟨r, u, by rw [e]; simp⟩
    have h' : b'.length = k := by simpa using h
    have ih := numB_lt k b' h'
    have hc := c.toNat_lt
    rw [numB_snoc, Nat.pow_succ]
    omega
theorem numB_four (b : Bs) (h : 4 ≤ b.length) : numB (b.take 4) = num4 b := by
  match b, h with
  | b0 :: b1 :: b2 :: b3 :: r, _ =>
    simp [numB, num4]
    omega
theorem numB_tk (r : Rd) : numB (tk r 4) < 4294967296 := by
  unfold tk
  split
  · rename_i h
    exact numB_lt 4 _ (by rw [List.length_take]; omega)
  · decide
theorem noByte2 {s : Option Addr} {n c : Nat} {b : Bool} : ∀ (j : Nat) (v : Value), (#[.slice s n c, .bool b] : Array Value)[j]? = some v → ∀ z, v ≠ .int .u8 z := fun j v h z => by
  match j, h with
  | 0, h => cases h; simp
  | 1, h => cases h; simp
  | j + 2, h => cases h
/-- A reader in its block. -/
def RdAt (w : World) (g : Nat) (r : Rd) : Prop := ∃ s n c, w.heap[g]? = some (.cells #[.slice s n c, .bool r.s] 74 (0, 0)) ∧ BytesAt w (.slice s n c) r.l
theorem RdAt.below {a b : World} {g : Nat} {r : Rd} (h : RdAt a g r) (hb : Below a.heap.size a b) : RdAt b g r := by
  obtain ⟨s, n, c, h1, h2⟩ := h
  exact ⟨s, n, c, (hb.block g (Array.getElem?_eq_some_iff.1 h1).1).trans h1, h2.below hb⟩
theorem RdAt.lt {w : World} {g : Nat} {r : Rd} (h : RdAt w g r) : g < w.heap.size := by
  obtain ⟨s, n, c, h1, _⟩ := h
  exact (Array.getElem?_eq_some_iff.1 h1).1
/-- Bytes live on beside a reader. -/
theorem RdAt.keep {w w' : World} {g : Nat} {r : Rd} (h : RdAt w g r) (hG : w.grownBy w' (some g)) {x : Value} {l : Bs} (hx : BytesAt w x l) : BytesAt w' x l := by
  obtain ⟨s, n, c, h1, _⟩ := h
  exact hx.keep hG fun hl => agg_apart h1 noByte2 hx hl
theorem rd_new (w : World) (x : Value) (l : Bs) (hx : BytesAt w x l) : RdAt (w.alloc (.cells #[x, .bool false] 74)) w.heap.size ⟨l, false⟩ := by
  obtain ⟨s, n, c, rfl⟩ := hx.forms
  exact ⟨s, n, c, heap_alloc_new w _, hx.below ((Below.refl _ _).alloc (Nat.le_refl _) _)⟩
set_option maxRecDepth 100000 in
set_option maxHeartbeats 2000000 in
theorem take_c (w : World) (g : Nat) (r : Rd) (n : Nat) (hr : RdAt w g r) (hl : r.l.length ≤ 100000) :
    Calls Tryd.prog 63 #[.pointer (some ⟨g, 0, none⟩), .int .i64 (n : Int)] w fun e w' => ∃ v, e = .returned v ∧ BytesAt w' v (tk r n) ∧ RdAt w' g (tkR r n) ∧ w.grownBy w' (some g) := by
  have hr0 := hr
  obtain ⟨s, m, c, h1, h2⟩ := hr
  obtain ⟨s', c', e, hc, _, _⟩ := bytes_open h2
  simp only [Value.slice.injEq] at e
  obtain ⟨rfl, rfl, rfl⟩ := e
  have z0 : w.cell? ⟨g, 0, none⟩ = some (.slice s r.l.length c) := cell_of_row w g 0 _ 74 (0, 0) h1
  have z1 : w.cell? ⟨g, 1, none⟩ = some (.bool r.s) := cell_of_row w g 1 _ 74 (0, 0) h1
  have fz := fun j => AggAt.fz h1 j
  by_cases hle : n ≤ r.l.length
  · have hG : w.grownBy (w.setCell ⟨g, 0, none⟩ (.slice (cutAt s c n) (r.l.length - n) (c - n))) (some g) := grown_setCell (World.grownBy.refl _ _) _ _ rfl
    have e1 : tk r n = r.l.take n := if_pos hle
    have e2 : tkR r n = ⟨r.l.drop n, r.s⟩ := if_pos hle
    have HF1 : Hid (BytesAt (w.setCell ⟨g, 0, none⟩ (.slice (cutAt s c n) (r.l.length - n) (c - n))) (.slice s n c) (tk r n)) := by
      show BytesAt _ _ _
      rw [e1]
      exact hr0.keep hG (bytes_front h2 n hle)
    have HF2 : Hid (RdAt (w.setCell ⟨g, 0, none⟩ (.slice (cutAt s c n) (r.l.length - n) (c - n))) g (tkR r n)) := by
      show RdAt _ _ _
      rw [e2]
      refine ⟨_, _, _, ?_, hr0.keep hG (bytes_rest h2 n hle)⟩
      rw [heap_setCell_same w g 0 _ 74 _ h1]
      rfl
    have HG := hide hG
    have f1 := fun w => slice_front s r.l.length c n (by omega) w
    have f2 := fun w => slice_rest s r.l.length c n hle w
    obtain ⟨m, hm⟩ : ∃ m, r.l.length = m := ⟨_, rfl⟩
    have d1 : decide ((m : Int) < (n : Int)) = false := by simp; omega
    have m0 : (m : Int) ≤ 100000 := by omega
    rw [hm] at z0 f1 f2 HF1 HF2 HG
    have n0 : (n : Int) ≤ (m : Int) := by omega
    clear hr0 h1 h2 e1 e2 hG hm hc hle hl
    go_enter Tryd.func63, Tryd.ntmps63
    go_wp2
    go_ret
    exact ⟨_, rfl, unhide HF1, unhide HF2, unhide HG⟩
  · have hG : w.grownBy (w.setCell ⟨g, 1, none⟩ (.bool true)) (some g) := grown_setCell (World.grownBy.refl _ _) _ _ rfl
    have e1 : tk r n = [] := if_neg hle
    have e2 : tkR r n = ⟨r.l, true⟩ := if_neg hle
    have HF1 : Hid (BytesAt (w.setCell ⟨g, 1, none⟩ (.bool true)) (.slice none 0 0) (tk r n)) := by
      show BytesAt _ _ _
      rw [e1]
      exact bytes_nil _
    have HF2 : Hid (RdAt (w.setCell ⟨g, 1, none⟩ (.bool true)) g (tkR r n)) := by
      show RdAt _ _ _
      rw [e2]
      refine ⟨_, _, _, ?_, hr0.keep hG h2⟩
      rw [heap_setCell_same w g 1 _ 74 _ h1]
      rfl
    have HG := hide hG
    obtain ⟨m, hm⟩ : ∃ m, r.l.length = m := ⟨_, rfl⟩
    have d1 : (m : Int) < (n : Int) := by omega
    rw [hm] at z0
    clear hr0 h1 h2 e1 e2 hG hm hc hle hl
    go_enter Tryd.func63, Tryd.ntmps63
    go_wp2
    go_ret
    exact ⟨_, rfl, unhide HF1, unhide HF2, unhide HG⟩
set_option maxRecDepth 100000 in
set_option maxHeartbeats 2000000 in
theorem number_c (w : World) (x : Value) (b : Bs) (hx : BytesAt w x b) (hb : b.length ≤ 4) : Calls Tryd.prog 62 #[x] w fun e w' => e = .returned (.int .i64 (numB b : Int)) ∧ w' = w := by
  obtain ⟨sp, c, rfl, _, _, hc⟩ := bytes_open hx
  have Hc := hide hc
  obtain ⟨m, hm⟩ : ∃ m, b.length = m := ⟨_, rfl⟩
  have Hm := hide hm
  rw [hm]
  have mb : (m : Int) ≤ 4 := by omega
  have mb0 : (0 : Int) ≤ (m : Int) := by omega
  clear hx hc hm
  go_enter Tryd.func62, Tryd.ntmps62
  go_wp2
  go_loop [3, 8] (fun n ii => ∃ i V : Nat, i ≤ m ∧ ii = .int .i64 (i : Int) ∧ n = .int .i64 (V : Int) ∧ Hid (V = numB (b.take i))) (fun _ ii => m - (intOf ii).toNat)
  case atStart => exact ⟨0, 0, by omega, rfl, rfl, rfl⟩
  case round =>
    obtain ⟨i, V, hi, rfl, rfl, HV⟩ := hrel
    have ib : (i : Int) ≤ 4 := by omega
    have ib0 : (0 : Int) ≤ (i : Int) := by omega
    by_cases hlt : i < m
    · have hm := unhide Hm
      obtain ⟨bb, bo, rfl, _, hcell⟩ := (unhide Hc) (by rintro rfl; simp at hm; omega)
      have hc1 := hcell i (by omega)
      have hsn : numB (b.take (i + 1)) = V * 256 + (b.getD i 0).toNat := by
        have hl : i < b.length := by omega
        rw [List.take_succ_eq_append_getElem hl, numB_snoc, unhide HV]
        simp [List.getD_eq_getElem?_getD, hl]
      have hVb : V < 16777216 := by
        have h1 := numB_lt i (b.take i) (by rw [List.length_take]; omega)
        have h2 : 256 ^ i ≤ 256 ^ 3 := Nat.pow_le_pow_right (by omega) (by omega)
        rw [unhide HV]
        exact Nat.lt_of_lt_of_le h1 (Nat.le_trans h2 (by decide))
      obtain ⟨X, hX⟩ : ∃ X, (b.getD i 0).toNat = X := ⟨_, rfl⟩
      have hXb : X < 256 := by rw [← hX]; exact (b.getD i 0).toNat_lt
      rw [hX] at hc1 hsn
      have il : (i : Int) < (m : Int) := by omega
      obtain ⟨A, hA⟩ : ∃ A, V * 256 = A := ⟨_, rfl⟩
      have hAi : (V : Int) * 256 = (A : Int) := by omega
      have ho : bits .or .i64 (A : Int) (X : Int) = ((V * 256 + X : Nat) : Int) := by
        rw [i64_or_nat A X (by omega) (by omega)]
        have := Nat.two_pow_add_eq_or_of_lt (i := 8) (b := X) (by omega) V
        rw [Nat.mul_comm] at this
        rw [← hA, ← this]
      obtain ⟨Z, hZ⟩ : ∃ Z, V * 256 + X = Z := ⟨_, rfl⟩
      rw [hZ] at ho hsn
      have HVn : Hid (Z = numB (b.take (i + 1))) := hsn.symm
      have Xb : (X : Int) < 256 := by omega
      have Vb : (V : Int) < 16777216 := by omega
      have Ab : (A : Int) < 4294967296 := by omega
      clear hsn hX hA hZ hm hcell
      go_wp2
      go_round
      case rel => exact ⟨i + 1, Z, by omega, by go_num, rfl, HVn⟩
      case measure => simp [intOf]; omega
    · obtain rfl : i = m := by omega
      have di : decide ((i : Int) < (i : Int)) = false := by simp
      have HF : Hid (numB b = V) := by show _ = _; rw [unhide HV, List.take_of_length_le (by rw [unhide Hm]; exact Nat.le_refl _)]
      go_wp2
      go_ret
      exact ⟨by rw [unhide HF]; rfl, rfl⟩
end Go.Proofs.YtlhjifdahagkaaaDoor
/-
  The landed reader's number and ended.
-/
namespace Go.Proofs.YtlhjifdahagkaaaDoor
open Go.RowKit
theorem len_tk (r : Rd) (n : Nat) : (tk r n).length ≤ n := by
  unfold tk
  split
  · rw [List.length_take]; omega
  · simp
theorem len_tkR (r : Rd) (n : Nat) : (tkR r n).l.length ≤ r.l.length := by
  unfold tkR
  split
  · simp
  · simp
set_option maxRecDepth 100000 in
set_option maxHeartbeats 1000000 in
theorem rdnum_c (w : World) (g : Nat) (r : Rd) (hr : RdAt w g r) (hl : r.l.length ≤ 100000) :
    Calls Tryd.prog 38 #[.pointer (some ⟨g, 0, none⟩)] w fun e w' => e = .returned (.int .i64 (numB (tk r 4) : Int)) ∧ RdAt w' g (tkR r 4) ∧ w.grownBy w' (some g) := by
  have HR := hide hr
  clear hr
  go_enter Tryd.func38, Tryd.ntmps38
  go_wp2_with fail
  refine (take_c w g r 4 (unhide HR) hl).mono ?_
  rintro e w1 ⟨v1, rfl, hV, hR1, hG⟩
  have HV := hide hV
  have HR1 := hide hR1
  have HG := hide hG
  clear hV hR1 hG
  go_wp2_with fail
  refine (number_c w1 v1 (tk r 4) (unhide HV) (len_tk r 4)).mono ?_
  rintro e w2 ⟨rfl, hw2⟩
  replace hw2 := hw2.symm
  subst hw2
  go_wp2
  go_ret
  exact ⟨rfl, unhide HR1, unhide HG⟩
def endB (r : Rd) : Bool := !r.s && decide (r.l.length = 0)
set_option maxRecDepth 100000 in
set_option maxHeartbeats 1000000 in
theorem ended_c (w : World) (g : Nat) (r : Rd) (hr : RdAt w g r) : Calls Tryd.prog 65 #[.pointer (some ⟨g, 0, none⟩)] w fun e w' => e = .returned (.bool (endB r)) ∧ w' = w := by
  obtain ⟨s, m, c, h1, h2⟩ := hr
  obtain ⟨s', c', e, _⟩ := bytes_open h2
  simp only [Value.slice.injEq] at e
  obtain ⟨rfl, rfl, rfl⟩ := e
  have z0 : w.cell? ⟨g, 0, none⟩ = some (.slice s r.l.length c) := cell_of_row w g 0 _ 74 (0, 0) h1
  have z1 : w.cell? ⟨g, 1, none⟩ = some (.bool r.s) := cell_of_row w g 1 _ 74 (0, 0) h1
  have He : Hid (endB r = (!r.s && decide (r.l.length = 0))) := rfl
  generalize r.l.length = m at z0 He
  clear h1 h2
  cases hs : r.s with
  | true =>
    rw [hs] at z1 He
    have He2 : Hid (endB r = false) := by show _ = _; rw [unhide He]; rfl
    clear He hs
    go_enter Tryd.func65, Tryd.ntmps65
    go_wp2
    go_ret
    exact ⟨by rw [unhide He2]; rfl, rfl⟩
  | false =>
    rw [hs] at z1 He
    by_cases hm : m = 0
    · subst hm
      have He2 : Hid (endB r = true) := by show _ = _; rw [unhide He]; rfl
      clear He hs
      go_enter Tryd.func65, Tryd.ntmps65
      go_wp2
      go_ret
      exact ⟨by rw [unhide He2]; rfl, rfl⟩
    · have He2 : Hid (endB r = false) := by show _ = _; rw [unhide He]; simp [hm]
      have d1 : ((m : Int) == 0) = false := by simp; omega
      have d2 : ¬ ((m : Int) = 0) := by omega
      have d3 : ¬ (m = 0) := hm
      clear He hs
      go_enter Tryd.func65, Tryd.ntmps65
      go_wp2
      go_ret
      exact ⟨by rw [unhide He2]; rfl, rfl⟩
theorem AggAt.grown {a b : World} {K g : Nat} {cs : List Value} (k : AggAt a K cs) (hg : a.grownBy b (some g)) (hne : K ≠ g) : AggAt b K cs :=
  ⟨Nat.lt_of_lt_of_le k.1 hg.size, fun j v hv => by rw [World.cell?_of_block (hg.block K k.1 (by simpa using hne))]; exact k.2 j v hv⟩
theorem grown_alloc {a b : World} {row : Option Nat} (h : a.grownBy b row) (o : Obj) : a.grownBy (b.alloc o) row :=
  grown_below h ((Below.refl _ _).alloc (Nat.le_refl _) _)
theorem AggAt.of_heap {w : World} {g : Nat} {cs : List Value} {t : TypeId} {fr : Nat × Nat} (h : w.heap[g]? = some (.cells cs.toArray t fr)) : AggAt w g cs :=
  ⟨(Array.getElem?_eq_some_iff.1 h).1, fun j v hv => by rw [cell_of_row w g _ _ t fr h, Nat.zero_add]; simpa using hv⟩
theorem row7_set {w : World} {g : Nat} {a0 a1 a2 a3 a4 a5 a6 : Value} {t : TypeId} (h : w.heap[g]? = some (.cells #[a0, a1, a2, a3, a4, a5, a6] t (0, 0))) (b0 b1 b2 b3 b4 b5 b6 : Value) :
    (((((((w.setCell ⟨g, 0, none⟩ b0).setCell ⟨g, 1, none⟩ b1).setCell ⟨g, 2, none⟩ b2).setCell ⟨g, 3, none⟩ b3).setCell ⟨g, 4, none⟩ b4).setCell ⟨g, 5, none⟩ b5).setCell ⟨g, 6, none⟩ b6).heap[g]? = some (.cells #[b0, b1, b2, b3, b4, b5, b6] t (0, 0)) := by
  have h0 := heap_setCell_same w g 0 _ t b0 h
  have h1 := heap_setCell_same _ g 1 _ t b1 h0
  have h2 := heap_setCell_same _ g 2 _ t b2 h1
  have h3 := heap_setCell_same _ g 3 _ t b3 h2
  have h4 := heap_setCell_same _ g 4 _ t b4 h3
  have h5 := heap_setCell_same _ g 5 _ t b5 h4
  have h6 := heap_setCell_same _ g 6 _ t b6 h5
  rw [h6]
  simp only [List.setIfInBounds_toArray, List.set_cons_zero, List.set_cons_succ]
theorem grown7 (w : World) (g : Nat) (b0 b1 b2 b3 b4 b5 b6 : Value) : w.grownBy (((((((w.setCell ⟨g, 0, none⟩ b0).setCell ⟨g, 1, none⟩ b1).setCell ⟨g, 2, none⟩ b2).setCell ⟨g, 3, none⟩ b3).setCell ⟨g, 4, none⟩ b4).setCell ⟨g, 5, none⟩ b5).setCell ⟨g, 6, none⟩ b6) (some g) := by
  repeat' refine grown_setCell ?_ _ _ rfl
  exact World.grownBy.refl _ _
end Go.Proofs.YtlhjifdahagkaaaDoor
