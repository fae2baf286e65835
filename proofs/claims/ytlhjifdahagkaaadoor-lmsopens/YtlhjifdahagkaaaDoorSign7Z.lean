/-
  The walk of the reference's Sign.
-/
import Derived.Test.YtlhjifdahagkaaaDoorM04
import Derived.Deep.RegionHeldLaw
namespace Go.Proofs.YtlhjifdahagkaaaDoor
open Go.RowKit
/-- What stands when a level begins. -/
structure SgAt (w0 : World) (K : Nat) (L h wd : Int) (yi ys : Value) (i2 s2 : Bs) (out : Value) (cur : Bs) (W : World) : Prop where
  key : KeyAt W K L h wd yi ys
  five : FiveAt W K
  hyi : BytesAt W yi i2
  hys : BytesAt W ys s2
  row : Row w0 W out cur
  ai : Apart out yi
  as_ : Apart out ys
  ak : ∀ k, out.ownBlock = some k → k ≠ K
theorem NextAt.turn {w0 : World} {K : Nat} {L h wd : Int} {yi ys : Value} {i2 s2 : Bs} {ni ns : Value} {i3 s3 : Bs} {out : Value} {cur : Bs} {NB : Nat} {W : World} (p : NextAt w0 K L h wd yi ys i2 s2 ni ns i3 s3 out cur NB W) (hK : w0.heap.size ≤ K) (b1 : ni.ownBlock ≠ some K) (b2 : ns.ownBlock ≠ some K) : SgAt w0 K L h wd ni ns i3 s3 out cur (setKey W K L h wd ni ns) := by
  have hg := setKey_grown W K L h wd ni ns
  have hs := setKey_at p.five L h wd ni ns
  exact ⟨hs.1, hs.2, p.hni.grown hg b1, p.hns.grown hg b2, p.row.grown hg (fun e => p.ak K e rfl) hK, p.an, p.an2, p.ak⟩
set_option maxRecDepth 100000 in
set_option maxHeartbeats 8000000 in
theorem sign_any {H : Bs → Bs} (C : RefHash H) (w0 : World) (L h wd n : Nat) (xi xs xm : Value) (id seed msg : Bs) (hi : BytesAt w0 xi id) (hs : BytesAt w0 xs seed) (hm : BytesAt w0 xm msg) (lm : msg.length ≤ 1000) (hr : RightP (L : Int) (h : Int) (wd : Int) id seed) (hn : n < 2 ^ (h * L)) :
    GivesE w0 18 #[keyV (L : Int) (h : Int) (wd : Int) xi xs, .int .i64 (n : Int), xm] (signOf H L h wd id seed n msg) := by
  have hbA : Below w0.heap.size w0 (w0.alloc (.cells #[.int .i64 (L : Int), .int .i64 (h : Int), .int .i64 (wd : Int), xi, xs] 29)) := (Below.refl _ _).alloc (Nat.le_refl _) _
  obtain ⟨wA, hwA⟩ : ∃ wA, w0.alloc (.cells #[.int .i64 (L : Int), .int .i64 (h : Int), .int .i64 (wd : Int), xi, xs] 29) = wA := ⟨_, rfl⟩
  have hK := key_new w0 (L : Int) (h : Int) (wd : Int) xi xs 29
  rw [hwA] at hbA hK
  have Hri := hide (right_any wA (L : Int) (h : Int) (wd : Int) xi xs id seed (hi.below hbA) (hs.below hbA) (by have := hr.2.2.2.2.2.1; omega) (by have := hr.2.2.2.2.2.2; omega))
  have Hco := hide (fun w a b => count_any w L h wd xi xs id seed a b hr)
  have HN := hide hr
  obtain ⟨rw_, r1, r2, r3, r4, r5, r6⟩ := hr
  obtain ⟨N, hN⟩ : ∃ N, 2 ^ (h * L) = N := ⟨_, rfl⟩
  rw [hN] at Hco hn
  have hNb : N ≤ 262144 := by rw [← hN]; exact Nat.pow_le_pow_right (show 0 < 2 by omega) (Nat.mul_le_mul (show h ≤ 6 by omega) (show L ≤ 3 by omega))
  have hF0 := five_new w0 (.int .i64 (L : Int)) (.int .i64 (h : Int)) (.int .i64 (wd : Int)) xi xs 29
  rw [hwA] at hF0
  have HF0 := hide hF0
  clear hF0
  have HB := hide hbA
  have HK := hide hK
  have HX := hide (hi.below hbA)
  have HS := hide (hs.below hbA)
  have HM := hide hm
  have HC := hide C
  have Hl := hide (And.intro r5 (And.intro r6 lm))
  have Hw := hide (isW_of rw_)
  have d1 : decide ((n : Int) < 0) = false := by simp
  have d2 : decide ((N : Int) ≤ (n : Int)) = false := by simp; omega
  have d2' : decide (N ≤ n) = false := by simp; omega
  have nb : (n : Int) ≤ 262144 := by omega
  have c0 := hK.c 0 _ rfl
  have c1 := hK.c 1 _ rfl
  have c2 := hK.c 2 _ rfl
  have c3 := hK.c 3 _ rfl
  have c4 := hK.c 4 _ rfl
  clear C hi hs hm hbA hK rw_ r5 r6 hN lm
  obtain ⟨ID, hID⟩ : ∃ ID, id = ID := ⟨_, rfl⟩
  obtain ⟨SEED, hSEED⟩ : ∃ SEED, seed = SEED := ⟨_, rfl⟩
  have HIS := hide (And.intro hID hSEED)
  clear hID hSEED
  unfold keyV
  go_enter Tryd.func18, Tryd.ntmps18
  go_wp2_with fail
  refine (unhide Hri).mono ?_
  rintro e w1 ⟨hor, hb⟩
  rcases hor with ⟨_, rfl⟩ | ⟨hR, rfl⟩
  · have HA1 := hide hb
    have HK1 := hide ((unhide HK).below hb)
    have k0 := (unhide HK1).c 0 _ rfl
    have k1 := (unhide HK1).c 1 _ rfl
    have k2 := (unhide HK1).c 2 _ rfl
    have k3 := (unhide HK1).c 3 _ rfl
    have k4 := (unhide HK1).c 4 _ rfl
    clear hb c0 c1 c2 c3 c4
    go_wp2_with fail
    refine (unhide Hco w1 ((unhide HX).below (unhide HA1)) ((unhide HS).below (unhide HA1))).mono ?_
    rintro e w2 ⟨rfl, hb⟩
    have HA2 := hide ((unhide HA1).trans (hb.mono (unhide HA1).size))
    have m0 := ((unhide HK).below (unhide HA2)).c 0 _ rfl
    obtain ⟨M, hM⟩ : ∃ M, L - 1 = M := ⟨_, rfl⟩
    have hMi : (L : Int) - 1 = (M : Int) := by omega
    have HM1 := hide hM
    have Mb : (M : Int) ≤ 2 := by omega
    clear hb k0 k1 k2 k3 k4 hM
    go_wp2_with fail
    refine (big_any w2 M 4 (by omega) (by omega)).mono ?_
    rintro e w3 ⟨v3, rfl, hR⟩
    have HR3 := hide hR
    have n0 := (((unhide HK).below (unhide HA2)).below hR.b).c 0 _ rfl
    clear hR m0
    have HSg0 : Hid (SgAt w0 w0.heap.size (L : Int) (h : Int) (wd : Int) xi xs id seed v3 (big M 4) w3) := by
      have hA3 := (unhide HA2).trans ((unhide HR3).b.mono (unhide HA2).size)
      have hout : ∀ k, v3.ownBlock = some k → wA.heap.size ≤ k := fun k hk => Nat.le_trans (unhide HA2).size ((unhide HR3).own.fresh k hk)
      refine ⟨(unhide HK).below hA3, (unhide HF0).below hA3, (unhide HX).below hA3, (unhide HS).below hA3, ((unhide HR3).up (unhide HA2)).up (unhide HB), fun k hk e => ?_, fun k hk e => ?_, fun k hk e => ?_⟩
      · have h1 := hout k hk
        have h2 := ValsAt.old (unhide HX) (by intro e0; have := congrArg List.length e0; rw [List.length_map, (unhide Hl).1] at this; simp at this) k e
        omega
      · have h1 := hout k hk
        have h2 := ValsAt.old (unhide HS) (by intro e0; have := congrArg List.length e0; rw [List.length_map, (unhide Hl).2.1] at this; simp at this) k e
        omega
      · have h1 := hout k hk
        have h2 := (unhide HK).1
        omega
    clear HR3
    go_wp2
    clear n0
    go_loopw [8, 9] (fun out lv wr => ∃ (l : Nat) (yi ys : Value) (i2 s2 cur : Bs), l ≤ M ∧ lv = .int .i64 (l : Int) ∧ Hid (SgAt w0 w0.heap.size (L : Int) (h : Int) (wd : Int) yi ys i2 s2 out cur wr) ∧ Hid (i2.length = 16 ∧ s2.length = 32) ∧ Hid (cur.length ≤ 20000 * (M + 1 - l)) ∧ Hid (cur ++ signFrom H h wd n msg l i2 s2 = signOf H L h wd ID SEED n msg)) (fun _ lv _ => (intOf lv).toNat)
    case atStart => exact ⟨M, xi, xs, id, seed, big M 4, Nat.le_refl _, rfl, HSg0, ⟨(unhide Hl).1, (unhide Hl).2.1⟩, by show _ ≤ _; rw [len_big]; omega, by show _ = _; rw [← (unhide HIS).1, ← (unhide HIS).2]; unfold signOf; rw [unhide HM1]⟩
    case round =>
      clear HSg0
      obtain ⟨l, yi, ys, i2, s2, cur, hl, rfl, HSg, HLn, HLc, HEc⟩ := hrel
      have lb : (l : Int) ≤ 2 := by omega
      rename World => wc
      have HKc := hide (unhide HSg).key
      by_cases h0 : 0 < l
      · have d0 : decide (0 < (l : Int)) = true := by simp; omega
        have d0' : decide (0 < l) = true := by simp; omega
        obtain ⟨E, hE⟩ : ∃ E, h * l = E := ⟨_, rfl⟩
        have hEb : E ≤ 12 := by rw [← hE]; exact Nat.mul_le_mul (show h ≤ 6 by omega) (show l ≤ 2 by omega)
        have hEi : IntKind.i64.wrap ((h : Int) * (l : Int)) = (E : Int) := by rw [← Int.natCast_mul, hE]; exact IntWalk.i64_in _ (by omega)
        obtain ⟨Q, hQ⟩ : ∃ Q, 2 ^ h = Q := ⟨_, rfl⟩
        have hQw : IntKind.i64.wrap ((2 : Int) ^ h) = (Q : Int) := by
          have e : ((2 ^ h : Nat) : Int) = 2 ^ h := by simp
          have : 2 ^ h ≤ 64 := Nat.pow_le_pow_right (show 0 < 2 by omega) (show h ≤ 6 by omega)
          rw [← e, hQ]; exact IntWalk.i64_in _ (by omega)
        have hQ0 : (0 : Int) < (Q : Int) := by have := Nat.pow_pos (n := h) (show 0 < 2 by omega); omega
        obtain ⟨A, hA⟩ : ∃ A, n / 2 ^ E = A := ⟨_, rfl⟩
        have hAi : (n : Int) / 2 ^ E = (A : Int) := by rw [← hA]; simp
        obtain ⟨q, hq⟩ : ∃ q, A % Q = q := ⟨_, rfl⟩
        have hqi : (A : Int).tmod (Q : Int) = (q : Int) := by rw [Int.tmod_eq_emod_of_nonneg (by omega), ← hq]; simp
        have hqQ : q < Q := by rw [← hq]; exact Nat.mod_lt _ (by omega)
        have Hq : Hid (leafAt h n l = q) := by show _ = _; unfold leafAt; rw [hE, hQ, hA, hq]
        have HQ := hide hQ
        have k0 := (unhide HKc).c 0 _ rfl
        have k1 := (unhide HKc).c 1 _ rfl
        have k2 := (unhide HKc).c 2 _ rfl
        have k3 := (unhide HKc).c 3 _ rfl
        have k4 := (unhide HKc).c 4 _ rfl
        have eb : (E : Int) ≤ 12 := by omega
        have e0 : (0 : Int) ≤ (E : Int) := by omega
        have hb6 : (h : Int) ≤ 6 := by omega
        have hQ64 : Q ≤ 64 := by rw [← hQ]; exact Nat.pow_le_pow_right (show 0 < 2 by omega) (show h ≤ 6 by omega)
        have qb : (q : Int) < 64 := by omega
        clear hE hQ hA hq
        have HKd := hide ((unhide HKc).below (Below.refl _ _).drew.drew)
        have HId := hide ((unhide HSg).hyi.below (Below.refl _ _).drew.drew)
        have HSd := hide ((unhide HSg).hys.below (Below.refl _ _).drew.drew)
        have Hs1 : Hid (∀ w, Below wc.drew.drew.heap.size wc.drew.drew w → GivesB w 36 #[keyV (L : Int) (h : Int) (wd : Int) yi ys, .int .i64 (q : Int), .int .i64 65535] (secret H i2 s2 q 65535)) := fun w hb => secret_any (unhide HC) w (L : Int) (h : Int) (wd : Int) yi ys i2 s2 ((unhide HId).below hb) ((unhide HSd).below hb) (by have := (unhide HLn).1; omega) (by have := (unhide HLn).2; omega) q 65535 (by omega) (by omega)
        have Hs2 : Hid (∀ w, Below wc.drew.drew.heap.size wc.drew.drew w → GivesB w 36 #[keyV (L : Int) (h : Int) (wd : Int) yi ys, .int .i64 (q : Int), .int .i64 65534] (secret H i2 s2 q 65534)) := fun w hb => secret_any (unhide HC) w (L : Int) (h : Int) (wd : Int) yi ys i2 s2 ((unhide HId).below hb) ((unhide HSd).below hb) (by have := (unhide HLn).1; omega) (by have := (unhide HLn).2; omega) q 65534 (by omega) (by omega)
        have hnec : ¬ w0.heap.size = wc.heap.size := by have h1 := (unhide HKc).1; omega
        go_wp2
        go_region
        go_wp2
        go_region_held3 (fun w' => w'.cell? ⟨w0.heap.size, 0, none⟩ = some (.int .i64 (L : Int)) ∧ w'.cell? ⟨w0.heap.size, 1, none⟩ = some (.int .i64 (h : Int)) ∧ w'.cell? ⟨w0.heap.size, 2, none⟩ = some (.int .i64 (wd : Int)) ∧ w'.cell? ⟨w0.heap.size, 3, none⟩ = some yi ∧ w'.cell? ⟨w0.heap.size, 4, none⟩ = some ys) ((first | go_keep | (simp (disch := assumption) only [cell_far, n0, n1, n2, n3, n4, and_self])))
          ((first
            | (go_at_call_of 36 (Value.int IntKind.i64 65535); refine (unhide Hs1 _ ?_).mono ?_; (first | exact Below.refl _ _ | exact (Below.refl _ _).alloc (Nat.le_refl _) _); rintro e w5 ⟨v5, rfl, hR⟩; obtain ⟨b5, d5, rfl, hb5, hb5', hsl5, hB5⟩ := hash_form hR ((unhide HC).len _); have HR5 := hide hR; have HB5 := hide hB5; have Hb5 := hide (And.intro hb5 hb5'); have hb5w : wc.heap.size ≤ b5 := (by first | exact hb5 | exact Nat.le_trans ((Below.refl wc.heap.size wc).alloc (Nat.le_refl _) _).size hb5); have HW5 : Hid (Below wc.drew.drew.heap.size wc.drew.drew w5) := (by first | exact hR.b | exact ((Below.refl _ _).alloc (Nat.le_refl _) _).trans (hR.b.mono (Nat.le_of_lt (by simp)))); have HK5 := hide ((unhide HKd).below (unhide HW5)); have m0 := (unhide HK5).c 0 _ rfl; have m1 := (unhide HK5).c 1 _ rfl; have m2 := (unhide HK5).c 2 _ rfl; have m3 := (unhide HK5).c 3 _ rfl; have m4 := (unhide HK5).c 4 _ rfl; (try (have HF5 : Hid (FiveAt w5 wc.heap.size) := (five_new wc _ _ _ _ _ _).below (((Below.refl _ _).drew.drew).trans hR.b))); (try (have hz5 := zat_new2 hR.b; have HZ5 := hide hz5; have y0 := hz5.c 0 _ rfl; have y1 := hz5.c 1 _ rfl; have y2 := hz5.c 2 _ rfl; have y3 := hz5.c 3 _ rfl; have y4 := hz5.c 4 _ rfl; have g0 := hz5.2.2 0; have g1 := hz5.2.2 1; have g2 := hz5.2.2 2; have g3 := hz5.2.2 3; have g4 := hz5.2.2 4; clear hz5)); have hne5 : ¬ w0.heap.size = w5.heap.size := (by have h1 := (unhide HKd).1; have h2 := (unhide HW5).size; omega); clear hR hb5 hb5' hB5)
            | (go_at_call_of 36 (Value.int IntKind.i64 65534); refine (unhide Hs2 _ ?_).mono ?_; (first | exact unhide HW5 | exact (unhide HW5).alloc (unhide HW5).size _); rintro e w6 ⟨v6, rfl, hR⟩; obtain ⟨b6, d6, rfl, hb6, hb6', _, _⟩ := hash_form hR ((unhide HC).len _); have HR6 := hide hR; have Hb6 := hide (And.intro hb6 hb6'); have HW6 : Hid (Below w5.heap.size w5 w6) := (by first | exact hR.b | exact ((Below.refl _ _).alloc (Nat.le_refl _) _).trans (hR.b.mono (Nat.le_of_lt (by simp)))); have HK6 := hide ((unhide HK5).below (unhide HW6)); have n0 := (unhide HK6).c 0 _ rfl; have n1 := (unhide HK6).c 1 _ rfl; have n2 := (unhide HK6).c 2 _ rfl; have n3 := (unhide HK6).c 3 _ rfl; have n4 := (unhide HK6).c 4 _ rfl; (try (have hzxa : ZAt w6 wc.drew.drew.heap.size := (unhide HZ5).below (unhide HW6); have xa0 := hzxa.c 0 _ rfl; have fxa0 := hzxa.2.2 0; have xa1 := hzxa.c 1 _ rfl; have fxa1 := hzxa.2.2 1; have xa2 := hzxa.c 2 _ rfl; have fxa2 := hzxa.2.2 2; have xa3 := hzxa.c 3 _ rfl; have fxa3 := hzxa.2.2 3; have xa4 := hzxa.c 4 _ rfl; have fxa4 := hzxa.2.2 4; clear hzxa)); (try (have hzxb : ZAt w6 wc.drew.heap.size := (unhide HZ5).below (unhide HW6); have xb0 := hzxb.c 0 _ rfl; have fxb0 := hzxb.2.2 0; have xb1 := hzxb.c 1 _ rfl; have fxb1 := hzxb.2.2 1; have xb2 := hzxb.c 2 _ rfl; have fxb2 := hzxb.2.2 2; have xb3 := hzxb.c 3 _ rfl; have fxb3 := hzxb.2.2 3; have xb4 := hzxb.c 4 _ rfl; have fxb4 := hzxb.2.2 4; clear hzxb)); (try (have hz6 : ZAt w6 wc.heap.size := (unhide HZ5).below (unhide HW6); have x0 := hz6.c 0 _ rfl; have x1 := hz6.c 1 _ rfl; have x2 := hz6.c 2 _ rfl; have x3 := hz6.c 3 _ rfl; have x4 := hz6.c 4 _ rfl; have f0 := hz6.2.2 0; have f1 := hz6.2.2 1; have f2 := hz6.2.2 2; have f3 := hz6.2.2 3; have f4 := hz6.2.2 4; clear hz6)); (try (have HF6 : Hid (FiveAt w6 wc.heap.size) := (unhide HF5).below (unhide HW6))); (try (have HF6 : Hid (FiveAt w6 w5.heap.size) := (five_new w5 _ _ _ _ _ _).below hR.b)); (try (have hz6 := zat_new hR.b; have x0 := hz6.c 0 _ rfl; have x1 := hz6.c 1 _ rfl; have x2 := hz6.c 2 _ rfl; have x3 := hz6.c 3 _ rfl; have x4 := hz6.c 4 _ rfl; have f0 := hz6.2.2 0; have f1 := hz6.2.2 1; have f2 := hz6.2.2 2; have f3 := hz6.2.2 3; have f4 := hz6.2.2 4; clear hz6)); have HP6 : Hid (PreAt w0 w0.heap.size (L : Int) (h : Int) (wd : Int) yi ys i2 s2 (.slice (some ⟨b5, 0, none⟩) 16 d5) (.slice (some ⟨b6, 0, none⟩) 32 d6) ((secret H i2 s2 q 65535).take 16) (secret H i2 s2 q 65534) u8 cur w6) := (by have hbb := (Below.refl wc.heap.size wc).drew.drew.trans ((unhide HW5).trans ((unhide HW6).mono (unhide HW5).size)); have hou : ∀ k, u8.ownBlock = some k → k < wc.heap.size := fun k hk => (World.ownsRow.lt (unhide HSg).row.own k hk).2; have h66 : w5.heap.size ≤ b6 := (by first | exact hb6 | exact Nat.le_trans ((Below.refl w5.heap.size w5).alloc (Nat.le_refl _) _).size hb6); have h5s := (unhide HW5).size; have hcs : wc.heap.size ≤ w5.heap.size := h5s; exact ⟨(unhide HSg).key.below hbb, (unhide HSg).five.below hbb, (unhide HSg).hyi.below hbb, (unhide HSg).hys.below hbb, (unhide HB5).below (unhide HW6), hR.bytes, (unhide HSg).row.call hbb, (unhide HSg).ai, (unhide HSg).as_, (fun k hk e => (by have h1 := hou k hk; simp only [Value.ownBlock, Option.some.injEq] at e; omega)), (fun k hk e => (by have h1 := hou k hk; simp only [Value.ownBlock, Option.some.injEq] at e; omega)), (unhide HSg).ak⟩); have hne6 : ¬ w0.heap.size = w6.heap.size := (by have h1 := (unhide HK5).1; have h2 := (unhide HW6).size; omega); have hlt6 : w0.heap.size < w6.heap.size := (unhide HK6).1; have hzC := zat_new (w := w6) (Below.refl _ _); have p0 := hzC.c 0 _ rfl; have p1 := hzC.c 1 _ rfl; have p2 := hzC.c 2 _ rfl; have p3 := hzC.c 3 _ rfl; have p4 := hzC.c 4 _ rfl; have t0 := hzC.2.2 0; have t1 := hzC.2.2 1; have t2 := hzC.2.2 2; have t3 := hzC.2.2 3; have t4 := hzC.2.2 4; clear hzC; clear hR hb6 hb6')))
        all_goals
          have hyo : ∀ k, yi.ownBlock = some k → k < wc.heap.size := fun k hk => ValsAt.old (unhide HSg).hyi (by intro e0; have := congrArg List.length e0; rw [List.length_map, (unhide HLn).1] at this; simp at this) k hk
          have hyo2 : ∀ k, ys.ownBlock = some k → k < wc.heap.size := fun k hk => ValsAt.old (unhide HSg).hys (by intro e0; have := congrArg List.length e0; rw [List.length_map, (unhide HLn).2] at this; simp at this) k hk
          have hou : ∀ k, u8.ownBlock = some k → k < wc.heap.size := fun k hk => (World.ownsRow.lt (unhide HSg).row.own k hk).2
          have hKlt := (unhide HKc).1
          have h5s : wc.heap.size ≤ w5.heap.size := (unhide HW5).size
          have h6s := (unhide HW6).size
          have hb5K : b5 ≠ w0.heap.size := by omega
          have hb6K : b6 ≠ w0.heap.size := by
            have h66 : w5.heap.size ≤ b6 := (by first | exact (unhide Hb6).1 | exact Nat.le_trans ((Below.refl w5.heap.size w5).alloc (Nat.le_refl _) _).size (unhide Hb6).1)
            omega
        all_goals (first
          | (obtain ⟨WF, hWF⟩ : ∃ WF, w6.alloc (.cells #[.int .i64 (L : Int), .int .i64 (h : Int), .int .i64 (wd : Int), (.slice (some ⟨b5, 0, none⟩) 16 d5), (.slice (some ⟨b6, 0, none⟩) 32 d6)] 29) = WF := ⟨_, rfl⟩
             rw [hWF]
             obtain ⟨NB, hNB⟩ : ∃ NB, w6.heap.size = NB := ⟨_, rfl⟩
             rw [hNB]
             have HN : Hid (NextAt w0 w0.heap.size (L : Int) (h : Int) (wd : Int) yi ys i2 s2 (.slice (some ⟨b5, 0, none⟩) 16 d5) (.slice (some ⟨b6, 0, none⟩) 32 d6) ((secret H i2 s2 q 65535).take 16) (secret H i2 s2 q 65534) u8 cur NB WF) := by
               show NextAt _ _ _ _ _ _ _ _ _ _ _ _ _ _ _ _ _
               rw [← hWF, ← hNB]
               exact (unhide HP6).alloc
             clear hWF hNB)
          | (obtain ⟨WF, hWF⟩ : ∃ WF, setKey w6 w5.heap.size (L : Int) (h : Int) (wd : Int) (.slice (some ⟨b5, 0, none⟩) 16 d5) (.slice (some ⟨b6, 0, none⟩) 32 d6) = WF := ⟨_, rfl⟩
             unfold setKey at hWF
             rw [hWF]
             obtain ⟨NB, hNB⟩ : ∃ NB, w5.heap.size = NB := ⟨_, rfl⟩
             rw [hNB]
             have HN : Hid (NextAt w0 w0.heap.size (L : Int) (h : Int) (wd : Int) yi ys i2 s2 (.slice (some ⟨b5, 0, none⟩) 16 d5) (.slice (some ⟨b6, 0, none⟩) 32 d6) ((secret H i2 s2 q 65535).take 16) (secret H i2 s2 q 65534) u8 cur NB WF) := by
               show NextAt _ _ _ _ _ _ _ _ _ _ _ _ _ _ _ _ _
               rw [← hWF, ← hNB]
               have hb6' : w5.heap.size < b6 := Nat.lt_of_lt_of_le (show w5.heap.size < (w5.alloc (.cells #[.int .i64 0, .int .i64 0, .int .i64 0, .slice none 0 0, .slice none 0 0] 29)).heap.size by simp) (unhide Hb6).1
               have hb5' := (unhide Hb5).2
               exact (unhide HP6).store (unhide HF6) hne5 (fun e => by have := hyo _ e; omega) (fun e => by have := hyo2 _ e; omega) (fun e => by simp only [Value.ownBlock, Option.some.injEq] at e; omega) (fun e => by simp only [Value.ownBlock, Option.some.injEq] at e; omega) (fun e => by have := hou _ e; omega) (by omega)
             clear hWF hNB)
          | (obtain ⟨WF, hWF⟩ : ∃ WF, setKey w6 wc.heap.size (L : Int) (h : Int) (wd : Int) (.slice (some ⟨b5, 0, none⟩) 16 d5) (.slice (some ⟨b6, 0, none⟩) 32 d6) = WF := ⟨_, rfl⟩
             unfold setKey at hWF
             rw [hWF]
             obtain ⟨NB, hNB⟩ : ∃ NB, wc.heap.size = NB := ⟨_, rfl⟩
             have HN : Hid (NextAt w0 w0.heap.size (L : Int) (h : Int) (wd : Int) yi ys i2 s2 (.slice (some ⟨b5, 0, none⟩) 16 d5) (.slice (some ⟨b6, 0, none⟩) 32 d6) ((secret H i2 s2 q 65535).take 16) (secret H i2 s2 q 65534) u8 cur NB WF) := by
               show NextAt _ _ _ _ _ _ _ _ _ _ _ _ _ _ _ _ _
               rw [← hWF, ← hNB]
               have hb5' : wc.heap.size < b5 := Nat.lt_of_lt_of_le (show wc.heap.size < (wc.alloc (.cells #[.int .i64 0, .int .i64 0, .int .i64 0, .slice none 0 0, .slice none 0 0] 29)).heap.size by simp) (unhide Hb5).1
               have hb5'' := (unhide Hb5).2
               have hb6' := (unhide Hb6).1
               exact (unhide HP6).store (unhide HF6) hnec (fun e => by have := hyo _ e; omega) (fun e => by have := hyo2 _ e; omega) (fun e => by simp only [Value.ownBlock, Option.some.injEq] at e; omega) (fun e => by simp only [Value.ownBlock, Option.some.injEq] at e; omega) (fun e => by have := hou _ e; omega) (by omega)
             rw [hNB]
             clear hWF hNB))
        all_goals
          (try clear m0 m1 m2 m3 m4 n0 n1 n2 n3 n4)
          (try clear y0 y1 y2 y3 y4 g0 g1 g2 g3 g4)
          (try clear x0 x1 x2 x3 x4 f0 f1 f2 f3 f4)
          (try clear xa0 xa1 xa2 xa3 xa4 fxa0 fxa1 fxa2 fxa3 fxa4 xb0 xb1 xb2 xb3 xb4 fxb0 fxb1 fxb2 fxb3 fxb4)
          (try clear p0 p1 p2 p3 p4 t0 t1 t2 t3 t4 k0 k1 k2 k3 k4)
          clear HP6 HR5 HR6 HB5 HW5 HW6 HK5 HK6 Hb5 Hb6 HKd HId HSd Hs1 Hs2 hsl5 hyo hyo2 hou h5s h6s hne5 hne6 hlt6 hb5w
          obtain ⟨i3, hi3⟩ : ∃ i3, (secret H i2 s2 q 65535).take 16 = i3 := ⟨_, rfl⟩
          obtain ⟨s3, hs3⟩ : ∃ s3, secret H i2 s2 q 65534 = s3 := ⟨_, rfl⟩
          have hi3l : i3.length = 16 := by rw [← hi3, List.length_take, len_secret H (unhide HC).len]; rfl
          have hs3l : s3.length = 32 := by rw [← hs3]; exact len_secret H (unhide HC).len _ _ _ _
          rw [hi3, hs3] at HN
          have Hi3 : Hid (subId H i2 s2 q = i3 ∧ i3.length = 16) := ⟨hi3, hi3l⟩
          have Hs3 : Hid (subSeed H i2 s2 q = s3 ∧ s3.length = 32) := ⟨hs3, hs3l⟩
          obtain ⟨pk, hpk⟩ : ∃ pk, tree H i3 s3 h wd = pk := ⟨_, rfl⟩
          have Hpk : Hid (tree H i3 s3 h wd = pk ∧ pk.length = 56) := ⟨hpk, by rw [← hpk]; exact len_tree H (unhide HC).len hi3l h wd⟩
          have Htr := hide (tree_any (unhide HC) WF (L : Int) h wd (.slice (some ⟨b5, 0, none⟩) 16 d5) (.slice (some ⟨b6, 0, none⟩) 32 d6) i3 s3 (unhide HN).hni (unhide HN).hns hi3l hs3l (by omega) (by omega) (unhide Hw))
          rw [hpk] at Htr
          have a0 := (unhide HN).next.c 0 _ rfl
          have a1 := (unhide HN).next.c 1 _ rfl
          have a2 := (unhide HN).next.c 2 _ rfl
          have a3 := (unhide HN).next.c 3 _ rfl
          have a4 := (unhide HN).next.c 4 _ rfl
          have hqh : q < 2 ^ h := by rw [unhide HQ]; exact hqQ
          have Hqh := hide hqh
          clear hi3 hs3 hi3l hs3l hpk hqh
          go_wp2_with fail
          refine (unhide Htr).mono ?_
          rintro e w7 ⟨v7, rfl, hR⟩
          have HN7 := hide ((unhide HN).call hR.b)
          have HV7 := hide hR.bytes
          have Hap7 : Hid (Apart u8 v7) := fun k hk e => by
            have h1 := (World.ownsRow.lt (unhide HN).row.own k hk).2
            have h2 := hR.own.fresh k e
            omega
          have e0 := (unhide HN7).key.c 0 _ rfl
          have e1 := (unhide HN7).key.c 1 _ rfl
          have e2 := (unhide HN7).key.c 2 _ rfl
          have e3 := (unhide HN7).key.c 3 _ rfl
          have e4 := (unhide HN7).key.c 4 _ rfl
          have Hon := hide (one_any (unhide HC) w7 (L : Int) h wd yi ys v7 i2 s2 pk (unhide HN7).hyi (unhide HN7).hys (unhide HV7) (unhide HLn).1 (unhide HLn).2 (by have := (unhide Hpk).2; omega) (by omega) (by omega) (unhide Hw) q (unhide Hqh))
          obtain ⟨sg, hsg⟩ : ∃ sg, oneSig H i2 s2 h wd q pk = sg := ⟨_, rfl⟩
          rw [hsg] at Hon
          have Hsg : Hid (oneSig H i2 s2 h wd q pk = sg ∧ sg.length ≤ 10000) := ⟨hsg, by
            rw [← hsg, len_one H (unhide HC).len]
            unfold sizeOf
            have : pW wd ≤ 265 := by rcases unhide Hw with rfl | rfl | rfl | rfl <;> simp [pW]
            omega⟩
          clear hR a0 a1 a2 a3 a4 HN Htr hsg
          go_wp2_with fail
          refine (unhide Hon).mono ?_
          rintro e w8 ⟨v8, rfl, hR⟩
          have HN8 := hide ((unhide HN7).call hR.b)
          have HV78 := hide ((unhide HV7).below hR.b)
          have HV8 := hide hR.bytes
          have Hl8 : Hid (cur.length + sg.length ≤ 1073741824) := by show _ ≤ _; have h1 := unhide HLc; have h2 := (unhide Hsg).2; have h3 := Nat.mul_le_mul_left 20000 (show M + 1 - l ≤ 3 by omega); omega
          have Hl9 : Hid ((cur ++ sg).length + pk.length ≤ 1073741824) := by show _ ≤ _; have h1 := unhide HLc; have h2 := (unhide Hsg).2; have h3 := Nat.mul_le_mul_left 20000 (show M + 1 - l ≤ 3 by omega); have h4 := (unhide Hpk).2; rw [List.length_append]; omega
          have Hne : Hid (i2 ≠ [] ∧ s2 ≠ [] ∧ i3 ≠ [] ∧ s3 ≠ [] ∧ pk ≠ []) := ⟨fun e => by have := (unhide HLn).1; rw [e] at this; simp at this, fun e => by have := (unhide HLn).2; rw [e] at this; simp at this, fun e => by have := (unhide Hi3).2; rw [e] at this; simp at this, fun e => by have := (unhide Hs3).2; rw [e] at this; simp at this, fun e => by have := (unhide Hpk).2; rw [e] at this; simp at this⟩
          clear hR e0 e1 e2 e3 e4 HN7 HV7 Hon
          go_wp2_with (first
            | (at_builtin; refine wpList_append_grew rfl _ _ rfl _ v8 cur sg rfl (unhide HN8).row rfl (unhide HV8) (unhide Hl8) ?_
               intro v9 w9 hR hG
               have HN9 := hide ((unhide HN8).grew hR hG (unhide Hne).1 (unhide Hne).2.1 (unhide Hne).2.2.1 (unhide Hne).2.2.2.1)
               have HV79 := hide (hG.bytes (unhide Hap7) (unhide HV78) (unhide Hne).2.2.2.2)
               clear hR hG)
            | (at_builtin; refine wpList_append_grew rfl _ _ rfl _ v7 (cur ++ sg) pk rfl (unhide HN9).row rfl (unhide HV79).1 (unhide Hl9) ?_
               intro v10 w10 hR hG
               have HN10 := hide ((unhide HN9).grew hR hG (unhide Hne).1 (unhide Hne).2.1 (unhide Hne).2.2.1 (unhide Hne).2.2.2.1)
               have a0 := (unhide HN10).next.c 0 _ rfl
               have a1 := (unhide HN10).next.c 1 _ rfl
               have a2 := (unhide HN10).next.c 2 _ rfl
               have a3 := (unhide HN10).next.c 3 _ rfl
               have a4 := (unhide HN10).next.c 4 _ rfl
               have e0 := (unhide HN10).key.c 0 _ rfl
               have e1 := (unhide HN10).key.c 1 _ rfl
               have e2 := (unhide HN10).key.c 2 _ rfl
               have e3 := (unhide HN10).key.c 3 _ rfl
               have e4 := (unhide HN10).key.c 4 _ rfl
               have f0 := (unhide HN10).five.frozen 0
               have f1 := (unhide HN10).five.frozen 1
               have f2 := (unhide HN10).five.frozen 2
               have f3 := (unhide HN10).five.frozen 3
               have f4 := (unhide HN10).five.frozen 4
               clear hR hG))
        all_goals
          have HSg2 := hide ((unhide HN10).turn (Nat.le_refl _) (fun e => by simp only [Value.ownBlock, Option.some.injEq] at e; exact hb5K e) (fun e => by simp only [Value.ownBlock, Option.some.injEq] at e; exact hb6K e))
          unfold setKey at HSg2
          have HEc2 : Hid (cur ++ sg ++ pk ++ signFrom H h wd n msg (l - 1) i3 s3 = signOf H L h wd ID SEED n msg) := by
            show _ = _
            rw [← unhide HEc]
            obtain ⟨l', hl'⟩ : ∃ l', l = l' + 1 := ⟨l - 1, by omega⟩
            have hq' : leafAt h n (l' + 1) = q := by rw [← hl']; exact unhide Hq
            rw [hl', Nat.add_sub_cancel, signFrom, hq', (unhide Hi3).1, (unhide Hs3).1, (unhide Hpk).1, (unhide Hsg).1]
            simp only [List.append_assoc]
          have HLc2 : Hid ((cur ++ sg ++ pk).length ≤ 20000 * (M + 1 - (l - 1))) := by
            show _ ≤ _
            have h1 := unhide HLc
            have h2 := (unhide Hsg).2
            have h3 := (unhide Hpk).2
            rw [List.length_append, List.length_append, show M + 1 - (l - 1) = M + 1 - l + 1 by omega, Nat.mul_add]
            omega
          exact ⟨⟨l - 1, _, _, i3, s3, cur ++ sg ++ pk, by omega, by rw [Int.ofNat_sub (show 1 ≤ l by omega)]; rfl, HSg2, ⟨(unhide Hi3).2, (unhide Hs3).2⟩, HLc2, HEc2⟩, by simp [intOf]; omega⟩
      · obtain rfl : l = 0 := by omega
        have d0 : decide (0 < ((0 : Nat) : Int)) = false := by simp
        have HMc := hide ((unhide HM).below (unhide HSg).row.b)
        obtain ⟨Q, hQ⟩ : ∃ Q, 2 ^ h = Q := ⟨_, rfl⟩
        have hQ64 : Q ≤ 64 := by rw [← hQ]; exact Nat.pow_le_pow_right (show 0 < 2 by omega) (show h ≤ 6 by omega)
        have hQp : 0 < Q := by rw [← hQ]; exact Nat.pow_pos (by omega)
        have hQw : IntKind.i64.wrap ((2 : Int) ^ h) = (Q : Int) := by
          have e : ((2 ^ h : Nat) : Int) = 2 ^ h := by simp
          rw [← e, hQ]; exact IntWalk.i64_in _ (by omega)
        obtain ⟨q, hq⟩ : ∃ q, n % Q = q := ⟨_, rfl⟩
        have hqi : (n : Int).tmod (Q : Int) = (q : Int) := by rw [Int.tmod_eq_emod_of_nonneg (by omega), ← hq]; simp
        have hqQ : q < 2 ^ h := by rw [hQ, ← hq]; exact Nat.mod_lt _ hQp
        have hQ0 : (0 : Int) < (Q : Int) := by omega
        have hb6 : (h : Int) ≤ 6 := by omega
        have Hon : Hid (∀ w, Below wc.heap.size wc w → GivesB w 37 #[keyV (L : Int) (h : Int) (wd : Int) yi ys, .int .i64 (q : Int), xm] (oneSig H i2 s2 h wd q msg)) := fun w hb => one_any (unhide HC) w (L : Int) h wd yi ys xm i2 s2 msg ((unhide HSg).hyi.below hb) ((unhide HSg).hys.below hb) ((unhide HMc).below hb) (unhide HLn).1 (unhide HLn).2 (by have := (unhide Hl).2.2; omega) (by omega) (by omega) (unhide Hw) q hqQ
        have Hfin : Hid (cur ++ oneSig H i2 s2 h wd q msg = signOf H L h wd ID SEED n msg) := by show _ = _; rw [← unhide HEc, signFrom, hQ, hq]
        obtain ⟨sg, hsg⟩ : ∃ sg, oneSig H i2 s2 h wd q msg = sg := ⟨_, rfl⟩
        have Hl8 : Hid (cur.length + sg.length ≤ 1073741824) := by
          show _ ≤ _
          have h1 := unhide HLc
          have h3 := Nat.mul_le_mul_left 20000 (show M + 1 - 0 ≤ 3 by omega)
          rw [← hsg, len_one H (unhide HC).len]
          unfold sizeOf
          have : pW wd ≤ 265 := by rcases unhide Hw with rfl | rfl | rfl | rfl <;> simp [pW]
          omega
        rw [hsg] at Hon Hfin
        have k0 := (unhide HKc).c 0 _ rfl
        have k1 := (unhide HKc).c 1 _ rfl
        have k2 := (unhide HKc).c 2 _ rfl
        have k3 := (unhide HKc).c 3 _ rfl
        have k4 := (unhide HKc).c 4 _ rfl
        have hqb64 : q < 64 := by rw [hQ] at hqQ; omega
        clear hQ hq hqQ hsg
        have HRd := hide (unhide HSg).row.drew
        have HKd := hide ((unhide HKc).below (Below.refl _ _).drew)
        have hQne : ¬ (Q : Int) = 0 := by omega
        have hQne2 : ((Q : Int) == 0) = false := by simp; omega
        have hQm : ¬ (Q : Int) = -1 := by omega
        have hqw2 : IntKind.i64.wrap ((n : Int).tmod (Q : Int)) = (q : Int) := by rw [hqi]; exact IntWalk.i64_in _ (by omega)
        have nb0 : (0 : Int) ≤ (n : Int) := by omega
        have Qb64 : (Q : Int) ≤ 64 := by omega
        have qb : (q : Int) < 64 := by omega
        have hwq : IntKind.i64.wrap (q : Int) = (q : Int) := IntWalk.i64_in _ (by omega)
        go_wp2
        go_region_held_law (fun w' => w'.cell? ⟨w0.heap.size, 0, none⟩ = some (.int .i64 (L : Int)) ∧ w'.cell? ⟨w0.heap.size, 1, none⟩ = some (.int .i64 (h : Int)) ∧ w'.cell? ⟨w0.heap.size, 2, none⟩ = some (.int .i64 (wd : Int)) ∧ w'.cell? ⟨w0.heap.size, 3, none⟩ = some yi ∧ w'.cell? ⟨w0.heap.size, 4, none⟩ = some ys) (go_keep)
          ((first
            | (go_at_call 37; refine (unhide Hon _ (Below.refl _ _).drew).mono ?_; rintro e w8 ⟨v8, rfl, hR⟩; have HR8 := hide ((unhide HRd).call hR.b); have HV8 := hide hR.bytes; have HK8 := hide ((unhide HKd).below hR.b); have m0 := (unhide HK8).c 0 _ rfl; have m1 := (unhide HK8).c 1 _ rfl; have m2 := (unhide HK8).c 2 _ rfl; have m3 := (unhide HK8).c 3 _ rfl; have m4 := (unhide HK8).c 4 _ rfl; clear hR)
            | (refine step_append_row rfl _ _ rfl _ v8 cur sg (by simp [Act.eval]) (unhide HR8) (by simp [Act.eval]) (unhide HV8) (unhide Hl8) ?_; intro v9 w9 hR hG; have HR9 := hide hR; have HK9 := hide ((unhide HK8).grown hG.1 (fun e => (unhide HSg).ak _ e.symm rfl)); have n0 := (unhide HK9).c 0 _ rfl; have n1 := (unhide HK9).c 1 _ rfl; have n2 := (unhide HK9).c 2 _ rfl; have n3 := (unhide HK9).c 3 _ rfl; have n4 := (unhide HK9).c 4 _ rfl; clear hR hG)))
        have HF : Hid (Row w0 w9 v9 (signOf H L h wd id seed n msg)) := by
          show Row _ _ _ _
          rw [(unhide HIS).1, (unhide HIS).2, ← unhide Hfin]
          exact unhide HR9
        clear k0 k1 k2 k3 k4
        go_wp2
        go_ret2
        rename_i dd hdd
        obtain rfl : 80 = dd := Option.some.inj hdd
        exact ⟨_, rfl, unhide HF⟩
  · exact absurd (unhide HN) hR
end Go.Proofs.YtlhjifdahagkaaaDoor
