/-
  The walk of the reference's one: a tree's signature at a leaf.
-/
import Derived.Test.YtlhjifdahagkaaaDoorM02
namespace Go.Proofs.YtlhjifdahagkaaaDoor
open Go.RowKit
theorem dvals_get (q : Bs) (wd n i : Nat) (hi : i < n) : (dvals q wd n).getD i undef = .int .i64 (digit q wd i : Int) := by simp [dvals, List.getD_eq_getElem?_getD, hi]
theorem xor_dec : ∀ X : Nat, X < 128 → bits .xor .i64 (X : Int) 1 = ((X ^^^ 1 : Nat) : Int) := by decide +kernel
theorem xor_dec2 : ∀ d : Nat, d < 7 → ∀ X : Nat, X < 128 → (0 < d ∧ 2 ^ d ≤ X ∧ X < 2 ^ (d + 1)) → (2 ^ d ≤ X ^^^ 1 ∧ X ^^^ 1 < 2 ^ (d + 1)) := by decide +kernel
/-- A row of bytes that grows, beside a row of numbers that stays. -/
structure OneIn (wb wr : World) (out : Value) (l : Bs) (B : Nat) (dv : Value) (ds : List Value) : Prop where
  row : Row wb wr out l
  own : OwnV 3 wr B dv ds
  apart : Apart out dv
theorem OneIn.call {wb w w' : World} {out : Value} {l : Bs} {B : Nat} {dv : Value} {ds : List Value} (h : OneIn wb w out l B dv ds) (hb : Below w.heap.size w w') : OneIn wb w' out l B dv ds := ⟨h.row.call hb, h.own.below hb, h.apart⟩
theorem OneIn.drew {wb w : World} {out : Value} {l : Bs} {B : Nat} {dv : Value} {ds : List Value} (h : OneIn wb w out l B dv ds) : OneIn wb w.drew out l B dv ds := ⟨h.row.drew, h.own.drew, h.apart⟩
theorem OneIn.grew {wb w w' : World} {out out' : Value} {l l' : Bs} {B : Nat} {dv : Value} {ds : List Value} (h : OneIn wb w out l B dv ds) (hr : Row wb w' out' l') (hg : Grew w out w' out') : OneIn wb w' out' l' B dv ds :=
  ⟨hr, (hg.kept h.apart h.own).1, (hg.kept h.apart h.own).2⟩
set_option maxRecDepth 100000 in
set_option maxHeartbeats 2000000 in
theorem one_any {H : Bs → Bs} (C : RefHash H) (w0 : World) (L : Int) (h wd : Nat) (xi xs xm : Value) (id seed msg : Bs) (hi : BytesAt w0 xi id) (hs : BytesAt w0 xs seed) (hm : BytesAt w0 xm msg) (li : id.length = 16) (ls : seed.length = 32) (lm : msg.length ≤ 100000) (hh : h ≤ 6) (hh1 : 1 ≤ h) (hw : IsW wd) (q : Nat) (hq : q < 2 ^ h) :
    GivesB w0 37 #[keyV L (h : Int) (wd : Int) xi xs, .int .i64 (q : Int), xm] (oneSig H id seed h wd q msg) := by
  have HC := hide C
  have hbA : Below w0.heap.size w0 (w0.alloc (.cells #[.int .i64 L, .int .i64 (h : Int), .int .i64 (wd : Int), xi, xs] 29)) := (Below.refl _ _).alloc (Nat.le_refl _) _
  obtain ⟨wA, hwA⟩ : ∃ wA, w0.alloc (.cells #[.int .i64 L, .int .i64 (h : Int), .int .i64 (wd : Int), xi, xs] 29) = wA := ⟨_, rfl⟩
  have hK := key_new w0 L (h : Int) (wd : Int) xi xs 29
  rw [hwA] at hbA hK
  have HX := hide (hi.below hbA)
  have HS := hide (hs.below hbA)
  have HM := hide (hm.below hbA)
  have HK := hide hK
  have HB := hide hbA
  have Hl := hide (And.intro li (And.intro ls lm))
  have Hwi := hide (widthOf_of hw)
  have Hw := hide hw
  have hQb : 2 ^ h ≤ 64 := Nat.pow_le_pow_right (show 0 < 2 by omega) hh
  have qb : (q : Int) < 64 := by omega
  obtain ⟨p, hp⟩ : ∃ p, pW wd = p := ⟨_, rfl⟩
  have hpb : p ≤ 265 := by rw [← hp]; rcases unhide Hw with rfl | rfl | rfl | rfl <;> simp [pW]
  have hp0 : 0 < p := by rw [← hp]; rcases unhide Hw with rfl | rfl | rfl | rfl <;> simp [pW]
  have Hp := hide hp
  have pb : (p : Int) ≤ 265 := by omega
  obtain ⟨tw, htw⟩ : ∃ tw, tyW wd = tw := ⟨_, rfl⟩
  have hwb : tw ≤ 4 := by rw [← htw]; rcases hw with rfl | rfl | rfl | rfl <;> simp [tyW]
  obtain ⟨th, hth⟩ : ∃ th, tyH h = th := ⟨_, rfl⟩
  have htb : th ≤ 4294967296 := by rw [← hth]; unfold tyH; split <;> omega
  have Hty := hide (fun w => type_any h hh w)
  rw [hth] at Hty
  rw [htw, hp] at Hwi
  obtain ⟨c, hc⟩ : ∃ c, rnd H id seed q = c := ⟨_, rfl⟩
  obtain ⟨D, hD⟩ : ∃ D, hashed H id q c msg = D := ⟨_, rfl⟩
  have Hc := hide hc
  have HcL : Hid (c.length = 32) := by show _ = _; rw [← hc]; exact C.len _
  have HDL : Hid (D.length = 32) := by show _ = _; rw [← hD]; exact C.len _
  have HD := hide hD
  have Hone : Hid (oneSig H id seed h wd q msg = big q 4 ++ big tw 4 ++ c ++ bars H id seed wd q (digit D wd) p ++ big th 4 ++ beside H id seed h wd q h) := by
    show _ = _; unfold oneSig; rw [hc, hD, hp, htw, hth]
  have hb : (h : Int) ≤ 6 := by omega
  have c0 := hK.c 0 _ rfl
  have c1 := hK.c 1 _ rfl
  have c2 := hK.c 2 _ rfl
  have c3 := hK.c 3 _ rfl
  have c4 := hK.c 4 _ rfl
  have Hsec : Hid (∀ (w : World) (i : Nat), BytesAt w xi id → BytesAt w xs seed → i ≤ 70000 → GivesB w 36 #[keyV L (h : Int) (wd : Int) xi xs, .int .i64 (q : Int), .int .i64 (i : Int)] (secret H id seed q i)) := fun w i a b hi' => secret_any C w L (h : Int) (wd : Int) xi xs id seed a b (by omega) (by omega) q i (by omega) (by omega)
  have Hsec0 : Hid (∀ w, BytesAt w xi id → BytesAt w xs seed → GivesB w 36 #[keyV L (h : Int) (wd : Int) xi xs, .int .i64 (q : Int), .int .i64 ((65533 : Nat) : Int)] c) := fun w a b => by rw [← hc]; exact secret_any C w L (h : Int) (wd : Int) xi xs id seed a b (by omega) (by omega) q 65533 (by omega) (by omega)
  have Hnod : Hid (∀ (z : Nat), z < h → ∀ (r : Nat), 2 ^ (h - z) ≤ r → r < 2 ^ (h - z + 1) → ∀ w, BytesAt w xi id → BytesAt w xs seed → GivesB w 55 #[keyV L (h : Int) (wd : Int) xi xs, .int .i64 (r : Int)] (nodeAt H id seed h wd z r)) := fun z hz r h1 h2 w a b => node_any C L h wd xi xs id seed li ls hh hw z (by omega) r h1 h2 w a b
  clear C hi hs hm hbA li ls lm hw hK hp htw hth hc hD
  unfold keyV
  go_enter Tryd.func37, Tryd.ntmps37
  go_wp2_with fail
  refine (width_any (wd : Int) _).mono ?_
  rw [unhide Hwi]
  rintro e w0' ⟨rfl, hw1⟩
  subst hw1
  go_wp2_with fail
  refine (unhide Hsec0 w0' (unhide HX) (unhide HS)).mono ?_
  rintro e w1 ⟨v1, rfl, hR⟩
  have HV1 := hide hR.bytes
  have HA1 := hide hR.b
  clear hR c0 c1 c2 c3 c4
  go_wp2_with fail
  refine (big_any w1 q 4 (by omega) (by omega)).mono ?_
  rintro e w2 ⟨v2, rfl, hR⟩
  have HV2 := hide hR.bytes
  have HW2 := hide hR.b
  clear hR
  go_wp2_with fail
  refine (big_any w2 tw 4 (by omega) (by omega)).mono ?_
  rintro e w3 ⟨v3, rfl, hR⟩
  have HV23 := hide ((unhide HV2).below hR.b)
  have HV3 := hide hR.bytes
  have HW3 := hide ((unhide HW2).trans (hR.b.mono (unhide HW2).size))
  clear hR HV2 HW2
  go_wp2_with fail
  refine (join_any w3 v2 v3 (big q 4) (big tw 4) (unhide HV23) (unhide HV3) (by rw [len_big, len_big]; omega)).mono ?_
  rintro e w4 ⟨v4, rfl, hR⟩
  have HR4 := hide (hR.up (unhide HW3))
  have HV14 := hide ((unhide HV1).below (unhide HR4).b)
  have Hl4 : Hid ((big q 4 ++ big tw 4).length + c.length ≤ 1073741824) := by show _ ≤ _; rw [List.length_append, len_big, len_big, unhide HcL]; omega
  clear hR HV23 HV3 HW3
  go_wp2_with (at_builtin; refine wpList_append_row rfl _ _ rfl v4 v1 (big q 4 ++ big tw 4) c rfl (unhide HR4) rfl (unhide HV14) (unhide Hl4) ?_
               intro v5 w5 hR
               have HR5 := hide hR
               have HA5 := hide ((unhide HA1).trans (hR.b.mono (unhide HA1).size))
               have k3 := ((unhide HK).below (unhide HA5)).c 3 _ rfl
               clear hR)
  refine (head_any w5 xi id q 0x8181 ((unhide HX).below (unhide HA5)) (by have := unhide Hl; omega) (by omega) (by omega)).mono ?_
  rintro e w6 ⟨v6, rfl, hR⟩
  have HR6 := hide hR
  have HV16 := hide (((unhide HV1).below (unhide HR5).b).below hR.b)
  have HM5 := hide ((unhide HM).below (unhide HA5))
  have Hl6 : Hid ((head id q 0x8181).length + c.length ≤ 1073741824) := by show _ ≤ _; have h1 := unhide Hl; rw [len_head, unhide HcL]; omega
  have Hl7 : Hid ((head id q 0x8181 ++ c).length + msg.length ≤ 1073741824) := by show _ ≤ _; have h1 := unhide Hl; rw [List.length_append, len_head, unhide HcL]; omega
  clear hR k3
  go_wp2_with (at_builtin; refine wpList_append_row rfl _ _ rfl v6 v1 (head id q 0x8181) c rfl (unhide HR6) rfl (unhide HV16) (unhide Hl6) ?_
               intro v7 w7 hR
               have HR7 := hide hR.drew
               have HM7 := hide ((unhide HM5).below hR.drew.b)
               have HA7 := hide ((unhide HA5).trans (hR.b.mono (unhide HA5).size))
               have k2 := ((unhide HK).below (unhide HA7)).c 2 _ rfl
               clear hR)
  have HDe : Hid (H (head id q 0x8181 ++ c ++ msg) = D) := unhide HD
  have Hsm : Hid (∀ w v, BytesAt w v (head id q 0x8181 ++ c ++ msg) → GivesB w 59 #[v] D) := fun w v hv => by
    rw [← unhide HDe]
    exact (unhide HC).sum w v _ hv (by have h1 := unhide Hl; rw [List.length_append, List.length_append, len_head, unhide HcL]; omega)
  have Hdg : Hid (∀ w v, BytesAt w v D → Calls Tryd.prog 60 #[v, .int .i64 (wd : Int)] w fun e w' => ∃ v, e = .returned v ∧ OwnV 3 w' w.heap.size v (dvals D wd p) ∧ Below w.heap.size w w') := fun w v hv => by
    have := digits_any w v D hv (unhide HDL) wd (unhide Hw)
    rw [unhide Hp] at this
    exact this
  go_region_held3 (fun w' => w'.cell? ⟨w0.heap.size, 2, none⟩ = some (.int .i64 (wd : Int))) (go_keep)
    ((first
      | (go_at_call 59; refine (unhide Hsm w8 v8 (unhide HR8).bytes).mono ?_; rintro e w9 ⟨v9, rfl, hR⟩; have HV9 := hide hR.bytes; have HW9 := hide ((unhide HR8).b.trans (hR.b.mono (unhide HR8).b.size)); have HA9 := hide ((unhide HA5).trans ((unhide HW9).mono (unhide HA5).size)); have n2 := ((unhide HK).below (unhide HA9)).c 2 _ rfl; clear hR)
      | (go_at_call 60; refine (unhide Hdg w9 v9 (unhide HV9)).mono ?_; rintro e w10 ⟨v10, rfl, hO, hb10⟩; have HOd0 := hide hO; have HW10 := hide ((unhide HW9).trans (hb10.mono (unhide HW9).size)); have p2 := (((unhide HK).below (unhide HA9)).below hb10).c 2 _ rfl; clear hO hb10)
      | (refine step_append_row rfl _ _ rfl v7 xm (head id q 0x8181 ++ c) msg (by simp [Act.eval]) (unhide HR7) (by simp [Act.eval]) (unhide HM7) (unhide Hl7) ?_; intro v8 w8 hR _; have HR8 := hide hR; have HA8 := hide ((unhide HA5).trans (hR.b.mono (unhide HA5).size)); have m2 := ((unhide HK).below (unhide HA8)).c 2 _ rfl; clear hR)))
  obtain ⟨db, dc, hv10, hdb, _, _⟩ := OwnV.cellAt (unhide HOd0) (by intro e0; have := congrArg List.length e0; rw [len_dvals] at this; simp at this; omega)
  rw [len_dvals] at hv10
  subst hv10
  have HOd := hide (unhide HOd0)
  have HR10 := hide ((unhide HR5).call (unhide HW10))
  have Hap : Hid (Apart v5 (.slice (some ⟨db, 0, none⟩) p dc)) := fun k hk hq => by
    have h1 := (World.ownsRow.lt (unhide HR5).own k hk).2
    simp only [Value.ownBlock, Option.some.injEq] at hq
    have h2 := (unhide HW9).size
    omega
  clear hdb HR7 HR6 HM5 HM7 HV16 HDe HOd0 HA7 Hsm Hdg k2
  have HR0 : Hid (Row w1 w10 v5 (big q 4 ++ big tw 4 ++ c ++ bars H id seed wd q (digit D wd) 0)) := by show Row _ _ _ _; simpa [bars] using unhide HR10
  have HI0 : Hid (OneIn w1 w10 v5 (big q 4 ++ big tw 4 ++ c ++ bars H id seed wd q (digit D wd) 0) w9.heap.size (.slice (some ⟨db, 0, none⟩) p dc) (dvals D wd p)) := ⟨unhide HR0, unhide HOd, unhide Hap⟩
  clear HR0 HOd Hap HR10
  go_wp2
  go_loopw [12, 15] (fun out ii wr => ∃ i : Nat, i ≤ p ∧ ii = .int .i64 (i : Int) ∧ Hid (OneIn w1 wr out (big q 4 ++ big tw 4 ++ c ++ bars H id seed wd q (digit D wd) i) w9.heap.size (.slice (some ⟨db, 0, none⟩) p dc) (dvals D wd p))) (fun _ ii _ => p - (intOf ii).toNat)
  case atStart => exact ⟨0, by omega, rfl, HI0⟩
  case round =>
    clear HI0
    obtain ⟨i, hi, rfl, HI⟩ := hrel
    have ib : (i : Int) ≤ 265 := by omega
    rename World => wc
    have HAc := hide ((unhide HA1).trans ((unhide HI).row.b.mono (unhide HA1).size))
    by_cases hlt : i < p
    · have HId := hide (unhide HI).drew
      have HAd := hide ((unhide HA1).trans ((unhide HId).row.b.mono (unhide HA1).size))
      have HXd := hide ((unhide HX).below (unhide HAd))
      have HSd := hide ((unhide HS).below (unhide HAd))
      have HKc := hide ((unhide HK).below (unhide HAc))
      have c0 := (unhide HKc).c 0 _ rfl
      have c1 := (unhide HKc).c 1 _ rfl
      have c2 := (unhide HKc).c 2 _ rfl
      have c3 := (unhide HKc).c 3 _ rfl
      have c4 := (unhide HKc).c 4 _ rfl
      have Hdc : Hid (∀ w, OwnV 3 w w9.heap.size (.slice (some ⟨db, 0, none⟩) p dc) (dvals D wd p) → w.cell? ⟨db, i, none⟩ = some (.int .i64 (digit D wd i : Int))) := fun w ho => by
        obtain ⟨b', c', e', _, _, hc'⟩ := OwnV.cellAt ho (by intro e0; have := congrArg List.length e0; rw [len_dvals] at this; simp at this; omega)
        simp only [Value.slice.injEq, Option.some.injEq, Addr.mk.injEq] at e'
        obtain ⟨⟨rfl, _, _⟩, _, _⟩ := e'
        rw [hc' i (by rw [len_dvals]; exact hlt), dvals_get _ _ _ _ hlt]
      have cd := unhide Hdc wc (unhide HI).own
      have hdg : digit D wd i ≤ 255 := by
        have h1 := digit_lt D wd i
        have h2 : 2 ^ wd ≤ 256 := Nat.pow_le_pow_right (show 0 < 2 by omega) (show wd ≤ 8 by rcases unhide Hw with rfl | rfl | rfl | rfl <;> omega)
        omega
      have Hbs : Hid (bars H id seed wd q (digit D wd) (i + 1) = bars H id seed wd q (digit D wd) i ++ steps H id q i (secret H id seed q i) 0 (digit D wd i - 0)) := rfl
      obtain ⟨dg, hdge⟩ : ∃ dg, digit D wd i = dg := ⟨_, rfl⟩
      rw [hdge] at cd hdg Hdc Hbs
      obtain ⟨lb, hlb⟩ : ∃ lb, bars H id seed wd q (digit D wd) i = lb := ⟨_, rfl⟩
      have Hlb : Hid (lb.length = 32 * i) := by show _ = _; rw [← hlb, len_bars H (unhide HC).len]
      rw [hlb] at HI HId Hbs
      have Hsec1 := hide (unhide Hsec wc.drew i (unhide HXd) (unhide HSd) (by omega))
      have Hst : Hid (∀ w v, BytesAt w xi id → BytesAt w v (secret H id seed q i) → TellsB w 61 #[xi, .int .i64 (q : Int), .int .i64 (i : Int), v, .int .i64 0, .int .i64 (dg : Int)] (steps H id q i (secret H id seed q i) 0 (dg - 0))) := fun w v a b => steps_any (unhide HC) w xi v id (secret H id seed q i) a b (by have := unhide Hl; omega) (by rw [len_secret H (unhide HC).len]; omega) q i 0 dg (by omega) (by omega) (by omega) hdg
      have Hll : Hid ((big q 4 ++ big tw 4 ++ c ++ lb).length + (steps H id q i (secret H id seed q i) 0 (dg - 0)).length ≤ 1073741824) := by
        show _ ≤ _
        rw [List.length_append, List.length_append, List.length_append, len_big, len_big, unhide HcL, unhide Hlb, len_steps H (unhide HC).len _ _ _ _ _ _ (len_secret H (unhide HC).len _ _ _ _)]
        omega
      have i0 : (0 : Int) ≤ (i : Int) := by omega
      have i1 : (i : Int) < (p : Int) := by omega
      clear hlb hdge
      go_wp2
      go_region_held3 (fun w' => w'.cell? ⟨w0.heap.size, 0, none⟩ = some (.int .i64 L) ∧ w'.cell? ⟨w0.heap.size, 1, none⟩ = some (.int .i64 (h : Int)) ∧ w'.cell? ⟨w0.heap.size, 2, none⟩ = some (.int .i64 (wd : Int)) ∧ w'.cell? ⟨w0.heap.size, 3, none⟩ = some xi ∧ w'.cell? ⟨w0.heap.size, 4, none⟩ = some xs ∧ w'.cell? ⟨db, i, none⟩ = some (.int .i64 (dg : Int))) (go_keep)
        ((first
          | (go_at_call 36; refine (unhide Hsec1).mono ?_; rintro e w11 ⟨v11, rfl, hR⟩; have HI11 := hide ((unhide HId).call hR.b); have HV11 := hide hR.bytes; have HA11 := hide ((unhide HA1).trans ((unhide HI11).row.b.mono (unhide HA1).size)); have HK11 := hide ((unhide HK).below (unhide HA11)); have k0 := (unhide HK11).c 0 _ rfl; have k1 := (unhide HK11).c 1 _ rfl; have k2 := (unhide HK11).c 2 _ rfl; have k3 := (unhide HK11).c 3 _ rfl; have k4 := (unhide HK11).c 4 _ rfl; have kd := unhide Hdc w11 (unhide HI11).own; clear hR)
          | (go_at_call 61; refine (unhide Hst w11 v11 ((unhide HX).below (unhide HA11)) (unhide HV11)).mono ?_; rintro e w12 ⟨v12, rfl, hB, hb⟩; have HV12 := hide hB; have HI12 := hide ((unhide HI11).call hb); have HA12 := hide ((unhide HA1).trans ((unhide HI12).row.b.mono (unhide HA1).size)); have HK12 := hide ((unhide HK).below (unhide HA12)); have m0 := (unhide HK12).c 0 _ rfl; have m1 := (unhide HK12).c 1 _ rfl; have m2 := (unhide HK12).c 2 _ rfl; have m3 := (unhide HK12).c 3 _ rfl; have m4 := (unhide HK12).c 4 _ rfl; have md := unhide Hdc w12 (unhide HI12).own; clear hB hb)
          | (refine step_append_row rfl _ _ rfl _ v12 (big q 4 ++ big tw 4 ++ c ++ lb) (steps H id q i (secret H id seed q i) 0 (dg - 0)) (by simp [Act.eval]) (unhide HI12).row (by simp [Act.eval]) (unhide HV12) (unhide Hll) ?_; intro v13 w13 hR hG; have HI13 := hide ((unhide HI12).grew hR hG); have HA13 := hide ((unhide HA1).trans (hR.b.mono (unhide HA1).size)); have HK13 := hide ((unhide HK).below (unhide HA13)); have n0 := (unhide HK13).c 0 _ rfl; have n1 := (unhide HK13).c 1 _ rfl; have n2 := (unhide HK13).c 2 _ rfl; have n3 := (unhide HK13).c 3 _ rfl; have n4 := (unhide HK13).c 4 _ rfl; have nd := unhide Hdc w13 (unhide HI13).own; clear hR hG)))
      have HI14 : Hid (OneIn w1 w13 v13 (big q 4 ++ big tw 4 ++ c ++ bars H id seed wd q (digit D wd) (i + 1)) w9.heap.size (.slice (some ⟨db, 0, none⟩) p dc) (dvals D wd p)) := by
        show OneIn _ _ _ _ _ _ _
        rw [unhide Hbs, ← List.append_assoc]
        exact unhide HI13
      clear c0 c1 c2 c3 c4 cd HI HId HAd HXd HSd HKc Hsec1 Hst Hll HI13
      go_wp2
      go_roundw
      case rel =>
        first
          | exact ⟨i + 1, by omega, by go_num, HI14⟩
          | ((repeat apply Exists.intro); exact ⟨⟨i + 1, by omega, by go_num, HI14⟩, rfl⟩)
      case measure => simp [intOf]; omega
    · obtain rfl : i = p := by omega
      have di : decide ((i : Int) < (i : Int)) = false := by simp
      have c1 := ((unhide HK).below (unhide HAc)).c 1 _ rfl
      have HR14 := hide (unhide HI).row
      clear HI
      go_wp2_with fail
      refine (unhide Hty wc).mono ?_
      rintro e wt ⟨rfl, hwt⟩
      rw [hwt]
      clear hwt wt c1
      go_wp2_with fail
      refine (big_any wc th 4 (by omega) (by omega)).mono ?_
      rintro e w15 ⟨v15, rfl, hR⟩
      have HR15 := hide ((unhide HR14).call hR.b)
      have HV15 := hide hR.bytes
      obtain ⟨l0, hl0⟩ : ∃ l0, big q 4 ++ big tw 4 ++ c ++ bars H id seed wd q (digit D wd) i = l0 := ⟨_, rfl⟩
      have Hl0 : Hid (l0.length ≤ 10000) := by show _ ≤ _; rw [← hl0, List.length_append, List.length_append, List.length_append, len_big, len_big, unhide HcL, len_bars H (unhide HC).len]; omega
      have Hone2 : Hid (oneSig H id seed h wd q msg = l0 ++ big th 4 ++ beside H id seed h wd q h) := by show _ = _; rw [unhide Hone, ← hl0]
      rw [hl0] at HR15
      have Hl15 : Hid (l0.length + (big th 4).length ≤ 1073741824) := by show _ ≤ _; have := unhide Hl0; rw [len_big]; omega
      clear hR HR14 hl0
      go_wp2_with (at_builtin; refine wpList_append_row rfl _ _ rfl _ v15 l0 (big th 4) rfl (unhide HR15) rfl (unhide HV15) (unhide Hl15) ?_
                   intro v16 w16 hR
                   have HR16 : Hid (Row w1 w16 v16 (l0 ++ big th 4 ++ beside H id seed h wd q 0)) := by show Row _ _ _ _; simpa [beside] using hR
                   have HA16 := hide ((unhide HA1).trans (hR.b.mono (unhide HA1).size))
                   have k1 := ((unhide HK).below (unhide HA16)).c 1 _ rfl
                   clear hR)
      clear k1
      obtain ⟨Q, hQ⟩ : ∃ Q, 2 ^ h = Q := ⟨_, rfl⟩
      have hQi : (2 : Int) ^ h = (Q : Int) := by rw [← hQ]; simp
      rw [hQ] at hQb hq
      have hQw : IntKind.i64.wrap ((2 : Int) ^ h) = (Q : Int) := by rw [hQi]; exact IntWalk.i64_in _ (by omega)
      have hSw : IntKind.i64.wrap ((Q : Int) + (q : Int)) = ((Q + q : Nat) : Int) := by rw [IntWalk.i64_in _ (by omega)]; simp
      obtain ⟨G, hG⟩ : ∃ G, Q + q = G := ⟨_, rfl⟩
      rw [hG] at hSw
      have HQ := hide hQ
      have HG := hide hG
      have hG1 : Q ≤ G ∧ G < 2 * Q := by omega
      have hb1 : (1 : Int) ≤ (h : Int) := by omega
      clear hQ hG hQi
      go_loopw [12, 16] (fun out zz wr => ∃ z : Nat, z ≤ h ∧ zz = .int .i64 (z : Int) ∧ Hid (Row w1 wr out (l0 ++ big th 4 ++ beside H id seed h wd q z))) (fun _ zz _ => h - (intOf zz).toNat)
      case atStart => exact ⟨0, by omega, rfl, HR16⟩
      case round =>
        clear HR16
        obtain ⟨z, hz, rfl, HR⟩ := hrel
        have zb : (z : Int) ≤ 6 := by omega
        rename World => wz
        have HAz := hide ((unhide HA1).trans ((unhide HR).b.mono (unhide HA1).size))
        have HKz := hide ((unhide HK).below (unhide HAz))
        have c1 := (unhide HKz).c 1 _ rfl
        by_cases hlt : z < h
        · have HRd := hide (unhide HR).drew
          have HAd := hide ((unhide HA1).trans ((unhide HRd).b.mono (unhide HA1).size))
          have HXd := hide ((unhide HX).below (unhide HAd))
          have HSd := hide ((unhide HS).below (unhide HAd))
          have c0 := (unhide HKz).c 0 _ rfl
          have c2 := (unhide HKz).c 2 _ rfl
          have c3 := (unhide HKz).c 3 _ rfl
          have c4 := (unhide HKz).c 4 _ rfl
          obtain ⟨X, hX⟩ : ∃ X, G / 2 ^ z = X := ⟨_, rfl⟩
          have hXi : (G : Int) / 2 ^ z = (X : Int) := by rw [← hX]; simp
          have hpz : 2 ^ h = 2 ^ (h - z) * 2 ^ z := by rw [← Nat.pow_add]; congr 1; omega
          have hX1 : 2 ^ (h - z) ≤ X := by
            rw [← hX, Nat.le_div_iff_mul_le (Nat.pow_pos (by omega)), ← hpz, unhide HQ]; exact hG1.1
          have hX2 : X < 2 ^ (h - z + 1) := by
            rw [← hX, Nat.div_lt_iff_lt_mul (Nat.pow_pos (by omega)), Nat.pow_succ, Nat.mul_assoc, Nat.mul_comm 2, ← Nat.mul_assoc, ← hpz, unhide HQ]; omega
          have hX3 : X < 128 := by rw [← hX]; exact Nat.lt_of_le_of_lt (Nat.div_le_self _ _) (by omega)
          have hxr := xor_dec X hX3
          have hxb := xor_dec2 (h - z) (by omega) X hX3 ⟨by omega, hX1, hX2⟩
          have Hbs : Hid (beside H id seed h wd q (z + 1) = beside H id seed h wd q z ++ nodeAt H id seed h wd z (X ^^^ 1)) := by show _ ++ nodeAt H id seed h wd z ((2 ^ h + q) / 2 ^ z ^^^ 1) = _; rw [unhide HQ, unhide HG, hX]
          obtain ⟨r, hr⟩ : ∃ r, X ^^^ 1 = r := ⟨_, rfl⟩
          rw [hr] at hxr hxb Hbs
          have Hnd := hide (unhide Hnod z hlt r hxb.1 hxb.2 wz.drew (unhide HXd) (unhide HSd))
          have Hll : Hid ((l0 ++ big th 4 ++ beside H id seed h wd q z).length + (nodeAt H id seed h wd z r).length ≤ 1073741824) := by
            show _ ≤ _
            have := unhide Hl0
            rw [List.length_append, List.length_append, len_big, len_beside H (unhide HC).len, len_node H (unhide HC).len]
            omega
          have d1 : decide ((z : Int) < (h : Int)) = true := by simp; omega
          have d1' : decide (z < h) = true := by simp; omega
          have z0 : (0 : Int) ≤ (z : Int) := by omega
          clear hX hpz hX1 hX2 hX3 hxb hr
          go_wp2
          go_region_held3 (fun w' => w'.cell? ⟨w0.heap.size, 0, none⟩ = some (.int .i64 L) ∧ w'.cell? ⟨w0.heap.size, 1, none⟩ = some (.int .i64 (h : Int)) ∧ w'.cell? ⟨w0.heap.size, 2, none⟩ = some (.int .i64 (wd : Int)) ∧ w'.cell? ⟨w0.heap.size, 3, none⟩ = some xi ∧ w'.cell? ⟨w0.heap.size, 4, none⟩ = some xs) (go_keep)
            ((first
              | (go_at_call 55; refine (unhide Hnd).mono ?_; rintro e w17 ⟨v17, rfl, hR⟩; have HR17 := hide ((unhide HRd).call hR.b); have HV17 := hide hR.bytes; have HA17 := hide ((unhide HA1).trans ((unhide HR17).b.mono (unhide HA1).size)); have HK17 := hide ((unhide HK).below (unhide HA17)); have k0 := (unhide HK17).c 0 _ rfl; have k1 := (unhide HK17).c 1 _ rfl; have k2 := (unhide HK17).c 2 _ rfl; have k3 := (unhide HK17).c 3 _ rfl; have k4 := (unhide HK17).c 4 _ rfl; clear hR)
              | (refine step_append_row rfl _ _ rfl _ v17 (l0 ++ big th 4 ++ beside H id seed h wd q z) (nodeAt H id seed h wd z r) (by simp [Act.eval]) (unhide HR17) (by simp [Act.eval]) (unhide HV17) (unhide Hll) ?_; intro v18 w18 hR _; have HR18 := hide hR; have HA18 := hide ((unhide HA1).trans (hR.b.mono (unhide HA1).size)); have HK18 := hide ((unhide HK).below (unhide HA18)); have n0 := (unhide HK18).c 0 _ rfl; have n1 := (unhide HK18).c 1 _ rfl; have n2 := (unhide HK18).c 2 _ rfl; have n3 := (unhide HK18).c 3 _ rfl; have n4 := (unhide HK18).c 4 _ rfl; clear hR)))
          have HR19 : Hid (Row w1 w18 v18 (l0 ++ big th 4 ++ beside H id seed h wd q (z + 1))) := by
            show Row _ _ _ _
            rw [unhide Hbs, ← List.append_assoc]
            exact unhide HR18
          clear c0 c1 c2 c3 c4 HR HRd HR18
          go_wp2
          go_roundw
          case rel =>
            first
              | exact ⟨z + 1, by omega, by go_num, HR19⟩
              | ((repeat apply Exists.intro); exact ⟨⟨z + 1, by omega, by go_num, HR19⟩, rfl⟩)
          case measure => simp [intOf]; omega
        · obtain rfl : z = h := by omega
          have dz : decide ((z : Int) < (z : Int)) = false := by simp
          have HF : Hid (Row w0 wz u12 (oneSig H id seed z wd q msg)) := by
            show Row _ _ _ _
            rw [unhide Hone2]
            exact ((unhide HR).up (unhide HA1)).up (unhide HB)
          clear HR
          go_wp2
          go_ret
          exact ⟨_, rfl, unhide HF⟩
end Go.Proofs.YtlhjifdahagkaaaDoor
/-
  The walks of the reference's Right and Count.
-/
namespace Go.Proofs.YtlhjifdahagkaaaDoor
open Go.RowKit
/-- A key is right. -/
def RightP (L h wd : Int) (id seed : Bs) : Prop := (wd = 1 ∨ wd = 2 ∨ wd = 4 ∨ wd = 8) ∧ 1 ≤ L ∧ L ≤ 3 ∧ 1 ≤ h ∧ h ≤ 6 ∧ id.length = 16 ∧ seed.length = 32
theorem widthOf_ok (x : Int) : ∃ a b c o, widthOf x = .tuple #[.int .i64 a, .int .i64 b, .int .i64 c, .bool o] ∧ (o = true ↔ (x = 1 ∨ x = 2 ∨ x = 4 ∨ x = 8)) := by
  unfold widthOf
  split
  · exact ⟨_, _, _, _, rfl, by simp [*]⟩
  · split
    · exact ⟨_, _, _, _, rfl, by simp [*]⟩
    · split
      · exact ⟨_, _, _, _, rfl, by simp [*]⟩
      · split
        · exact ⟨_, _, _, _, rfl, by simp [*]⟩
        · exact ⟨_, _, _, _, rfl, by simp [*]⟩
set_option maxRecDepth 100000 in
set_option maxHeartbeats 2000000 in
theorem right_any (w0 : World) (L h wd : Int) (xi xs : Value) (id seed : Bs) (hi : BytesAt w0 xi id) (hs : BytesAt w0 xs seed) (li : (id.length : Int) ≤ 9223372036854775807) (ls : (seed.length : Int) ≤ 9223372036854775807) :
    Calls Tryd.prog 19 #[keyV L h wd xi xs] w0 fun e w' => ((RightP L h wd id seed ∧ e = .returned (.bool true)) ∨ (¬ RightP L h wd id seed ∧ e = .returned (.bool false))) ∧ Below w0.heap.size w0 w' := by
  have hbA : Below w0.heap.size w0 (w0.alloc (.cells #[.int .i64 L, .int .i64 h, .int .i64 wd, xi, xs] 29)) := (Below.refl _ _).alloc (Nat.le_refl _) _
  obtain ⟨wA, hwA⟩ : ∃ wA, w0.alloc (.cells #[.int .i64 L, .int .i64 h, .int .i64 wd, xi, xs] 29) = wA := ⟨_, rfl⟩
  have hK := key_new w0 L h wd xi xs 29
  rw [hwA] at hbA hK
  have HB := hide hbA
  obtain ⟨si, ci, rfl, _⟩ := bytes_open hi
  obtain ⟨ss, cs, rfl, _⟩ := bytes_open hs
  obtain ⟨a, b, c, o, hwo, hok⟩ := widthOf_ok wd
  have Hwo := hide hwo
  have c0 := hK.c 0 _ rfl
  have c1 := hK.c 1 _ rfl
  have c2 := hK.c 2 _ rfl
  have c3 := hK.c 3 _ rfl
  have c4 := hK.c 4 _ rfl
  have lib : (id.length : Int) ≤ 9223372036854775807 := li
  have lsb : (seed.length : Int) ≤ 9223372036854775807 := ls
  clear hi hs hbA hK hwo
  unfold keyV
  cases o with
  | false =>
    have HNO : Hid (¬ RightP L h wd id seed) := fun hr => by have := hok.2 hr.1; simp at this
    clear hok
    go_enter Tryd.func19, Tryd.ntmps19
    go_wp2_with fail
    refine (width_any wd _).mono ?_
    rw [unhide Hwo]
    rintro e w1 ⟨rfl, hw1⟩
    subst hw1
    go_wp2
    go_ret
    exact ⟨Or.inr ⟨unhide HNO, rfl⟩, unhide HB⟩
  | true =>
    by_cases p0 : 1 ≤ L
    · have e0 : decide (1 ≤ L) = true := by simp; omega
      by_cases p1 : L ≤ 3
      · have e1 : decide (L ≤ 3) = true := by simp; omega
        by_cases p2 : 1 ≤ h
        · have e2 : decide (1 ≤ h) = true := by simp; omega
          by_cases p3 : h ≤ 6
          · have e3 : decide (h ≤ 6) = true := by simp; omega
            by_cases p4 : id.length = 16
            · have e4 : ((id.length : Int) == 16) = true := by simp; omega
              by_cases p5 : seed.length = 32
              · have e5 : ((seed.length : Int) == 32) = true := by simp; omega
                have HYE : Hid (RightP L h wd id seed) := ⟨hok.1 rfl, p0, p1, p2, p3, p4, p5⟩
                clear hok p4 p5
                go_enter Tryd.func19, Tryd.ntmps19
                go_wp2_with fail
                refine (width_any wd _).mono ?_
                rw [unhide Hwo]
                rintro e w1 ⟨rfl, hw1⟩
                subst hw1
                go_wp2
                go_ret
                exact ⟨Or.inl ⟨unhide HYE, rfl⟩, unhide HB⟩
              · have e5 : ((seed.length : Int) == 32) = false := by simp; omega
                have HNO : Hid (¬ RightP L h wd id seed) := fun hr => p5 hr.2.2.2.2.2.2
                clear hok p4 p5
                go_enter Tryd.func19, Tryd.ntmps19
                go_wp2_with fail
                refine (width_any wd _).mono ?_
                rw [unhide Hwo]
                rintro e w1 ⟨rfl, hw1⟩
                subst hw1
                go_wp2
                go_ret
                exact ⟨Or.inr ⟨unhide HNO, rfl⟩, unhide HB⟩
            · have e4 : ((id.length : Int) == 16) = false := by simp; omega
              have HNO : Hid (¬ RightP L h wd id seed) := fun hr => p4 hr.2.2.2.2.2.1
              clear hok p4
              go_enter Tryd.func19, Tryd.ntmps19
              go_wp2_with fail
              refine (width_any wd _).mono ?_
              rw [unhide Hwo]
              rintro e w1 ⟨rfl, hw1⟩
              subst hw1
              go_wp2
              go_ret
              exact ⟨Or.inr ⟨unhide HNO, rfl⟩, unhide HB⟩
          · have e3 : decide (h ≤ 6) = false := by simp; omega
            have HNO : Hid (¬ RightP L h wd id seed) := fun hr => p3 hr.2.2.2.2.1
            clear hok
            go_enter Tryd.func19, Tryd.ntmps19
            go_wp2_with fail
            refine (width_any wd _).mono ?_
            rw [unhide Hwo]
            rintro e w1 ⟨rfl, hw1⟩
            subst hw1
            go_wp2
            go_ret
            exact ⟨Or.inr ⟨unhide HNO, rfl⟩, unhide HB⟩
        · have e2 : decide (1 ≤ h) = false := by simp; omega
          have HNO : Hid (¬ RightP L h wd id seed) := fun hr => p2 hr.2.2.2.1
          clear hok
          go_enter Tryd.func19, Tryd.ntmps19
          go_wp2_with fail
          refine (width_any wd _).mono ?_
          rw [unhide Hwo]
          rintro e w1 ⟨rfl, hw1⟩
          subst hw1
          go_wp2
          go_ret
          exact ⟨Or.inr ⟨unhide HNO, rfl⟩, unhide HB⟩
      · have e1 : decide (L ≤ 3) = false := by simp; omega
        have HNO : Hid (¬ RightP L h wd id seed) := fun hr => p1 hr.2.2.1
        clear hok
        go_enter Tryd.func19, Tryd.ntmps19
        go_wp2_with fail
        refine (width_any wd _).mono ?_
        rw [unhide Hwo]
        rintro e w1 ⟨rfl, hw1⟩
        subst hw1
        go_wp2
        go_ret
        exact ⟨Or.inr ⟨unhide HNO, rfl⟩, unhide HB⟩
    · have e0 : decide (1 ≤ L) = false := by simp; omega
      have HNO : Hid (¬ RightP L h wd id seed) := fun hr => p0 hr.2.1
      clear hok
      go_enter Tryd.func19, Tryd.ntmps19
      go_wp2_with fail
      refine (width_any wd _).mono ?_
      rw [unhide Hwo]
      rintro e w1 ⟨rfl, hw1⟩
      subst hw1
      go_wp2
      go_ret
      exact ⟨Or.inr ⟨unhide HNO, rfl⟩, unhide HB⟩
set_option maxRecDepth 100000 in
set_option maxHeartbeats 2000000 in
theorem count_no (w0 : World) (L h wd : Int) (xi xs : Value) (id seed : Bs) (hi : BytesAt w0 xi id) (hs : BytesAt w0 xs seed) (li : id.length ≤ 1000000) (ls : seed.length ≤ 1000000) (hr : ¬ RightP L h wd id seed) :
    Calls Tryd.prog 16 #[keyV L h wd xi xs] w0 fun e w' => e = .returned (.int .i64 0) ∧ Below w0.heap.size w0 w' := by
  have hbA : Below w0.heap.size w0 (w0.alloc (.cells #[.int .i64 L, .int .i64 h, .int .i64 wd, xi, xs] 29)) := (Below.refl _ _).alloc (Nat.le_refl _) _
  obtain ⟨wA, hwA⟩ : ∃ wA, w0.alloc (.cells #[.int .i64 L, .int .i64 h, .int .i64 wd, xi, xs] 29) = wA := ⟨_, rfl⟩
  have hK := key_new w0 L h wd xi xs 29
  rw [hwA] at hbA hK
  have HB := hide hbA
  have Hri := hide (right_any wA L h wd xi xs id seed (hi.below hbA) (hs.below hbA) (by omega) (by omega))
  have HN := hide hr
  have c0 := hK.c 0 _ rfl
  have c1 := hK.c 1 _ rfl
  have c2 := hK.c 2 _ rfl
  have c3 := hK.c 3 _ rfl
  have c4 := hK.c 4 _ rfl
  clear hi hs hbA hK hr
  unfold keyV
  go_enter Tryd.func16, Tryd.ntmps16
  go_wp2_with fail
  refine (unhide Hri).mono ?_
  rintro e w1 ⟨hor, hb⟩
  rcases hor with ⟨hR, rfl⟩ | ⟨_, rfl⟩
  · exact absurd hR (unhide HN)
  · have HB1 := hide ((unhide HB).trans (hb.mono (unhide HB).size))
    clear hb c0 c1 c2 c3 c4
    go_wp2
    go_ret
    exact ⟨rfl, unhide HB1⟩
set_option maxRecDepth 100000 in
set_option maxHeartbeats 2000000 in
theorem count_any (w0 : World) (L h wd : Nat) (xi xs : Value) (id seed : Bs) (hi : BytesAt w0 xi id) (hs : BytesAt w0 xs seed) (hr : RightP (L : Int) (h : Int) (wd : Int) id seed) :
    Calls Tryd.prog 16 #[keyV (L : Int) (h : Int) (wd : Int) xi xs] w0 fun e w' => e = .returned (.int .i64 ((2 ^ (h * L) : Nat) : Int)) ∧ Below w0.heap.size w0 w' := by
  have hbA : Below w0.heap.size w0 (w0.alloc (.cells #[.int .i64 (L : Int), .int .i64 (h : Int), .int .i64 (wd : Int), xi, xs] 29)) := (Below.refl _ _).alloc (Nat.le_refl _) _
  obtain ⟨wA, hwA⟩ : ∃ wA, w0.alloc (.cells #[.int .i64 (L : Int), .int .i64 (h : Int), .int .i64 (wd : Int), xi, xs] 29) = wA := ⟨_, rfl⟩
  have hK := key_new w0 (L : Int) (h : Int) (wd : Int) xi xs 29
  rw [hwA] at hbA hK
  have HB := hide hbA
  have Hri := hide (right_any wA (L : Int) (h : Int) (wd : Int) xi xs id seed (hi.below hbA) (hs.below hbA) (by have := hr.2.2.2.2.2.1; omega) (by have := hr.2.2.2.2.2.2; omega))
  have HN := hide hr
  obtain ⟨_, r1, r2, r3, r4, _, _⟩ := hr
  obtain ⟨E, hE⟩ : ∃ E, h * L = E := ⟨_, rfl⟩
  have hEi : (h : Int) * (L : Int) = (E : Int) := by rw [← hE]; simp
  have hEb : E ≤ 18 := by rw [← hE]; exact Nat.mul_le_mul (show h ≤ 6 by omega) (show L ≤ 3 by omega)
  have eb : (E : Int) ≤ 18 := by omega
  have e0 : (0 : Int) ≤ (E : Int) := by omega
  obtain ⟨N, hN⟩ : ∃ N, 2 ^ E = N := ⟨_, rfl⟩
  have hNi : (2 : Int) ^ E = (N : Int) := by rw [← hN]; simp
  have hNb : N ≤ 262144 := by rw [← hN]; exact Nat.pow_le_pow_right (show 0 < 2 by omega) hEb
  have nb : (N : Int) ≤ 262144 := by omega
  rw [hE, hN]
  have c0 := hK.c 0 _ rfl
  have c1 := hK.c 1 _ rfl
  have c2 := hK.c 2 _ rfl
  have c3 := hK.c 3 _ rfl
  have c4 := hK.c 4 _ rfl
  have HK := hide hK
  clear hi hs hbA hK hE hN
  unfold keyV
  go_enter Tryd.func16, Tryd.ntmps16
  go_wp2_with fail
  refine (unhide Hri).mono ?_
  rintro e w1 ⟨hor, hb⟩
  rcases hor with ⟨_, rfl⟩ | ⟨hR, rfl⟩
  · have HB1 := hide ((unhide HB).trans (hb.mono (unhide HB).size))
    have HK1 := hide ((unhide HK).below hb)
    have k0 := (unhide HK1).c 0 _ rfl
    have k1 := (unhide HK1).c 1 _ rfl
    clear hb c0 c1 c2 c3 c4
    go_wp2
    go_ret
    exact ⟨rfl, unhide HB1⟩
  · exact absurd (unhide HN) hR
end Go.Proofs.YtlhjifdahagkaaaDoor
/-
  Parts of slices of bytes: the value that a slice expression gives, and what it holds.
-/
namespace Go.Proofs.YtlhjifdahagkaaaDoor
open Go.RowKit
theorem under_b : Tryd.prog.underlying 24 = some (.slice (Tryd.prog.elem 24)) := by kernel_rfl
theorem elem_b : Tryd.prog.elem 24 = 5 := by kernel_rfl
theorem size5 (w : World) : (Go.sizeOf 5).run Tryd.prog w = .ok 1 w := by
  obtain ⟨_, ⟨i, hi, _, hsz, _⟩, _, _⟩ := Eb
  simp [Go.sizeOf, typeInfo, hi, hsz]
/-- The front of a slice of bytes. -/
theorem slice_front (sp : Option Addr) (n c k : Nat) (hk : k ≤ c) (w : World) : (Instr.sliceAt 24 (.slice sp n c) none (some (.int .i64 (k : Int))) none).run Tryd.prog w = .ok (.slice sp k c) w := by
  rw [run_sliceAt_slice w 24 _ _ _ _ under_b, run_slice_h w 24 sp n c under_b .i64 (k : Int) (by omega) (by omega), elem_b, size5, Result.andThen_ok]
  simp only [sliced, Int.toNat_natCast, Nat.sub_zero, Nat.zero_mul]
  split
  · rfl
  · cases sp <;> simp [Addr.add]
def cutAt (sp : Option Addr) (c f : Nat) : Option Addr := if c = f then sp else sp.map (·.add f)
theorem slice_mid (sp : Option Addr) (K c f e : Nat) (hf : f ≤ e) (he : e ≤ c) (w : World) : (Instr.sliceAt 24 (.slice sp K c) (some (.int .i64 (f : Int))) (some (.int .i64 (e : Int))) none).run Tryd.prog w = .ok (.slice (cutAt sp c f) (e - f) (c - f)) w := by
  rw [run_sliceAt_slice w 24 _ _ _ _ under_b, run_slice_lh w 24 sp K c under_b .i64 .i64 (f : Int) (e : Int) (by omega) (by omega) (by omega), elem_b, size5, Result.andThen_ok]
  simp only [sliced, Int.toNat_natCast, Nat.mul_one]
  rfl
theorem slice_rest (sp : Option Addr) (K c f : Nat) (hf : f ≤ K) (w : World) : (Instr.sliceAt 24 (.slice sp K c) (some (.int .i64 (f : Int))) none none).run Tryd.prog w = .ok (.slice (cutAt sp c f) (K - f) (c - f)) w := by
  rw [run_sliceAt_slice w 24 _ _ _ _ under_b, run_slice_l w 24 sp K c under_b .i64 (f : Int) (by omega) (by omega), elem_b, size5, Result.andThen_ok]
  simp only [sliced, Int.toNat_natCast, Nat.mul_one]
  rfl
theorem bytes_part {w : World} {sp : Option Addr} {c : Nat} {b : Bs} (h : BytesAt w (.slice sp b.length c) b) (f e : Nat) (hf : f ≤ e) (he : e ≤ b.length) : BytesAt w (.slice (cutAt sp c f) (e - f) (c - f)) ((b.drop f).take (e - f)) := by
  obtain ⟨sp', c', ex, h1, h2, h3⟩ := h
  simp only [Value.slice.injEq] at ex
  obtain ⟨rfl, _, rfl⟩ := ex
  rw [List.length_map] at h1
  have hl : (((b.drop f).take (e - f)).map bv).length = e - f := by rw [List.length_map, List.length_take, List.length_drop]; omega
  refine ⟨_, _, by rw [hl], by omega, fun h => ?_, fun hne => ?_⟩
  · unfold cutAt at h
    split at h
    · omega
    · have : sp = none := by cases sp with
        | none => rfl
        | some a => simp at h
      rw [h2 this]; omega
  · have hpos : 0 < e - f := by
      rcases Nat.eq_zero_or_pos (e - f) with h0 | h0
      · exact absurd (List.eq_nil_of_length_eq_zero (hl.trans h0)) hne
      · exact h0
    obtain ⟨bb, o, rfl, hr⟩ := h3 (by intro e0; have := congrArg List.length e0; rw [List.length_map] at this; simp at this; rw [this] at he; simp at he; omega)
    unfold cutAt
    rw [if_neg (by omega)]
    refine ⟨bb, o + f, by simp [Addr.add_mid], fun j v hv => ?_⟩
    have hj : j < e - f := by have := (List.getElem?_eq_some_iff.1 hv).1; omega
    have := hr (f + j) v (by
      rw [← hv]
      rw [List.getElem?_map, List.getElem?_map, List.getElem?_take, if_pos hj, List.getElem?_drop])
    rwa [← Nat.add_assoc] at this
theorem bytes_rest {w : World} {sp : Option Addr} {c : Nat} {b : Bs} (h : BytesAt w (.slice sp b.length c) b) (f : Nat) (hf : f ≤ b.length) : BytesAt w (.slice (cutAt sp c f) (b.length - f) (c - f)) (b.drop f) := by
  have := bytes_part h f b.length hf (Nat.le_refl _)
  rwa [List.take_of_length_le (by rw [List.length_drop]; omega)] at this
theorem bytes_front {w : World} {sp : Option Addr} {c : Nat} {b : Bs} (h : BytesAt w (.slice sp b.length c) b) (e : Nat) (he : e ≤ b.length) : BytesAt w (.slice sp e c) (b.take e) := by
  obtain ⟨sp', c', ex, h1, h2, h3⟩ := h
  simp only [Value.slice.injEq] at ex
  obtain ⟨rfl, _, rfl⟩ := ex
  rw [List.length_map] at h1
  have hl : ((b.take e).map bv).length = e := by rw [List.length_map, List.length_take]; omega
  refine ⟨sp, c, by rw [hl], by omega, h2, fun hne => ?_⟩
  obtain ⟨bb, o, e2, hr⟩ := h3 (by intro e0; exact hne (by have : b = [] := by simpa using e0
                                                           rw [this]; simp))
  refine ⟨bb, o, e2, fun j v hv => hr j v ?_⟩
  have hj : j < e := by have := (List.getElem?_eq_some_iff.1 hv).1; omega
  rw [← hv, List.getElem?_map, List.getElem?_map, List.getElem?_take, if_pos hj]
end Go.Proofs.YtlhjifdahagkaaaDoor
/-
  The walk of the reference's Public.
-/
namespace Go.Proofs.YtlhjifdahagkaaaDoor
open Go.RowKit
/-- What a hash that was just made looks like, and its first half. -/
theorem hash_form {w w' : World} {v : Value} {l : Bs} (h : Row w w' v l) (hl : l.length = 32) : ∃ b c, v = .slice (some ⟨b, 0, none⟩) 32 c ∧ w.heap.size ≤ b ∧ b < w'.heap.size ∧
    (∀ w2, (Instr.sliceAt 24 (.slice (some ⟨b, 0, none⟩) 32 c) none (some (.int .i64 16)) none).run Tryd.prog w2 = .ok (.slice (some ⟨b, 0, none⟩) 16 c) w2) ∧ BytesAt w' (.slice (some ⟨b, 0, none⟩) 16 c) (l.take 16) := by
  obtain ⟨b, c, e, h1, h2, hc⟩ := OwnV.cellAt h.own (by intro e; have := congrArg List.length e; rw [List.length_map, hl] at this; simp at this)
  rw [List.length_map, hl] at e
  have hb := h.bytes
  rw [e] at hb
  obtain ⟨sp', c', e', hcc, _, _⟩ := hb
  simp only [Value.slice.injEq] at e'
  obtain ⟨_, _, rfl⟩ := e'
  rw [List.length_map, hl] at hcc
  refine ⟨b, c, e, h1, h2, fun w2 => slice_front _ 32 c 16 (by omega) w2, ?_⟩
  refine ⟨some ⟨b, 0, none⟩, c, by rw [List.length_map, List.length_take, hl]; rfl, by rw [List.length_map, List.length_take, hl]; omega, fun h => (by cases h), fun _ => ⟨b, 0, rfl, fun j u hu => ?_⟩⟩
  rw [List.length_map, hl] at hc
  have hj : j < 16 := by have := (List.getElem?_eq_some_iff.1 hu).1; rw [List.length_map, List.length_take, hl] at this; omega
  rw [Nat.zero_add, hc j (by omega), ← hu, List.map_take, List.getElem?_take, if_pos hj, List.getD_eq_getElem?_getD, List.getElem?_eq_getElem (by rw [List.length_map, hl]; omega)]
  rfl
/-- The call gives these bytes, and no error. -/
def GivesE (w : World) (f : FuncId) (args : Array Value) (l : Bs) : Prop :=
  Calls Tryd.prog f args w fun e w' => ∃ v, e = .returned (.tuple #[v, .int .i64 0]) ∧ Row w w' v l
/-- It gives nothing but this error. -/
def FailsE (w : World) (f : FuncId) (args : Array Value) (n : Int) : Prop :=
  Calls Tryd.prog f args w fun e w' => ∃ v, e = .returned (.tuple #[v, .int .i64 n]) ∧ BytesAt w' v [] ∧ Below w.heap.size w w'
set_option maxRecDepth 100000 in
set_option maxHeartbeats 2000000 in
theorem public_no (w0 : World) (L h wd : Int) (xi xs : Value) (id seed : Bs) (hi : BytesAt w0 xi id) (hs : BytesAt w0 xs seed) (li : id.length ≤ 1000000) (ls : seed.length ≤ 1000000) (hr : ¬ RightP L h wd id seed) :
    FailsE w0 13 #[keyV L h wd xi xs] 11 := by
  have hbA : Below w0.heap.size w0 (w0.alloc (.cells #[.int .i64 L, .int .i64 h, .int .i64 wd, xi, xs] 29)) := (Below.refl _ _).alloc (Nat.le_refl _) _
  have Hri := hide (right_any _ L h wd xi xs id seed (hi.below hbA) (hs.below hbA) (by omega) (by omega))
  have HB := hide hbA
  have HN := hide hr
  clear hi hs hr hbA
  unfold keyV
  go_enter Tryd.func13, Tryd.ntmps13
  go_wp2_with fail
  refine (unhide Hri).mono ?_
  rintro e w1 ⟨hor, hb⟩
  rcases hor with ⟨hR, rfl⟩ | ⟨_, rfl⟩
  · exact absurd hR (unhide HN)
  · have HB1 := hide ((unhide HB).trans (hb.mono (unhide HB).size))
    clear hb
    go_wp2
    go_ret2
    exact ⟨_, rfl, bytes_nil _, unhide HB1⟩
theorem isW_of {wd : Nat} (h : (wd : Int) = 1 ∨ (wd : Int) = 2 ∨ (wd : Int) = 4 ∨ (wd : Int) = 8) : IsW wd := by unfold IsW; omega
set_option maxRecDepth 100000 in
set_option maxHeartbeats 2000000 in
theorem public_any {H : Bs → Bs} (C : RefHash H) (w0 : World) (L h wd : Nat) (xi xs : Value) (id seed : Bs) (hi : BytesAt w0 xi id) (hs : BytesAt w0 xs seed) (hr : RightP (L : Int) (h : Int) (wd : Int) id seed) :
    GivesE w0 13 #[keyV (L : Int) (h : Int) (wd : Int) xi xs] (publicOf H L h wd id seed) := by
  have hbA : Below w0.heap.size w0 (w0.alloc (.cells #[.int .i64 (L : Int), .int .i64 (h : Int), .int .i64 (wd : Int), xi, xs] 29)) := (Below.refl _ _).alloc (Nat.le_refl _) _
  obtain ⟨wA, hwA⟩ : ∃ wA, w0.alloc (.cells #[.int .i64 (L : Int), .int .i64 (h : Int), .int .i64 (wd : Int), xi, xs] 29) = wA := ⟨_, rfl⟩
  have hK := key_new w0 (L : Int) (h : Int) (wd : Int) xi xs 29
  rw [hwA] at hbA hK
  have Hri := hide (right_any wA (L : Int) (h : Int) (wd : Int) xi xs id seed (hi.below hbA) (hs.below hbA) (by have := hr.2.2.2.2.2.1; omega) (by have := hr.2.2.2.2.2.2; omega))
  have HN := hide hr
  obtain ⟨rw_, r1, r2, r3, r4, r5, r6⟩ := hr
  have Htr := hide (fun w a b => tree_any C w (L : Int) h wd xi xs id seed a b r5 r6 (by omega) (by omega) (isW_of rw_))
  have HtL : Hid ((tree H id seed h wd).length = 56) := len_tree H C.len r5 h wd
  have HB := hide hbA
  have HK := hide hK
  have HX := hide (hi.below hbA)
  have HS := hide (hs.below hbA)
  have c0 := hK.c 0 _ rfl
  have c1 := hK.c 1 _ rfl
  have c2 := hK.c 2 _ rfl
  have c3 := hK.c 3 _ rfl
  have c4 := hK.c 4 _ rfl
  clear hi hs hbA hK rw_ r5 r6
  unfold keyV
  go_enter Tryd.func13, Tryd.ntmps13
  go_wp2_with fail
  refine (unhide Hri).mono ?_
  rintro e w1 ⟨hor, hb⟩
  rcases hor with ⟨_, rfl⟩ | ⟨hR, rfl⟩
  · have HA1 := hide hb
    have HK1 := hide ((unhide HK).below hb)
    have k0 := (unhide HK1).c 0 _ rfl
    have k1 := (unhide HK1).c 1 _ rfl
    have k2 := (unhide HK1).c 2 _ rfl
    have k3 := (unhide HK1).c 3 _ rfl
    have k4 := (unhide HK1).c 4 _ rfl
    have HA1d := hide (unhide HA1).drew
    have Lb : (L : Int) ≤ 3 := by omega
    have Hbg : Hid (∀ w, GivesB w 31 #[.int .i64 (L : Int), .int .i64 4] (big L 4)) := fun w => big_any w L 4 (by omega) (by omega)
    have Hjn : Hid (∀ w x y, BytesAt w x (big L 4) → BytesAt w y (tree H id seed h wd) → GivesB w 30 #[x, y] (publicOf H L h wd id seed)) := fun w x y a b => join_any w x y _ _ a b (by rw [len_big, unhide HtL]; omega)
    clear hb c0 c1 c2 c3 c4
    go_wp2
    go_region_held3 (fun w' => w'.cell? ⟨w0.heap.size, 0, none⟩ = some (.int .i64 (L : Int)) ∧ w'.cell? ⟨w0.heap.size, 1, none⟩ = some (.int .i64 (h : Int)) ∧ w'.cell? ⟨w0.heap.size, 2, none⟩ = some (.int .i64 (wd : Int)) ∧ w'.cell? ⟨w0.heap.size, 3, none⟩ = some xi ∧ w'.cell? ⟨w0.heap.size, 4, none⟩ = some xs) (go_keep)
      ((first
        | (go_at_call 31; refine (unhide Hbg _).mono ?_; rintro e w2 ⟨v2, rfl, hR⟩; have HV2 := hide hR.bytes; have HA2 := hide ((unhide HA1d).trans (hR.b.mono (unhide HA1d).size)); have HK2 := hide ((unhide HK).below (unhide HA2)); have m0 := (unhide HK2).c 0 _ rfl; have m1 := (unhide HK2).c 1 _ rfl; have m2 := (unhide HK2).c 2 _ rfl; have m3 := (unhide HK2).c 3 _ rfl; have m4 := (unhide HK2).c 4 _ rfl; clear hR)
        | (go_at_call 32; refine (unhide Htr w2 ((unhide HX).below (unhide HA2)) ((unhide HS).below (unhide HA2))).mono ?_; rintro e w3 ⟨v3, rfl, hR⟩; have HV3 := hide hR.bytes; have HV23 := hide ((unhide HV2).below hR.b); have HA3 := hide ((unhide HA2).trans (hR.b.mono (unhide HA2).size)); have HK3 := hide ((unhide HK).below (unhide HA3)); have n0 := (unhide HK3).c 0 _ rfl; have n1 := (unhide HK3).c 1 _ rfl; have n2 := (unhide HK3).c 2 _ rfl; have n3 := (unhide HK3).c 3 _ rfl; have n4 := (unhide HK3).c 4 _ rfl; clear hR)
        | (go_at_call 30; refine (unhide Hjn w3 v2 v3 (unhide HV23) (unhide HV3)).mono ?_; rintro e w4 ⟨v4, rfl, hR⟩; have HF : Hid (Row w0 w4 v4 (publicOf H L h wd id seed)) := (hR.up (unhide HA3)).up (unhide HB); have HK4 := hide ((unhide HK).below ((unhide HA3).trans (hR.b.mono (unhide HA3).size))); have p0 := (unhide HK4).c 0 _ rfl; have p1 := (unhide HK4).c 1 _ rfl; have p2 := (unhide HK4).c 2 _ rfl; have p3 := (unhide HK4).c 3 _ rfl; have p4 := (unhide HK4).c 4 _ rfl; clear hR)))
    clear k0 k1 k2 k3 k4
    go_wp2
    go_ret2
    exact ⟨_, rfl, unhide HF⟩
  · exact absurd (unhide HN) hR
end Go.Proofs.YtlhjifdahagkaaaDoor
