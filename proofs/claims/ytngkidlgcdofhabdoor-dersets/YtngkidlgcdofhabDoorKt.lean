/-
  slices.CompareFunc over the landed compare; what is told of compare.
-/
import Derived.Test.YtngkidlgcdofhabDoorKs
namespace Go.Proofs.YtngkidlgcdofhabDoor
open Go.RowKit
namespace K
/-- A row of values in memory. -/
def RowK (n : Nat) (S : Nat → Prop) (w : World) (x : Value) (ks : List DV) : Prop := ∃ sk ck, x = .slice sk ks.length ck ∧ ∀ (i : Nat) (k : DV), ks[i]? = some k → ∃ (ba oa : Nat) (ds : List Value), sk = some ⟨ba, oa, none⟩ ∧ CellsAt w ba (oa + i * 5) ds ∧ VAt n S w ds k
theorem RowK.below {n : Nat} {S : Nat → Prop} {a b : World} {x : Value} {ks : List DV} (h : RowK n S a x ks) (hb : Below a.heap.size a b) : RowK n S b x ks := by
  obtain ⟨sk, ck, e, h⟩ := h
  refine ⟨sk, ck, e, fun i k hk => ?_⟩
  obtain ⟨ba, oa, ds, e1, h1, h2⟩ := h i k hk
  exact ⟨ba, oa, ds, e1, h1.below hb, h2.below hb⟩
def CmpC (n : Nat) : Prop := ∀ (f : Nat) (S1 S2 : Nat → Prop) (v1 v2 : DV) (w : World) (cs1 cs2 : List Value) (W1 W2 : Bs), VAt n S1 w cs1 v1 → VAt n S2 w cs2 v2 → weight v1 ≤ 1000000 → weight v2 ≤ 1000000 → writeP formD f v1 = .yes W1 → writeP formD f v2 = .yes W2 → Calls Tryd.prog 46 #[.agg cs1.toArray, .agg cs2.toArray] w fun e w' => e = .returned (.int .i64 (cb W1 W2)) ∧ Below w.heap.size w w'
theorem cbL_step {xs ys : List Bs} {i : Nat} {x y : Bs} (hx : xs[i]? = some x) (hy : ys[i]? = some y) : cbL (xs.drop i) (ys.drop i) = if cb x y ≠ 0 then cb x y else cbL (xs.drop (i + 1)) (ys.drop (i + 1)) := by
  have h1 : i < xs.length := (List.getElem?_eq_some_iff.1 hx).1
  have h2 : i < ys.length := (List.getElem?_eq_some_iff.1 hy).1
  rw [List.getElem?_eq_getElem h1] at hx
  rw [List.getElem?_eq_getElem h2] at hy
  rw [List.drop_eq_getElem_cons h1, List.drop_eq_getElem_cons h2, Option.some.inj hx, Option.some.inj hy]
  rfl
theorem cbL_long {xs ys : List Bs} {i : Nat} (h1 : i < xs.length) (h2 : ys.length ≤ i) : cbL (xs.drop i) (ys.drop i) = 1 := by
  rw [List.drop_eq_getElem_cons h1, List.drop_of_length_le h2]
  rfl
theorem cbL_end {xs ys : List Bs} {i : Nat} (h1 : xs.length = i) : cbL (xs.drop i) (ys.drop i) = if i < ys.length then -1 else 0 := by
  rw [List.drop_of_length_le (by omega)]
  by_cases h : i < ys.length
  · rw [if_pos h, List.drop_eq_getElem_cons h]
    rfl
  · rw [if_neg h, List.drop_of_length_le (by omega)]
    rfl
def SCmpC (n : Nat) : Prop := ∀ (f : Nat) (S1 S2 : Nat → Prop) (k1 k2 : List DV) (w : World) (x1 x2 : Value) (xs ys : List Bs), RowK n S1 w x1 k1 → RowK n S2 w x2 k2 → weights k1 ≤ 1000000 → weights k2 ≤ 1000000 → allP (writeP formD f) k1 = .yes xs → allP (writeP formD f) k2 = .yes ys → Calls Tryd.prog 55 #[x1, x2, .func (.func 46) #[] #[]] w fun e w' => e = .returned (.int .i64 (cbL xs ys)) ∧ Below w.heap.size w w'
set_option maxRecDepth 100000 in
set_option maxHeartbeats 8000000 in
theorem scmp_step (n : Nat) (hc : CmpC n) : SCmpC n := fun f S1 S2 k1 k2 w x1 x2 xs ys hr1 hr2 hw1 hw2 hxs hys => by
  obtain ⟨hxl, hxg⟩ := all_get hxs
  obtain ⟨hyl, hyg⟩ := all_get hys
  have HR1 : Hid (∀ wr, Below w.heap.size w wr → RowK n S1 wr x1 k1) := fun wr hb => hr1.below hb
  have HR2 : Hid (∀ wr, Below w.heap.size w wr → RowK n S2 wr x2 k2) := fun wr hb => hr2.below hb
  obtain ⟨sk1, ck1, e1, _⟩ := hr1
  obtain ⟨sk2, ck2, e2, _⟩ := hr2
  have hk1 := weights_len k1
  have hk2 := weights_len k2
  obtain ⟨K1, hK1⟩ : ∃ K1, k1.length = K1 := ⟨_, rfl⟩
  obtain ⟨K2, hK2⟩ : ∃ K2, k2.length = K2 := ⟨_, rfl⟩
  rw [hK1] at e1 hk1 hxl
  rw [hK2] at e2 hk2 hyl
  subst e1 e2
  have HG1 : Hid (∀ (i : Nat) (wr : World), i < K1 → Below w.heap.size w wr → ∃ (k : DV) (ba oa : Nat) (ds : List Value) (x : Bs), sk1 = some ⟨ba, oa, none⟩ ∧ xs[i]? = some x ∧ CellsAt wr ba (oa + i * 5) ds ∧ VAt n S1 wr ds k ∧ weight k ≤ 1000000 ∧ writeP formD f k = .yes x) := fun i wr hi hb => by
    have hik : k1[i]? = some k1[i] := List.getElem?_eq_getElem (by omega)
    obtain ⟨sk', ck', e, h⟩ := unhide HR1 wr hb
    simp only [Value.slice.injEq] at e
    obtain ⟨rfl, _, _⟩ := e
    obtain ⟨ba, oa, ds, q1, q2, q3⟩ := h i _ hik
    obtain ⟨x, hx, hg⟩ := hxg i _ hik
    have := weight_kid hik
    exact ⟨_, ba, oa, ds, x, q1, hx, q2, q3, by omega, hg⟩
  have HG2 : Hid (∀ (i : Nat) (wr : World), i < K2 → Below w.heap.size w wr → ∃ (k : DV) (ba oa : Nat) (ds : List Value) (x : Bs), sk2 = some ⟨ba, oa, none⟩ ∧ ys[i]? = some x ∧ CellsAt wr ba (oa + i * 5) ds ∧ VAt n S2 wr ds k ∧ weight k ≤ 1000000 ∧ writeP formD f k = .yes x) := fun i wr hi hb => by
    have hik : k2[i]? = some k2[i] := List.getElem?_eq_getElem (by omega)
    obtain ⟨sk', ck', e, h⟩ := unhide HR2 wr hb
    simp only [Value.slice.injEq] at e
    obtain ⟨rfl, _, _⟩ := e
    obtain ⟨ba, oa, ds, q1, q2, q3⟩ := h i _ hik
    obtain ⟨x, hx, hg⟩ := hyg i _ hik
    have := weight_kid hik
    exact ⟨_, ba, oa, ds, x, q1, hx, q2, q3, by omega, hg⟩
  have Hxl := hide hxl
  have Hyl := hide hyl
  have Hc := hide hc
  have Hb0 := hide (Below.refl w.heap.size w)
  clear hxl hyl hxg hyg hxs hys HR1 HR2 hc hK1 hK2
  go_enter Tryd.func55, Tryd.ntmps55
  go_wp2
  go_loopw [13] (fun ii wr => ∃ i : Nat, i ≤ K1 ∧ ii = .int .i64 (i : Int) ∧ Hid (cbL xs ys = cbL (xs.drop i) (ys.drop i)) ∧ Hid (Below w.heap.size w wr)) (fun ii _ => K1 - (intOf ii).toNat)
  case atStart => exact ⟨0, by omega, rfl, by show _ = _; rw [List.drop_zero, List.drop_zero], Hb0⟩
  case round =>
    obtain ⟨i, hi, rfl, HE, HB⟩ := hrel
    clear Hb0
    by_cases hlt : i < K1
    · obtain ⟨k, ba, oa, ds, x, rfl, hx, g1, v1, hkw, hkx⟩ := unhide HG1 i wr hlt (unhide HB)
      obtain ⟨p1, q1, p2, q2, rfl⟩ := v1.form
      obtain ⟨a0, a1, a2, a3, a4⟩ := g1.five
      have d1 : decide ((i : Int) < (K1 : Int)) = true := by simp; omega
      have d1n : decide (i < K1) = true := by simp; omega
      have i0 : (0 : Int) ≤ (i : Int) := by omega
      have i1 : (i : Int) < (K1 : Int) := by omega
      obtain ⟨kc, hkc⟩ : ∃ kc, k.cls = kc := ⟨_, rfl⟩
      obtain ⟨kt, hkt⟩ : ∃ kt, k.tag = kt := ⟨_, rfl⟩
      obtain ⟨km, hkm⟩ : ∃ km, k.made = km := ⟨_, rfl⟩
      obtain ⟨kl, hkl3⟩ : ∃ kl, k.bytes.length = kl := ⟨_, rfl⟩
      obtain ⟨kk, hkk⟩ : ∃ kk, k.kids.length = kk := ⟨_, rfl⟩
      simp only [hkc, hkt, hkm, hkl3, hkk] at a0 a1 a2 a3 a4 v1
      have hC := Blk.new (unhide HB) #[.int .i64 kc, .int .i64 kt, .bool km, .slice p1 kl q1, .slice p2 kk q2] 26
      obtain ⟨w5, hw5⟩ : ∃ w5, wr.alloc (.cells #[.int .i64 kc, .int .i64 kt, .bool km, .slice p1 kl q1, .slice p2 kk q2] 26) = w5 := ⟨_, rfl⟩
      obtain ⟨C, eC⟩ : ∃ C, wr.heap.size = C := ⟨_, rfl⟩
      have hb5 : Below wr.heap.size wr w5 := by rw [← hw5]; exact (Below.refl _ _).alloc (Nat.le_refl _) _
      have v5 := v1.below hb5
      rw [hw5, eC] at hC
      clear v1 g1
      by_cases h2 : i < K2
      case neg =>
        have d2 : decide ((K2 : Int) ≤ (i : Int)) = true := by simp; omega
        have d2n : decide (K2 ≤ i) = true := by simp; omega
        have HT : Hid (cbL xs ys = 1) := by show _ = _; rw [unhide HE, cbL_long (by rw [unhide Hxl]; exact hlt) (by rw [unhide Hyl]; omega)]
        have HC := hide hC
        clear hC v5 hb5 hkw hkx hx HE hkc hkt hkm hkl3 hkk
        go_wp2
        go_ret
        exact ⟨by rw [unhide HT]; rfl, (unhide HC).b⟩
      have d2 : decide ((K2 : Int) ≤ (i : Int)) = false := by simp; omega
      have d2n : decide (K2 ≤ i) = false := by simp; omega
      have i2 : (i : Int) < (K2 : Int) := by omega
      obtain ⟨l, bb, ob, es, y, rfl, hy, g2, v2, hlw, hly⟩ := unhide HG2 i w5 h2 hC.b
      obtain ⟨r1, t1, r2, t2, rfl⟩ := v2.form
      obtain ⟨b0, b1, b2, b3, b4⟩ := g2.five
      obtain ⟨lc, hlc⟩ : ∃ lc, l.cls = lc := ⟨_, rfl⟩
      obtain ⟨lt, hlt'⟩ : ∃ lt, l.tag = lt := ⟨_, rfl⟩
      obtain ⟨lm, hlm⟩ : ∃ lm, l.made = lm := ⟨_, rfl⟩
      obtain ⟨ll, hll⟩ : ∃ ll, l.bytes.length = ll := ⟨_, rfl⟩
      obtain ⟨lk, hlk⟩ : ∃ lk, l.kids.length = lk := ⟨_, rfl⟩
      simp only [hlc, hlt', hlm, hll, hlk] at b0 b1 b2 b3 b4 v2
      have hD := Blk.new hC.b #[.int .i64 lc, .int .i64 lt, .bool lm, .slice r1 ll t1, .slice r2 lk t2] 26
      have hC6 := hC.lit (.cells #[.int .i64 lc, .int .i64 lt, .bool lm, .slice r1 ll t1, .slice r2 lk t2] 26)
      obtain ⟨w6, hw6⟩ : ∃ w6, w5.alloc (.cells #[.int .i64 lc, .int .i64 lt, .bool lm, .slice r1 ll t1, .slice r2 lk t2] 26) = w6 := ⟨_, rfl⟩
      obtain ⟨D, eD⟩ : ∃ D, w5.heap.size = D := ⟨_, rfl⟩
      have hb6 : Below w5.heap.size w5 w6 := by rw [← hw6]; exact (Below.refl _ _).alloc (Nat.le_refl _) _
      have Hcall := hide (unhide Hc f S1 S2 k l w6 _ _ x y (v5.below hb6) (v2.below hb6) hkw hlw hkx hly)
      unfold dcells at Hcall
      rw [hw6, eD] at hD
      rw [hw6] at hC6
      have y0 := hC6.cell 0 _ rfl
      have y1 := hC6.cell 1 _ rfl
      have y2 := hC6.cell 2 _ rfl
      have y3 := hC6.cell 3 _ rfl
      have y4 := hC6.cell 4 _ rfl
      have z0 := hD.cell 0 _ rfl
      have z1 := hD.cell 1 _ rfl
      have z2 := hD.cell 2 _ rfl
      have z3 := hD.cell 3 _ rfl
      have z4 := hD.cell 4 _ rfl
      have HD := hide hD
      have HE2 : Hid (cbL xs ys = if cb x y ≠ 0 then cb x y else cbL (xs.drop (i + 1)) (ys.drop (i + 1))) := by show _ = _; rw [unhide HE, cbL_step hx hy]
      obtain ⟨r, hr⟩ : ∃ r, cb x y = r := ⟨_, rfl⟩
      rw [hr] at Hcall HE2
      clear hC hC6 hD v5 v2 g2 hb5 hb6 hkw hkx hlw hly hx hy HE hkc hkt hkm hkl3 hkk hlc hlt' hlm hll hlk hr HG1 HG2 HB
      go_wp2_with fail
      refine (unhide Hcall).mono ?_
      rintro e w7 ⟨rfl, hb7⟩
      have HB7 := hide ((unhide HD).call hb7).b
      clear hb7 Hcall y0 y1 y2 y3 y4 z0 z1 z2 z3 z4 a0 a1 a2 a3 a4 b0 b1 b2 b3 b4
      by_cases hr0 : r = 0
      · have e0 : (r == 0) = true := by simp [hr0]
        have e0' : (r != 0) = false := by simp [hr0]
        have HE3 : Hid (cbL xs ys = cbL (xs.drop (i + 1)) (ys.drop (i + 1))) := by show _ = _; rw [unhide HE2, if_neg (by omega)]
        clear HE2 hr0
        go_wp2
        go_roundw
        case rel =>
          first
            | exact ⟨i + 1, by omega, by go_num, HE3, HB7⟩
            | exact ⟨⟨i + 1, by omega, by go_num, HE3, HB7⟩, rfl⟩
        case measure => simp [intOf]; omega
      · have e0 : (r == 0) = false := by simp [hr0]
        have e0' : (r != 0) = true := by simp [hr0]
        have HT : Hid (cbL xs ys = r) := by show _ = _; rw [unhide HE2, if_pos hr0]
        clear HE2 hr0
        go_wp2
        go_ret
        exact ⟨by rw [unhide HT]; rfl, unhide HB7⟩
    · have hiK : i = K1 := by omega
      have d1 : decide ((i : Int) < (K1 : Int)) = false := by simp; omega
      have d1n : decide (i < K1) = false := by simp; omega
      have HT0 : Hid (cbL xs ys = if K1 < K2 then -1 else 0) := by
        show _ = _
        rw [unhide HE, cbL_end (by rw [unhide Hxl]; exact hiK.symm), unhide Hyl, hiK]
      clear hiK HE
      by_cases h2 : K1 < K2
      · have d2 : decide ((K1 : Int) < (K2 : Int)) = true := by simp; omega
        have d2n : decide (K1 < K2) = true := by simp; omega
        have HT : Hid (cbL xs ys = -1) := by show _ = _; rw [unhide HT0, if_pos h2]
        go_wp2
        go_ret
        exact ⟨by rw [unhide HT]; rfl, unhide HB⟩
      · have d2 : decide ((K1 : Int) < (K2 : Int)) = false := by simp; omega
        have d2n : decide (K1 < K2) = false := by simp; omega
        have HT : Hid (cbL xs ys = 0) := by show _ = _; rw [unhide HT0, if_neg h2]
        go_wp2
        go_ret
        exact ⟨by rw [unhide HT]; rfl, unhide HB⟩
end K
end Go.Proofs.YtngkidlgcdofhabDoor
