/-
  The walks of slices.IsSortedFunc over the landed compare, and of neverFall.
-/
import Derived.Test.YtngkidlgcdofhabDoorKu
namespace Go.Proofs.YtngkidlgcdofhabDoor
open Go.RowKit
namespace K
theorem falls_none {xs : List Bs} (h : ∀ (j : Nat) (a b : Bs), xs[j]? = some a → xs[j + 1]? = some b → lessP b a = false) : fallsP xs = false := by
  cases hf : fallsP xs with
  | false => rfl
  | true =>
    obtain ⟨i, a, b, h1, h2, h3⟩ := (falls_at xs).1 hf
    rw [h i a b h1 h2] at h3
    cases h3
def FallC (n : Nat) : Prop := ∀ (f : Nat) (S : Nat → Prop) (ks : List DV) (w : World) (x : Value) (xs : List Bs), RowK n S w x ks → weights ks ≤ 1000000 → allP (writeP formD f) ks = .yes xs → Calls Tryd.prog 38 #[x] w fun e w' => e = .returned (.bool (!fallsP xs)) ∧ Below w.heap.size w w'
set_option maxRecDepth 100000 in
set_option maxHeartbeats 16000000 in
theorem sort_c (n f : Nat) (S : Nat → Prop) (ks : List DV) (w : World) (x : Value) (xs : List Bs) (hr : RowK n S w x ks) (hw : weights ks ≤ 1000000) (hxs : allP (writeP formD f) ks = .yes xs) :
    Calls Tryd.prog 45 #[x, .func (.func 46) #[] #[]] w fun e w' => e = .returned (.bool (!fallsP xs)) ∧ Below w.heap.size w w' := by
  obtain ⟨hxl, hxg⟩ := all_get hxs
  have HR1 : Hid (∀ wr, Below w.heap.size w wr → RowK n S wr x ks) := fun wr hb => hr.below hb
  obtain ⟨sk, ck, e1, _⟩ := hr
  have hk1 := weights_len ks
  obtain ⟨K, hK⟩ : ∃ K, ks.length = K := ⟨_, rfl⟩
  rw [hK] at e1 hk1 hxl
  subst e1
  have HG : Hid (∀ (i : Nat) (wr : World), i < K → Below w.heap.size w wr → ∃ (k : DV) (ba oa : Nat) (ds : List Value) (x : Bs), sk = some ⟨ba, oa, none⟩ ∧ xs[i]? = some x ∧ CellsAt wr ba (oa + i * 5) ds ∧ VAt n S wr ds k ∧ weight k ≤ 1000000 ∧ writeP formD f k = .yes x) := fun i wr hi hb => by
    have hik : ks[i]? = some ks[i] := List.getElem?_eq_getElem (by omega)
    obtain ⟨sk', ck', e, h⟩ := unhide HR1 wr hb
    simp only [Value.slice.injEq] at e
    obtain ⟨rfl, _, _⟩ := e
    obtain ⟨ba, oa, ds, q1, q2, q3⟩ := h i _ hik
    obtain ⟨x, hx, hg⟩ := hxg i _ hik
    have := weight_kid hik
    exact ⟨_, ba, oa, ds, x, q1, hx, q2, q3, by omega, hg⟩
  have Hxl := hide hxl
  have Hb0 := hide (Below.refl w.heap.size w)
  have uK : IntKind.i64.wrap ((K : Int) - 1) = (K : Int) - 1 := IntWalk.i64_in _ (by omega)
  clear hxl hxg hxs HR1 hK
  go_enter Tryd.func45, Tryd.ntmps45
  go_wp2
  go_loopw [5] (fun ii wr => ∃ kk : Int, -1 ≤ kk ∧ kk < (K : Int) ∧ ii = .int .i64 kk ∧ Hid (∀ (j : Nat) (a b : Bs), kk ≤ (j : Int) → xs[j]? = some a → xs[j + 1]? = some b → lessP b a = false) ∧ Hid (Below w.heap.size w wr)) (fun ii _ => (intOf ii).toNat)
  case atStart => exact ⟨(K : Int) - 1, by omega, by omega, rfl, fun j a b hj h1 h2 => by
      have := (List.getElem?_eq_some_iff.1 h2).1
      rw [unhide Hxl] at this
      omega, Hb0⟩
  case round =>
    obtain ⟨kk, hk1', hk2', rfl, HE, HB⟩ := hrel
    clear Hb0 uK
    by_cases hpos : 0 < kk
    · obtain ⟨J, hJ⟩ : ∃ J : Nat, kk - 1 = (J : Int) := ⟨(kk - 1).toNat, by omega⟩
      obtain ⟨I, hI⟩ : ∃ I : Nat, kk = (I : Int) := ⟨kk.toNat, by omega⟩
      have hIJ : I = J + 1 := by omega
      have hIK : I < K := by omega
      subst hI
      obtain ⟨k, ba, oa, ds, x, rfl, hx, g1, v1, hkw, hkx⟩ := unhide HG I wr hIK (unhide HB)
      obtain ⟨l, bb, ob, es, y, ee, hy, g2, v2, hlw, hly⟩ := unhide HG J wr (by omega) (unhide HB)
      simp only [Option.some.injEq, Addr.mk.injEq, and_true] at ee
      obtain ⟨rfl, rfl⟩ := ee
      obtain ⟨p1, q1, p2, q2, rfl⟩ := v1.form
      obtain ⟨r1, t1, r2, t2, rfl⟩ := v2.form
      obtain ⟨a0, a1, a2, a3, a4⟩ := g1.five
      obtain ⟨b0, b1, b2, b3, b4⟩ := g2.five
      obtain ⟨kc, hkc⟩ : ∃ kc, k.cls = kc := ⟨_, rfl⟩
      obtain ⟨kt, hkt⟩ : ∃ kt, k.tag = kt := ⟨_, rfl⟩
      obtain ⟨km, hkm⟩ : ∃ km, k.made = km := ⟨_, rfl⟩
      obtain ⟨kl, hkl3⟩ : ∃ kl, k.bytes.length = kl := ⟨_, rfl⟩
      obtain ⟨kn, hkk⟩ : ∃ kn, k.kids.length = kn := ⟨_, rfl⟩
      simp only [hkc, hkt, hkm, hkl3, hkk] at a0 a1 a2 a3 a4 v1
      obtain ⟨lc, hlc⟩ : ∃ lc, l.cls = lc := ⟨_, rfl⟩
      obtain ⟨lt, hlt'⟩ : ∃ lt, l.tag = lt := ⟨_, rfl⟩
      obtain ⟨lm, hlm⟩ : ∃ lm, l.made = lm := ⟨_, rfl⟩
      obtain ⟨ll, hll⟩ : ∃ ll, l.bytes.length = ll := ⟨_, rfl⟩
      obtain ⟨lk, hlk⟩ : ∃ lk, l.kids.length = lk := ⟨_, rfl⟩
      simp only [hlc, hlt', hlm, hll, hlk] at b0 b1 b2 b3 b4 v2
      have Hcall := hide (cmp_all n f S S k l wr.drew _ _ x y (v1.below (Below.refl _ _).drew) (v2.below (Below.refl _ _).drew) hkw hlw hkx hly)
      unfold dcells at Hcall
      have d1 : decide ((0 : Int) < (I : Int)) = true := by simp; omega
      have d1n : decide (0 < I) = true := by simp; omega
      have i0 : (0 : Int) ≤ (I : Int) := by omega
      have i1 : (I : Int) < (K : Int) := by omega
      have j0 : (0 : Int) ≤ (J : Int) := by omega
      have j1 : (J : Int) < (K : Int) := by omega
      have uJ : IntKind.i64.wrap (J : Int) = (J : Int) := IntWalk.i64_in _ (by omega)
      have HIJ := hide hIJ
      have HL : Hid (decide (cb x y < 0) = lessP x y) := cb_less x y
      obtain ⟨r, hr⟩ : ∃ r, cb x y = r := ⟨_, rfl⟩
      rw [hr] at Hcall HL
      have HHx := hide hx
      have HHy := hide hy
      have HCells : Hid (∀ w', Below wr.heap.size wr w' → w'.cell? ⟨ba, oa + I * 5, none⟩ = some (.int .i64 kc) ∧ w'.cell? ⟨ba, oa + I * 5 + 1, none⟩ = some (.int .i64 kt) ∧ w'.cell? ⟨ba, oa + I * 5 + 2, none⟩ = some (.bool km) ∧ w'.cell? ⟨ba, oa + I * 5 + 3, none⟩ = some (.slice p1 kl q1) ∧ w'.cell? ⟨ba, oa + I * 5 + 4, none⟩ = some (.slice p2 kn q2) ∧ w'.cell? ⟨ba, oa + J * 5, none⟩ = some (.int .i64 lc) ∧ w'.cell? ⟨ba, oa + J * 5 + 1, none⟩ = some (.int .i64 lt) ∧ w'.cell? ⟨ba, oa + J * 5 + 2, none⟩ = some (.bool lm) ∧ w'.cell? ⟨ba, oa + J * 5 + 3, none⟩ = some (.slice r1 ll t1) ∧ w'.cell? ⟨ba, oa + J * 5 + 4, none⟩ = some (.slice r2 lk t2)) := fun w' hb => by
        obtain ⟨m0, m1, m2, m3, m4⟩ := (g1.below hb).five
        obtain ⟨o0, o1, o2, o3, o4⟩ := (g2.below hb).five
        simp only [hkc, hkt, hkm, hkl3, hkk] at m0 m1 m2 m3 m4
        simp only [hlc, hlt', hlm, hll, hlk] at o0 o1 o2 o3 o4
        exact ⟨m0, m1, m2, m3, m4, o0, o1, o2, o3, o4⟩
      clear g1 g2 v1 v2 hkw hkx hlw hly hkc hkt hkm hkl3 hkk hlc hlt' hlm hll hlk HG hIJ hIK hr hx hy hk1' hk2' hpos
      go_wp2
      go_region_held3 (fun w' => w'.cell? ⟨ba, oa + I * 5, none⟩ = some (.int .i64 kc) ∧ w'.cell? ⟨ba, oa + I * 5 + 1, none⟩ = some (.int .i64 kt) ∧ w'.cell? ⟨ba, oa + I * 5 + 2, none⟩ = some (.bool km) ∧ w'.cell? ⟨ba, oa + I * 5 + 3, none⟩ = some (.slice p1 kl q1) ∧ w'.cell? ⟨ba, oa + I * 5 + 4, none⟩ = some (.slice p2 kn q2) ∧ w'.cell? ⟨ba, oa + J * 5, none⟩ = some (.int .i64 lc) ∧ w'.cell? ⟨ba, oa + J * 5 + 1, none⟩ = some (.int .i64 lt) ∧ w'.cell? ⟨ba, oa + J * 5 + 2, none⟩ = some (.bool lm) ∧ w'.cell? ⟨ba, oa + J * 5 + 3, none⟩ = some (.slice r1 ll t1) ∧ w'.cell? ⟨ba, oa + J * 5 + 4, none⟩ = some (.slice r2 lk t2)) (first | go_keep | trivial)
        ((first
          | (go_at_call 46
             refine (unhide Hcall).mono ?_
             rintro e w7 ⟨rfl, hb7⟩
             have HB7 := hide ((unhide HB).drew.trans (hb7.mono (unhide HB).drew.size))
             obtain ⟨n0, n1, n2, n3, n4, n5, n6, n7, n8, n9⟩ := unhide HCells w7 ((Below.refl _ _).drew.trans hb7)
             clear hb7)))
      clear n0 n1 n2 n3 n4 n5 n6 n7 n8 n9 a0 a1 a2 a3 a4 b0 b1 b2 b3 b4 HCells Hcall
      by_cases hr0 : r < 0
      · have e0 : decide (r < 0) = true := by simp [hr0]
        have HT : Hid (fallsP xs = true) := by
          have h1 := unhide HL
          rw [e0] at h1
          exact (falls_at xs).2 ⟨J, y, x, unhide HHy, by rw [← unhide HIJ]; exact unhide HHx, h1.symm⟩
        clear HL
        go_wp2
        go_ret
        exact ⟨by rw [unhide HT]; rfl, unhide HB7⟩
      · have e0 : decide (r < 0) = false := by simp; omega
        have HE2 : Hid (∀ (j : Nat) (a b : Bs), (J : Int) ≤ (j : Int) → xs[j]? = some a → xs[j + 1]? = some b → lessP b a = false) := fun j a b hj h1 h2 => by
          by_cases hjJ : j = J
          · subst hjJ
            rw [unhide HHy] at h1
            rw [← unhide HIJ, unhide HHx] at h2
            cases h1
            cases h2
            rw [← unhide HL, e0]
          · exact unhide HE j a b (by have := unhide HIJ; omega) h1 h2
        have Hjb : Hid (-1 ≤ (J : Int) ∧ (J : Int) < (K : Int)) := ⟨by omega, by omega⟩
        clear HE HL
        go_wp2
        go_roundw
        case rel =>
          first
            | exact ⟨(J : Int), (unhide Hjb).1, (unhide Hjb).2, rfl, HE2, HB7⟩
            | exact ⟨⟨(J : Int), (unhide Hjb).1, (unhide Hjb).2, rfl, HE2, HB7⟩, rfl⟩
        case measure => simp [intOf]; omega
    · have d1 : decide ((0 : Int) < kk) = false := by simp; omega
      have HT : Hid (fallsP xs = false) := falls_none (fun j a b h1 h2 => unhide HE j a b (by omega) h1 h2)
      clear HE hpos
      go_wp2
      go_ret
      exact ⟨by rw [unhide HT]; rfl, unhide HB⟩
theorem fall_all (n : Nat) : FallC n := fun f S ks w x xs hr hw hxs => by
  have H := hide (sort_c n f S ks w x xs hr hw hxs)
  obtain ⟨sk, ck, e, _⟩ := hr
  subst e
  obtain ⟨K, hK⟩ : ∃ K, ks.length = K := ⟨_, rfl⟩
  obtain ⟨u, hu⟩ : ∃ u, fallsP xs = u := ⟨_, rfl⟩
  rw [hK, hu] at H
  rw [hK, hu]
  clear hw hxs hK hu
  go_enter Tryd.func38, Tryd.ntmps38
  go_wp2_with fail
  refine (unhide H).mono ?_
  rintro e w1 ⟨rfl, hb⟩
  have Hb := hide hb
  clear hb H
  go_wp2
  go_ret
  exact ⟨rfl, unhide Hb⟩
end K
end Go.Proofs.YtngkidlgcdofhabDoor
