/-
  The walk of same: of a value laid twice.
-/
import Derived.Test.YtngkidlgcdofhaaDoorVrep9
import Derived.Test.YtngkidlgcdofhaaDoorSame9
namespace Go.Proofs.YtngkidlgcdofhaaDoor
open Go.RowKit
set_option maxRecDepth 100000 in
set_option maxHeartbeats 4000000 in
theorem dsame_any (S S' : Nat → Prop) : ∀ (n m : Nat) (v : DV) (w : World) (ca cb : List Value), VAt n S w ca v → VAt m S' w cb v → weight v ≤ 1000000 →
    Calls Tryd.prog 12 #[.agg ca.toArray, .agg cb.toArray] w fun e w' => e = .returned (.bool true) ∧ Below w.heap.size w w'
  | 0, _, _, _, _, _, h, _, _ => h.elim
  | _ + 1, 0, _, _, _, _, _, h, _ => h.elim
  | n + 1, m + 1, v, w, ca, cb, ha, hb, hw => by
    have Hih := hide (dsame_any S S' n m)
    obtain ⟨c, t, md, bs, ks⟩ := v
    obtain ⟨xa, sa, na, rfl, hxa, _, _, _, _, hka⟩ := ha
    obtain ⟨xb, sb, nb, rfl, hxb, _, _, _, _, hkb⟩ := hb
    simp only [DV.cls, DV.tag, DV.made, DV.bytes, DV.kids] at *
    have hwb : bs.length ≤ 1000000 ∧ ks.length ≤ 1000000 ∧ ∀ (i : Nat) (k : DV), ks[i]? = some k → weight k ≤ 1000000 := by
      have h1 := weights_len ks
      simp only [weight] at hw
      exact ⟨by omega, by omega, fun i k hik => by have := weight_kid hik; omega⟩
    obtain ⟨hbl, hkl, hkw⟩ := hwb
    obtain ⟨spa, cpa, rfl, _, _, _⟩ := bytes_open hxa
    obtain ⟨spb, cpb, rfl, _, _, _⟩ := bytes_open hxb
    unfold dcells
    obtain ⟨w1, hw1⟩ : ∃ w1, w.alloc (.cells #[.int .i64 c, .int .i64 t, .bool md, .slice spa bs.length cpa, .slice sa ks.length na] 26) = w1 := ⟨_, rfl⟩
    obtain ⟨w2, hw2⟩ : ∃ w2, w1.alloc (.cells #[.int .i64 c, .int .i64 t, .bool md, .slice spb bs.length cpb, .slice sb ks.length nb] 32) = w2 := ⟨_, rfl⟩
    have hb1 : Below w.heap.size w w1 := by rw [← hw1]; exact (Below.refl _ _).alloc (Nat.le_refl _) _
    have hb2 : Below w1.heap.size w1 w2 := by rw [← hw2]; exact (Below.refl _ _).alloc (Nat.le_refl _) _
    have HA : Hid (CellsAt w2 w.heap.size 0 (dcells c t md (.slice spa bs.length cpa) (.slice sa ks.length na))) := CellsAt.below (by rw [← hw1]; exact cells_new w _ 26) hb2
    have HB : Hid (CellsAt w2 w1.heap.size 0 (dcells c t md (.slice spb bs.length cpb) (.slice sb ks.length nb))) := by rw [← hw2]; exact cells_new w1 _ 32
    have Hb := hide (hb1.trans (hb2.mono hb1.size))
    have HXA := hide (hxa.below (unhide Hb))
    have HXB := hide (hxb.below (unhide Hb))
    have HKA := hide hka
    have HKB := hide hkb
    have Hkw := hide hkw
    have Hlt1 : Hid (w.heap.size < w2.heap.size ∧ w1.heap.size < w2.heap.size) := by
      have e1 : w1.heap.size = w.heap.size + 1 := by rw [← hw1]; simp
      have e2 : w2.heap.size = w1.heap.size + 1 := by rw [← hw2]; simp
      exact ⟨by omega, by omega⟩
    obtain ⟨a0, a1, a2, a3, a4⟩ := (unhide HA).five0
    obtain ⟨b0, b1, b2, b3, b4⟩ := (unhide HB).five0
    obtain ⟨L, hL⟩ : ∃ L, bs.length = L := ⟨_, rfl⟩
    obtain ⟨K, hK⟩ : ∃ K, ks.length = K := ⟨_, rfl⟩
    have HK : Hid (ks.length = K) := hK
    simp only [hL, hK] at hw1 hw2 HA HB HXA HXB a3 a4 b3 b4 hkl ⊢
    obtain ⟨A, hA⟩ : ∃ A, w.heap.size = A := ⟨_, rfl⟩
    obtain ⟨B, hB⟩ : ∃ B, w1.heap.size = B := ⟨_, rfl⟩
    simp only [hA, hB] at HA HB Hlt1 a0 a1 a2 a3 a4 b0 b1 b2 b3 b4
    have Hs := hide (same_any w2 _ _ bs bs (unhide HXA) (unhide HXB) (by omega))
    simp only [decide_true] at Hs
    clear hka hkb hkw hxa hxb hb1 hb2 hL hK hw
    go_enter Tryd.func12, Tryd.ntmps12
    go_wp2_with fail
    refine (unhide Hs).mono ?_
    rintro e w3 ⟨rfl, hb3⟩
    have HA3 := hide ((unhide HA).below hb3)
    have HB3 := hide ((unhide HB).below hb3)
    have Hb03 := hide ((unhide Hb).trans (hb3.mono (unhide Hb).size))
    have Hlt3 : Hid (A < w3.heap.size ∧ B < w3.heap.size) := ⟨Nat.lt_of_lt_of_le (unhide Hlt1).1 hb3.size, Nat.lt_of_lt_of_le (unhide Hlt1).2 hb3.size⟩
    clear hb3 a0 a1 a2 a3 a4 b0 b1 b2 b3 b4 HA HB Hs hw1 hw2 hA hB HXA HXB Hlt1
    obtain ⟨a0, a1, a2, a3, a4⟩ := (unhide HA3).five0
    obtain ⟨b0, b1, b2, b3, b4⟩ := (unhide HB3).five0
    go_wp2
    have Hkn : Hid (∀ i, i < K → ∃ (k : DV) (ba oa bb ob : Nat) (ds es : List Value), sa = some ⟨ba, oa, none⟩ ∧ sb = some ⟨bb, ob, none⟩ ∧ weight k ≤ 1000000 ∧ CellsAt w3 ba (oa + i * 5) ds ∧ VAt n S w3 ds k ∧ CellsAt w3 bb (ob + i * 5) es ∧ VAt m S' w3 es k) := fun i hi => by
      have hne : ks ≠ [] := fun e => by have := unhide HK; rw [e] at this; simp at this; omega
      have hi2 : i < ks.length := by have := unhide HK; omega
      have hik : ks[i]? = some ks[i] := List.getElem?_eq_getElem hi2
      obtain ⟨ba, oa, e1, _, f1⟩ := unhide HKA hne
      obtain ⟨bb, ob, e2, _, f2⟩ := unhide HKB hne
      obtain ⟨ds, g1, v1⟩ := f1 i _ hik
      obtain ⟨es, g2, v2⟩ := f2 i _ hik
      exact ⟨_, ba, oa, bb, ob, ds, es, e1, e2, unhide Hkw i _ hik, g1.below (unhide Hb03), v1.below (unhide Hb03), g2.below (unhide Hb03), v2.below (unhide Hb03)⟩
    clear HKA HKB Hkw HK Hb a0 a1 a2 a3 a4 b0 b1 b2 b3 b4
    go_loopw [46] (fun ii wr => ∃ i : Nat, i ≤ K ∧ ii = .int .i64 (i : Int) ∧ Below w3.heap.size w3 wr) (fun ii _ => K - (intOf ii).toNat)
    case atStart => exact ⟨0, by omega, rfl, Below.refl _ _⟩
    case round =>
      obtain ⟨i, hi, rfl, hbr⟩ := hrel
      by_cases hlt : i < K
      · obtain ⟨k, ba, oa, bb, ob, ds, es, rfl, rfl, hkw, g1, v1, g2, v2⟩ := unhide Hkn i hlt
        obtain ⟨p1, q1, p2, q2, rfl⟩ := v1.form
        obtain ⟨r1, t1, r2, t2, rfl⟩ := v2.form
        have Hv1 := hide (v1.below hbr)
        have Hv2 := hide (v2.below hbr)
        have Hg2 := hide (g2.below hbr)
        have HB4 := hide ((unhide HB3).below hbr)
        obtain ⟨x0, x1, x2, x3, x4⟩ := (g1.below hbr).five
        have Hbr := hide hbr
        have Hkw2 := hide hkw
        clear g1 v1 g2 v2 hbr hkw Hkn
        have d1 : decide ((i : Int) < (K : Int)) = true := by simp; omega
        have d1n : decide (i < K) = true := by simp; omega
        have i0 : (0 : Int) ≤ (i : Int) := by omega
        have i1 : (i : Int) < (K : Int) := by omega
        have ib : (i : Int) ≤ 1000000 := by omega
        have HV1 : Hid (∀ w', Below wr.heap.size wr w' → VAt n S w' (dcells k.cls k.tag k.made (.slice p1 k.bytes.length q1) (.slice p2 k.kids.length q2)) k ∧ VAt m S' w' (dcells k.cls k.tag k.made (.slice r1 k.bytes.length t1) (.slice r2 k.kids.length t2)) k) := fun w' hb => ⟨(unhide Hv1).below hb, (unhide Hv2).below hb⟩
        have HF : Hid (∀ w', Below wr.heap.size wr w' → CellsAt w' B 0 (dcells c t md (.slice spb L cpb) (.slice (some ⟨bb, ob, none⟩) K nb)) ∧ CellsAt w' bb (ob + i * 5) (dcells k.cls k.tag k.made (.slice r1 k.bytes.length t1) (.slice r2 k.kids.length t2))) := fun w' hb => ⟨(unhide HB4).below hb, (unhide Hg2).below hb⟩
        obtain ⟨kc, hkc⟩ : ∃ kc, k.cls = kc := ⟨_, rfl⟩
        obtain ⟨kt, hkt⟩ : ∃ kt, k.tag = kt := ⟨_, rfl⟩
        obtain ⟨km, hkm⟩ : ∃ km, k.made = km := ⟨_, rfl⟩
        obtain ⟨kl, hkl2⟩ : ∃ kl, k.bytes.length = kl := ⟨_, rfl⟩
        obtain ⟨kk, hkk⟩ : ∃ kk, k.kids.length = kk := ⟨_, rfl⟩
        simp only [hkc, hkt, hkm, hkl2, hkk] at x0 x1 x2 x3 x4 HV1 HF
        clear hkc hkt hkm hkl2 hkk Hv1 Hv2 HB4 Hg2
        obtain ⟨w5, hw5⟩ : ∃ w5, wr.alloc (.cells #[.int .i64 kc, .int .i64 kt, .bool km, .slice p1 kl q1, .slice p2 kk q2] 26) = w5 := ⟨_, rfl⟩
        have hb5 : Below wr.heap.size wr w5 := by rw [← hw5]; exact (Below.refl _ _).alloc (Nat.le_refl _) _
        have hc5 : CellsAt w5 wr.heap.size 0 (dcells kc kt km (.slice p1 kl q1) (.slice p2 kk q2)) := by rw [← hw5]; exact cells_new wr _ 26
        obtain ⟨y0, y1, y2, y3, y4⟩ := hc5.five0
        obtain ⟨_, _, _, _, z4⟩ := (unhide HF w5 hb5).1.five0
        obtain ⟨e0, e1, e2, e3, e4⟩ := (unhide HF w5 hb5).2.five
        have Hb5 := hide hb5
        have Hc5 := hide hc5
        have HD5 := hide (unhide HF w5 hb5)
        clear hb5 hc5 HF
        obtain ⟨C, hC⟩ : ∃ C, wr.heap.size = C := ⟨_, rfl⟩
        rw [hC] at y0 y1 y2 y3 y4 Hc5
        go_wp2
        clear hC hw5
        go_region_held3 (fun w' => w'.cell? ⟨C, 0, none⟩ = some (.int .i64 kc) ∧ w'.cell? ⟨C, 1, none⟩ = some (.int .i64 kt) ∧ w'.cell? ⟨C, 2, none⟩ = some (.bool km) ∧ w'.cell? ⟨C, 3, none⟩ = some (.slice p1 kl q1) ∧ w'.cell? ⟨C, 4, none⟩ = some (.slice p2 kk q2) ∧ w'.cell? ⟨B, 4, none⟩ = some (.slice (some ⟨bb, ob, none⟩) K nb) ∧ w'.cell? ⟨bb, ob + i * 5, none⟩ = some (.int .i64 kc) ∧ w'.cell? ⟨bb, ob + i * 5 + 1, none⟩ = some (.int .i64 kt) ∧ w'.cell? ⟨bb, ob + i * 5 + 2, none⟩ = some (.bool km) ∧ w'.cell? ⟨bb, ob + i * 5 + 3, none⟩ = some (.slice r1 kl t1) ∧ w'.cell? ⟨bb, ob + i * 5 + 4, none⟩ = some (.slice r2 kk t2)) (go_keep)
          ((go_at_call 12; refine (unhide Hih k _ (dcells kc kt km (.slice p1 kl q1) (.slice p2 kk q2)) (dcells kc kt km (.slice r1 kl t1) (.slice r2 kk t2)) (unhide HV1 _ ((unhide Hb5).drew)).1 (unhide HV1 _ ((unhide Hb5).drew)).2 (unhide Hkw2)).mono ?_
            rintro e w6 ⟨rfl, hb6⟩
            have HB6 := hide ((unhide Hb5).drew.trans (hb6.mono (unhide Hb5).size))
            obtain ⟨y0, y1, y2, y3, y4⟩ := (CellsAt.below (a := w5.drew) (unhide Hc5) hb6).five0
            obtain ⟨_, _, _, _, z4⟩ := (CellsAt.below (a := w5.drew) (unhide HD5).1 hb6).five0
            obtain ⟨e0, e1, e2, e3, e4⟩ := (CellsAt.below (a := w5.drew) (unhide HD5).2 hb6).five
            clear hb6))
        go_wp2
        go_roundw
        case rel =>
          first
            | exact ⟨i + 1, by omega, by go_num, (unhide Hbr).trans ((unhide HB6).mono (unhide Hbr).size)⟩
            | ((repeat apply Exists.intro); exact ⟨⟨i + 1, by omega, by go_num, (unhide Hbr).trans ((unhide HB6).mono (unhide Hbr).size)⟩, rfl⟩)
        case measure => simp [intOf]; omega
      · obtain rfl : i = K := by omega
        have d1 : decide ((i : Int) < (i : Int)) = false := by simp
        have Hbr := hide hbr
        clear Hkn hbr
        go_wp2
        go_ret
        exact ⟨rfl, (unhide Hb03).trans ((unhide Hbr).mono (unhide Hb03).size)⟩
end Go.Proofs.YtngkidlgcdofhaaDoor
