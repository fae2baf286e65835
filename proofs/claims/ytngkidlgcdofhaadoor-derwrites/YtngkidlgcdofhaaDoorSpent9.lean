/-
  The walk of spent: a value that it lets through is not heavy.
-/
import Derived.Test.YtngkidlgcdofhaaDoorVrep9
namespace Go.Proofs.YtngkidlgcdofhaaDoor
open Go.RowKit
set_option maxRecDepth 100000 in
set_option maxHeartbeats 4000000 in
theorem spent_any (S : Nat → Prop) : ∀ (n : Nat) (v : DV) (w : World) (cs : List Value) (d l : Nat), VAt n S w cs v → d ≤ 30 → l ≤ 5000 →
    Calls Tryd.prog 13 #[.agg cs.toArray, .int .i64 (d : Int), .int .i64 (l : Int)] w fun e w' => ∃ r : Int, e = .returned (.int .i64 r) ∧ -1 ≤ r ∧ r ≤ l ∧ (0 ≤ r → (weight v : Int) + r ≤ l) ∧ Below w.heap.size w w'
  | 0, _, _, _, _, _, h, _, _ => h.elim
  | n + 1, v, w, cs, d, l, hv, hd, hl => by
    have Hih := hide (spent_any S n)
    obtain ⟨c, t, md, bs, ks⟩ := v
    obtain ⟨xa, sa, na, rfl, hxa, _, ⟨hbl, hkl⟩, _, _, hka⟩ := hv
    simp only [DV.cls, DV.tag, DV.made, DV.bytes, DV.kids] at *
    obtain ⟨spa, cpa, rfl, _, _, _⟩ := bytes_open hxa
    have Hw : Hid (weight (.mk c t md bs ks) = 1 + bs.length + weights ks) := by show _ = _; simp only [weight]
    obtain ⟨W, hW⟩ : ∃ W, weight (.mk c t md bs ks) = W := ⟨_, rfl⟩
    rw [hW] at Hw ⊢
    unfold dcells
    obtain ⟨w1, hw1⟩ : ∃ w1, w.alloc (.cells #[.int .i64 c, .int .i64 t, .bool md, .slice spa bs.length cpa, .slice sa ks.length na] 26) = w1 := ⟨_, rfl⟩
    have hb1 : Below w.heap.size w w1 := by rw [← hw1]; exact (Below.refl _ _).alloc (Nat.le_refl _) _
    have HA : Hid (CellsAt w1 w.heap.size 0 (dcells c t md (.slice spa bs.length cpa) (.slice sa ks.length na))) := by rw [← hw1]; exact cells_new w _ 26
    have Hb := hide hb1
    have HKA := hide hka
    obtain ⟨a0, a1, a2, a3, a4⟩ := (unhide HA).five0
    obtain ⟨L, hL⟩ : ∃ L, bs.length = L := ⟨_, rfl⟩
    obtain ⟨K, hK⟩ : ∃ K, ks.length = K := ⟨_, rfl⟩
    have HK : Hid (ks.length = K) := hK
    obtain ⟨A, hA⟩ : ∃ A, w.heap.size = A := ⟨_, rfl⟩
    simp only [hL, hK] at hw1 HA a3 a4 hkl hbl Hw ⊢
    simp only [hA] at HA a0 a1 a2 a3 a4
    clear hka hxa hb1 hL hK hW
    go_enter Tryd.func13, Tryd.ntmps13
    by_cases hd0 : d = 0
    · subst hd0
      clear HKA Hih HK HA
      go_wp2
      go_ret
      exact ⟨-1, rfl, by omega, by omega, by omega, unhide Hb⟩
    have e1 : ((d : Int) == 0) = false := by simp; omega
    by_cases hl0 : l = 0
    · subst hl0
      clear HKA Hih HK HA
      go_wp2
      go_ret
      exact ⟨-1, rfl, by omega, by omega, by omega, unhide Hb⟩
    have e2 : decide ((l : Int) ≤ 0) = false := by simp; omega
    by_cases hlL : l ≤ L
    · have e3 : decide ((l : Int) ≤ (L : Int)) = true := by simp; omega
      have e3n : decide (l ≤ L) = true := by simp; omega
      clear HKA Hih HK HA
      go_wp2
      go_ret
      exact ⟨-1, rfl, by omega, by omega, by omega, unhide Hb⟩
    have e3 : decide ((l : Int) ≤ (L : Int)) = false := by simp; omega
    have e3n : decide (l ≤ L) = false := by simp; omega
    obtain ⟨l1, hl1⟩ : ∃ l1 : Nat, l = l1 + 1 + L := ⟨l - 1 - L, by omega⟩
    have s1 : (l : Int) - (1 + (L : Int)) = (l1 : Int) := by omega
    have lb : (L : Int) ≤ 5000 := by omega
    have l1b : l1 ≤ 5000 := by omega
    have Hdp : Hid (0 < d) := Nat.pos_of_ne_zero hd0
    have Hl1 := hide hl1
    clear hl1
    have lbl : (l : Int) ≤ 5000 := by omega
    have Hkn : Hid (∀ i, i < K → ∃ (k : DV) (ba oa : Nat) (ds : List Value), sa = some ⟨ba, oa, none⟩ ∧ weights (ks.take (i + 1)) = weights (ks.take i) + weight k ∧ CellsAt w1 ba (oa + i * 5) ds ∧ VAt n S w1 ds k) := fun i hi => by
      have hne : ks ≠ [] := fun e => by have := unhide HK; rw [e] at this; simp at this; omega
      have hi2 : i < ks.length := by have := unhide HK; omega
      have hik : ks[i]? = some ks[i] := List.getElem?_eq_getElem hi2
      obtain ⟨ba, oa, e1, _, f1⟩ := unhide HKA hne
      obtain ⟨ds, g1, v1⟩ := f1 i _ hik
      exact ⟨_, ba, oa, ds, e1, weights_take ks i _ hik, g1.below (unhide Hb), v1.below (unhide Hb)⟩
    have HKend : Hid (weights (ks.take K) = weights ks) := by show _ = _; rw [List.take_of_length_le (by have := unhide HK; omega)]
    have HK0 : Hid (weights (ks.take 0) = 0) := by show _ = _; simp [weights]
    clear HKA HK hd0 hl0 hlL HA
    go_wp2
    clear a0 a1 a2 a3 a4 hw1 hA
    go_loopw [2, 31] (fun ll ii wr => ∃ i m : Nat, i ≤ K ∧ ii = .int .i64 (i : Int) ∧ ll = .int .i64 (m : Int) ∧ m ≤ l1 ∧ Hid (weights (ks.take i) + m ≤ l1) ∧ Below w1.heap.size w1 wr) (fun _ ii _ => K - (intOf ii).toNat)
    case atStart => exact ⟨0, l1, by omega, rfl, by first | rfl | rw [s1], by omega, by show _ ≤ _; rw [unhide HK0]; omega, Below.refl _ _⟩
    case round =>
      obtain ⟨i, m, hi, rfl, rfl, hm, Hm, hbr⟩ := hrel
      by_cases hlt : i < K
      · obtain ⟨k, ba, oa, ds, rfl, hwk, g1, v1⟩ := unhide Hkn i hlt
        obtain ⟨p1, q1, p2, q2, rfl⟩ := v1.form
        have Hv1 := hide (v1.below hbr)
        obtain ⟨x0, x1, x2, x3, x4⟩ := (g1.below hbr).five
        have Hbr := hide hbr
        have Hwk := hide hwk
        clear g1 v1 hbr hwk Hkn HKend HK0
        have d1 : decide ((i : Int) < (K : Int)) = true := by simp; omega
        have d1n : decide (i < K) = true := by simp; omega
        have i0 : (0 : Int) ≤ (i : Int) := by omega
        have i1 : (i : Int) < (K : Int) := by omega
        have HV1 : Hid (∀ w', Below wr.heap.size wr w' → VAt n S w' (dcells k.cls k.tag k.made (.slice p1 k.bytes.length q1) (.slice p2 k.kids.length q2)) k) := fun w' hb => (unhide Hv1).below hb
        obtain ⟨kc, hkc⟩ : ∃ kc, k.cls = kc := ⟨_, rfl⟩
        obtain ⟨kt, hkt⟩ : ∃ kt, k.tag = kt := ⟨_, rfl⟩
        obtain ⟨km, hkm⟩ : ∃ km, k.made = km := ⟨_, rfl⟩
        obtain ⟨kl, hkl2⟩ : ∃ kl, k.bytes.length = kl := ⟨_, rfl⟩
        obtain ⟨kk, hkk⟩ : ∃ kk, k.kids.length = kk := ⟨_, rfl⟩
        simp only [hkc, hkt, hkm, hkl2, hkk] at x0 x1 x2 x3 x4 HV1
        clear hkc hkt hkm hkl2 hkk Hv1
        obtain ⟨w5, hw5⟩ : ∃ w5, wr.alloc (.cells #[.int .i64 kc, .int .i64 kt, .bool km, .slice p1 kl q1, .slice p2 kk q2] 26) = w5 := ⟨_, rfl⟩
        have hb5 : Below wr.heap.size wr w5 := by rw [← hw5]; exact (Below.refl _ _).alloc (Nat.le_refl _) _
        have hc5 : CellsAt w5 wr.heap.size 0 (dcells kc kt km (.slice p1 kl q1) (.slice p2 kk q2)) := by rw [← hw5]; exact cells_new wr _ 26
        obtain ⟨y0, y1, y2, y3, y4⟩ := hc5.five0
        have Hb5 := hide hb5
        clear hb5 hc5
        obtain ⟨C, hC⟩ : ∃ C, wr.heap.size = C := ⟨_, rfl⟩
        rw [hC] at y0 y1 y2 y3 y4
        obtain ⟨d', hd'⟩ : ∃ d' : Nat, d = d' + 1 := ⟨d - 1, by have := unhide Hdp; omega⟩
        have sd : (d : Int) - 1 = (d' : Int) := by omega
        have hdb : d' ≤ 30 := by omega
        have Hc := hide (unhide Hih k w5 (dcells kc kt km (.slice p1 kl q1) (.slice p2 kk q2)) d' m (unhide HV1 w5 (unhide Hb5)) hdb (by omega))
        unfold dcells at Hc
        clear hd' HV1 Hih
        go_wp2_with fail
        refine (unhide Hc).mono ?_
        rintro e w6 ⟨r, rfl, hr1, hr2, hr3, hb6⟩
        have HB6 := hide ((unhide Hb5).trans (hb6.mono (unhide Hb5).size))
        clear hb6 y0 y1 y2 y3 y4 x0 x1 x2 x3 x4 hw5 hC Hc
        by_cases hr0 : r < 0
        · obtain rfl : r = -1 := by omega
          go_wp2
          go_ret
          exact ⟨-1, rfl, by omega, by omega, by omega, (unhide Hb).trans (((unhide Hbr).trans ((unhide HB6).mono (unhide Hbr).size)).mono (unhide Hb).size)⟩
        · obtain ⟨r, rfl⟩ : ∃ k : Nat, r = (k : Int) := ⟨r.toNat, by omega⟩
          have f1 : decide ((r : Int) < 0) = false := by simp
          have Hm2 : Hid (weights (ks.take (i + 1)) + r ≤ l1) := by show _ ≤ _; have h1 := unhide Hm; have h2 := hr3 (by omega); rw [unhide Hwk]; omega
          have hrl : r ≤ l1 := by omega
          clear hr3 hr1 hr2 hr0 Hm Hwk
          go_wp2
          go_roundw
          case rel =>
            first
              | exact ⟨i + 1, r, by omega, by go_num, rfl, hrl, Hm2, (unhide Hbr).trans ((unhide HB6).mono (unhide Hbr).size)⟩
              | ((repeat apply Exists.intro); exact ⟨⟨i + 1, r, by omega, by go_num, rfl, hrl, Hm2, (unhide Hbr).trans ((unhide HB6).mono (unhide Hbr).size)⟩, rfl⟩)
          case measure => simp [intOf]; omega
      · obtain rfl : i = K := by omega
        have d1 : decide ((i : Int) < (i : Int)) = false := by simp
        have Hbr := hide hbr
        clear Hkn hbr
        go_wp2
        go_ret
        refine ⟨(m : Int), rfl, by omega, by have := unhide Hl1; omega, fun _ => ?_, (unhide Hb).trans ((unhide Hbr).mono (unhide Hb).size)⟩
        have h1 := unhide Hm
        have h2 := unhide Hw
        have h3 := unhide Hl1
        rw [unhide HKend] at h1
        omega
end Go.Proofs.YtngkidlgcdofhaaDoor
