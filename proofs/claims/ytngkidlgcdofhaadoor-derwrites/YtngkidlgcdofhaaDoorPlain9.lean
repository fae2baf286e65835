/-
  The walk of plain: a value, as the document has it.
-/
import Derived.Test.YtngkidlgcdofhaaDoorMade9
import Derived.Deep.RegionLaw
namespace Go.Proofs.YtngkidlgcdofhaaDoor
open Go.RowKit
set_option maxRecDepth 100000 in
set_option maxHeartbeats 4000000 in
theorem plain_any : ∀ (n : Nat) (S : Nat → Prop) (v : DV) (w : World) (cs : List Value), VAt n S w cs v → weight v ≤ 1000000 →
    Calls Tryd.prog 14 #[.agg cs.toArray] w fun e w' => ∃ ds : List Value, e = .returned (.agg ds.toArray) ∧ VAt n (fun b => S b ∨ w.heap.size ≤ b) w' ds v ∧ Below w.heap.size w w'
  | 0, _, _, _, _, h, _ => h.elim
  | n + 1, S, v, w, cs, hv, hw => by
    have Hih := hide (plain_any n)
    obtain ⟨c, t, md, bs, ks⟩ := v
    obtain ⟨xa, sa, na, rfl, hxa, hxs, ⟨hbl, hkl⟩, _, _, hka⟩ := hv
    simp only [DV.cls, DV.tag, DV.made, DV.bytes, DV.kids] at *
    have hwb : bs.length ≤ 1000000 ∧ ks.length ≤ 1000000 ∧ ∀ (i : Nat) (k : DV), ks[i]? = some k → weight k ≤ 1000000 := by
      have h1 := weights_len ks
      simp only [weight] at hw
      exact ⟨by omega, by omega, fun i k hik => by have := weight_kid hik; omega⟩
    obtain ⟨hbl2, hkl2, hkw⟩ := hwb
    have Hkw := hide hkw
    have Hbl2 := hide hbl2
    have HXA := hide hxa
    have Hxs := hide hxs
    obtain ⟨spa, cpa, rfl, _, _, _⟩ := bytes_open hxa
    unfold dcells
    obtain ⟨w1, hw1⟩ : ∃ w1, w.alloc (.cells #[.int .i64 c, .int .i64 t, .bool md, .slice spa bs.length cpa, .slice sa ks.length na] 26) = w1 := ⟨_, rfl⟩
    obtain ⟨w2, hw2⟩ : ∃ w2, w1.alloc (.cells #[.int .i64 0, .int .i64 0, .bool false, .slice none 0 0, .slice none 0 0] 32) = w2 := ⟨_, rfl⟩
    obtain ⟨w3, hw3⟩ : ∃ w3, w2.alloc (.cells #[.int .i64 c, .int .i64 t, .bool md, .slice spa bs.length cpa, .slice none 0 0] 32) = w3 := ⟨_, rfl⟩
    have hb1 : Below w.heap.size w w1 := by rw [← hw1]; exact (Below.refl _ _).alloc (Nat.le_refl _) _
    have hb2 : Below w1.heap.size w1 w2 := by rw [← hw2]; exact (Below.refl _ _).alloc (Nat.le_refl _) _
    have hb3 : Below w2.heap.size w2 w3 := by rw [← hw3]; exact (Below.refl _ _).alloc (Nat.le_refl _) _
    have s1 : w1.heap.size = w.heap.size + 1 := by rw [← hw1]; simp
    have s2 : w2.heap.size = w1.heap.size + 1 := by rw [← hw2]; simp
    have s3 : w3.heap.size = w2.heap.size + 1 := by rw [← hw3]; simp
    have hc1 : CellsAt w1 w.heap.size 0 (dcells c t md (.slice spa bs.length cpa) (.slice sa ks.length na)) := by rw [← hw1]; exact cells_new w _ 26
    have HA : Hid (CellsAt w3 w.heap.size 0 (dcells c t md (.slice spa bs.length cpa) (.slice sa ks.length na))) := (hc1.below hb2).below hb3
    have HA2 : Hid (CellsAt w2 w.heap.size 0 (dcells c t md (.slice spa bs.length cpa) (.slice sa ks.length na))) := hc1.below hb2
    have hO : w3.heap[w2.heap.size]? = some (.cells #[.int .i64 c, .int .i64 t, .bool md, .slice spa bs.length cpa, .slice none 0 0] 32 (0, 0)) := by rw [← hw3]; exact heap_alloc_new w2 _
    have hR2 : w2.heap[w1.heap.size]? = some (.cells #[.int .i64 0, .int .i64 0, .bool false, .slice none 0 0, .slice none 0 0] 32 (0, 0)) := by rw [← hw2]; exact heap_alloc_new w1 _
    have HR : Hid (w3.heap[w1.heap.size]? = some (.cells #[.int .i64 0, .int .i64 0, .bool false, .slice none 0 0, .slice none 0 0] 32 (0, 0))) := by show _ = _; rw [hb3.block w1.heap.size (by omega)]; exact hR2
    have Hb03 := hide (hb1.trans ((hb2.mono (Nat.le_refl _)).trans (hb3.mono (by omega)) |>.mono hb1.size))
    obtain ⟨a0, a1, a2, a3, a4⟩ := (unhide HA2).five0
    obtain ⟨b0, b1, b2, b3, b4⟩ := (unhide HA).five0
    obtain ⟨L, hL⟩ : ∃ L, bs.length = L := ⟨_, rfl⟩
    obtain ⟨K, hK⟩ : ∃ K, ks.length = K := ⟨_, rfl⟩
    obtain ⟨A, hA⟩ : ∃ A, w.heap.size = A := ⟨_, rfl⟩
    obtain ⟨R, hR⟩ : ∃ R, w1.heap.size = R := ⟨_, rfl⟩
    obtain ⟨O, hO'⟩ : ∃ O, w2.heap.size = O := ⟨_, rfl⟩
    have Hsz : Hid (w.heap.size = A ∧ R = A + 1 ∧ O = A + 2 ∧ w3.heap.size = A + 3) := ⟨hA, by omega, by omega, by omega⟩
    have HK : Hid (ks.length = K) := hK
    have HL : Hid (bs.length = L) := hL
    have HKA := hide hka
    have HO : Hid (w3.heap[O]? = some (.cells #[.int .i64 c, .int .i64 t, .bool md, .slice spa bs.length cpa, .slice none 0 0] 32 (0, 0))) := by show _ = _; rw [← hO']; exact hO
    simp only [hL, hK, hA, hR] at hw1 hw2 hw3 HR HO a0 a1 a2 a3 a4 b0 b1 b2 b3 b4 hkl2 HXA Hxs
    have Hw3 := hide hw3
    rw [← hw3] at b4
    clear s1 s2 s3 hb1 hb2 hb3 hc1 hR2 hO hka hkw hxa hxs hbl hkl hw hbl2 hL hK HA HA2 hw3 b0 b1 b2 b3
    go_enter Tryd.func14, Tryd.ntmps14
    rw [unhide HL, unhide HK]
    go_wp2
    rw [unhide Hw3]
    clear a0 a1 a2 a3 a4 b4 Hw3 hw1 hw2 hA hR hO'
    have HM0 : Hid (Made 32 (fun b => (S b ∧ b < A) ∨ A ≤ b) n w w3 O R c t md (.slice spa L cpa) (.slice none 0 0) ks 0 []) := by
      obtain ⟨z1, z2, z3, z4⟩ := unhide Hsz
      refine ⟨?_, unhide HR, ownd_nil _ _ _, fun j k hj => by omega, by omega, by omega, unhide Hb03⟩
      exact unhide HO
    have Hkn : Hid (∀ (i : Nat) (wr : World), i < K → Below w.heap.size w wr → ∃ (k : DV) (ba oa : Nat) (ds : List Value), sa = some ⟨ba, oa, none⟩ ∧ ks[i]? = some k ∧ weight k ≤ 1000000 ∧ CellsAt wr ba (oa + i * 5) ds ∧ VAt n (fun b => S b ∧ b < A) wr ds k) := fun i wr hi hb => by
      have hne : ks ≠ [] := fun e => by have := unhide HK; rw [e] at this; simp at this; omega
      have hi2 : i < ks.length := by have := unhide HK; omega
      have hik : ks[i]? = some ks[i] := List.getElem?_eq_getElem hi2
      obtain ⟨ba, oa, e1, _, f1⟩ := unhide HKA hne
      obtain ⟨ds, g1, v1⟩ := f1 i _ hik
      exact ⟨_, ba, oa, ds, e1, hik, unhide Hkw i _ hik, g1.below hb, (v1.mono (S' := fun b => S b ∧ b < A) fun b hb hlt => ⟨hb, by have := (unhide Hsz).1; omega⟩).below hb⟩
    clear HKA Hkw
    go_loopw [18] (fun ii wr => ∃ (i : Nat) (sk : Option Addr) (ck : Nat) (xs : List Value), i ≤ K ∧ ii = .int .i64 (i : Int) ∧ Hid (Made 32 (fun b => (S b ∧ b < A) ∨ A ≤ b) n w wr O R c t md (.slice spa L cpa) (.slice sk i ck) ks i xs)) (fun ii _ => K - (intOf ii).toNat)
    case atStart => exact ⟨0, none, 0, [], by omega, rfl, HM0⟩
    case round =>
      obtain ⟨i, sk, ck, xs, hi, rfl, HM⟩ := hrel
      by_cases hlt : i < K
      · obtain ⟨k, ba, oa, ds, rfl, hik, hkw, g1, v1⟩ := unhide Hkn i wr hlt (unhide HM).b
        obtain ⟨p1, q1, p2, q2, rfl⟩ := v1.form
        have Hv1 := hide v1
        obtain ⟨x0, x1, x2, x3, x4⟩ := g1.five
        have Hkw2 := hide hkw
        have Hik := hide hik
        clear g1 v1 hkw hik Hkn HM0
        have d1 : decide ((i : Int) < (K : Int)) = true := by simp; omega
        have d1n : decide (i < K) = true := by simp; omega
        have i0 : (0 : Int) ≤ (i : Int) := by omega
        have i1 : (i : Int) < (K : Int) := by omega
        have ib : (i : Int) ≤ 1000000 := by omega
        have HV1 : Hid (∀ w', Below wr.heap.size wr w' → VAt n (fun b => S b ∧ b < A) w' (dcells k.cls k.tag k.made (.slice p1 k.bytes.length q1) (.slice p2 k.kids.length q2)) k) := fun w' hb => (unhide Hv1).below hb
        obtain ⟨kc, hkc⟩ : ∃ kc, k.cls = kc := ⟨_, rfl⟩
        obtain ⟨kt, hkt⟩ : ∃ kt, k.tag = kt := ⟨_, rfl⟩
        obtain ⟨km, hkm⟩ : ∃ km, k.made = km := ⟨_, rfl⟩
        obtain ⟨kl, hkl3⟩ : ∃ kl, k.bytes.length = kl := ⟨_, rfl⟩
        obtain ⟨kk, hkk⟩ : ∃ kk, k.kids.length = kk := ⟨_, rfl⟩
        simp only [hkc, hkt, hkm, hkl3, hkk] at x0 x1 x2 x3 x4 HV1
        clear hkc hkt hkm hkl3 hkk Hv1
        obtain ⟨w5, hw5⟩ : ∃ w5, wr.alloc (.cells #[.int .i64 kc, .int .i64 kt, .bool km, .slice p1 kl q1, .slice p2 kk q2] 26) = w5 := ⟨_, rfl⟩
        have hb5 : Below wr.heap.size wr w5 := by rw [← hw5]; exact (Below.refl _ _).alloc (Nat.le_refl _) _
        have hc5 : CellsAt w5 wr.heap.size 0 (dcells kc kt km (.slice p1 kl q1) (.slice p2 kk q2)) := by rw [← hw5]; exact cells_new wr _ 26
        obtain ⟨y0, y1, y2, y3, y4⟩ := hc5.five0
        have Hb5 := hide hb5
        have HM5 := hide ((unhide HM).below hb5)
        clear hb5 hc5
        obtain ⟨C, hC⟩ : ∃ C, wr.heap.size = C := ⟨_, rfl⟩
        rw [hC] at y0 y1 y2 y3 y4
        have o4 : w5.cell? ⟨O, 4, none⟩ = some (.slice sk i ck) := by rw [cell_of_row _ _ _ _ 32 (0, 0) (unhide HM5).out]; rfl
        have of : w5.frozen? ⟨O, 4, none⟩ = false := frozen_of_row _ _ _ _ 32 (unhide HM5).out
        go_wp2
        clear hC hw5 x0 x1 x2 x3 x4
        have H5d : Hid (Below wr.heap.size wr w5.drew) := (unhide Hb5).drew
        have Hkl : Hid (i ≤ 1073741824 ∧ O < w5.heap.size) := ⟨by omega, (unhide HM5).lt⟩
        go_region_law (first
          | (refine step_append_five Erv rfl _ _ rfl (O + 1) (.slice sk i ck) i xs (dcells k.cls k.tag k.made (.slice r1 k.bytes.length t1) (.slice r2 k.kids.length t2)) (by simp [Act.eval]) (unhide HM7).own w6.heap.size 0 1 (by simp [Act.eval]) rfl (cells_new w6 _ 32) (unhide H1c) (unhide Hsz7) (unhide Hkl).1 ?_
             intro v7 w7 hown7 hg7 hor7
             obtain ⟨s7, c7, rfl, _, _⟩ := hown7.form
             have ho7 : w7.heap[O]? = some (.cells #[.int .i64 c, .int .i64 t, .bool md, .slice spa L cpa, .slice sk i ck] 32 (0, 0)) := by { rw [hg7.block O (unhide HM7).lt (fun e => by have := (OwnD.block (unhide HM7).own O e.symm).1; omega)]; exact (unhide HM7).out }
             have o7 : w7.cell? ⟨O, 4, none⟩ = some (.slice sk i ck) := by { rw [cell_of_row _ _ _ _ 32 (0, 0) ho7]; rfl }
             have of7 : w7.frozen? ⟨O, 4, none⟩ = false := frozen_of_row _ _ _ _ 32 ho7
             have HO7 := hide hown7
             have HG7 := hide hg7
             have Hor7 := hide hor7
             clear hown7 hg7 hor7 ho7)
          | (go_simp; go_at_call 14; refine (unhide Hih (fun b => S b ∧ b < A) k _ (dcells kc kt km (.slice p1 kl q1) (.slice p2 kk q2)) (unhide HV1 _ (unhide H5d)) (unhide Hkw2)).mono ?_
             rintro e w6 ⟨es, rfl, hv6, hb6⟩
             obtain ⟨r1, t1, r2, t2, rfl⟩ := hv6.form
             have HV6 := hide hv6
             have HB6 := hide hb6
             have HM6 := hide ((unhide HM5).below ((Below.refl _ _).drew.trans hb6))
             have o6 : w6.cell? ⟨O, 4, none⟩ = some (.slice sk i ck) := by { rw [cell_of_row _ _ _ _ 32 (0, 0) (unhide HM6).out]; rfl }
             have HM7 := hide ((unhide HM6).below ((Below.refl _ _).alloc (Nat.le_refl _) (.cells (dcells k.cls k.tag k.made (.slice r1 k.bytes.length t1) (.slice r2 k.kids.length t2)).toArray 32)))
             have o6b : (w6.alloc (.cells (dcells k.cls k.tag k.made (.slice r1 k.bytes.length t1) (.slice r2 k.kids.length t2)).toArray 32)).cell? ⟨O, 4, none⟩ = some (.slice sk i ck) := by { rw [cell_of_row _ _ _ _ 32 (0, 0) (unhide HM7).out]; rfl }
             unfold dcells at o6b
             have H1c : Hid (∀ u ∈ dcells k.cls k.tag k.made (.slice r1 k.bytes.length t1) (.slice r2 k.kids.length t2), u.oneCell' = true) := by { intro u hu; simp only [dcells, List.mem_cons, List.not_mem_nil, or_false] at hu; rcases hu with rfl | rfl | rfl | rfl | rfl <;> rfl }
             have Hsz7 : Hid (O + 1 ≤ (w6.alloc (.cells (dcells k.cls k.tag k.made (.slice r1 k.bytes.length t1) (.slice r2 k.kids.length t2)).toArray 32)).heap.size) := (unhide HM7).lt
             clear hv6 hb6
             unfold dcells
             go_simp))
        all_goals
          have HF : Hid (VAt n (Free (fun b => (S b ∧ b < A) ∨ A ≤ b) O R (.slice sk i ck)) w6 (dcells k.cls k.tag k.made (.slice r1 k.bytes.length t1) (.slice r2 k.kids.length t2)) k) := by
            refine (unhide HV6).mono fun b hb hlt => ?_
            obtain ⟨z1, z2, z3, z4⟩ := unhide Hsz
            have z5 : w5.drew.heap.size = w5.heap.size := rfl
            have z6 := (unhide Hkl).2
            have z7 : ∀ g, (Value.slice sk i ck).ownBlock = some g → O + 1 ≤ g ∧ g < w5.heap.size := OwnD.block (unhide HM5).own
            rw [z5] at hb
            refine ⟨?_, ?_, ?_, fun e => ?_⟩
            · rcases hb with hb | hb
              · exact Or.inl hb
              · exact Or.inr (by omega)
            · rcases hb with hb | hb
              · have := hb.2; omega
              · omega
            · rcases hb with hb | hb
              · have := hb.2; omega
              · omega
            · have := z7 b e
              rcases hb with hb | hb
              · have := hb.2; omega
              · omega
          have HM8 := hide (Made.add (unhide HM7) (unhide Hik) ((unhide HF).below ((Below.refl _ _).alloc (Nat.le_refl _) _)) (unhide HO7) (unhide HG7) (unhide Hor7))
          clear HF HV6 HB6 HM6 HM7 o6 o6b H1c Hsz7 o7 of7 HO7 HG7 Hor7 y0 y1 y2 y3 y4 o4 of HM5 HV1 Hih
          go_wp2
          go_roundw
          case rel =>
            first
              | exact ⟨i + 1, s7, c7, _, by omega, by go_num, HM8⟩
              | ((repeat apply Exists.intro); exact ⟨⟨i + 1, s7, c7, _, by omega, by go_num, HM8⟩, rfl⟩)
          case measure => simp [intOf]; omega
      · obtain rfl : i = K := by omega
        have d1 : decide ((i : Int) < (i : Int)) = false := by simp
        have HMk : Hid (Made 32 (fun b => (S b ∧ b < A) ∨ A ≤ b) n w wr O R c t md (.slice spa L cpa) (.slice sk i ck) ks ks.length xs) := by rw [unhide HK]; exact unhide HM
        have HD := hide (Made.done (bs := bs) (unhide HMk) (unhide HXA) (fun hne k hk => Or.inl ⟨unhide Hxs hne k hk, by have h1 := ValsAt.old (unhide HXA) (by simpa using hne) k hk; have := (unhide Hsz).1; omega⟩) (fun b hb => Or.inr (by have := (unhide Hsz).1; omega)) ⟨by have := unhide HL; have := unhide Hbl2; omega, by have := unhide HK; omega⟩ #[.int .i64 c, .int .i64 t, .bool md, .slice spa L cpa, .slice sk i ck])
        have HO9 := hide (unhide HMk).out
        have HR9 := hide (unhide HMk).res
        have H5 : Hid ((#[.int .i64 c, .int .i64 t, .bool md, .slice spa L cpa, .slice sk i ck] : Array Value).all (·.oneCell') = true) := by show _ = true; simp [Value.oneCell']
        have hsz5 : (Tryd.prog.info? 32).map (·.size) = some 5 := by kernel_rfl
        clear HMk HM HM0 Hkn Hih
        go_wp2_with (first | (refine wpList_load_row rfl 32 _ rfl O rfl 32 _ (0, 0) _ (unhide HO9) Tryd.underlying32 rfl hsz5 ?_) | (refine wpList_store_row rfl 32 _ _ rfl R _ rfl rfl 32 _ (unhide HR9) hsz5 rfl (unhide H5) ?_))
        refine bodyPost_ret (results_cell_row Tryd.results14 _ _ R 32 _ (0, 0) _ rfl (setRow_heap wr R _ _ 32 (0, 0) (unhide HR9)) Tryd.underlying32 rfl hsz5) rfl ⟨_, rfl, (unhide HD).1.mono fun b hb _ => ?_, (unhide HD).2⟩
        rcases hb with hb | hb
        · exact Or.inl hb.1
        · exact Or.inr (by have := (unhide Hsz).1; omega)
end Go.Proofs.YtngkidlgcdofhaaDoor
