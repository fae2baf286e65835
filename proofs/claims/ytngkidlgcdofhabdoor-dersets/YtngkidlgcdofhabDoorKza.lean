/-
  The walks of the landed read and Read.
-/
import Derived.Test.YtngkidlgcdofhabDoorKz
import Derived.Deep.RegionLaw
namespace Go.Proofs.YtngkidlgcdofhabDoor
open Go.RowKit
namespace K
/-- What is told of a value that is read, by what the plain words say. -/
def RTold (f : Nat) (P : Told (DV × Bs)) (w' : World) (B : Nat) (x : Value) (b : Bs) (cs : List Value) (rest : Value) (er : Nat) : Prop := match P with
  | .no e => er = e ∧ cs = zeroL
  | .yes (v, r) => er = 0 ∧ VAt f (fun k => B ≤ k) w' cs v ∧ ∃ sp c, rest = .slice sp r.length c ∧ ∀ W, BytesAt W x b → BytesAt W rest r
set_option maxRecDepth 100000 in
set_option maxHeartbeats 16000000 in
theorem read_zero : ReadC 0 := fun w x b D hT hx hl hD => by
  obtain ⟨xs, xc, rfl, _, _, _⟩ := bytes_open hx
  obtain ⟨N, hN⟩ : ∃ N, b.length = N := ⟨_, rfl⟩
  rw [hN]
  obtain rfl : D = 17 := by omega
  have hR := Blk.new (Below.refl w.heap.size w) zeroL.toArray 26
  have HR := hide hR
  clear hT hx hl hD hN hR
  go_enter Tryd.func19, Tryd.ntmps19
  go_wp2
  exact bodyPost_ret (res_row_tmp2 Tryd.results19 _ _ w.heap.size 26 zeroL.toArray (0, 0) _ rfl (unhide HR).res Tryd.underlying26 rfl value5 (.slice none 0 0) (.int .i64 23) rfl rfl) rfl ⟨zeroL, none, 0, 0, 23, rfl, ⟨rfl, rfl⟩, (unhide HR).b⟩
set_option maxRecDepth 100000 in
set_option maxHeartbeats 16000000 in
theorem read_step (f : Nat) (hfill : FillC f) : ReadC (f + 1) := fun w x b D hT hx hl hD => by
  obtain ⟨xs, xc, rfl, _, _, _⟩ := bytes_open hx
  obtain ⟨N, hN⟩ : ∃ N, b.length = N := ⟨_, rfl⟩
  rw [hN] at hx hl ⊢
  have HX := hide hx
  have HT := hide hT
  have HN := hide hN
  have HF := hide hfill
  obtain ⟨P, hP⟩ : ∃ P, valueP formD (f + 1) b = P := ⟨_, rfl⟩
  have HTo : Hid (∀ w' B cs rest er, RTold (f + 1) P w' B (.slice xs N xc) b cs rest er → ReadTold (f + 1) w' B (.slice xs N xc) b cs rest er) := fun w' B cs rest er h => by unfold ReadTold; unfold RTold at h; rw [hP]; exact h
  have HP := hide hP
  have hR := Blk.new (Below.refl w.heap.size w) zeroL.toArray 26
  obtain ⟨w1, hw1⟩ : ∃ w1, w.alloc (.cells #[.int .i64 0, .int .i64 0, .bool false, .slice none 0 0, .slice none 0 0] 26) = w1 := ⟨_, rfl⟩
  obtain ⟨R, eR⟩ : ∃ R, w.heap.size = R := ⟨_, rfl⟩
  have hR1 : Blk w w1 R zeroL.toArray 26 := by rw [← hw1, ← eR]; exact hR
  have HR := hide hR1
  have Hws := hide eR
  have Hfo := hide (rform_c w1 (.slice xs N xc) b (hx.below hR1.b) (by omega))
  have dD : decide ((16 : Int) < (D : Int)) = false := by simp; omega
  have dDn : decide (16 < D) = false := by simp; omega
  clear hR hR1 hx hT hN hfill hP
  go_enter Tryd.func19, Tryd.ntmps19
  go_wp2_with fail
  refine (unhide Hfo).mono ?_
  rintro e w2 ⟨c, t, m, rest, er, rfl, hft, hb2⟩
  have HR2 := hide ((unhide HR).call hb2)
  obtain ⟨s1, n1, c1, erest⟩ : ∃ s1 n1 c1, rest = .slice s1 n1 c1 := by
    have h1 := hft
    unfold FormTold at h1
    split at h1
    · exact ⟨_, _, _, h1.2⟩
    · obtain ⟨_, _, _, _, sp, cc, h2, _⟩ := h1
      exact ⟨_, _, _, h2⟩
  subst erest
  have HFt := hide hft
  clear hft hb2 Hfo HR hw1
  have r0 := (unhide HR2).cell 0 _ rfl
  have r1 := (unhide HR2).cell 1 _ rfl
  have r2 := (unhide HR2).cell 2 _ rfl
  have r3 := (unhide HR2).cell 3 _ rfl
  have r4 := (unhide HR2).cell 4 _ rfl
  have g0 := (unhide HR2).frozen 0
  have g1 := (unhide HR2).frozen 1
  have g2 := (unhide HR2).frozen 2
  have g3 := (unhide HR2).frozen 3
  have g4 := (unhide HR2).frozen 4
  go_upto_region 4 with fail
  have hR3 := (unhide HR2).put5 (.int .i64 (c : Int)) (.int .i64 (t : Int)) (.bool m) (.slice none 0 0) (.slice none 0 0)
  obtain ⟨w3, hw3⟩ : ∃ w3, ((((w2.setCell ⟨R, 0, none⟩ (.int .i64 (c : Int))).setCell ⟨R, 1, none⟩ (.int .i64 (t : Int))).setCell ⟨R, 2, none⟩ (.bool m)).setCell ⟨R, 3, none⟩ (.slice none 0 0)).setCell ⟨R, 4, none⟩ (.slice none 0 0) = w3 := ⟨_, rfl⟩
  rw [hw3] at hR3 ⊢
  have HR3 := hide hR3
  clear r0 r1 r2 r3 r4 g0 g1 g2 g3 g4 hw3 HR2
  have r0 := hR3.cell 0 _ rfl
  have r1 := hR3.cell 1 _ rfl
  have r2 := hR3.cell 2 _ rfl
  have r3 := hR3.cell 3 _ rfl
  have r4 := hR3.cell 4 _ rfl
  have g0 := hR3.frozen 0
  have g1 := hR3.frozen 1
  have g2 := hR3.frozen 2
  have g3 := hR3.frozen 3
  have g4 := hR3.frozen 4
  clear hR3
  cases htag : tagP b with
  | no e' =>
    have h1 := unhide HFt
    unfold FormTold at h1
    rw [htag] at h1
    obtain ⟨her, _⟩ := h1
    have hne := tag_pos htag
    have HE : Hid (P = .no er) := by show _ = _; rw [← unhide HP, value_open1 htag, her]
    have e0 : ((er : Int) == 0) = false := by simp; omega
    have e0' : ((er : Int) != 0) = true := by simp; omega
    clear HFt htag her hne
    go_wp2
    have h1 := (unhide HR3).put5 (.int .i64 0) (.int .i64 0) (.bool false) (.slice none 0 0) (.slice none 0 0)
    exact bodyPost_ret (res_row_tmp2 Tryd.results19 _ _ R 26 zeroL.toArray (0, 0) _ rfl h1.res Tryd.underlying26 rfl value5 (.slice none 0 0) (.int .i64 (er : Int)) rfl rfl) rfl ⟨zeroL, none, 0, 0, er, rfl, unhide HTo _ _ _ _ _ (by rw [unhide HE]; exact ⟨rfl, rfl⟩), by first | exact h1.b | (rw [← unhide Hws]; exact h1.b)⟩
  | yes q =>
    obtain ⟨c', t', m', l1⟩ := q
    have h1 := unhide HFt
    unfold FormTold at h1
    rw [htag] at h1
    obtain ⟨her, hc, ht, hm, sp, cc, erest, hrest⟩ := h1
    simp only [Value.slice.injEq] at erest
    obtain ⟨e1, hn1, e3⟩ := erest
    subst e1 e3 hc ht hm
    have e0 : ((er : Int) == 0) = true := by simp; omega
    have e0' : ((er : Int) != 0) = false := by simp; omega
    have hl1 : l1.length ≤ 65536 := by
      obtain ⟨_, _, hb⟩ := tag_back htag
      have h2 := congrArg List.length hb
      rw [List.length_append] at h2
      have := unhide HN
      omega
    have Htag := hide htag
    have Hre1 := hide hrest
    have Hn1 := hide hn1
    have Hle := hide (rlen_c w3 (.slice s1 n1 c1) l1 (hrest w3 ((unhide HX).below (unhide HR3).b)) (by omega))
    clear HFt htag her hrest hn1
    go_wp2_with fail
    refine (unhide Hle).mono ?_
    rintro e w4 ⟨tv, rest2, er2, rfl, hnt, htv, hb4⟩
    have HR4 := hide ((unhide HR3).call hb4)
    obtain ⟨s2, n2, c2, erest⟩ : ∃ s2 n2 c2, rest2 = .slice s2 n2 c2 := by
      have h1 := hnt
      unfold NumTold at h1
      split at h1
      · exact ⟨_, _, _, h1.2⟩
      · obtain ⟨_, _, sp, cc, h2, _⟩ := h1
        exact ⟨_, _, _, h2⟩
    subst erest
    have HNt := hide hnt
    clear hnt hb4 Hle r0 r1 r2 r3 r4 g0 g1 g2 g3 g4 HR3
    have r0 := (unhide HR4).cell 0 _ rfl
    have r1 := (unhide HR4).cell 1 _ rfl
    have r2 := (unhide HR4).cell 2 _ rfl
    have r3 := (unhide HR4).cell 3 _ rfl
    have r4 := (unhide HR4).cell 4 _ rfl
    have g0 := (unhide HR4).frozen 0
    have g1 := (unhide HR4).frozen 1
    have g2 := (unhide HR4).frozen 2
    have g3 := (unhide HR4).frozen 3
    have g4 := (unhide HR4).frozen 4
    cases hlen : lenP l1 with
    | no e' =>
      have h1 := unhide HNt
      unfold NumTold at h1
      rw [hlen] at h1
      obtain ⟨her, _⟩ := h1
      have hne := length_pos hlen
      have HE : Hid (P = .no er2) := by show _ = _; rw [← unhide HP, value_open2 (unhide Htag) hlen, her]
      have f0 : ((er2 : Int) == 0) = false := by simp; omega
      have f0' : ((er2 : Int) != 0) = true := by simp; omega
      clear HNt hlen her hne
      go_wp2
      have h1 := (unhide HR4).put5 (.int .i64 0) (.int .i64 0) (.bool false) (.slice none 0 0) (.slice none 0 0)
      exact bodyPost_ret (res_row_tmp2 Tryd.results19 _ _ R 26 zeroL.toArray (0, 0) _ rfl h1.res Tryd.underlying26 rfl value5 (.slice none 0 0) (.int .i64 (er2 : Int)) rfl rfl) rfl ⟨zeroL, none, 0, 0, er2, rfl, unhide HTo _ _ _ _ _ (by rw [unhide HE]; exact ⟨rfl, rfl⟩), by first | exact h1.b | (rw [← unhide Hws]; exact h1.b)⟩
    | yes q =>
      obtain ⟨n, l2⟩ := q
      have h1 := unhide HNt
      unfold NumTold at h1
      rw [hlen] at h1
      obtain ⟨her, htn, sp, cc, erest, hrest⟩ := h1
      simp only [Value.slice.injEq] at erest
      obtain ⟨e1, hn2, e3⟩ := erest
      subst e1 e3 htn
      have f0 : ((er2 : Int) == 0) = true := by simp; omega
      have f0' : ((er2 : Int) != 0) = false := by simp; omega
      have hl2 : l2.length ≤ 65536 := by
        obtain ⟨hb, _⟩ := len_back hlen
        have h2 := congrArg List.length hb
        rw [List.length_append] at h2
        omega
      have HV : Hid (P = if l2.length < tv then .no 20 else match fillP f c t m (l2.take tv) with
          | .no e => .no e
          | .yes v => .yes (v, l2.drop tv)) := by show _ = _; rw [← unhide HP, value_fill (unhide Htag) hlen]; rfl
      rw [← hn2] at HV
      have hX2 : ∀ W, BytesAt W (.slice xs N xc) b → BytesAt W (.slice s2 n2 c2) l2 := fun W h => hrest W (unhide Hre1 W h)
      have HX2 := hide hX2
      have Hn2 := hide hn2
      rw [← hn2] at hl2
      clear HNt hlen her hrest Hre1 Htag hX2 hn2
      by_cases hshort : n2 < tv
      · have h1 : decide ((n2 : Int) < (tv : Int)) = true := by simp; omega
        have h1n : decide (n2 < tv) = true := by simp; omega
        have HE : Hid (P = .no 20) := by show _ = _; rw [unhide HV, if_pos hshort]
        go_wp2
        have h1 := (unhide HR4).put5 (.int .i64 0) (.int .i64 0) (.bool false) (.slice none 0 0) (.slice none 0 0)
        exact bodyPost_ret (res_row_tmp2 Tryd.results19 _ _ R 26 zeroL.toArray (0, 0) _ rfl h1.res Tryd.underlying26 rfl value5 (.slice none 0 0) (.int .i64 20) rfl rfl) rfl ⟨zeroL, none, 0, 0, 20, rfl, unhide HTo _ _ _ _ _ (by rw [unhide HE]; exact ⟨rfl, rfl⟩), by first | exact h1.b | (rw [← unhide Hws]; exact h1.b)⟩
      have h1 : decide ((n2 : Int) < (tv : Int)) = false := by simp; omega
      have h1n : decide (n2 < tv) = false := by simp; omega
      have HV2 : Hid (P = match fillP f c t m (l2.take tv) with
          | .no e => .no e
          | .yes v => .yes (v, l2.drop tv)) := by show _ = _; rw [unhide HV, if_neg hshort]
      have hB2 := unhide HX2 w4 ((unhide HX).below (unhide HR4).b)
      have hcap2 : n2 ≤ c2 := by
        obtain ⟨_, _, e, h, _, _⟩ := bytes_open hB2
        simp only [Value.slice.injEq] at e
        have := unhide Hn2
        omega
      have hfr := slice_front s2 n2 c2 tv (by omega)
      obtain ⟨s3, c3, n3, hn3, htl, hx3, hl3⟩ := tail_at s2 c2 (unhide Hn2).symm tv (tv : Int) rfl (by omega)
      have hBf : BytesAt w4.drew (.slice s2 tv c2) (l2.take tv) := by
        have h2 := hB2
        rw [unhide Hn2] at h2
        exact bytes_front h2 tv (by have := unhide Hn2; omega)
      have Hfl := hide (unhide HF w4.drew c t m (.slice s2 tv c2) (l2.take tv) D ((unhide HT).below (unhide HR4).drew.b) hBf (by rw [List.length_take]; have := unhide Hn2; omega) hD)
      have HX3 := hide hx3
      have Hn3 := hide hl3
      clear hB2 hBf hx3 hl3 HV hshort
      go_wp2
      go_region_law (first | (go_simp; go_at_call 25; refine (unhide Hfl).mono ?_
                              rintro e w5 ⟨cs5, er5, rfl, hft5, hb5⟩
                              obtain ⟨zc, zt, zm, z1, z2, y1, y2, y3, y4, ecs⟩ := fill_form hft5
                              subst ecs
                              have HFt5 := hide hft5
                              have HR5 := hide ((unhide HR4).drew.call hb5)
                              have q0 := (unhide HR5).cell 0 _ rfl; have q1 := (unhide HR5).cell 1 _ rfl; have q2 := (unhide HR5).cell 2 _ rfl; have q3 := (unhide HR5).cell 3 _ rfl; have q4 := (unhide HR5).cell 4 _ rfl
                              have h0 := (unhide HR5).frozen 0; have h1 := (unhide HR5).frozen 1; have h2 := (unhide HR5).frozen 2; have h3 := (unhide HR5).frozen 3; have h4 := (unhide HR5).frozen 4
                              clear hft5 hb5
                              go_simp))
      have hR6 := (unhide HR5).put5 (.int .i64 zc) (.int .i64 zt) (.bool zm) (.slice z1 y1 y2) (.slice z2 y3 y4)
      have HG6 := hide (grown5 w5 R (.int .i64 zc) (.int .i64 zt) (.bool zm) (.slice z1 y1 y2) (.slice z2 y3 y4))
      obtain ⟨w6, hw6⟩ : ∃ w6, ((((w5.setCell ⟨R, 0, none⟩ (.int .i64 zc)).setCell ⟨R, 1, none⟩ (.int .i64 zt)).setCell ⟨R, 2, none⟩ (.bool zm)).setCell ⟨R, 3, none⟩ (.slice z1 y1 y2)).setCell ⟨R, 4, none⟩ (.slice z2 y3 y4) = w6 := ⟨_, rfl⟩
      rw [hw6] at hR6 HG6 ⊢
      have HR6 := hide hR6
      clear q0 q1 q2 q3 q4 h0 h1 h2 h3 h4 r0 r1 r2 r3 r4 g0 g1 g2 g3 g4 hw6 Hfl hfr
      have r0 := hR6.cell 0 _ rfl
      have r1 := hR6.cell 1 _ rfl
      have r2 := hR6.cell 2 _ rfl
      have r3 := hR6.cell 3 _ rfl
      have r4 := hR6.cell 4 _ rfl
      have g0 := hR6.frozen 0
      have g1 := hR6.frozen 1
      have g2 := hR6.frozen 2
      have g3 := hR6.frozen 3
      have g4 := hR6.frozen 4
      clear hR6
      go_wp2
      go_region
      have hR7 := ((unhide HR6).put5 (.int .i64 zc) (.int .i64 zt) (.bool zm) (.slice z1 y1 y2) (.slice z2 y3 y4)).drew
      have HG7 := hide (grown5 w6 R (.int .i64 zc) (.int .i64 zt) (.bool zm) (.slice z1 y1 y2) (.slice z2 y3 y4))
      have HR7 := hide hR7
      clear hR7 r0 r1 r2 r3 r4 g0 g1 g2 g3 g4
      go_wp2
      refine bodyPost_ret (res_row_tmp2 Tryd.results19 _ _ R 26 #[.int .i64 zc, .int .i64 zt, .bool zm, .slice z1 y1 y2, .slice z2 y3 y4] (0, 0) _ rfl (unhide HR7).res Tryd.underlying26 rfl value5 (.slice s3 n3 c3) (.int .i64 (er5 : Int)) rfl rfl) rfl ⟨[.int .i64 zc, .int .i64 zt, .bool zm, .slice z1 y1 y2, .slice z2 y3 y4], s3, n3, c3, er5, rfl, unhide HTo _ _ _ _ _ ?_, by first | exact (unhide HR7).b | (rw [← unhide Hws]; exact (unhide HR7).b)⟩
      have hft := unhide HFt5
      unfold FillTold at hft
      rw [unhide HV2]
      cases hfp : fillP f c t m (l2.take tv) with
      | no e' =>
        rw [hfp] at hft
        exact hft
      | yes v =>
        rw [hfp] at hft
        obtain ⟨h1, h2⟩ := hft
        have hRlt : R < w4.heap.size := (unhide HR4).lt
        have h3 := (h2.kept (unhide HG6) (fun g hg hS => by simp only [Option.some.injEq] at hg; have : w4.drew.heap.size = w4.heap.size := rfl; omega)).kept (unhide HG7) (fun g hg hS => by simp only [Option.some.injEq] at hg; have : w4.drew.heap.size = w4.heap.size := rfl; omega)
        have h4 := h3.below (Below.refl _ _).drew
        refine ⟨h1, h4.mono (fun b' hb' _ => ?_), s3, c3, by rw [unhide Hn3], fun W h => unhide HX3 W (unhide HX2 W h)⟩
        have hsz := (unhide HR4).b.size
        have : w4.drew.heap.size = w4.heap.size := rfl
        omega
theorem read_all : ∀ f, ReadC f
  | 0 => read_zero
  | f + 1 => read_step f (fill_step f (read_all f))
set_option maxRecDepth 100000 in
set_option maxHeartbeats 16000000 in
theorem read_top (w : World) (x : Value) (b : Bs) (hT : Tabs w) (hx : BytesAt w x b) (hl : b.length ≤ 9223372036854775807) :
    Calls Tryd.prog 10 #[x] w fun e w' => ∃ cs : List Value, e = .returned (.tuple #[.agg cs.toArray, .int .i64 (errOf (readP formD b) : Int)]) ∧ ValAt (fun k => w.heap.size ≤ k) w' cs (valOf (readP formD b)) ∧ Below w.heap.size w w' := by
  obtain ⟨xs, xc, rfl, _, _, _⟩ := bytes_open hx
  obtain ⟨N, hN⟩ : ∃ N, b.length = N := ⟨_, rfl⟩
  rw [hN] at hx hl ⊢
  have HN := hide hN
  have HX := hide hx
  have HU : Hid (readP formD b = if 65536 < b.length then .no 54 else match valueP formD 17 b with | .no e => .no e | .yes (v, r) => if 0 < r.length then .no 26 else .yes v) := by show _ = _; unfold readP; rfl
  obtain ⟨P, hP⟩ : ∃ P, readP formD b = P := ⟨_, rfl⟩
  rw [hP] at HU
  rw [hP]
  rw [hN] at HU
  have HZ : Hid (∀ w', ValAt (fun k => w.heap.size ≤ k) w' zeroL (.mk 0 0 false [] [])) := fun w' => ⟨1, .slice none 0 0, none, 0, rfl, bytes_nil _, fun h => absurd rfl h, ⟨by simp [DV.bytes], by simp [DV.kids]⟩, by simp [DV.kids], fun _ => rfl, fun h => absurd rfl h⟩
  have hR := Blk.new (Below.refl w.heap.size w) zeroL.toArray 26
  obtain ⟨w1, hw1⟩ : ∃ w1, w.alloc (.cells #[.int .i64 0, .int .i64 0, .bool false, .slice none 0 0, .slice none 0 0] 26) = w1 := ⟨_, rfl⟩
  obtain ⟨R, eR⟩ : ∃ R, w.heap.size = R := ⟨_, rfl⟩
  have hR1 : Blk w w1 R zeroL.toArray 26 := by rw [← hw1, ← eR]; exact hR
  have HR := hide hR1
  have Hws := hide eR
  have r0 := hR1.cell 0 _ rfl
  have r1 := hR1.cell 1 _ rfl
  have r2 := hR1.cell 2 _ rfl
  have r3 := hR1.cell 3 _ rfl
  have r4 := hR1.cell 4 _ rfl
  have g0 := hR1.frozen 0
  have g1 := hR1.frozen 1
  have g2 := hR1.frozen 2
  have g3 := hR1.frozen 3
  have g4 := hR1.frozen 4
  clear hR hx hN hP
  by_cases hbig : 65536 < N
  · have d1 : decide ((65536 : Int) < (N : Int)) = true := by simp; omega
    have d1n : decide (65536 < N) = true := by simp; omega
    have HE : Hid (P = .no 54) := by show _ = _; rw [unhide HU, if_pos hbig]
    clear hR1
    go_enter Tryd.func10, Tryd.ntmps10
    go_wp2
    have h1 := (unhide HR).put5 (.int .i64 0) (.int .i64 0) (.bool false) (.slice none 0 0) (.slice none 0 0)
    exact bodyPost_ret (res_row_tmp Tryd.results10 _ _ R 26 zeroL.toArray (0, 0) _ rfl h1.res Tryd.underlying26 rfl value5 (.int .i64 54) rfl) rfl ⟨zeroL, by rw [unhide HE]; rfl, by rw [unhide HE]; first | exact unhide HZ _ | (rw [← unhide Hws]; exact unhide HZ _), by first | exact h1.b | (rw [← unhide Hws]; exact h1.b)⟩
  have d1 : decide ((65536 : Int) < (N : Int)) = false := by simp; omega
  have d1n : decide (65536 < N) = false := by simp; omega
  have HU2 : Hid (P = match valueP formD 17 b with | .no e => .no e | .yes (v, r) => if 0 < r.length then .no 26 else .yes v) := by show _ = _; rw [unhide HU, if_neg hbig]
  have Hrd := hide (read_all 17 w1 (.slice xs N xc) b 0 (hT.below hR1.b) ((unhide HX).below hR1.b) (by rw [unhide HN]; omega) rfl)
  clear hR1 HU hT r0 r1 r2 r3 r4 g0 g1 g2 g3 g4
  go_enter Tryd.func10, Tryd.ntmps10
  go_wp2_with fail
  refine (unhide Hrd).mono ?_
  rintro e w2 ⟨cs, rs, rn, rc, er, rfl, htold, hb2⟩
  obtain ⟨zc, zt, zm, z1, z2, y1, y2, y3, y4, ecs⟩ := read_form htold
  subst ecs
  have HTo := hide htold
  have HR2 := hide ((unhide HR).call hb2)
  have Hs1 : Hid (w.heap.size ≤ w1.heap.size) := (unhide HR).b.size
  have HRlt : Hid (R < w1.heap.size) := (unhide HR).lt
  clear htold hb2 Hrd HR hw1
  go_upto_region 4 with fail
  have HR3 := hide ((unhide HR2).lit (.cells #[.int .i64 zc, .int .i64 zt, .bool zm, .slice z1 y1 y2, .slice z2 y3 y4] 26))
  have HE3 := hide (Blk.new (unhide HR2).b #[.int .i64 zc, .int .i64 zt, .bool zm, .slice z1 y1 y2, .slice z2 y3 y4] 26)
  have HB3 : Hid (Below w2.heap.size w2 (w2.alloc (.cells #[.int .i64 zc, .int .i64 zt, .bool zm, .slice z1 y1 y2, .slice z2 y3 y4] 26))) := (Below.refl _ _).alloc (Nat.le_refl _) _
  obtain ⟨w3, hw3⟩ : ∃ w3, w2.alloc (.cells #[.int .i64 zc, .int .i64 zt, .bool zm, .slice z1 y1 y2, .slice z2 y3 y4] 26) = w3 := ⟨_, rfl⟩
  rw [hw3] at HR3 HE3 HB3 ⊢
  obtain ⟨E, eE⟩ : ∃ E, w2.heap.size = E := ⟨_, rfl⟩
  rw [eE] at HE3 ⊢
  have hRE : R < E := by rw [← eE]; exact (unhide HR2).lt
  clear hw3
  have r0 := (unhide HR3).cell 0 _ rfl
  have r1 := (unhide HR3).cell 1 _ rfl
  have r2 := (unhide HR3).cell 2 _ rfl
  have r3 := (unhide HR3).cell 3 _ rfl
  have r4 := (unhide HR3).cell 4 _ rfl
  have g0 := (unhide HR3).frozen 0
  have g1 := (unhide HR3).frozen 1
  have g2 := (unhide HR3).frozen 2
  have g3 := (unhide HR3).frozen 3
  have g4 := (unhide HR3).frozen 4
  have y0' := (unhide HE3).cell 0 _ rfl
  have y1' := (unhide HE3).cell 1 _ rfl
  have y2' := (unhide HE3).cell 2 _ rfl
  have y3' := (unhide HE3).cell 3 _ rfl
  have y4' := (unhide HE3).cell 4 _ rfl
  cases hval : valueP formD 17 b with
  | no e' =>
    have h1 := unhide HTo
    unfold ReadTold at h1
    rw [hval] at h1
    obtain ⟨her, _⟩ := h1
    have hne := value_pos 17 b e' hval
    have HE : Hid (P = .no er) := by show _ = _; rw [unhide HU2, hval, her]
    have e0 : ((er : Int) == 0) = false := by simp; omega
    have e0' : ((er : Int) != 0) = true := by simp; omega
    clear HTo hval her hne HU2
    go_wp2
    have h1 := (unhide HR3).put5 (.int .i64 0) (.int .i64 0) (.bool false) (.slice none 0 0) (.slice none 0 0)
    exact bodyPost_ret (res_row_tmp Tryd.results10 _ _ R 26 zeroL.toArray (0, 0) _ rfl h1.res Tryd.underlying26 rfl value5 (.int .i64 (er : Int)) rfl) rfl ⟨zeroL, by rw [unhide HE]; rfl, by rw [unhide HE]; first | exact unhide HZ _ | (rw [← unhide Hws]; exact unhide HZ _), by first | exact h1.b | (rw [← unhide Hws]; exact h1.b)⟩
  | yes q =>
    obtain ⟨v, r⟩ := q
    have h1 := unhide HTo
    unfold ReadTold at h1
    rw [hval] at h1
    obtain ⟨her, hv, sp, cp, erest, _⟩ := h1
    simp only [Value.slice.injEq] at erest
    obtain ⟨e1, hrn, e3⟩ := erest
    subst e1 e3
    have e0 : ((er : Int) == 0) = true := by simp; omega
    have e0' : ((er : Int) != 0) = false := by simp; omega
    have HU3 : Hid (P = if 0 < rn then .no 26 else .yes v) := by show _ = _; rw [unhide HU2, hval, hrn]
    have HV := hide hv
    clear HTo hval her HU2 hv hrn
    by_cases hm : 0 < rn
    · have f0 : decide ((0 : Int) < (rn : Int)) = true := by simp; omega
      have f0n : decide (0 < rn) = true := by simp; omega
      have HE : Hid (P = .no 26) := by show _ = _; rw [unhide HU3, if_pos hm]
      go_wp2
      have h1 := (unhide HR3).put5 (.int .i64 0) (.int .i64 0) (.bool false) (.slice none 0 0) (.slice none 0 0)
      exact bodyPost_ret (res_row_tmp Tryd.results10 _ _ R 26 zeroL.toArray (0, 0) _ rfl h1.res Tryd.underlying26 rfl value5 (.int .i64 26) rfl) rfl ⟨zeroL, by rw [unhide HE]; rfl, by rw [unhide HE]; first | exact unhide HZ _ | (rw [← unhide Hws]; exact unhide HZ _), by first | exact h1.b | (rw [← unhide Hws]; exact h1.b)⟩
    · have f0 : decide ((0 : Int) < (rn : Int)) = false := by simp; omega
      have f0n : decide (0 < rn) = false := by simp; omega
      have HE : Hid (P = .yes v) := by show _ = _; rw [unhide HU3, if_neg hm]
      go_wp2
      have h1 := (unhide HR3).put5 (.int .i64 zc) (.int .i64 zt) (.bool zm) (.slice z1 y1 y2) (.slice z2 y3 y4)
      have h2 := ((unhide HV).below (unhide HB3)).kept (grown5 w3 R (.int .i64 zc) (.int .i64 zt) (.bool zm) (.slice z1 y1 y2) (.slice z2 y3 y4)) (fun g hg hS => by
        simp only [Option.some.injEq] at hg
        have hR1 := (unhide Hs1)
        have := unhide HRlt
        omega)
      have h3 : ValAt (fun k => w.heap.size ≤ k) _ _ v := ⟨17, h2.mono (fun b' hb' _ => Nat.le_trans (unhide Hs1) hb')⟩
      exact bodyPost_ret (res_row_tmp Tryd.results10 _ _ R 26 #[.int .i64 zc, .int .i64 zt, .bool zm, .slice z1 y1 y2, .slice z2 y3 y4] (0, 0) _ rfl h1.res Tryd.underlying26 rfl value5 (.int .i64 0) rfl) rfl ⟨[.int .i64 zc, .int .i64 zt, .bool zm, .slice z1 y1 y2, .slice z2 y3 y4], by rw [unhide HE]; rfl, by rw [unhide HE]; first | exact h3 | (rw [← unhide Hws]; exact h3), by first | exact h1.b | (rw [← unhide Hws]; exact h1.b)⟩
end K
end Go.Proofs.YtngkidlgcdofhabDoor
