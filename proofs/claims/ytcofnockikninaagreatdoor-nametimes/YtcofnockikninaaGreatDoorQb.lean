/-
  The reference's Time (layer 10).
-/
import Derived.Test.YtcofnockikninaaGreatDoorQa
import Derived.Test.YtcofnockikninaaGreatDoorNh
namespace Go.Proofs.YtcofnockikninaaGreatDoor
open Go.RowKit
namespace Q
open N K
set_option maxRecDepth 100000 in
set_option maxHeartbeats 8000000 in
theorem qtime_bad (w : World) (n : Nat) (S : Nat → Prop) (cs : List Value) (v : DV) (hv : VAt n S w cs v) (hw : weight v ≤ 100000) (hr : rightV v = false) :
    Calls Tryz.prog 18 #[.agg cs.toArray] w fun e w' => e = .returned (.tuple #[.int .i64 ((timeT v).1 : Int), .int .i64 ((timeT v).2 : Int)]) ∧ Below w.heap.size w w' := by
  have HE : Hid (timeT v = (0, 30)) := timeT_no (fun h => by rw [hr] at h; exact absurd h.2.2 (by simp))
  obtain ⟨s1, c1, s2, c2, rfl⟩ := hv.form
  obtain ⟨kc, hkc⟩ : ∃ kc, v.cls = kc := ⟨_, rfl⟩
  obtain ⟨kt, hkt⟩ : ∃ kt, v.tag = kt := ⟨_, rfl⟩
  obtain ⟨km, hkm⟩ : ∃ km, v.made = km := ⟨_, rfl⟩
  obtain ⟨kl, hkl⟩ : ∃ kl, v.bytes.length = kl := ⟨_, rfl⟩
  obtain ⟨kk, hkk⟩ : ∃ kk, v.kids.length = kk := ⟨_, rfl⟩
  rw [hkc, hkt, hkm, hkl, hkk] at hv ⊢
  have hA := Blk.new (Below.refl w.heap.size w) #[.int .i64 kc, .int .i64 kt, .bool km, .slice s1 kl c1, .slice s2 kk c2] 33
  obtain ⟨w1, hw1⟩ : ∃ w1, w.alloc (.cells #[.int .i64 kc, .int .i64 kt, .bool km, .slice s1 kl c1, .slice s2 kk c2] 33) = w1 := ⟨_, rfl⟩
  obtain ⟨X, eX⟩ : ∃ X, w.heap.size = X := ⟨_, rfl⟩
  rw [hw1, eX] at hA
  obtain ⟨k0, k1, k2, k3, k4⟩ := five_at hA
  have HA := hide hA
  have Hcan := hide (can_q n S v w1 _ (hv.below hA.b) hw)
  rw [hr] at Hcan
  unfold dcells at Hcan ⊢
  clear hA hv hw hkc hkt hkm hkl hkk hr
  go_enter Tryz.func18, Tryz.ntmps18
  go_wp2_with fail
  refine (unhide Hcan).mono ?_
  rintro e w2 ⟨rfl, hb⟩
  have HA := hide ((unhide HA).call hb)
  clear hb k0 k1 k2 k3 k4 hw1
  obtain ⟨k0, k1, k2, k3, k4⟩ := five_at (unhide HA)
  go_wp2
  go_ret2
  exact ⟨by rw [unhide HE]; rfl, by first | exact (unhide HA).b | (rw [← eX]; exact (unhide HA).b)⟩
set_option maxRecDepth 100000 in
set_option maxHeartbeats 8000000 in
theorem qtime_cls (w : World) (n : Nat) (S : Nat → Prop) (cs : List Value) (v : DV) (hv : VAt n S w cs v) (hw : weight v ≤ 100000) (hr : rightV v = true) (hc : v.cls ≠ 0) :
    Calls Tryz.prog 18 #[.agg cs.toArray] w fun e w' => e = .returned (.tuple #[.int .i64 ((timeT v).1 : Int), .int .i64 ((timeT v).2 : Int)]) ∧ Below w.heap.size w w' := by
  have HE : Hid (timeT v = (0, 30)) := timeT_no (fun h => hc h.1)
  obtain ⟨s1, c1, s2, c2, rfl⟩ := hv.form
  obtain ⟨kc, hkc⟩ : ∃ kc, v.cls = kc := ⟨_, rfl⟩
  obtain ⟨kt, hkt⟩ : ∃ kt, v.tag = kt := ⟨_, rfl⟩
  obtain ⟨km, hkm⟩ : ∃ km, v.made = km := ⟨_, rfl⟩
  obtain ⟨kl, hkl⟩ : ∃ kl, v.bytes.length = kl := ⟨_, rfl⟩
  obtain ⟨kk, hkk⟩ : ∃ kk, v.kids.length = kk := ⟨_, rfl⟩
  rw [hkc, hkt, hkm, hkl, hkk] at hv ⊢
  have hA := Blk.new (Below.refl w.heap.size w) #[.int .i64 kc, .int .i64 kt, .bool km, .slice s1 kl c1, .slice s2 kk c2] 33
  obtain ⟨w1, hw1⟩ : ∃ w1, w.alloc (.cells #[.int .i64 kc, .int .i64 kt, .bool km, .slice s1 kl c1, .slice s2 kk c2] 33) = w1 := ⟨_, rfl⟩
  obtain ⟨X, eX⟩ : ∃ X, w.heap.size = X := ⟨_, rfl⟩
  rw [hw1, eX] at hA
  obtain ⟨k0, k1, k2, k3, k4⟩ := five_at hA
  have HA := hide hA
  have Hcan := hide (can_q n S v w1 _ (hv.below hA.b) hw)
  rw [hr] at Hcan
  unfold dcells at Hcan ⊢
  rw [hkc] at hc
  have d1 : (kc != 0) = true := by simpa using hc
  have d2 : (kc == 0) = false := by simpa using hc
  clear hA hv hw hkc hkt hkm hkl hkk hr hc
  go_enter Tryz.func18, Tryz.ntmps18
  go_wp2_with fail
  refine (unhide Hcan).mono ?_
  rintro e w2 ⟨rfl, hb⟩
  have HA := hide ((unhide HA).call hb)
  clear hb k0 k1 k2 k3 k4 hw1
  obtain ⟨k0, k1, k2, k3, k4⟩ := five_at (unhide HA)
  go_wp2
  go_ret2
  exact ⟨by rw [unhide HE]; rfl, by first | exact (unhide HA).b | (rw [← eX]; exact (unhide HA).b)⟩
set_option maxRecDepth 100000 in
set_option maxHeartbeats 8000000 in
theorem qtime_tag (w : World) (n : Nat) (S : Nat → Prop) (cs : List Value) (v : DV) (hv : VAt n S w cs v) (hw : weight v ≤ 100000) (hr : rightV v = true) (hc : v.cls = 0) (h23 : v.tag ≠ 23) (h24 : v.tag ≠ 24) :
    Calls Tryz.prog 18 #[.agg cs.toArray] w fun e w' => e = .returned (.tuple #[.int .i64 ((timeT v).1 : Int), .int .i64 ((timeT v).2 : Int)]) ∧ Below w.heap.size w w' := by
  have HE : Hid (timeT v = (0, 30)) := timeT_no (fun h => by omega)
  obtain ⟨s1, c1, s2, c2, rfl⟩ := hv.form
  obtain ⟨kc, hkc⟩ : ∃ kc, v.cls = kc := ⟨_, rfl⟩
  obtain ⟨kt, hkt⟩ : ∃ kt, v.tag = kt := ⟨_, rfl⟩
  obtain ⟨km, hkm⟩ : ∃ km, v.made = km := ⟨_, rfl⟩
  obtain ⟨kl, hkl⟩ : ∃ kl, v.bytes.length = kl := ⟨_, rfl⟩
  obtain ⟨kk, hkk⟩ : ∃ kk, v.kids.length = kk := ⟨_, rfl⟩
  rw [hkc, hkt, hkm, hkl, hkk] at hv ⊢
  have hA := Blk.new (Below.refl w.heap.size w) #[.int .i64 kc, .int .i64 kt, .bool km, .slice s1 kl c1, .slice s2 kk c2] 33
  obtain ⟨w1, hw1⟩ : ∃ w1, w.alloc (.cells #[.int .i64 kc, .int .i64 kt, .bool km, .slice s1 kl c1, .slice s2 kk c2] 33) = w1 := ⟨_, rfl⟩
  obtain ⟨X, eX⟩ : ∃ X, w.heap.size = X := ⟨_, rfl⟩
  rw [hw1, eX] at hA
  obtain ⟨k0, k1, k2, k3, k4⟩ := five_at hA
  have HA := hide hA
  have Hcan := hide (can_q n S v w1 _ (hv.below hA.b) hw)
  rw [hr] at Hcan
  unfold dcells at Hcan ⊢
  rw [hkt] at h23 h24
  have d1 : (kt != 23) = true := by simpa using h23
  have d3 : (kt != 24) = true := by simpa using h24
  have d4 : (kc != 0) = false := by rw [hkc] at hc; simpa using hc
  clear hA hv hw hkc hkt hkm hkl hkk hr hc h23 h24
  go_enter Tryz.func18, Tryz.ntmps18
  go_wp2_with fail
  refine (unhide Hcan).mono ?_
  rintro e w2 ⟨rfl, hb⟩
  have HA := hide ((unhide HA).call hb)
  clear hb k0 k1 k2 k3 k4 hw1
  obtain ⟨k0, k1, k2, k3, k4⟩ := five_at (unhide HA)
  go_wp2
  go_ret2
  exact ⟨by rw [unhide HE]; rfl, by first | exact (unhide HA).b | (rw [← eX]; exact (unhide HA).b)⟩
set_option maxRecDepth 100000 in
set_option maxHeartbeats 8000000 in
theorem qtime_ok2 (w : World) (n : Nat) (S : Nat → Prop) (cs : List Value) (v : DV) (hv : VAt n S w cs v) (hw : weight v ≤ 100000) (hr : rightV v = true) (hc : v.cls = 0) (ht : v.tag = 23) :
    Calls Tryz.prog 18 #[.agg cs.toArray] w fun e w' => e = .returned (.tuple #[.int .i64 ((timeT v).1 : Int), .int .i64 ((timeT v).2 : Int)]) ∧ Below w.heap.size w w' := by
  obtain ⟨_, htp⟩ := right_time hr hc (by omega)
  rw [if_pos ht] at htp
  obtain ⟨hl, hd, _, hcal⟩ := time_open htp
  have HE : Hid (timeT v = if yearK 2 v.bytes < 1970 then (0, 32) else (secondsP (yearK 2 v.bytes) (partK 2 v.bytes 1) (partK 2 v.bytes 2) (partK 2 v.bytes 3) (partK 2 v.bytes 4) (partK 2 v.bytes 5), 0)) := by
    show _ = _
    unfold timeT
    rw [if_pos ⟨hc, by omega, hr⟩]
    simp only [if_pos ht]
    congr 1
    simp only [eq_iff_iff]
    omega
  have hy : (2 : Nat) = 2 ∨ (2 : Nat) = 4 := by omega
  have hY9 : yearK 2 v.bytes ≤ 9999 := by
    have h1 := mom_year hy hl
    have h2 := mom_99 hy hl hd 0 (by omega)
    have h3 := mom_99 hy hl hd 1 (by omega)
    simp only [Nat.mul_zero, Nat.mul_one] at h2 h3
    omega
  have hP : ∀ k, 1 ≤ k → k ≤ 5 → partK 2 v.bytes k ≤ 99 := fun k h1 h5 => by
    rw [← mom_part hy hl h1 h5]
    exact mom_99 hy hl hd (k + 1) (by omega)
  have hcl : 1 ≤ partK 2 v.bytes 1 ∧ partK 2 v.bytes 1 ≤ 12 ∧ 1 ≤ partK 2 v.bytes 2 ∧ partK 2 v.bytes 2 ≤ 31 := by
    simp only [calP, Bool.and_eq_true, decide_eq_true_eq] at hcal
    exact ⟨hcal.1.1.1.1.1.1, hcal.1.1.1.1.1.2, hcal.1.1.1.1.2, Nat.le_trans hcal.1.1.1.2 (daysP_pos _ _).2⟩
  obtain ⟨b, hb0⟩ : ∃ b, v.bytes = b := ⟨_, rfl⟩
  rw [hb0] at HE hY9 hP hcl htp hl
  obtain ⟨s1, c1, s2, c2, rfl⟩ := hv.form
  obtain ⟨kc, hkc⟩ : ∃ kc, v.cls = kc := ⟨_, rfl⟩
  obtain ⟨kt, hkt⟩ : ∃ kt, v.tag = kt := ⟨_, rfl⟩
  obtain ⟨km, hkm⟩ : ∃ km, v.made = km := ⟨_, rfl⟩
  obtain ⟨kl, hkl⟩ : ∃ kl, v.bytes.length = kl := ⟨_, rfl⟩
  obtain ⟨kk, hkk⟩ : ∃ kk, v.kids.length = kk := ⟨_, rfl⟩
  rw [hkc, hkt, hkm, hkl, hkk] at hv ⊢
  have hA := Blk.new (Below.refl w.heap.size w) #[.int .i64 kc, .int .i64 kt, .bool km, .slice s1 kl c1, .slice s2 kk c2] 33
  obtain ⟨w1, hw1⟩ : ∃ w1, w.alloc (.cells #[.int .i64 kc, .int .i64 kt, .bool km, .slice s1 kl c1, .slice s2 kk c2] 33) = w1 := ⟨_, rfl⟩
  obtain ⟨X, eX⟩ : ∃ X, w.heap.size = X := ⟨_, rfl⟩
  rw [hw1, eX] at hA
  obtain ⟨k0, k1, k2, k3, k4⟩ := five_at hA
  have HA := hide hA
  have Hcan := hide (can_q n S v w1 _ (hv.below hA.b) hw)
  rw [hr] at Hcan
  unfold dcells at Hcan ⊢
  obtain rfl : kc = 0 := hkc.symm.trans hc
  obtain rfl : kt = 23 := hkt.symm.trans ht
  have HBy : Hid (∀ wr : World, Below w.heap.size w wr → BytesAt wr (.slice s1 kl c1) b) := fun wr hb => by
    have h := hv.below hb
    cases n with
    | zero => exact h.elim
    | succ n =>
      obtain ⟨xb, sk, ck, e, h1, _⟩ := h
      simp only [dcells, List.cons.injEq] at e
      rw [e.2.2.2.1, ← hb0]
      exact h1
  have hlb : b.length ≤ 1000000 := by omega
  obtain ⟨Y, hY⟩ : ∃ Y, yearK 2 b = Y := ⟨_, rfl⟩
  obtain ⟨m1, hm1⟩ : ∃ m, partK 2 b 1 = m := ⟨_, rfl⟩
  obtain ⟨m2, hm2⟩ : ∃ m, partK 2 b 2 = m := ⟨_, rfl⟩
  obtain ⟨m3, hm3⟩ : ∃ m, partK 2 b 3 = m := ⟨_, rfl⟩
  obtain ⟨m4, hm4⟩ : ∃ m, partK 2 b 4 = m := ⟨_, rfl⟩
  obtain ⟨m5, hm5⟩ : ∃ m, partK 2 b 5 = m := ⟨_, rfl⟩
  have q3 := hP 3 (by omega) (by omega)
  have q4 := hP 4 (by omega) (by omega)
  have q5 := hP 5 (by omega) (by omega)
  have e6 : (six fun k => if k = 0 then yearK 2 b else partK 2 b k).toArray = #[.int .i64 (Y : Int), .int .i64 (m1 : Int), .int .i64 (m2 : Int), .int .i64 (m3 : Int), .int .i64 (m4 : Int), .int .i64 (m5 : Int)] := by
    rw [six_lit, ← hY, ← hm1, ← hm2, ← hm3, ← hm4, ← hm5]
    rfl
  rw [hY, hm1, hm2, hm3, hm4, hm5] at HE
  rw [hY] at hY9
  rw [hm1, hm2] at hcl
  rw [hm3] at q3
  rw [hm4] at q4
  rw [hm5] at q5
  have HTm : Hid (∀ wr : World, Below w.heap.size w wr → Calls Tryz.prog 49 #[.slice s1 kl c1, .int .i64 2] wr fun e w' => e = .returned (.tuple #[.agg #[.int .i64 (Y : Int), .int .i64 (m1 : Int), .int .i64 (m2 : Int), .int .i64 (m3 : Int), .int .i64 (m4 : Int), .int .i64 (m5 : Int)], .bool true]) ∧ Below wr.heap.size wr w') := fun wr hb => by
    refine (time_2 wr _ b (unhide HBy wr hb) hlb).mono ?_
    rintro e w' ⟨q, rfl, hq, hb'⟩
    refine ⟨?_, hb'⟩
    rw [hq htp, e6, htp]
  have HSc : Hid (1970 ≤ Y → ∀ wr : World, Calls Tryz.prog 50 #[.agg #[.int .i64 (Y : Int), .int .i64 (m1 : Int), .int .i64 (m2 : Int), .int .i64 (m3 : Int), .int .i64 (m4 : Int), .int .i64 (m5 : Int)]] wr fun e w' => e = .returned (.int .i64 (secondsP Y m1 m2 m3 m4 m5 : Int)) ∧ Below wr.heap.size wr w') := fun h wr => seconds_q wr Y m1 m2 m3 m4 m5 h hY9 hcl.1 hcl.2.1 hcl.2.2.1 hcl.2.2.2 q3 q4 q5
  clear hA hv hw hkc hkt hkm hkl hkk hr hc ht hb0 htp hl hd hcal hP hcl hlb hY hm1 hm2 hm3 hm4 hm5 e6 hy HBy q3 q4 q5
  go_enter Tryz.func18, Tryz.ntmps18
  go_wp2_with fail
  refine (unhide Hcan).mono ?_
  rintro e w2 ⟨rfl, hb⟩
  have HA := hide ((unhide HA).call hb)
  clear hb k0 k1 k2 k3 k4 hw1
  obtain ⟨k0, k1, k2, k3, k4⟩ := five_at (unhide HA)
  go_wp2_with fail
  refine (unhide HTm w2 (unhide HA).b).mono ?_
  rintro e w3 ⟨rfl, hb⟩
  have HA := hide ((unhide HA).call hb)
  clear hb k0 k1 k2 k3 k4 HTm Hcan
  have hM := Blk.new (unhide HA).b #[.int .i64 (Y : Int), .int .i64 (m1 : Int), .int .i64 (m2 : Int), .int .i64 (m3 : Int), .int .i64 (m4 : Int), .int .i64 (m5 : Int)] 94
  obtain ⟨w4, hw4⟩ : ∃ w4, w3.alloc (.cells #[.int .i64 (Y : Int), .int .i64 (m1 : Int), .int .i64 (m2 : Int), .int .i64 (m3 : Int), .int .i64 (m4 : Int), .int .i64 (m5 : Int)] 94) = w4 := ⟨_, rfl⟩
  obtain ⟨M, eM⟩ : ∃ M, w3.heap.size = M := ⟨_, rfl⟩
  rw [hw4, eM] at hM
  have j0 := hM.cell 0 _ rfl
  have j1 := hM.cell 1 _ rfl
  have j2 := hM.cell 2 _ rfl
  have j3 := hM.cell 3 _ rfl
  have j4 := hM.cell 4 _ rfl
  have j5 := hM.cell 5 _ rfl
  have HMb := hide hM
  clear hM HA
  by_cases hlow : Y < 1970
  · have HE2 : Hid (timeT v = (0, 32)) := by show _ = _; rw [unhide HE, if_pos hlow]
    by_cases h70 : Y < 1970
    · have z1 : decide ((Y : Int) < 1970) = true := by simp; omega
      have z1n : decide (Y < 1970) = true := by simp; omega
      go_wp2
      go_ret2
      exact ⟨by rw [unhide HE2]; rfl, by first | exact (unhide HMb).b | (rw [← eX]; exact (unhide HMb).b)⟩
    · exact absurd hlow h70
  · have z1 : decide ((Y : Int) < 1970) = false := by simp; omega
    have z1n : decide (Y < 1970) = false := by simp; omega
    obtain ⟨F, hF⟩ : ∃ F, secondsP Y m1 m2 m3 m4 m5 = F := ⟨_, rfl⟩
    have HE2 : Hid (timeT v = (F, 0)) := by show _ = _; rw [unhide HE, if_neg hlow, hF]
    have Hs := hide (unhide HSc (by omega) w4)
    rw [hF] at Hs
    clear HE hF HSc
    go_wp2_with fail
    refine (unhide Hs).mono ?_
    rintro e w5 ⟨rfl, hb⟩
    have HM5 := hide ((unhide HMb).call hb)
    clear hb j0 j1 j2 j3 j4 j5 HMb
    go_wp2
    go_ret2
    exact ⟨by rw [unhide HE2]; rfl, by first | exact (unhide HM5).b | (rw [← eX]; exact (unhide HM5).b)⟩
set_option maxRecDepth 100000 in
set_option maxHeartbeats 8000000 in
theorem qtime_ok4 (w : World) (n : Nat) (S : Nat → Prop) (cs : List Value) (v : DV) (hv : VAt n S w cs v) (hw : weight v ≤ 100000) (hr : rightV v = true) (hc : v.cls = 0) (ht : v.tag = 24) :
    Calls Tryz.prog 18 #[.agg cs.toArray] w fun e w' => e = .returned (.tuple #[.int .i64 ((timeT v).1 : Int), .int .i64 ((timeT v).2 : Int)]) ∧ Below w.heap.size w w' := by
  obtain ⟨_, htp⟩ := right_time hr hc (by omega)
  rw [if_neg (by omega)] at htp
  obtain ⟨hl, hd, _, hcal⟩ := time_open htp
  have HE : Hid (timeT v = if yearK 4 v.bytes < 2050 then (0, 32) else (secondsP (yearK 4 v.bytes) (partK 4 v.bytes 1) (partK 4 v.bytes 2) (partK 4 v.bytes 3) (partK 4 v.bytes 4) (partK 4 v.bytes 5), 0)) := by
    show _ = _
    unfold timeT
    rw [if_pos ⟨hc, by omega, hr⟩]
    simp only [if_neg (show ¬ v.tag = 23 by omega)]
    congr 1
    simp only [eq_iff_iff]
    omega
  have hy : (4 : Nat) = 2 ∨ (4 : Nat) = 4 := by omega
  have hY9 : yearK 4 v.bytes ≤ 9999 := by
    have h1 := mom_year hy hl
    have h2 := mom_99 hy hl hd 0 (by omega)
    have h3 := mom_99 hy hl hd 1 (by omega)
    simp only [Nat.mul_zero, Nat.mul_one] at h2 h3
    omega
  have hP : ∀ k, 1 ≤ k → k ≤ 5 → partK 4 v.bytes k ≤ 99 := fun k h1 h5 => by
    rw [← mom_part hy hl h1 h5]
    exact mom_99 hy hl hd (k + 1) (by omega)
  have hcl : 1 ≤ partK 4 v.bytes 1 ∧ partK 4 v.bytes 1 ≤ 12 ∧ 1 ≤ partK 4 v.bytes 2 ∧ partK 4 v.bytes 2 ≤ 31 := by
    simp only [calP, Bool.and_eq_true, decide_eq_true_eq] at hcal
    exact ⟨hcal.1.1.1.1.1.1, hcal.1.1.1.1.1.2, hcal.1.1.1.1.2, Nat.le_trans hcal.1.1.1.2 (daysP_pos _ _).2⟩
  obtain ⟨b, hb0⟩ : ∃ b, v.bytes = b := ⟨_, rfl⟩
  rw [hb0] at HE hY9 hP hcl htp hl
  obtain ⟨s1, c1, s2, c2, rfl⟩ := hv.form
  obtain ⟨kc, hkc⟩ : ∃ kc, v.cls = kc := ⟨_, rfl⟩
  obtain ⟨kt, hkt⟩ : ∃ kt, v.tag = kt := ⟨_, rfl⟩
  obtain ⟨km, hkm⟩ : ∃ km, v.made = km := ⟨_, rfl⟩
  obtain ⟨kl, hkl⟩ : ∃ kl, v.bytes.length = kl := ⟨_, rfl⟩
  obtain ⟨kk, hkk⟩ : ∃ kk, v.kids.length = kk := ⟨_, rfl⟩
  rw [hkc, hkt, hkm, hkl, hkk] at hv ⊢
  have hA := Blk.new (Below.refl w.heap.size w) #[.int .i64 kc, .int .i64 kt, .bool km, .slice s1 kl c1, .slice s2 kk c2] 33
  obtain ⟨w1, hw1⟩ : ∃ w1, w.alloc (.cells #[.int .i64 kc, .int .i64 kt, .bool km, .slice s1 kl c1, .slice s2 kk c2] 33) = w1 := ⟨_, rfl⟩
  obtain ⟨X, eX⟩ : ∃ X, w.heap.size = X := ⟨_, rfl⟩
  rw [hw1, eX] at hA
  obtain ⟨k0, k1, k2, k3, k4⟩ := five_at hA
  have HA := hide hA
  have Hcan := hide (can_q n S v w1 _ (hv.below hA.b) hw)
  rw [hr] at Hcan
  unfold dcells at Hcan ⊢
  obtain rfl : kc = 0 := hkc.symm.trans hc
  obtain rfl : kt = 24 := hkt.symm.trans ht
  have HBy : Hid (∀ wr : World, Below w.heap.size w wr → BytesAt wr (.slice s1 kl c1) b) := fun wr hb => by
    have h := hv.below hb
    cases n with
    | zero => exact h.elim
    | succ n =>
      obtain ⟨xb, sk, ck, e, h1, _⟩ := h
      simp only [dcells, List.cons.injEq] at e
      rw [e.2.2.2.1, ← hb0]
      exact h1
  have hlb : b.length ≤ 1000000 := by omega
  obtain ⟨Y, hY⟩ : ∃ Y, yearK 4 b = Y := ⟨_, rfl⟩
  obtain ⟨m1, hm1⟩ : ∃ m, partK 4 b 1 = m := ⟨_, rfl⟩
  obtain ⟨m2, hm2⟩ : ∃ m, partK 4 b 2 = m := ⟨_, rfl⟩
  obtain ⟨m3, hm3⟩ : ∃ m, partK 4 b 3 = m := ⟨_, rfl⟩
  obtain ⟨m4, hm4⟩ : ∃ m, partK 4 b 4 = m := ⟨_, rfl⟩
  obtain ⟨m5, hm5⟩ : ∃ m, partK 4 b 5 = m := ⟨_, rfl⟩
  have q3 := hP 3 (by omega) (by omega)
  have q4 := hP 4 (by omega) (by omega)
  have q5 := hP 5 (by omega) (by omega)
  have e6 : (six fun k => if k = 0 then yearK 4 b else partK 4 b k).toArray = #[.int .i64 (Y : Int), .int .i64 (m1 : Int), .int .i64 (m2 : Int), .int .i64 (m3 : Int), .int .i64 (m4 : Int), .int .i64 (m5 : Int)] := by
    rw [six_lit, ← hY, ← hm1, ← hm2, ← hm3, ← hm4, ← hm5]
    rfl
  rw [hY, hm1, hm2, hm3, hm4, hm5] at HE
  rw [hY] at hY9
  rw [hm1, hm2] at hcl
  rw [hm3] at q3
  rw [hm4] at q4
  rw [hm5] at q5
  have HTm : Hid (∀ wr : World, Below w.heap.size w wr → Calls Tryz.prog 49 #[.slice s1 kl c1, .int .i64 4] wr fun e w' => e = .returned (.tuple #[.agg #[.int .i64 (Y : Int), .int .i64 (m1 : Int), .int .i64 (m2 : Int), .int .i64 (m3 : Int), .int .i64 (m4 : Int), .int .i64 (m5 : Int)], .bool true]) ∧ Below wr.heap.size wr w') := fun wr hb => by
    refine (time_4 wr _ b (unhide HBy wr hb) hlb).mono ?_
    rintro e w' ⟨q, rfl, hq, hb'⟩
    refine ⟨?_, hb'⟩
    rw [hq htp, e6, htp]
  have HSc : Hid (1970 ≤ Y → ∀ wr : World, Calls Tryz.prog 50 #[.agg #[.int .i64 (Y : Int), .int .i64 (m1 : Int), .int .i64 (m2 : Int), .int .i64 (m3 : Int), .int .i64 (m4 : Int), .int .i64 (m5 : Int)]] wr fun e w' => e = .returned (.int .i64 (secondsP Y m1 m2 m3 m4 m5 : Int)) ∧ Below wr.heap.size wr w') := fun h wr => seconds_q wr Y m1 m2 m3 m4 m5 h hY9 hcl.1 hcl.2.1 hcl.2.2.1 hcl.2.2.2 q3 q4 q5
  clear hA hv hw hkc hkt hkm hkl hkk hr hc ht hb0 htp hl hd hcal hP hcl hlb hY hm1 hm2 hm3 hm4 hm5 e6 hy HBy q3 q4 q5
  go_enter Tryz.func18, Tryz.ntmps18
  go_wp2_with fail
  refine (unhide Hcan).mono ?_
  rintro e w2 ⟨rfl, hb⟩
  have HA := hide ((unhide HA).call hb)
  clear hb k0 k1 k2 k3 k4 hw1
  obtain ⟨k0, k1, k2, k3, k4⟩ := five_at (unhide HA)
  go_wp2_with fail
  refine (unhide HTm w2 (unhide HA).b).mono ?_
  rintro e w3 ⟨rfl, hb⟩
  have HA := hide ((unhide HA).call hb)
  clear hb k0 k1 k2 k3 k4 HTm Hcan
  have hM := Blk.new (unhide HA).b #[.int .i64 (Y : Int), .int .i64 (m1 : Int), .int .i64 (m2 : Int), .int .i64 (m3 : Int), .int .i64 (m4 : Int), .int .i64 (m5 : Int)] 94
  obtain ⟨w4, hw4⟩ : ∃ w4, w3.alloc (.cells #[.int .i64 (Y : Int), .int .i64 (m1 : Int), .int .i64 (m2 : Int), .int .i64 (m3 : Int), .int .i64 (m4 : Int), .int .i64 (m5 : Int)] 94) = w4 := ⟨_, rfl⟩
  obtain ⟨M, eM⟩ : ∃ M, w3.heap.size = M := ⟨_, rfl⟩
  rw [hw4, eM] at hM
  have j0 := hM.cell 0 _ rfl
  have j1 := hM.cell 1 _ rfl
  have j2 := hM.cell 2 _ rfl
  have j3 := hM.cell 3 _ rfl
  have j4 := hM.cell 4 _ rfl
  have j5 := hM.cell 5 _ rfl
  have HMb := hide hM
  clear hM HA
  by_cases hlow : Y < 2050
  · have HE2 : Hid (timeT v = (0, 32)) := by show _ = _; rw [unhide HE, if_pos hlow]
    by_cases h70 : Y < 1970
    · have z1 : decide ((Y : Int) < 1970) = true := by simp; omega
      have z1n : decide (Y < 1970) = true := by simp; omega
      go_wp2
      go_ret2
      exact ⟨by rw [unhide HE2]; rfl, by first | exact (unhide HMb).b | (rw [← eX]; exact (unhide HMb).b)⟩
    · have z1 : decide ((Y : Int) < 1970) = false := by simp; omega
      have z1n : decide (Y < 1970) = false := by simp; omega
      have z2 : decide ((Y : Int) < 2050) = true := by simp; omega
      have z2n : decide (Y < 2050) = true := by simp; omega
      go_wp2
      go_ret2
      exact ⟨by rw [unhide HE2]; rfl, by first | exact (unhide HMb).b | (rw [← eX]; exact (unhide HMb).b)⟩
  · have z1 : decide ((Y : Int) < 1970) = false := by simp; omega
    have z1n : decide (Y < 1970) = false := by simp; omega
    have z2 : decide ((Y : Int) < 2050) = false := by simp; omega
    have z2n : decide (Y < 2050) = false := by simp; omega
    obtain ⟨F, hF⟩ : ∃ F, secondsP Y m1 m2 m3 m4 m5 = F := ⟨_, rfl⟩
    have HE2 : Hid (timeT v = (F, 0)) := by show _ = _; rw [unhide HE, if_neg hlow, hF]
    have Hs := hide (unhide HSc (by omega) w4)
    rw [hF] at Hs
    clear HE hF HSc
    go_wp2_with fail
    refine (unhide Hs).mono ?_
    rintro e w5 ⟨rfl, hb⟩
    have HM5 := hide ((unhide HMb).call hb)
    clear hb j0 j1 j2 j3 j4 j5 HMb
    go_wp2
    go_ret2
    exact ⟨by rw [unhide HE2]; rfl, by first | exact (unhide HM5).b | (rw [← eX]; exact (unhide HM5).b)⟩
theorem qtime_c (w : World) (n : Nat) (S : Nat → Prop) (cs : List Value) (v : DV) (hv : VAt n S w cs v) (hw : weight v ≤ 100000) :
    Calls Tryz.prog 18 #[.agg cs.toArray] w fun e w' => e = .returned (.tuple #[.int .i64 ((timeT v).1 : Int), .int .i64 ((timeT v).2 : Int)]) ∧ Below w.heap.size w w' := by
  cases hr : rightV v with
  | false => exact qtime_bad w n S cs v hv hw hr
  | true =>
    by_cases hc : v.cls = 0
    · by_cases h23 : v.tag = 23
      · exact qtime_ok2 w n S cs v hv hw hr hc h23
      · by_cases h24 : v.tag = 24
        · exact qtime_ok4 w n S cs v hv hw hr hc h24
        · exact qtime_tag w n S cs v hv hw hr hc h23 h24
    · exact qtime_cls w n S cs v hv hw hr hc
end Q
end Go.Proofs.YtcofnockikninaaGreatDoor
