/- Parts of the walk. -/
import Derived.Test.YtcofnockikninaaGreatDoorZgPD
import Derived.BigQuiet
import Derived.Deep.QuietTactic
set_option maxRecDepth 100000
set_option maxHeartbeats 8000000
namespace Go.Proofs.YtcofnockikninaaGreatDoor
open Go.RowKit
namespace N
open K
theorem five_at {w0 wr : World} {A : Nat} {a b c d e : Value} {T : TypeId} (h : Blk w0 wr A #[a, b, c, d, e] T) : wr.cell? ⟨A, 0, none⟩ = some a ∧ wr.cell? ⟨A, 1, none⟩ = some b ∧ wr.cell? ⟨A, 2, none⟩ = some c ∧ wr.cell? ⟨A, 3, none⟩ = some d ∧ wr.cell? ⟨A, 4, none⟩ = some e :=
 ⟨h.cell 0 _ rfl, h.cell 1 _ rfl, h.cell 2 _ rfl, h.cell 3 _ rfl, h.cell 4 _ rfl⟩
theorem below_drewNb {B : Nat} {a w : World} (h : Below B a w) (n : Nat) : Below B a (w.drewN n) := h.trans ⟨rfl, rfl, rfl, Nat.le_refl _, fun _ _ => rfl⟩
theorem timeT_no {v : DV} (h : ¬ (v.cls = 0 ∧ (v.tag = 23 ∨ v.tag = 24) ∧ rightV v = true)) : timeT v = (0, 30) := by unfold timeT; rw [if_neg h]
theorem time_other (w : World) (S : Nat → Prop) (cs : List Value) (v : DV) (hT : Tabs w) (hv : ValAt S w cs v) (hw : weight v ≤ 1000000) (hn : ¬ (v.cls = 0 ∧ (v.tag = 23 ∨ v.tag = 24))) :
  Calls Tryz.prog 17 #[.agg cs.toArray] w fun e w' => e = .returned (.tuple #[.int .i64 ((timeT v).1 : Int), .int .i64 ((timeT v).2 : Int)]) ∧ Below w.heap.size w w' := by
 have HE : Hid (timeT v = (0, 30)) := timeT_no (fun h => hn ⟨h.1, h.2.1⟩)
 obtain ⟨s1, c1, s2, c2, rfl⟩ := hv.form
 obtain ⟨kc, kt, km, kl, kk, hkc, hkt, hkm, hkl, hkk⟩ := ex5 v
 rw [hkc, hkt, hkm, hkl, hkk] at hv ⊢
 rw [hkc, hkt] at hn
 clear hkc hkt hkm hkl hkk
 obtain ⟨w1, X, hw1, eX, hA⟩ := blkN (Below.refl w.heap.size w) #[.int .i64 kc, .int .i64 kt, .bool km, .slice s1 kl c1, .slice s2 kk c2] 25
 obtain ⟨k0, k1, k2, k3, k4⟩ := five_at hA
 have HA := h_ hA
 have HT := h_ hT
 have HV := h_ hv
 have Hw := h_ hw
 have HI : Hid (∀ (wr : World) (g : Int) (A B : Bool), (kc == 0) = A → (kt == g) = B → Calls Tryz.prog 36 #[.agg #[.int .i64 kc, .int .i64 kt, .bool km, .slice s1 kl c1, .slice s2 kk c2], .int .i64 g] wr fun e w' => e = .returned (.bool (A && B)) ∧ Below wr.heap.size wr w') := fun wr g A B h1 h2 => isuni_c wr kc kt km s1 s2 kl kk c1 c2 g A B h1 h2
 have HRt : Hid (∀ wr : World, Below w.heap.size w wr → Calls Tryz.prog 37 #[.agg #[.int .i64 kc, .int .i64 kt, .bool km, .slice s1 kl c1, .slice s2 kk c2]] wr fun e w' => e = .returned (.bool (rightV v)) ∧ Below wr.heap.size wr w') := fun wr hb => isright_c wr S _ v (hT.below hb) (hv.below hb) hw
 unfold dcells
 obtain ⟨A, hA0⟩ := exq (kc == 0)
 obtain ⟨B, hB0⟩ := exq (kt == 23)
 obtain ⟨D, hD0⟩ := exq (kt == 24)
 have h23 : (A && B) = false := by
  cases A <;> cases B <;> simp_all
 have h24 : (A && D) = false := by
  cases A <;> cases D <;> simp_all
 have HI1 := h_ (u_ HI w1 23 A B hA0 hB0)
 rw [h23] at HI1
 have HI2 : Hid (∀ wr : World, Calls Tryz.prog 36 #[.agg #[.int .i64 kc, .int .i64 kt, .bool km, .slice s1 kl c1, .slice s2 kk c2], .int .i64 24] wr fun e w' => e = .returned (.bool false) ∧ Below wr.heap.size wr w') := fun wr => by
  have := u_ HI wr 24 A D hA0 hD0
  rw [h24] at this
  exact this
 clear hA hv hw hT hA0 hB0 hD0 h23 h24 hn
 go_enter Tryz.func17, Tryz.ntmps17
 go_wp2_with fail
 refine HI1.mono ?_
 rintro e w2 ⟨rfl, hb⟩
 have HA := h_ (HA.call hb)
 clear hb k0 k1 k2 k3 k4
 obtain ⟨k0, k1, k2, k3, k4⟩ := five_at (u_ HA)
 go_wp2_with fail
 refine (u_ HI2 w2).mono ?_
 rintro e w3 ⟨rfl, hb⟩
 have HA := h_ (HA.call hb)
 clear hb k0 k1 k2 k3 k4
 obtain ⟨k0, k1, k2, k3, k4⟩ := five_at (u_ HA)
 go_wp2
 go_ret2
 exact ⟨by rw [u_ HE]; rfl, HA.b⟩
theorem time_bads (w : World) (S : Nat → Prop) (cs : List Value) (v : DV) (hT : Tabs w) (hv : ValAt S w cs v) (hw : weight v ≤ 1000000) (hc : v.cls = 0) (ht : v.tag = 23) (hr : rightV v = false) :
  Calls Tryz.prog 17 #[.agg cs.toArray] w fun e w' => e = .returned (.tuple #[.int .i64 ((timeT v).1 : Int), .int .i64 ((timeT v).2 : Int)]) ∧ Below w.heap.size w w' := by
 have HE : Hid (timeT v = (0, 30)) := timeT_no (fun h => by rw [hr] at h; exact absurd h.2.2 (by simp))
 obtain ⟨s1, c1, s2, c2, rfl⟩ := hv.form
 obtain ⟨kc, kt, km, kl, kk, hkc, hkt, hkm, hkl, hkk⟩ := ex5 v
 rw [hkc, hkt, hkm, hkl, hkk] at hv ⊢
 obtain rfl : kc = 0 := hkc.symm.trans hc
 obtain rfl : kt = 23 := hkt.symm.trans ht
 have Hr := h_ hr
 clear hkc hkt hkm hkl hkk hc ht hr
 obtain ⟨w1, X, hw1, eX, hA⟩ := blkN (Below.refl w.heap.size w) #[.int .i64 0, .int .i64 23, .bool km, .slice s1 kl c1, .slice s2 kk c2] 25
 obtain ⟨k0, k1, k2, k3, k4⟩ := five_at hA
 have HA := h_ hA
 have HT := h_ hT
 have HV := h_ hv
 have Hw := h_ hw
 have HI : Hid (∀ (wr : World) (g : Int) (A B : Bool), ((0 : Int) == 0) = A → ((23 : Int) == g) = B → Calls Tryz.prog 36 #[.agg #[.int .i64 0, .int .i64 23, .bool km, .slice s1 kl c1, .slice s2 kk c2], .int .i64 g] wr fun e w' => e = .returned (.bool (A && B)) ∧ Below wr.heap.size wr w') := fun wr g A B h1 h2 => isuni_c wr 0 23 km s1 s2 kl kk c1 c2 g A B h1 h2
 have HRt : Hid (∀ wr : World, Below w.heap.size w wr → Calls Tryz.prog 37 #[.agg #[.int .i64 0, .int .i64 23, .bool km, .slice s1 kl c1, .slice s2 kk c2]] wr fun e w' => e = .returned (.bool (rightV v)) ∧ Below wr.heap.size wr w') := fun wr hb => isright_c wr S _ v (hT.below hb) (hv.below hb) hw
 unfold dcells
 have HRt2 : Hid (∀ wr : World, Below w.heap.size w wr → Calls Tryz.prog 37 #[.agg #[.int .i64 0, .int .i64 23, .bool km, .slice s1 kl c1, .slice s2 kk c2]] wr fun e w' => e = .returned (.bool false) ∧ Below wr.heap.size wr w') := fun wr hb => by
  have := u_ HRt wr hb
  rw [u_ Hr] at this
  exact this
 clear HRt
 clear hA hv hw hT
 go_enter Tryz.func17, Tryz.ntmps17
 have HIu : Hid (Calls Tryz.prog 36 #[.agg #[.int .i64 0, .int .i64 23, .bool km, .slice s1 kl c1, .slice s2 kk c2], .int .i64 23] w1 fun e w' => e = .returned (.bool true) ∧ Below (w1).heap.size w1 w') := u_ HI w1 23 true true rfl rfl
 go_wp2_with fail
 refine HIu.mono ?_
 rintro e w2 ⟨rfl, hb⟩
 have HA := h_ (HA.call hb)
 clear hb k0 k1 k2 k3 k4
 obtain ⟨k0, k1, k2, k3, k4⟩ := five_at (u_ HA)
 go_wp2_with fail
 refine (u_ HRt2 w2 HA.b).mono ?_
 rintro e w4 ⟨rfl, hb⟩
 have HA := h_ (HA.call hb)
 clear hb k0 k1 k2 k3 k4
 obtain ⟨k0, k1, k2, k3, k4⟩ := five_at (u_ HA)
 go_wp2
 go_ret2
 exact ⟨by rw [u_ HE]; rfl, HA.b⟩
theorem time_oks (w : World) (S : Nat → Prop) (cs : List Value) (v : DV) (hT : Tabs w) (hv : ValAt S w cs v) (hw : weight v ≤ 1000000) (hc : v.cls = 0) (ht : v.tag = 23) (hr : rightV v = true) :
  Calls Tryz.prog 17 #[.agg cs.toArray] w fun e w' => e = .returned (.tuple #[.int .i64 ((timeT v).1 : Int), .int .i64 ((timeT v).2 : Int)]) ∧ Below w.heap.size w w' := by
 obtain ⟨_, htp⟩ := right_time hr hc (by omega)
 rw [if_pos ht] at htp
 obtain ⟨hl, hd, _, hcal⟩ := time_open htp
 have HE : Hid (timeT v = if yearK 2 v.bytes < 1970 then (0, 32) else (secondsP (yearK 2 v.bytes) (partK 2 v.bytes 1) (partK 2 v.bytes 2) (partK 2 v.bytes 3) (partK 2 v.bytes 4) (partK 2 v.bytes 5), 0)) := by
  show _ = _
  unfold timeT
  rw [if_pos ⟨hc, by omega, hr⟩]
  simp only [if_pos ht]
  congr 1
  simp only [eq_iff_iff]
  omega
 have hy : (2 : Nat) = 2 ∨ (2 : Nat) = 4 := by omega
 have HM : Hid (∀ k, k < 7 → twoAt (momT 2 v.bytes) (2 * k) ≤ 99) := fun k hk => mom_99 hy hl hd k hk
 have HYr := h_ (mom_year hy hl)
 have HP1 := h_ (mom_part hy hl (k := 1) (by omega) (by omega))
 have HP2 := h_ (mom_part hy hl (k := 2) (by omega) (by omega))
 have HP3 := h_ (mom_part hy hl (k := 3) (by omega) (by omega))
 have HP4 := h_ (mom_part hy hl (k := 4) (by omega) (by omega))
 have HP5 := h_ (mom_part hy hl (k := 5) (by omega) (by omega))
 have HDg : Hid (∀ i, i < 14 → isDig ((momT 2 v.bytes).getD i 0) = true) := mom_digits hy hl hd
 have HL := h_ (mom_len hy hl)
 have HCl : Hid (1 ≤ partK 2 v.bytes 1 ∧ partK 2 v.bytes 1 ≤ 12 ∧ 1 ≤ partK 2 v.bytes 2) := by
  simp only [calP, Bool.and_eq_true, decide_eq_true_eq] at hcal
  exact ⟨hcal.1.1.1.1.1.1, hcal.1.1.1.1.1.2, hcal.1.1.1.1.2⟩
 have HLs := h_ (cent_less hl hd)
 have HX : Hid (∀ wr : World, Below w.heap.size w wr → ∃ n S', VAt n S' wr cs v) := fun wr hb => by obtain ⟨n, h⟩ := hv; exact ⟨n, S, h.below hb⟩
 obtain ⟨b, hb0⟩ := exq v.bytes
 rw [hb0] at HE HM HYr HP1 HP2 HP3 HP4 HP5 HDg HL HCl HLs
 obtain ⟨s1, c1, s2, c2, rfl⟩ := hv.form
 obtain ⟨kc, kt, km, kl, kk, hkc, hkt, hkm, hkl, hkk⟩ := ex5 v
 rw [hkc, hkt, hkm, hkl, hkk] at hv ⊢
 obtain rfl : kc = 0 := hkc.symm.trans hc
 obtain rfl : kt = 23 := hkt.symm.trans ht
 have Hr := h_ hr
 have HBy : Hid (∀ wr : World, Below w.heap.size w wr → BytesAt wr (.slice s1 kl c1) b) := fun wr hb => by
  obtain ⟨n, h⟩ := hv.below hb
  cases n with
  | zero => exact h.elim
  | succ n =>
   obtain ⟨xb, sk, ck, e, h1, _⟩ := h
   simp only [dcells, List.cons.injEq] at e
   rw [e.2.2.2.1, ← hb0]
   exact h1
 have hkl2 : kl = 13 := by rw [← hkl]; exact hl
 clear hkc hkt hkm hkl hkk hc ht hr htp hl hd hcal hb0 hy HX
 obtain ⟨w1, X, hw1, eX, hA⟩ := blkN (Below.refl w.heap.size w) #[.int .i64 0, .int .i64 23, .bool km, .slice s1 kl c1, .slice s2 kk c2] 25
 obtain ⟨k0, k1, k2, k3, k4⟩ := five_at hA
 have HA := h_ hA
 have HT := h_ hT
 have HV := h_ hv
 have Hw := h_ hw
 have HI : Hid (∀ (wr : World) (g : Int) (A B : Bool), ((0 : Int) == 0) = A → ((23 : Int) == g) = B → Calls Tryz.prog 36 #[.agg #[.int .i64 0, .int .i64 23, .bool km, .slice s1 kl c1, .slice s2 kk c2], .int .i64 g] wr fun e w' => e = .returned (.bool (A && B)) ∧ Below wr.heap.size wr w') := fun wr g A B h1 h2 => isuni_c wr 0 23 km s1 s2 kl kk c1 c2 g A B h1 h2
 have HRt : Hid (∀ wr : World, Below w.heap.size w wr → Calls Tryz.prog 37 #[.agg #[.int .i64 0, .int .i64 23, .bool km, .slice s1 kl c1, .slice s2 kk c2]] wr fun e w' => e = .returned (.bool (rightV v)) ∧ Below wr.heap.size wr w') := fun wr hb => isright_c wr S _ v (hT.below hb) (hv.below hb) hw
 unfold dcells
 have HRt2 : Hid (∀ wr : World, Below w.heap.size w wr → Calls Tryz.prog 37 #[.agg #[.int .i64 0, .int .i64 23, .bool km, .slice s1 kl c1, .slice s2 kk c2]] wr fun e w' => e = .returned (.bool true) ∧ Below wr.heap.size wr w') := fun wr hb => by
  have := u_ HRt wr hb
  rw [u_ Hr] at this
  exact this
 clear HRt
 subst hkl2
 clear hA hv hw hT
 go_enter Tryz.func17, Tryz.ntmps17
 have HIu : Hid (Calls Tryz.prog 36 #[.agg #[.int .i64 0, .int .i64 23, .bool km, .slice s1 13 c1, .slice s2 kk c2], .int .i64 23] w1 fun e w' => e = .returned (.bool true) ∧ Below (w1).heap.size w1 w') := u_ HI w1 23 true true rfl rfl
 go_wp2_with fail
 refine HIu.mono ?_
 rintro e w2 ⟨rfl, hb⟩
 have HA := h_ (HA.call hb)
 clear hb k0 k1 k2 k3 k4
 obtain ⟨k0, k1, k2, k3, k4⟩ := five_at (u_ HA)
 go_wp2_with fail
 refine (u_ HRt2 w2 HA.b).mono ?_
 rintro e w4 ⟨rfl, hb⟩
 have HA := h_ (HA.call hb)
 clear hb k0 k1 k2 k3 k4
 obtain ⟨k0, k1, k2, k3, k4⟩ := five_at (u_ HA)
 have hcv := conv_str (u_ HBy w4 HA.b)
 obtain ⟨L, hL⟩ := exq (decide (partK 2 b 0 < 50))
 rw [hL] at HLs
 have Hce := h_ (cent_c w4 (st b) L (by rw [toList_bs, bs_st]; exact u_ HLs))
 obtain ⟨ce, hce⟩ := exq ((if L = true then ([50, 48] : Bs) else [49, 57]) : Bs)
 have hce2 : (if L = true then st [50, 48] else st [49, 57]) = st ce := by rw [← hce]; cases L <;> rfl
 rw [hce2] at Hce
 have hmt : ce ++ b = momT 2 b := by
  unfold momT
  rw [if_pos rfl, ← hce, ← hL]
  by_cases h : partK 2 b 0 < 50
  ·rw [decide_eq_true h, if_pos rfl, if_pos h]
  ·rw [decide_eq_false h, if_neg h]; rfl
 have hct := cat_str ce b (momT 2 b) hmt (by have := congrArg List.length hmt; rw [List.length_append, u_ HL] at this; omega)
 clear hce hce2 hmt hL HLs
 go_wp2_with fail
 refine Hce.mono ?_
 rintro e w5 ⟨rfl, hb⟩
 obtain rfl := hb
 obtain ⟨mt, hmt⟩ := exq (momT 2 b)
 rw [hmt] at HM HYr HP1 HP2 HP3 HP4 HP5 HDg HL hct
 have Hmo := h_ (moment7_c w5 (st mt) (by rw [st_size, u_ HL]; omega) (by rw [st_size, u_ HL]; omega) (by rw [bs_st]; exact u_ HDg))
 rw [bs_st] at Hmo
 obtain ⟨m0, hm0⟩ := exq (twoAt mt (2 * 0))
 obtain ⟨m1, hm1⟩ := exq (twoAt mt (2 * 1))
 obtain ⟨m2, hm2⟩ := exq (twoAt mt (2 * 2))
 obtain ⟨m3, hm3⟩ := exq (twoAt mt (2 * 3))
 obtain ⟨m4, hm4⟩ := exq (twoAt mt (2 * 4))
 obtain ⟨m5, hm5⟩ := exq (twoAt mt (2 * 5))
 obtain ⟨m6, hm6⟩ := exq (twoAt mt (2 * 6))
 have q0 : m0 ≤ 99 := by rw [← hm0]; exact u_ HM 0 (by omega)
 have q1 : m1 ≤ 99 := by rw [← hm1]; exact u_ HM 1 (by omega)
 have q2 : m2 ≤ 99 := by rw [← hm2]; exact u_ HM 2 (by omega)
 have q3 : m3 ≤ 99 := by rw [← hm3]; exact u_ HM 3 (by omega)
 have q4 : m4 ≤ 99 := by rw [← hm4]; exact u_ HM 4 (by omega)
 have q5 : m5 ≤ 99 := by rw [← hm5]; exact u_ HM 5 (by omega)
 have q6 : m6 ≤ 99 := by rw [← hm6]; exact u_ HM 6 (by omega)
 have e7 : (seven fun k => twoAt mt (2 * k)).toArray = #[.int .i64 (m0 : Int), .int .i64 (m1 : Int), .int .i64 (m2 : Int), .int .i64 (m3 : Int), .int .i64 (m4 : Int), .int .i64 (m5 : Int), .int .i64 (m6 : Int)] := by
  rw [← hm0, ← hm1, ← hm2, ← hm3, ← hm4, ← hm5, ← hm6]
  simp [seven, List.range, List.range.loop]
 rw [e7] at Hmo
 have HP1' : partK 2 b 1 = m2 := HP1.symm.trans hm2
 have HP2' : partK 2 b 2 = m3 := HP2.symm.trans hm3
 have HP3' : partK 2 b 3 = m4 := HP3.symm.trans hm4
 have HP4' : partK 2 b 4 = m5 := HP4.symm.trans hm5
 have HP5' : partK 2 b 5 = m6 := HP5.symm.trans hm6
 obtain ⟨Y, hY⟩ := exq (yearK 2 b)
 have hYe : 100 * m0 + m1 = Y := by rw [← hY, ← u_ HYr, ← hm0, ← hm1]
 rw [HP1', HP2', HP3', HP4', HP5', hY] at HE
 rw [HP1', HP2'] at HCl
 have eY : (100 : Int) * (m0 : Int) + (m1 : Int) = (Y : Int) := by omega
 have hY2 : Y ≤ 9999 := by omega
 clear hm0 hm1 hm2 hm3 hm4 hm5 hm6 e7 HP1 HP2 HP3 HP4 HP5 HP1' HP2' HP3' HP4' HP5' hY hYe HYr HM HDg HL hmt
 go_wp2_with fail
 refine Hmo.mono ?_
 rintro e w6 ⟨rfl, hb⟩
 have HA := h_ (HA.call hb)
 clear hb k0 k1 k2 k3 k4 hcv Hmo hct
 obtain ⟨w7, M, hw7, eM, hM⟩ := blkN HA.b #[.int .i64 (m0 : Int), .int .i64 (m1 : Int), .int .i64 (m2 : Int), .int .i64 (m3 : Int), .int .i64 (m4 : Int), .int .i64 (m5 : Int), .int .i64 (m6 : Int)] 91
 have j0 := hM.cell 0 _ rfl
 have j1 := hM.cell 1 _ rfl
 have j2 := hM.cell 2 _ rfl
 have j3 := hM.cell 3 _ rfl
 have j4 := hM.cell 4 _ rfl
 have j5 := hM.cell 5 _ rfl
 have j6 := hM.cell 6 _ rfl
 have HMb := h_ hM
 clear hM HA
 by_cases hlow : Y < 1970
 ·have HE2 : Hid (timeT v = (0, 32)) := by show _ = _; rw [u_ HE, if_pos hlow]
  by_cases h70 : Y < 1970
  ·obtain ⟨z1, z1n⟩ := ltVL Y 1970 1970
   go_wp2
   go_ret2
   exact ⟨by rw [u_ HE2]; rfl, HMb.b⟩
  ·exact absurd hlow h70
 ·obtain ⟨z1, z1n⟩ := ltVLf Y 1970 1970
  obtain ⟨Z, hZ⟩ := exq (daysToP Y m2)
  have HDa : Hid (∀ wr : World, Calls Tryz.prog 48 #[.int .i64 (Y : Int), .int .i64 (m2 : Int)] wr fun e w' => e = .returned (.int .i64 (Z : Int)) ∧ w' = wr) := fun wr => by
   rw [← hZ]
   exact daysto_c wr Y m2 (by omega) (by omega) HCl.1 (by have := HCl.2.1; omega)
  have hZ2 : Z ≤ 100000000 := by rw [← hZ]; exact daysTo_small (by omega) (by omega) HCl.1 (by have := HCl.2.1; omega)
  have m31 := HCl.2.2
  obtain ⟨D, hD⟩ := exq (Z + m3 - 1)
  have eD : (Z : Int) + (m3 : Int) - 1 = (D : Int) := by omega
  obtain ⟨F, hF⟩ := exq (86400 * D + 3600 * m4 + 60 * m5 + m6)
  have eF : (D : Int) * 86400 + ((m4 : Int) * 60 + (m5 : Int)) * 60 + (m6 : Int) = (F : Int) := by omega
  have HE2 : Hid (timeT v = (F, 0)) := by
   show _ = _
   rw [u_ HE, if_neg hlow]
   unfold secondsP
   rw [← hF, ← hD, ← hZ]
   rfl
  have hD2 : D ≤ 100000100 := by omega
  clear hZ hD hF HE
  have uZ : IntKind.i64.wrap ((Z : Int) + (m3 : Int)) = (Z : Int) + (m3 : Int) := IntWalk.i64_in _ (by omega)
  have uD : IntKind.i64.wrap (D : Int) = (D : Int) := IntWalk.i64_in _ (by omega)
  go_wp2_with fail
  go_big_quiet (first | (go_at_call 48; exact Calls.quiet_of_same (u_ HDa _)))
  go_wp2
  go_ret2
  exact ⟨by rw [u_ HE2]; rfl, by first | exact HMb.b | exact below_drewNb HMb.b _⟩
theorem time_badl (w : World) (S : Nat → Prop) (cs : List Value) (v : DV) (hT : Tabs w) (hv : ValAt S w cs v) (hw : weight v ≤ 1000000) (hc : v.cls = 0) (ht : v.tag = 24) (hr : rightV v = false) :
  Calls Tryz.prog 17 #[.agg cs.toArray] w fun e w' => e = .returned (.tuple #[.int .i64 ((timeT v).1 : Int), .int .i64 ((timeT v).2 : Int)]) ∧ Below w.heap.size w w' := by
 have HE : Hid (timeT v = (0, 30)) := timeT_no (fun h => by rw [hr] at h; exact absurd h.2.2 (by simp))
 obtain ⟨s1, c1, s2, c2, rfl⟩ := hv.form
 obtain ⟨kc, kt, km, kl, kk, hkc, hkt, hkm, hkl, hkk⟩ := ex5 v
 rw [hkc, hkt, hkm, hkl, hkk] at hv ⊢
 obtain rfl : kc = 0 := hkc.symm.trans hc
 obtain rfl : kt = 24 := hkt.symm.trans ht
 have Hr := h_ hr
 clear hkc hkt hkm hkl hkk hc ht hr
 obtain ⟨w1, X, hw1, eX, hA⟩ := blkN (Below.refl w.heap.size w) #[.int .i64 0, .int .i64 24, .bool km, .slice s1 kl c1, .slice s2 kk c2] 25
 obtain ⟨k0, k1, k2, k3, k4⟩ := five_at hA
 have HA := h_ hA
 have HT := h_ hT
 have HV := h_ hv
 have Hw := h_ hw
 have HI : Hid (∀ (wr : World) (g : Int) (A B : Bool), ((0 : Int) == 0) = A → ((24 : Int) == g) = B → Calls Tryz.prog 36 #[.agg #[.int .i64 0, .int .i64 24, .bool km, .slice s1 kl c1, .slice s2 kk c2], .int .i64 g] wr fun e w' => e = .returned (.bool (A && B)) ∧ Below wr.heap.size wr w') := fun wr g A B h1 h2 => isuni_c wr 0 24 km s1 s2 kl kk c1 c2 g A B h1 h2
 have HRt : Hid (∀ wr : World, Below w.heap.size w wr → Calls Tryz.prog 37 #[.agg #[.int .i64 0, .int .i64 24, .bool km, .slice s1 kl c1, .slice s2 kk c2]] wr fun e w' => e = .returned (.bool (rightV v)) ∧ Below wr.heap.size wr w') := fun wr hb => isright_c wr S _ v (hT.below hb) (hv.below hb) hw
 unfold dcells
 have HRt2 : Hid (∀ wr : World, Below w.heap.size w wr → Calls Tryz.prog 37 #[.agg #[.int .i64 0, .int .i64 24, .bool km, .slice s1 kl c1, .slice s2 kk c2]] wr fun e w' => e = .returned (.bool false) ∧ Below wr.heap.size wr w') := fun wr hb => by
  have := u_ HRt wr hb
  rw [u_ Hr] at this
  exact this
 clear HRt
 clear hA hv hw hT
 go_enter Tryz.func17, Tryz.ntmps17
 have HIu : Hid (Calls Tryz.prog 36 #[.agg #[.int .i64 0, .int .i64 24, .bool km, .slice s1 kl c1, .slice s2 kk c2], .int .i64 23] w1 fun e w' => e = .returned (.bool false) ∧ Below (w1).heap.size w1 w') := u_ HI w1 23 true false rfl rfl
 go_wp2_with fail
 refine HIu.mono ?_
 rintro e w2 ⟨rfl, hb⟩
 have HA := h_ (HA.call hb)
 clear hb k0 k1 k2 k3 k4
 obtain ⟨k0, k1, k2, k3, k4⟩ := five_at (u_ HA)
 have HIu : Hid (Calls Tryz.prog 36 #[.agg #[.int .i64 0, .int .i64 24, .bool km, .slice s1 kl c1, .slice s2 kk c2], .int .i64 24] w2 fun e w' => e = .returned (.bool true) ∧ Below (w2).heap.size w2 w') := u_ HI w2 24 true true rfl rfl
 go_wp2_with fail
 refine HIu.mono ?_
 rintro e w3 ⟨rfl, hb⟩
 have HA := h_ (HA.call hb)
 clear hb k0 k1 k2 k3 k4
 obtain ⟨k0, k1, k2, k3, k4⟩ := five_at (u_ HA)
 go_wp2_with fail
 refine (u_ HRt2 w3 HA.b).mono ?_
 rintro e w4 ⟨rfl, hb⟩
 have HA := h_ (HA.call hb)
 clear hb k0 k1 k2 k3 k4
 obtain ⟨k0, k1, k2, k3, k4⟩ := five_at (u_ HA)
 go_wp2
 go_ret2
 exact ⟨by rw [u_ HE]; rfl, HA.b⟩
theorem time_okl (w : World) (S : Nat → Prop) (cs : List Value) (v : DV) (hT : Tabs w) (hv : ValAt S w cs v) (hw : weight v ≤ 1000000) (hc : v.cls = 0) (ht : v.tag = 24) (hr : rightV v = true) :
  Calls Tryz.prog 17 #[.agg cs.toArray] w fun e w' => e = .returned (.tuple #[.int .i64 ((timeT v).1 : Int), .int .i64 ((timeT v).2 : Int)]) ∧ Below w.heap.size w w' := by
 obtain ⟨_, htp⟩ := right_time hr hc (by omega)
 rw [if_neg (by omega)] at htp
 obtain ⟨hl, hd, _, hcal⟩ := time_open htp
 have HE : Hid (timeT v = if yearK 4 v.bytes < 2050 then (0, 32) else (secondsP (yearK 4 v.bytes) (partK 4 v.bytes 1) (partK 4 v.bytes 2) (partK 4 v.bytes 3) (partK 4 v.bytes 4) (partK 4 v.bytes 5), 0)) := by
  show _ = _
  unfold timeT
  rw [if_pos ⟨hc, by omega, hr⟩]
  simp only [if_neg (show ¬ v.tag = 23 by omega)]
  congr 1
  simp only [eq_iff_iff]
  omega
 have hy : (4 : Nat) = 2 ∨ (4 : Nat) = 4 := by omega
 have HM : Hid (∀ k, k < 7 → twoAt (momT 4 v.bytes) (2 * k) ≤ 99) := fun k hk => mom_99 hy hl hd k hk
 have HYr := h_ (mom_year hy hl)
 have HP1 := h_ (mom_part hy hl (k := 1) (by omega) (by omega))
 have HP2 := h_ (mom_part hy hl (k := 2) (by omega) (by omega))
 have HP3 := h_ (mom_part hy hl (k := 3) (by omega) (by omega))
 have HP4 := h_ (mom_part hy hl (k := 4) (by omega) (by omega))
 have HP5 := h_ (mom_part hy hl (k := 5) (by omega) (by omega))
 have HDg : Hid (∀ i, i < 14 → isDig ((momT 4 v.bytes).getD i 0) = true) := mom_digits hy hl hd
 have HL := h_ (mom_len hy hl)
 have HCl : Hid (1 ≤ partK 4 v.bytes 1 ∧ partK 4 v.bytes 1 ≤ 12 ∧ 1 ≤ partK 4 v.bytes 2) := by
  simp only [calP, Bool.and_eq_true, decide_eq_true_eq] at hcal
  exact ⟨hcal.1.1.1.1.1.1, hcal.1.1.1.1.1.2, hcal.1.1.1.1.2⟩
 have HX : Hid (∀ wr : World, Below w.heap.size w wr → ∃ n S', VAt n S' wr cs v) := fun wr hb => by obtain ⟨n, h⟩ := hv; exact ⟨n, S, h.below hb⟩
 obtain ⟨b, hb0⟩ := exq v.bytes
 rw [hb0] at HE HM HYr HP1 HP2 HP3 HP4 HP5 HDg HL HCl
 obtain ⟨s1, c1, s2, c2, rfl⟩ := hv.form
 obtain ⟨kc, kt, km, kl, kk, hkc, hkt, hkm, hkl, hkk⟩ := ex5 v
 rw [hkc, hkt, hkm, hkl, hkk] at hv ⊢
 obtain rfl : kc = 0 := hkc.symm.trans hc
 obtain rfl : kt = 24 := hkt.symm.trans ht
 have Hr := h_ hr
 have HBy : Hid (∀ wr : World, Below w.heap.size w wr → BytesAt wr (.slice s1 kl c1) b) := fun wr hb => by
  obtain ⟨n, h⟩ := hv.below hb
  cases n with
  | zero => exact h.elim
  | succ n =>
   obtain ⟨xb, sk, ck, e, h1, _⟩ := h
   simp only [dcells, List.cons.injEq] at e
   rw [e.2.2.2.1, ← hb0]
   exact h1
 have hkl2 : kl = 15 := by rw [← hkl]; exact hl
 clear hkc hkt hkm hkl hkk hc ht hr htp hl hd hcal hb0 hy HX
 obtain ⟨w1, X, hw1, eX, hA⟩ := blkN (Below.refl w.heap.size w) #[.int .i64 0, .int .i64 24, .bool km, .slice s1 kl c1, .slice s2 kk c2] 25
 obtain ⟨k0, k1, k2, k3, k4⟩ := five_at hA
 have HA := h_ hA
 have HT := h_ hT
 have HV := h_ hv
 have Hw := h_ hw
 have HI : Hid (∀ (wr : World) (g : Int) (A B : Bool), ((0 : Int) == 0) = A → ((24 : Int) == g) = B → Calls Tryz.prog 36 #[.agg #[.int .i64 0, .int .i64 24, .bool km, .slice s1 kl c1, .slice s2 kk c2], .int .i64 g] wr fun e w' => e = .returned (.bool (A && B)) ∧ Below wr.heap.size wr w') := fun wr g A B h1 h2 => isuni_c wr 0 24 km s1 s2 kl kk c1 c2 g A B h1 h2
 have HRt : Hid (∀ wr : World, Below w.heap.size w wr → Calls Tryz.prog 37 #[.agg #[.int .i64 0, .int .i64 24, .bool km, .slice s1 kl c1, .slice s2 kk c2]] wr fun e w' => e = .returned (.bool (rightV v)) ∧ Below wr.heap.size wr w') := fun wr hb => isright_c wr S _ v (hT.below hb) (hv.below hb) hw
 unfold dcells
 have HRt2 : Hid (∀ wr : World, Below w.heap.size w wr → Calls Tryz.prog 37 #[.agg #[.int .i64 0, .int .i64 24, .bool km, .slice s1 kl c1, .slice s2 kk c2]] wr fun e w' => e = .returned (.bool true) ∧ Below wr.heap.size wr w') := fun wr hb => by
  have := u_ HRt wr hb
  rw [u_ Hr] at this
  exact this
 clear HRt
 subst hkl2
 clear hA hv hw hT
 go_enter Tryz.func17, Tryz.ntmps17
 have HIu : Hid (Calls Tryz.prog 36 #[.agg #[.int .i64 0, .int .i64 24, .bool km, .slice s1 15 c1, .slice s2 kk c2], .int .i64 23] w1 fun e w' => e = .returned (.bool false) ∧ Below (w1).heap.size w1 w') := u_ HI w1 23 true false rfl rfl
 go_wp2_with fail
 refine HIu.mono ?_
 rintro e w2 ⟨rfl, hb⟩
 have HA := h_ (HA.call hb)
 clear hb k0 k1 k2 k3 k4
 obtain ⟨k0, k1, k2, k3, k4⟩ := five_at (u_ HA)
 have HIu : Hid (Calls Tryz.prog 36 #[.agg #[.int .i64 0, .int .i64 24, .bool km, .slice s1 15 c1, .slice s2 kk c2], .int .i64 24] w2 fun e w' => e = .returned (.bool true) ∧ Below (w2).heap.size w2 w') := u_ HI w2 24 true true rfl rfl
 go_wp2_with fail
 refine HIu.mono ?_
 rintro e w3 ⟨rfl, hb⟩
 have HA := h_ (HA.call hb)
 clear hb k0 k1 k2 k3 k4
 obtain ⟨k0, k1, k2, k3, k4⟩ := five_at (u_ HA)
 go_wp2_with fail
 refine (u_ HRt2 w3 HA.b).mono ?_
 rintro e w4 ⟨rfl, hb⟩
 have HA := h_ (HA.call hb)
 clear hb k0 k1 k2 k3 k4
 obtain ⟨k0, k1, k2, k3, k4⟩ := five_at (u_ HA)
 have hcv := conv_str (u_ HBy w4 HA.b)
 have hmt : momT 4 b = b := by unfold momT; rw [if_neg (by omega)]
 rw [← hmt] at hcv
 clear hmt
 obtain ⟨mt, hmt⟩ := exq (momT 4 b)
 rw [hmt] at HM HYr HP1 HP2 HP3 HP4 HP5 HDg HL hcv
 have Hmo := h_ (moment7_c w4 (st mt) (by rw [st_size, u_ HL]; omega) (by rw [st_size, u_ HL]; omega) (by rw [bs_st]; exact u_ HDg))
 rw [bs_st] at Hmo
 obtain ⟨m0, hm0⟩ := exq (twoAt mt (2 * 0))
 obtain ⟨m1, hm1⟩ := exq (twoAt mt (2 * 1))
 obtain ⟨m2, hm2⟩ := exq (twoAt mt (2 * 2))
 obtain ⟨m3, hm3⟩ := exq (twoAt mt (2 * 3))
 obtain ⟨m4, hm4⟩ := exq (twoAt mt (2 * 4))
 obtain ⟨m5, hm5⟩ := exq (twoAt mt (2 * 5))
 obtain ⟨m6, hm6⟩ := exq (twoAt mt (2 * 6))
 have q0 : m0 ≤ 99 := by rw [← hm0]; exact u_ HM 0 (by omega)
 have q1 : m1 ≤ 99 := by rw [← hm1]; exact u_ HM 1 (by omega)
 have q2 : m2 ≤ 99 := by rw [← hm2]; exact u_ HM 2 (by omega)
 have q3 : m3 ≤ 99 := by rw [← hm3]; exact u_ HM 3 (by omega)
 have q4 : m4 ≤ 99 := by rw [← hm4]; exact u_ HM 4 (by omega)
 have q5 : m5 ≤ 99 := by rw [← hm5]; exact u_ HM 5 (by omega)
 have q6 : m6 ≤ 99 := by rw [← hm6]; exact u_ HM 6 (by omega)
 have e7 : (seven fun k => twoAt mt (2 * k)).toArray = #[.int .i64 (m0 : Int), .int .i64 (m1 : Int), .int .i64 (m2 : Int), .int .i64 (m3 : Int), .int .i64 (m4 : Int), .int .i64 (m5 : Int), .int .i64 (m6 : Int)] := by
  rw [← hm0, ← hm1, ← hm2, ← hm3, ← hm4, ← hm5, ← hm6]
  simp [seven, List.range, List.range.loop]
 rw [e7] at Hmo
 have HP1' : partK 4 b 1 = m2 := HP1.symm.trans hm2
 have HP2' : partK 4 b 2 = m3 := HP2.symm.trans hm3
 have HP3' : partK 4 b 3 = m4 := HP3.symm.trans hm4
 have HP4' : partK 4 b 4 = m5 := HP4.symm.trans hm5
 have HP5' : partK 4 b 5 = m6 := HP5.symm.trans hm6
 obtain ⟨Y, hY⟩ := exq (yearK 4 b)
 have hYe : 100 * m0 + m1 = Y := by rw [← hY, ← u_ HYr, ← hm0, ← hm1]
 rw [HP1', HP2', HP3', HP4', HP5', hY] at HE
 rw [HP1', HP2'] at HCl
 have eY : (100 : Int) * (m0 : Int) + (m1 : Int) = (Y : Int) := by omega
 have hY2 : Y ≤ 9999 := by omega
 clear hm0 hm1 hm2 hm3 hm4 hm5 hm6 e7 HP1 HP2 HP3 HP4 HP5 HP1' HP2' HP3' HP4' HP5' hY hYe HYr HM HDg HL hmt
 go_wp2_with fail
 refine Hmo.mono ?_
 rintro e w6 ⟨rfl, hb⟩
 have HA := h_ (HA.call hb)
 clear hb k0 k1 k2 k3 k4 hcv Hmo
 obtain ⟨w7, M, hw7, eM, hM⟩ := blkN HA.b #[.int .i64 (m0 : Int), .int .i64 (m1 : Int), .int .i64 (m2 : Int), .int .i64 (m3 : Int), .int .i64 (m4 : Int), .int .i64 (m5 : Int), .int .i64 (m6 : Int)] 91
 have j0 := hM.cell 0 _ rfl
 have j1 := hM.cell 1 _ rfl
 have j2 := hM.cell 2 _ rfl
 have j3 := hM.cell 3 _ rfl
 have j4 := hM.cell 4 _ rfl
 have j5 := hM.cell 5 _ rfl
 have j6 := hM.cell 6 _ rfl
 have HMb := h_ hM
 clear hM HA
 by_cases hlow : Y < 2050
 ·have HE2 : Hid (timeT v = (0, 32)) := by show _ = _; rw [u_ HE, if_pos hlow]
  by_cases h70 : Y < 1970
  ·obtain ⟨z1, z1n⟩ := ltVL Y 1970 1970
   go_wp2
   go_ret2
   exact ⟨by rw [u_ HE2]; rfl, HMb.b⟩
  ·obtain ⟨z1, z1n⟩ := ltVLf Y 1970 1970
   obtain ⟨z2, z2n⟩ := ltVL Y 2050 2050
   go_wp2
   go_ret2
   exact ⟨by rw [u_ HE2]; rfl, HMb.b⟩
 ·obtain ⟨z1, z1n⟩ := ltVLf Y 1970 1970
  obtain ⟨z2, z2n⟩ := ltVLf Y 2050 2050
  obtain ⟨Z, hZ⟩ := exq (daysToP Y m2)
  have HDa : Hid (∀ wr : World, Calls Tryz.prog 48 #[.int .i64 (Y : Int), .int .i64 (m2 : Int)] wr fun e w' => e = .returned (.int .i64 (Z : Int)) ∧ w' = wr) := fun wr => by
   rw [← hZ]
   exact daysto_c wr Y m2 (by omega) (by omega) HCl.1 (by have := HCl.2.1; omega)
  have hZ2 : Z ≤ 100000000 := by rw [← hZ]; exact daysTo_small (by omega) (by omega) HCl.1 (by have := HCl.2.1; omega)
  have m31 := HCl.2.2
  obtain ⟨D, hD⟩ := exq (Z + m3 - 1)
  have eD : (Z : Int) + (m3 : Int) - 1 = (D : Int) := by omega
  obtain ⟨F, hF⟩ := exq (86400 * D + 3600 * m4 + 60 * m5 + m6)
  have eF : (D : Int) * 86400 + ((m4 : Int) * 60 + (m5 : Int)) * 60 + (m6 : Int) = (F : Int) := by omega
  have HE2 : Hid (timeT v = (F, 0)) := by
   show _ = _
   rw [u_ HE, if_neg hlow]
   unfold secondsP
   rw [← hF, ← hD, ← hZ]
   rfl
  have hD2 : D ≤ 100000100 := by omega
  clear hZ hD hF HE
  have uZ : IntKind.i64.wrap ((Z : Int) + (m3 : Int)) = (Z : Int) + (m3 : Int) := IntWalk.i64_in _ (by omega)
  have uD : IntKind.i64.wrap (D : Int) = (D : Int) := IntWalk.i64_in _ (by omega)
  go_wp2_with fail
  go_big_quiet (first | (go_at_call 48; exact Calls.quiet_of_same (u_ HDa _)))
  go_wp2
  go_ret2
  exact ⟨by rw [u_ HE2]; rfl, by first | exact HMb.b | exact below_drewNb HMb.b _⟩
theorem time_c (w : World) (S : Nat → Prop) (cs : List Value) (v : DV) (hT : Tabs w) (hv : ValAt S w cs v) (hw : weight v ≤ 1000000)  :
  Calls Tryz.prog 17 #[.agg cs.toArray] w fun e w' => e = .returned (.tuple #[.int .i64 ((timeT v).1 : Int), .int .i64 ((timeT v).2 : Int)]) ∧ Below w.heap.size w w' := by
 by_cases h : v.cls = 0 ∧ (v.tag = 23 ∨ v.tag = 24)
 ·obtain ⟨hc, ht⟩ := h
  cases hr : rightV v with
  | false =>
   rcases ht with ht | ht
   ·exact time_bads w S cs v hT hv hw hc ht hr
   ·exact time_badl w S cs v hT hv hw hc ht hr
  | true =>
   rcases ht with ht | ht
   ·exact time_oks w S cs v hT hv hw hc ht hr
   ·exact time_okl w S cs v hT hv hw hc ht hr
 ·exact time_other w S cs v hT hv hw h
end N
end Go.Proofs.YtcofnockikninaaGreatDoor
