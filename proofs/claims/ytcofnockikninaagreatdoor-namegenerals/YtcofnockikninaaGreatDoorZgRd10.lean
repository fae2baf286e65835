/- Parts of the walk. -/
import Derived.Test.YtcofnockikninaaGreatDoorZgPc10
import Derived.Test.YtcofnockikninaaGreatDoorZgRD
set_option maxRecDepth 100000
set_option maxHeartbeats 16000000
namespace Go.Proofs.YtcofnockikninaaGreatDoor
open Go.RowKit
def pairV (v : DV) : DV × DV × Bool :=
 if v.cls = 0 ∧ v.tag = 17 then
  match v.kids with
  | [p] => if p.cls = 0 ∧ p.tag = 16 then
    match p.kids with
    | [o, t] => (o, t, decide (t.cls = 0) && (decide (t.tag = 12) || decide (t.tag = 19)))
    | _ => (.mk 0 0 false [] [], .mk 0 0 false [] [], false)
   else (.mk 0 0 false [] [], .mk 0 0 false [] [], false)
  | _ => (.mk 0 0 false [] [], .mk 0 0 false [] [], false)
 else (.mk 0 0 false [] [], .mk 0 0 false [] [], false)
theorem pairV_kids {v : DV} (h : v.kids.length ≠ 1) : pairV v = (.mk 0 0 false [] [], .mk 0 0 false [] [], false) := by
 unfold pairV
 split
 ·split
  ·rename_i p hp; rw [hp] at h; exact absurd rfl h
  ·rfl
 ·rfl
theorem pairV_kid {v p : DV} (hp : v.kids = [p]) (h : ¬ (p.cls = 0 ∧ p.tag = 16) ∨ p.kids.length ≠ 2) : pairV v = (.mk 0 0 false [] [], .mk 0 0 false [] [], false) := by
 unfold pairV
 rw [hp]
 split
 ·simp only
  split
  ·rename_i h1
   split
   ·rename_i o t hk
    rcases h with h | h
    ·exact absurd h1 h
    ·rw [hk] at h; exact absurd rfl h
   ·rfl
  ·rfl
 ·rfl
theorem res_rows_tmp {P : Program} {fn : Func} {p q u : Tmp} {ty : TypeId} (h : fn.results = #[.cell p ty, .cell q ty, .tmp u]) (tmps : Array Value) (w : World) (g g2 : Nat) (t : TypeId) (cs ds : Array Value) (fr fr2 : Nat × Nat) (d : TypeDesc)
  (hp : tmps.getD p undef = .pointer (some ⟨g, 0, none⟩)) (hq : tmps.getD q undef = .pointer (some ⟨g2, 0, none⟩)) (hg : w.heap[g]? = some (.cells cs t fr)) (hg2 : w.heap[g2]? = some (.cells ds t fr2))
  (hu : P.underlying ty = some d) (hd : (match d with | .struct _ | .array _ _ => true | _ => false) = true) (hi : (P.info? ty).map (·.size) = some cs.size) (hi2 : (P.info? ty).map (·.size) = some ds.size) (v : Value) (hv : tmps.getD u undef = v) :
  (results fn tmps).run P w = .ok (.tuple #[.agg cs, .agg ds, v]) w := by
 have hp' : tmps[p]?.getD undef = .pointer (some ⟨g, 0, none⟩) := by simpa using hp
 have hq' : tmps[q]?.getD undef = .pointer (some ⟨g2, 0, none⟩) := by simpa using hq
 have hv' : tmps[u]?.getD undef = v := by simpa using hv
 simp [results, h, hp', hq', hv', asAddr, run_loadVar_row w g t ty cs fr d hg hu hd hi, run_loadVar_row w g2 t ty ds fr2 d hg2 hu hd hi2]
theorem rvalue5p : (Tryz.prog.info? 33).map (·.size) = some 5 := by kernel_rfl
namespace Q
open N K
def PairA (v : DV) (S : Nat → Prop) (w : World) (xs ys : List Value) (w' : World) : Prop := ValAt S w' xs (pairV v).1 ∧ ValAt S w' ys (pairV v).2.1 ∧ Below w.heap.size w w'
theorem qpair_c (w : World) (S : Nat → Prop) (cs : List Value) (v : DV) (hv : ValAt S w cs v) :
  Calls Tryz.prog 58 #[.agg cs.toArray] w fun e w' => ∃ xs ys : List Value, e = .returned (.tuple #[.agg xs.toArray, .agg ys.toArray, .bool (pairV v).2.2]) ∧ PairA v S w xs ys w' := by
 obtain ⟨n, hv⟩ := hv
 obtain ⟨s1, c1, s2, c2, rfl⟩ := hv.form
 obtain ⟨kc, kt, km, kl, kk, hkc, hkt, hkm, hkl, hkk⟩ := ex5 v
 have hV0 := hv
 rw [hkc, hkt, hkm, hkl, hkk] at hv ⊢
 obtain ⟨w1, X, hw1, eX, hA⟩ := blkN (Below.refl w.heap.size w) #[.int .i64 kc, .int .i64 kt, .bool km, .slice s1 kl c1, .slice s2 kk c2] 33
 have h2 := Blk.new hA.b #[.int .i64 0, .int .i64 0, .bool false, .slice none 0 0, .slice none 0 0] 33
 have hA1 := hA.lit (.cells #[.int .i64 0, .int .i64 0, .bool false, .slice none 0 0, .slice none 0 0] 33)
 obtain ⟨w2, hw2⟩ := exq (w1.alloc (.cells #[.int .i64 0, .int .i64 0, .bool false, .slice none 0 0, .slice none 0 0] 33))
 obtain ⟨R2, eR2⟩ := exq w1.heap.size
 rw [hw2, eR2] at h2
 rw [hw2] at hA1
 have h3 := Blk.new hA1.b #[.int .i64 0, .int .i64 0, .bool false, .slice none 0 0, .slice none 0 0] 33
 have hA2 := hA1.lit (.cells #[.int .i64 0, .int .i64 0, .bool false, .slice none 0 0, .slice none 0 0] 33)
 have h22 := h2.lit (.cells #[.int .i64 0, .int .i64 0, .bool false, .slice none 0 0, .slice none 0 0] 33)
 obtain ⟨w3, hw3⟩ := exq (w2.alloc (.cells #[.int .i64 0, .int .i64 0, .bool false, .slice none 0 0, .slice none 0 0] 33))
 obtain ⟨R3, eR3⟩ := exq w2.heap.size
 rw [hw3, eR3] at h3
 rw [hw3] at hA2 h22
 obtain ⟨k0, k1, k2, k3, k4⟩ := five_at hA2
 have HA := h_ hA2
 have HR2 := h_ h22
 have HR3 := h_ h3
 have HN32 : Hid (R3 ≠ R2) := by have := h2.lt; show _ ≠ _; omega
 have HXR : Hid (X < R2 ∧ R2 < R3) := ⟨by have := hA.lt; omega, by have := h2.lt; omega⟩
 have HV := h_ hv
 have H5 : Hid ((#[.int .i64 0, .int .i64 0, .bool false, .slice none 0 0, .slice none 0 0] : Array Value).all (·.oneCell') = true) := by show _ = true; simp [Value.oneCell']
 have Hvk : Hid (v.cls = kc ∧ v.tag = kt ∧ v.kids.length = kk) := ⟨hkc, hkt, hkk⟩
 unfold dcells
 clear hA hA1 hA2 h2 h22 h3 hv hV0 hkc hkt hkm hkl hkk
 go_enter Tryz.func58, Tryz.ntmps58
 by_cases g1 : kc = 0
 case neg =>
  have z1 : (kc != 0) = true := by simpa using g1
  have z2 : (kc == 0) = false := by simpa using g1
  have HE : Hid (pairV v = (.mk 0 0 false [] [], .mk 0 0 false [] [], false)) := by show _ = _; unfold pairV; rw [if_neg (fun h => g1 (by rw [← Hvk.1]; exact h.1))]
  clear g1
  clear HV Hvk
  go_upto_region 2 with fail
  go_wp2_with (first
   | (refine wpList_store_row rfl 33 _ _ rfl R2 _ rfl rfl 33 _ HR2.res rvalue5p rfl (u_ H5) ?_)
   | (refine wpList_store_row rfl 33 _ _ rfl R3 _ rfl rfl 33 _ (HR3.other HR2.ge (u_ HN32) #[.int .i64 0, .int .i64 0, .bool false, .slice none 0 0, .slice none 0 0]).res rvalue5p rfl (u_ H5) ?_))
  exact bodyPost_ret (res_rows_tmp Tryz.results58 _ _ R2 R3 33 #[.int .i64 0, .int .i64 0, .bool false, .slice none 0 0, .slice none 0 0] #[.int .i64 0, .int .i64 0, .bool false, .slice none 0 0, .slice none 0 0] (0, 0) (0, 0) _ rfl rfl ((HR2.set #[.int .i64 0, .int .i64 0, .bool false, .slice none 0 0, .slice none 0 0]).other HR3.ge (fun e => u_ HN32 e.symm) #[.int .i64 0, .int .i64 0, .bool false, .slice none 0 0, .slice none 0 0]).res ((HR3.other HR2.ge (u_ HN32) #[.int .i64 0, .int .i64 0, .bool false, .slice none 0 0, .slice none 0 0]).set #[.int .i64 0, .int .i64 0, .bool false, .slice none 0 0, .slice none 0 0]).res Tryz.underlying33 rfl rvalue5p rvalue5p _ rfl) rfl ⟨_, _, by rw [u_ HE]; rfl, by rw [u_ HE]; exact zero_val _ _, by rw [u_ HE]; exact zero_val _ _, ((HR3.other HR2.ge (u_ HN32) #[.int .i64 0, .int .i64 0, .bool false, .slice none 0 0, .slice none 0 0]).set #[.int .i64 0, .int .i64 0, .bool false, .slice none 0 0, .slice none 0 0]).b⟩
 subst g1
 by_cases g2 : kt = 17
 case neg =>
  have z1 : (kt != 17) = true := by simpa using g2
  have z2 : (kt == 17) = false := by simpa using g2
  have HE : Hid (pairV v = (.mk 0 0 false [] [], .mk 0 0 false [] [], false)) := by show _ = _; unfold pairV; rw [if_neg (fun h => g2 (by rw [← Hvk.2.1]; exact h.2))]
  clear g2
  clear HV Hvk
  go_upto_region 2 with fail
  go_wp2_with (first
   | (refine wpList_store_row rfl 33 _ _ rfl R2 _ rfl rfl 33 _ HR2.res rvalue5p rfl (u_ H5) ?_)
   | (refine wpList_store_row rfl 33 _ _ rfl R3 _ rfl rfl 33 _ (HR3.other HR2.ge (u_ HN32) #[.int .i64 0, .int .i64 0, .bool false, .slice none 0 0, .slice none 0 0]).res rvalue5p rfl (u_ H5) ?_))
  exact bodyPost_ret (res_rows_tmp Tryz.results58 _ _ R2 R3 33 #[.int .i64 0, .int .i64 0, .bool false, .slice none 0 0, .slice none 0 0] #[.int .i64 0, .int .i64 0, .bool false, .slice none 0 0, .slice none 0 0] (0, 0) (0, 0) _ rfl rfl ((HR2.set #[.int .i64 0, .int .i64 0, .bool false, .slice none 0 0, .slice none 0 0]).other HR3.ge (fun e => u_ HN32 e.symm) #[.int .i64 0, .int .i64 0, .bool false, .slice none 0 0, .slice none 0 0]).res ((HR3.other HR2.ge (u_ HN32) #[.int .i64 0, .int .i64 0, .bool false, .slice none 0 0, .slice none 0 0]).set #[.int .i64 0, .int .i64 0, .bool false, .slice none 0 0, .slice none 0 0]).res Tryz.underlying33 rfl rvalue5p rvalue5p _ rfl) rfl ⟨_, _, by rw [u_ HE]; rfl, by rw [u_ HE]; exact zero_val _ _, by rw [u_ HE]; exact zero_val _ _, ((HR3.other HR2.ge (u_ HN32) #[.int .i64 0, .int .i64 0, .bool false, .slice none 0 0, .slice none 0 0]).set #[.int .i64 0, .int .i64 0, .bool false, .slice none 0 0, .slice none 0 0]).b⟩
 subst g2
 by_cases g3 : kk = 1
 case neg =>
  have z1 : ((kk : Int) != 1) = true := by simp; omega
  have z2 : ((kk : Int) == 1) = false := by simp; omega
  have HE : Hid (pairV v = (.mk 0 0 false [] [], .mk 0 0 false [] [], false)) := pairV_kids (by rw [Hvk.2.2]; exact g3)
  clear g3
  clear HV Hvk
  go_upto_region 2 with fail
  go_wp2_with (first
   | (refine wpList_store_row rfl 33 _ _ rfl R2 _ rfl rfl 33 _ HR2.res rvalue5p rfl (u_ H5) ?_)
   | (refine wpList_store_row rfl 33 _ _ rfl R3 _ rfl rfl 33 _ (HR3.other HR2.ge (u_ HN32) #[.int .i64 0, .int .i64 0, .bool false, .slice none 0 0, .slice none 0 0]).res rvalue5p rfl (u_ H5) ?_))
  exact bodyPost_ret (res_rows_tmp Tryz.results58 _ _ R2 R3 33 #[.int .i64 0, .int .i64 0, .bool false, .slice none 0 0, .slice none 0 0] #[.int .i64 0, .int .i64 0, .bool false, .slice none 0 0, .slice none 0 0] (0, 0) (0, 0) _ rfl rfl ((HR2.set #[.int .i64 0, .int .i64 0, .bool false, .slice none 0 0, .slice none 0 0]).other HR3.ge (fun e => u_ HN32 e.symm) #[.int .i64 0, .int .i64 0, .bool false, .slice none 0 0, .slice none 0 0]).res ((HR3.other HR2.ge (u_ HN32) #[.int .i64 0, .int .i64 0, .bool false, .slice none 0 0, .slice none 0 0]).set #[.int .i64 0, .int .i64 0, .bool false, .slice none 0 0, .slice none 0 0]).res Tryz.underlying33 rfl rvalue5p rvalue5p _ rfl) rfl ⟨_, _, by rw [u_ HE]; rfl, by rw [u_ HE]; exact zero_val _ _, by rw [u_ HE]; exact zero_val _ _, ((HR3.other HR2.ge (u_ HN32) #[.int .i64 0, .int .i64 0, .bool false, .slice none 0 0, .slice none 0 0]).set #[.int .i64 0, .int .i64 0, .bool false, .slice none 0 0, .slice none 0 0]).b⟩
 subst g3
 obtain ⟨p, hp⟩ : ∃ p, v.kids = [p] := by
  have hkk := Hvk.2.2
  match h : v.kids, hkk with
  | [p], _ => exact ⟨p, rfl⟩
 obtain ⟨b, o, ds, rfl, hcd, hvp⟩ := kid_at (u_ HV) (i := 0) (k := p) (by rw [hp]; rfl)
 obtain ⟨np, hvp⟩ := hvp
 obtain ⟨p1, q1, p2, q2, rfl⟩ := hvp.form
 obtain ⟨pc, pt, pm, pl, pk, hpc, hpt, hpm, hpl, hpk⟩ := ex5 p
 rw [hpc, hpt, hpm, hpl, hpk] at hvp hcd
 rw [Nat.zero_mul, Nat.add_zero] at hcd
 have Hcd := h_ hcd
 obtain ⟨d0, d1, d2, d3, d4⟩ := (hcd.below HA.b).five
 have Hp := h_ hp
 by_cases g4 : pc = 0
 case neg =>
  have z1 : (pc != 0) = true := by simpa using g4
  have z2 : (pc == 0) = false := by simpa using g4
  have HE : Hid (pairV v = (.mk 0 0 false [] [], .mk 0 0 false [] [], false)) := pairV_kid hp (Or.inl fun h => g4 (by rw [← hpc]; exact h.1))
  clear g4 hp hpc hpt hpm hpl hpk hcd hvp
  clear HV Hvk
  go_upto_region 2 with fail
  go_wp2_with (first
   | (refine wpList_store_row rfl 33 _ _ rfl R2 _ rfl rfl 33 _ HR2.res rvalue5p rfl (u_ H5) ?_)
   | (refine wpList_store_row rfl 33 _ _ rfl R3 _ rfl rfl 33 _ (HR3.other HR2.ge (u_ HN32) #[.int .i64 0, .int .i64 0, .bool false, .slice none 0 0, .slice none 0 0]).res rvalue5p rfl (u_ H5) ?_))
  exact bodyPost_ret (res_rows_tmp Tryz.results58 _ _ R2 R3 33 #[.int .i64 0, .int .i64 0, .bool false, .slice none 0 0, .slice none 0 0] #[.int .i64 0, .int .i64 0, .bool false, .slice none 0 0, .slice none 0 0] (0, 0) (0, 0) _ rfl rfl ((HR2.set #[.int .i64 0, .int .i64 0, .bool false, .slice none 0 0, .slice none 0 0]).other HR3.ge (fun e => u_ HN32 e.symm) #[.int .i64 0, .int .i64 0, .bool false, .slice none 0 0, .slice none 0 0]).res ((HR3.other HR2.ge (u_ HN32) #[.int .i64 0, .int .i64 0, .bool false, .slice none 0 0, .slice none 0 0]).set #[.int .i64 0, .int .i64 0, .bool false, .slice none 0 0, .slice none 0 0]).res Tryz.underlying33 rfl rvalue5p rvalue5p _ rfl) rfl ⟨_, _, by rw [u_ HE]; rfl, by rw [u_ HE]; exact zero_val _ _, by rw [u_ HE]; exact zero_val _ _, ((HR3.other HR2.ge (u_ HN32) #[.int .i64 0, .int .i64 0, .bool false, .slice none 0 0, .slice none 0 0]).set #[.int .i64 0, .int .i64 0, .bool false, .slice none 0 0, .slice none 0 0]).b⟩
 subst g4
 by_cases g5 : pt = 16
 case neg =>
  have z1 : (pt != 16) = true := by simpa using g5
  have z2 : (pt == 16) = false := by simpa using g5
  have HE : Hid (pairV v = (.mk 0 0 false [] [], .mk 0 0 false [] [], false)) := pairV_kid hp (Or.inl fun h => g5 (by rw [← hpt]; exact h.2))
  clear g5 hp hpc hpt hpm hpl hpk hcd hvp
  clear HV Hvk
  go_upto_region 2 with fail
  go_wp2_with (first
   | (refine wpList_store_row rfl 33 _ _ rfl R2 _ rfl rfl 33 _ HR2.res rvalue5p rfl (u_ H5) ?_)
   | (refine wpList_store_row rfl 33 _ _ rfl R3 _ rfl rfl 33 _ (HR3.other HR2.ge (u_ HN32) #[.int .i64 0, .int .i64 0, .bool false, .slice none 0 0, .slice none 0 0]).res rvalue5p rfl (u_ H5) ?_))
  exact bodyPost_ret (res_rows_tmp Tryz.results58 _ _ R2 R3 33 #[.int .i64 0, .int .i64 0, .bool false, .slice none 0 0, .slice none 0 0] #[.int .i64 0, .int .i64 0, .bool false, .slice none 0 0, .slice none 0 0] (0, 0) (0, 0) _ rfl rfl ((HR2.set #[.int .i64 0, .int .i64 0, .bool false, .slice none 0 0, .slice none 0 0]).other HR3.ge (fun e => u_ HN32 e.symm) #[.int .i64 0, .int .i64 0, .bool false, .slice none 0 0, .slice none 0 0]).res ((HR3.other HR2.ge (u_ HN32) #[.int .i64 0, .int .i64 0, .bool false, .slice none 0 0, .slice none 0 0]).set #[.int .i64 0, .int .i64 0, .bool false, .slice none 0 0, .slice none 0 0]).res Tryz.underlying33 rfl rvalue5p rvalue5p _ rfl) rfl ⟨_, _, by rw [u_ HE]; rfl, by rw [u_ HE]; exact zero_val _ _, by rw [u_ HE]; exact zero_val _ _, ((HR3.other HR2.ge (u_ HN32) #[.int .i64 0, .int .i64 0, .bool false, .slice none 0 0, .slice none 0 0]).set #[.int .i64 0, .int .i64 0, .bool false, .slice none 0 0, .slice none 0 0]).b⟩
 subst g5
 by_cases g6 : pk = 2
 case neg =>
  have z1 : ((pk : Int) != 2) = true := by simp; omega
  have z2 : ((pk : Int) == 2) = false := by simp; omega
  have HE : Hid (pairV v = (.mk 0 0 false [] [], .mk 0 0 false [] [], false)) := pairV_kid hp (Or.inr (by rw [hpk]; exact g6))
  clear g6 hp hpc hpt hpm hpl hpk hcd hvp
  clear HV Hvk
  go_upto_region 2 with fail
  go_wp2_with (first
   | (refine wpList_store_row rfl 33 _ _ rfl R2 _ rfl rfl 33 _ HR2.res rvalue5p rfl (u_ H5) ?_)
   | (refine wpList_store_row rfl 33 _ _ rfl R3 _ rfl rfl 33 _ (HR3.other HR2.ge (u_ HN32) #[.int .i64 0, .int .i64 0, .bool false, .slice none 0 0, .slice none 0 0]).res rvalue5p rfl (u_ H5) ?_))
  exact bodyPost_ret (res_rows_tmp Tryz.results58 _ _ R2 R3 33 #[.int .i64 0, .int .i64 0, .bool false, .slice none 0 0, .slice none 0 0] #[.int .i64 0, .int .i64 0, .bool false, .slice none 0 0, .slice none 0 0] (0, 0) (0, 0) _ rfl rfl ((HR2.set #[.int .i64 0, .int .i64 0, .bool false, .slice none 0 0, .slice none 0 0]).other HR3.ge (fun e => u_ HN32 e.symm) #[.int .i64 0, .int .i64 0, .bool false, .slice none 0 0, .slice none 0 0]).res ((HR3.other HR2.ge (u_ HN32) #[.int .i64 0, .int .i64 0, .bool false, .slice none 0 0, .slice none 0 0]).set #[.int .i64 0, .int .i64 0, .bool false, .slice none 0 0, .slice none 0 0]).res Tryz.underlying33 rfl rvalue5p rvalue5p _ rfl) rfl ⟨_, _, by rw [u_ HE]; rfl, by rw [u_ HE]; exact zero_val _ _, by rw [u_ HE]; exact zero_val _ _, ((HR3.other HR2.ge (u_ HN32) #[.int .i64 0, .int .i64 0, .bool false, .slice none 0 0, .slice none 0 0]).set #[.int .i64 0, .int .i64 0, .bool false, .slice none 0 0, .slice none 0 0]).b⟩
 subst g6
 obtain ⟨ov, tv, hot⟩ : ∃ o tv, p.kids = [o, tv] := by
  match h : p.kids, hpk with
  | [o, tv], _ => exact ⟨o, tv, rfl⟩
 obtain ⟨bo, oo, dso, rfl, hco, hvo⟩ := kid_at hvp (i := 0) (k := ov) (by rw [hot]; rfl)
 obtain ⟨bt, ot, dst, hsp2, hct, hvt⟩ := kid_at hvp (i := 1) (k := tv) (by rw [hot]; rfl)
 simp only [Option.some.injEq, Addr.mk.injEq, and_true] at hsp2
 obtain ⟨rfl, rfl⟩ := hsp2
 obtain ⟨no, hvo⟩ := hvo
 obtain ⟨o1, r1, o2, r2, rfl⟩ := hvo.form
 obtain ⟨nt, hvt⟩ := hvt
 obtain ⟨t1, u1, t2, u2, rfl⟩ := hvt.form
 obtain ⟨oc, og, om, ol, ok, hoc, hog, hom, hol, hok⟩ := ex5 ov
 obtain ⟨tc, tg, tm, tl, tk, htc, htg, htm, htl, htk⟩ := ex5 tv
 rw [hoc, hog, hom, hol, hok] at hco hvo
 rw [htc, htg, htm, htl, htk] at hct hvt
 rw [Nat.zero_mul, Nat.add_zero] at hco
 rw [Nat.one_mul] at hct
 have HVo := h_ hvo
 have HVt := h_ hvt
 have HPV : Hid (pairV v = (ov, tv, decide (tc = 0) && (decide (tg = 12) || decide (tg = 19)))) := by
  show _ = _
  unfold pairV
  rw [if_pos ⟨Hvk.1, Hvk.2.1⟩, hp]
  simp only
  rw [if_pos ⟨hpc, hpt⟩, hot]
  simp only
  rw [htc, htg]
 obtain ⟨f0, f1, f2, f3, f4⟩ := (hco.below HA.b).five
 obtain ⟨w4, OB, hw4, eOB, hO⟩ := blkN HA.b #[.int .i64 oc, .int .i64 og, .bool om, .slice o1 ol r1, .slice o2 ok r2] 33
 have hb4 := allocB hw4
 have hA4 := HA.call hb4
 obtain ⟨m0, m1, m2, m3, m4⟩ := five_at hA4
 obtain ⟨x0, x1, x2, x3, x4⟩ := (Hcd.below hA4.b).five
 obtain ⟨n0, n1, n2, n3, n4⟩ := (hct.below hA4.b).five
 obtain ⟨w5, TB, hw5, eTB, hT⟩ := blkN hA4.b #[.int .i64 tc, .int .i64 tg, .bool tm, .slice t1 tl u1, .slice t2 tk u2] 33
 have hb5 := allocB hw5
 have HO5 := h_ (hO.call hb5)
 have HT5 := h_ hT
 have hR2 := (HR2.call hb4).call hb5
 have hR3 := (HR3.call hb4).call hb5
 have HNe : Hid (OB ≠ R2 ∧ TB ≠ R2 ∧ R3 ≠ R2 ∧ OB ≠ R3 ∧ TB ≠ R3 ∧ R2 ≠ R3) := by
  have h1 := HR3.lt
  have h2 := HXR.2
  have h3 := hO.lt
  exact ⟨by omega, by omega, by omega, by omega, by omega, by omega⟩
 clear HR2 HR3
 have HR2 := h_ hR2
 have HR3 := h_ hR3
 have HSz : Hid (∀ w', Blk w w' OB #[.int .i64 oc, .int .i64 og, .bool om, .slice o1 ol r1, .slice o2 ok r2] 33 → Blk w w' TB #[.int .i64 tc, .int .i64 tg, .bool tm, .slice t1 tl u1, .slice t2 tk u2] 33 → w'.cell? ⟨OB, 0, none⟩ = some (.int .i64 oc) ∧ w'.cell? ⟨OB, 1, none⟩ = some (.int .i64 og) ∧ w'.cell? ⟨OB, 2, none⟩ = some (.bool om) ∧ w'.cell? ⟨OB, 3, none⟩ = some (.slice o1 ol r1) ∧ w'.cell? ⟨OB, 4, none⟩ = some (.slice o2 ok r2) ∧ w'.cell? ⟨TB, 0, none⟩ = some (.int .i64 tc) ∧ w'.cell? ⟨TB, 1, none⟩ = some (.int .i64 tg) ∧ w'.cell? ⟨TB, 2, none⟩ = some (.bool tm) ∧ w'.cell? ⟨TB, 3, none⟩ = some (.slice t1 tl u1) ∧ w'.cell? ⟨TB, 4, none⟩ = some (.slice t2 tk u2)) := fun w' h1 h2 => by
  obtain ⟨a0, a1, a2, a3, a4⟩ := five_at h1
  obtain ⟨b0, b1, b2, b3, b4⟩ := five_at h2
  exact ⟨a0, a1, a2, a3, a4, b0, b1, b2, b3, b4⟩
 clear hO hT hb4 hb5 hA4 hR2 hR3 hco hct hvo hvt hvp hcd hp hot hpc hpt hpm hpl hpk hoc hog hom hol hok htc htg htm htl htk HV Hvk
 go_wp2
 clear k0 k1 k2 k3 k4 d0 d1 d2 d3 d4 f0 f1 f2 f3 f4 m0 m1 m2 m3 m4 x0 x1 x2 x3 x4 n0 n1 n2 n3 n4 hw1 hw2 hw3 hw4 hw5 eR2 eR3 eOB eTB
 by_cases y1 : tc = 0
 ·subst y1
  by_cases y2 : tg = 12
  ·subst y2
   have HE : Hid (pairV v = (ov, tv, true)) := by show _ = _; rw [u_ HPV]; rfl
   refine wp_region_held_drew (S := fun w' => w'.cell? ⟨OB, 0, none⟩ = some (.int .i64 oc) ∧ w'.cell? ⟨OB, 1, none⟩ = some (.int .i64 og) ∧ w'.cell? ⟨OB, 2, none⟩ = some (.bool om) ∧ w'.cell? ⟨OB, 3, none⟩ = some (.slice o1 ol r1) ∧ w'.cell? ⟨OB, 4, none⟩ = some (.slice o2 ok r2) ∧ w'.cell? ⟨TB, 0, none⟩ = some (.int .i64 0) ∧ w'.cell? ⟨TB, 1, none⟩ = some (.int .i64 12) ∧ w'.cell? ⟨TB, 2, none⟩ = some (.bool tm) ∧ w'.cell? ⟨TB, 3, none⟩ = some (.slice t1 tl u1) ∧ w'.cell? ⟨TB, 4, none⟩ = some (.slice t2 tk u2)) (by kernel_rfl) (u_ HSz _ HO5.drew HT5.drew) (fun hHeld => ?_)
   refine wpAnyH_take (i := 0) (oi := { dst := some 62, op := .load 33 (.tmp 5), type := 33, pos := "ref.go:206", after := #[], guard := none }) (v := ?_) rfl (by kernel_rfl) (by kernel_rfl) (by kernel_rfl) (fun _ _ _ h => h) (Or.inl ⟨by rfl, ?rby0⟩) hHeld ?_
   case rby0 => (intro w_ hSw; obtain ⟨g0, g1, g2, g3, g4, h0, h1, h2, h3, h4⟩ := hSw; go_simp; try with_reducible rfl)
   simp only [Act.put, s1_, s2_, s3_]
   refine wpAnyH_take (i := 1) (oi := { dst := some 63, op := .load 33 (.tmp 6), type := 33, pos := "ref.go:206", after := #[{ on := 15, ground := .gcOnly Departure.lateStores }], guard := none }) (v := ?_) rfl (by kernel_rfl) (by kernel_rfl) (by kernel_rfl) (fun _ _ _ h => h) (Or.inl ⟨by rfl, ?rby1⟩) hHeld ?_
   case rby1 => (intro w_ hSw; obtain ⟨g0, g1, g2, g3, g4, h0, h1, h2, h3, h4⟩ := hSw; go_simp; try with_reducible rfl)
   simp only [Act.put, s1_, s2_, s3_]
   refine wpAnyH_take (i := 2) (oi := { dst := some 64, op := .fieldAddr 33 (.tmp 6) 0, type := 0, pos := "ref.go:206", after := #[], guard := none }) (v := ?_) rfl (by kernel_rfl) (by kernel_rfl) (by kernel_rfl) (fun _ _ _ h => h) (Or.inl ⟨by rfl, ?rby2⟩) hHeld ?_
   case rby2 => (intro w_ hSw; obtain ⟨g0, g1, g2, g3, g4, h0, h1, h2, h3, h4⟩ := hSw; go_simp; try with_reducible rfl)
   simp only [Act.put, s1_, s2_, s3_]
   refine wpAnyH_take (i := 3) (oi := { dst := some 65, op := .load 3 (.tmp 64), type := 3, pos := "ref.go:206", after := #[{ on := 2, ground := .data }], guard := none }) (v := ?_) rfl (by kernel_rfl) (by kernel_rfl) (by kernel_rfl) (fun _ _ _ h => h) (Or.inl ⟨by rfl, ?rby3⟩) hHeld ?_
   case rby3 => (intro w_ hSw; obtain ⟨g0, g1, g2, g3, g4, h0, h1, h2, h3, h4⟩ := hSw; go_simp; try with_reducible rfl)
   simp only [Act.put, s1_, s2_, s3_]
   refine wpAnyH_take (i := 4) (oi := { dst := some 66, op := .binOp .eql 3 (.tmp 65) (.const (.int .i64 0)) 3, type := 4, pos := "ref.go:206", after := #[{ on := 3, ground := .data }], guard := none }) (v := ?_) rfl (by kernel_rfl) (by kernel_rfl) (by kernel_rfl) (fun _ _ _ h => h) (Or.inl ⟨by rfl, ?rby4⟩) hHeld ?_
   case rby4 => (intro w_ hSw; obtain ⟨g0, g1, g2, g3, g4, h0, h1, h2, h3, h4⟩ := hSw; go_simp; try with_reducible rfl)
   simp only [Act.put, s1_, s2_, s3_]
   refine wpAnyH_take (i := 5) (oi := { dst := some 67, op := .move (.tmp 66), type := 4, pos := "ref.go:206", after := #[{ on := 4, ground := .data }], guard := none }) (v := ?_) rfl (by kernel_rfl) (by kernel_rfl) (by kernel_rfl) (fun _ _ _ h => h) (Or.inl ⟨by rfl, ?rby5⟩) hHeld ?_
   case rby5 => (intro w_ hSw; obtain ⟨g0, g1, g2, g3, g4, h0, h1, h2, h3, h4⟩ := hSw; go_simp; try with_reducible rfl)
   simp only [Act.put, s1_, s2_, s3_]
   refine wpAnyH_take (i := 6) (oi := { dst := some 68, op := .fieldAddr 33 (.tmp 6) 1, type := 0, pos := "ref.go:206", after := #[{ on := 5, ground := .guard }], guard := some (5, true) }) (v := ?_) rfl (by kernel_rfl) (by kernel_rfl) (by kernel_rfl) (fun _ _ _ h => h) (Or.inl ⟨by rfl, ?rby6⟩) hHeld ?_
   case rby6 => (intro w_ hSw; obtain ⟨g0, g1, g2, g3, g4, h0, h1, h2, h3, h4⟩ := hSw; go_simp; try with_reducible rfl)
   simp only [Act.put, s1_, s2_, s3_]
   refine wpAnyH_take (i := 7) (oi := { dst := some 69, op := .load 3 (.tmp 68), type := 3, pos := "ref.go:206", after := #[{ on := 6, ground := .data }, { on := 5, ground := .guard }], guard := some (5, true) }) (v := ?_) rfl (by kernel_rfl) (by kernel_rfl) (by kernel_rfl) (fun _ _ _ h => h) (Or.inl ⟨by rfl, ?rby7⟩) hHeld ?_
   case rby7 => (intro w_ hSw; obtain ⟨g0, g1, g2, g3, g4, h0, h1, h2, h3, h4⟩ := hSw; go_simp; try with_reducible rfl)
   simp only [Act.put, s1_, s2_, s3_]
   refine wpAnyH_take (i := 8) (oi := { dst := some 70, op := .binOp .eql 3 (.tmp 69) (.const (.int .i64 12)) 3, type := 4, pos := "ref.go:206", after := #[{ on := 7, ground := .data }, { on := 5, ground := .guard }], guard := some (5, true) }) (v := ?_) rfl (by kernel_rfl) (by kernel_rfl) (by kernel_rfl) (fun _ _ _ h => h) (Or.inl ⟨by rfl, ?rby8⟩) hHeld ?_
   case rby8 => (intro w_ hSw; obtain ⟨g0, g1, g2, g3, g4, h0, h1, h2, h3, h4⟩ := hSw; go_simp; try with_reducible rfl)
   simp only [Act.put, s1_, s2_, s3_]
   refine wpAnyH_take (i := 9) (oi := { dst := some 71, op := .move (.tmp 70), type := 4, pos := "ref.go:206", after := #[{ on := 8, ground := .data }, { on := 5, ground := .chain }, { on := 5, ground := .guard }], guard := some (5, true) }) (v := ?_) rfl (by kernel_rfl) (by kernel_rfl) (by kernel_rfl) (fun _ _ _ h => h) (Or.inl ⟨by rfl, ?rby9⟩) hHeld ?_
   case rby9 => (intro w_ hSw; obtain ⟨g0, g1, g2, g3, g4, h0, h1, h2, h3, h4⟩ := hSw; go_simp; try with_reducible rfl)
   simp only [Act.put, s1_, s2_, s3_]
   refine wpAnyH_take (i := 10) (oi := { dst := some 72, op := .fieldAddr 33 (.tmp 6) 1, type := 0, pos := "ref.go:206", after := #[{ on := 9, ground := .guard }, { on := 16, ground := .gcOnly Departure.lateStores }], guard := some (9, false) }) (v := undef) rfl (by kernel_rfl) (by kernel_rfl) (by kernel_rfl) (fun _ _ _ h => h) (Or.inr ⟨by rfl, rfl⟩) hHeld ?_
   simp only [Act.put, s1_, s2_, s3_]
   refine wpAnyH_take (i := 11) (oi := { dst := some 73, op := .load 3 (.tmp 72), type := 3, pos := "ref.go:206", after := #[{ on := 10, ground := .data }, { on := 9, ground := .guard }, { on := 16, ground := .gcOnly Departure.lateStores }], guard := some (9, false) }) (v := undef) rfl (by kernel_rfl) (by kernel_rfl) (by kernel_rfl) (fun _ _ _ h => h) (Or.inr ⟨by rfl, rfl⟩) hHeld ?_
   simp only [Act.put, s1_, s2_, s3_]
   refine wpAnyH_take (i := 12) (oi := { dst := some 74, op := .binOp .eql 3 (.tmp 73) (.const (.int .i64 19)) 3, type := 4, pos := "ref.go:206", after := #[{ on := 11, ground := .data }, { on := 9, ground := .guard }, { on := 16, ground := .gcOnly Departure.lateStores }], guard := some (9, false) }) (v := undef) rfl (by kernel_rfl) (by kernel_rfl) (by kernel_rfl) (fun _ _ _ h => h) (Or.inr ⟨by rfl, rfl⟩) hHeld ?_
   simp only [Act.put, s1_, s2_, s3_]
   refine wpAnyH_take (i := 13) (oi := { dst := some 75, op := .pick (.tmp 71) (.const (.bool true)) (.tmp 74), type := 4, pos := "ref.go:206", after := #[{ on := 9, ground := .data }, { on := 12, ground := .data }, { on := 5, ground := .guard }, { on := 16, ground := .gcOnly Departure.lateStores }], guard := some (5, true) }) (v := ?_) rfl (by kernel_rfl) (by kernel_rfl) (by kernel_rfl) (fun _ _ _ h => h) (Or.inl ⟨by rfl, ?rby13⟩) hHeld ?_
   case rby13 => (intro w_ hSw; obtain ⟨g0, g1, g2, g3, g4, h0, h1, h2, h3, h4⟩ := hSw; go_simp; try with_reducible rfl)
   simp only [Act.put, s1_, s2_, s3_]
   refine wpAnyH_take (i := 14) (oi := { dst := some 76, op := .pick (.tmp 67) (.tmp 75) (.const (.bool false)), type := 4, pos := "ref.go:206", after := #[{ on := 5, ground := .data }, { on := 13, ground := .data }, { on := 16, ground := .gcOnly Departure.lateStores }], guard := none }) (v := ?_) rfl (by kernel_rfl) (by kernel_rfl) (by kernel_rfl) (fun _ _ _ h => h) (Or.inl ⟨by rfl, ?rby14⟩) hHeld ?_
   case rby14 => (intro w_ hSw; obtain ⟨g0, g1, g2, g3, g4, h0, h1, h2, h3, h4⟩ := hSw; go_simp; try with_reducible rfl)
   simp only [Act.put, s1_, s2_, s3_]
   refine wpAnyH_ready (rs := [15]) (by kernel_rfl) (by simp) ?_
   refine AllReadyH.cons (o := { dst := none, op := .store 33 (.tmp 2) (.tmp 62), type := 0, pos := "ref.go:206", after := #[{ on := 0, ground := .data }, { on := 9, ground := .chain }, { on := 0, ground := .phase }, { on := 1, ground := .textOnly Departure.lateStores }, { on := 2, ground := .textOnly Departure.lateStores }, { on := 3, ground := .textOnly Departure.lateStores }, { on := 4, ground := .textOnly Departure.lateStores }, { on := 5, ground := .textOnly Departure.lateStores }, { on := 6, ground := .textOnly Departure.lateStores }, { on := 7, ground := .textOnly Departure.lateStores }, { on := 8, ground := .textOnly Departure.lateStores }, { on := 9, ground := .textOnly Departure.lateStores }, { on := 10, ground := .textOnly Departure.lateStores }, { on := 11, ground := .textOnly Departure.lateStores }, { on := 12, ground := .textOnly Departure.lateStores }, { on := 13, ground := .textOnly Departure.lateStores }, { on := 14, ground := .textOnly Departure.lateStores }], guard := none }) rfl (fun K_ hK_ => ?_) AllReadyH.nil
   obtain ⟨wa, hwa⟩ := exq ((w5.drew).setRow R2 #[.int .i64 oc, .int .i64 og, .bool om, .slice o1 ol r1, .slice o2 ok r2])
   have HO6 : Hid (Blk w wa OB #[.int .i64 oc, .int .i64 og, .bool om, .slice o1 ol r1, .slice o2 ok r2] 33) := by show Blk _ _ _ _ _; rw [← hwa]; exact HO5.drew.other HR2.ge HNe.1 _
   have HT6 : Hid (Blk w wa TB #[.int .i64 0, .int .i64 12, .bool tm, .slice t1 tl u1, .slice t2 tk u2] 33) := by show Blk _ _ _ _ _; rw [← hwa]; exact HT5.drew.other HR2.ge HNe.2.1 _
   have HR2a : Hid (Blk w wa R2 #[.int .i64 oc, .int .i64 og, .bool om, .slice o1 ol r1, .slice o2 ok r2] 33) := by show Blk _ _ _ _ _; rw [← hwa]; exact HR2.drew.set _
   have HR3a : Hid (Blk w wa R3 #[.int .i64 0, .int .i64 0, .bool false, .slice none 0 0, .slice none 0 0] 33) := by show Blk _ _ _ _ _; rw [← hwa]; exact HR3.drew.other HR2.ge HNe.2.2.1 _
   rw [if_pos (by rfl)]
   refine wp_store_row 33 _ _ rfl R2 #[.int .i64 oc, .int .i64 og, .bool om, .slice o1 ol r1, .slice o2 ok r2] rfl rfl 33 _ HR2.drew.res rvalue5p rfl (by simp [Value.oneCell']) ?_
   rw [hwa]
   refine hK_.out _ _ (u_ HSz _ (u_ HO6) (u_ HT6)) (fun hHeld => ?_)
   clear hK_ K_
   refine wpAnyH_ready (rs := [16]) (by kernel_rfl) (by simp) ?_
   refine AllReadyH.cons (o := { dst := none, op := .store 33 (.tmp 3) (.tmp 63), type := 0, pos := "ref.go:206", after := #[{ on := 1, ground := .data }, { on := 15, ground := .chain }, { on := 0, ground := .phase }, { on := 1, ground := .phase }, { on := 2, ground := .textOnly Departure.lateStores }, { on := 3, ground := .textOnly Departure.lateStores }, { on := 4, ground := .textOnly Departure.lateStores }, { on := 5, ground := .textOnly Departure.lateStores }, { on := 6, ground := .textOnly Departure.lateStores }, { on := 7, ground := .textOnly Departure.lateStores }, { on := 8, ground := .textOnly Departure.lateStores }, { on := 9, ground := .textOnly Departure.lateStores }, { on := 10, ground := .textOnly Departure.lateStores }, { on := 11, ground := .textOnly Departure.lateStores }, { on := 12, ground := .textOnly Departure.lateStores }, { on := 13, ground := .textOnly Departure.lateStores }, { on := 14, ground := .textOnly Departure.lateStores }, { on := 15, ground := .phase }], guard := none }) rfl (fun K_ hK_ => ?_) AllReadyH.nil
   obtain ⟨wb, hwb⟩ := exq ((wa).setRow R3 #[.int .i64 0, .int .i64 12, .bool tm, .slice t1 tl u1, .slice t2 tk u2])
   have HO7 : Hid (Blk w wb OB #[.int .i64 oc, .int .i64 og, .bool om, .slice o1 ol r1, .slice o2 ok r2] 33) := by show Blk _ _ _ _ _; rw [← hwb]; exact HO6.other HR3.ge HNe.2.2.2.1 _
   have HT7 : Hid (Blk w wb TB #[.int .i64 0, .int .i64 12, .bool tm, .slice t1 tl u1, .slice t2 tk u2] 33) := by show Blk _ _ _ _ _; rw [← hwb]; exact HT6.other HR3.ge HNe.2.2.2.2.1 _
   have HR2b : Hid (Blk w wb R2 #[.int .i64 oc, .int .i64 og, .bool om, .slice o1 ol r1, .slice o2 ok r2] 33) := by show Blk _ _ _ _ _; rw [← hwb]; exact HR2a.other HR3.ge HNe.2.2.2.2.2 _
   have HR3b : Hid (Blk w wb R3 #[.int .i64 0, .int .i64 12, .bool tm, .slice t1 tl u1, .slice t2 tk u2] 33) := by show Blk _ _ _ _ _; rw [← hwb]; exact HR3a.set _
   rw [if_pos (by rfl)]
   refine wp_store_row 33 _ _ rfl R3 #[.int .i64 0, .int .i64 12, .bool tm, .slice t1 tl u1, .slice t2 tk u2] rfl rfl 33 _ HR3a.res rvalue5p rfl (by simp [Value.oneCell']) ?_
   rw [hwb]
   refine hK_.out _ _ (u_ HSz _ (u_ HO7) (u_ HT7)) (fun hHeld => ?_)
   clear hK_ K_
   refine wpAnyH_take (i := 17) (oi := { dst := some 4, op := .assign (.tmp 76), type := 4, pos := "ref.go:206", after := #[{ on := 14, ground := .data }, { on := 16, ground := .chain }, { on := 0, ground := .phase }, { on := 1, ground := .phase }, { on := 2, ground := .phase }, { on := 3, ground := .phase }, { on := 4, ground := .phase }, { on := 5, ground := .phase }, { on := 6, ground := .phase }, { on := 7, ground := .phase }, { on := 8, ground := .phase }, { on := 9, ground := .phase }, { on := 10, ground := .phase }, { on := 11, ground := .phase }, { on := 12, ground := .phase }, { on := 13, ground := .phase }, { on := 14, ground := .phase }, { on := 15, ground := .phase }, { on := 16, ground := .phase }], guard := none }) (v := ?_) rfl (by kernel_rfl) (by kernel_rfl) (by kernel_rfl) (fun _ _ _ h => h) (Or.inl ⟨by rfl, ?rby17⟩) hHeld ?_
   case rby17 => (intro w_ hSw; go_simp; try with_reducible rfl)
   simp only [Act.put, s1_, s2_, s3_]
   refine wpAnyH_done (by kernel_rfl) ?_ _
   clear hHeld
   go_wp2
   refine bodyPost_ret (res_rows_tmp Tryz.results58 _ _ R2 R3 33 #[.int .i64 oc, .int .i64 og, .bool om, .slice o1 ol r1, .slice o2 ok r2] #[.int .i64 0, .int .i64 12, .bool tm, .slice t1 tl u1, .slice t2 tk u2] (0, 0) (0, 0) _ rfl rfl HR2b.res HR3b.res Tryz.underlying33 rfl rvalue5p rvalue5p _ rfl) rfl ⟨[.int .i64 oc, .int .i64 og, .bool om, .slice o1 ol r1, .slice o2 ok r2], [.int .i64 0, .int .i64 12, .bool tm, .slice t1 tl u1, .slice t2 tk u2], by rw [u_ HE]; rfl, ?_⟩
   exact ⟨by rw [u_ HE]; exact ⟨no, HVo.below HR2b.b⟩, by rw [u_ HE]; exact ⟨nt, HVt.below HR2b.b⟩, HR2b.b⟩
  ·have q1 : (tg == 12) = false := by simpa using y2
   by_cases y3 : tg = 19
   ·subst y3
    have HE : Hid (pairV v = (ov, tv, true)) := by show _ = _; rw [u_ HPV]; rfl
    clear y2
    refine wp_region_held_drew (S := fun w' => w'.cell? ⟨OB, 0, none⟩ = some (.int .i64 oc) ∧ w'.cell? ⟨OB, 1, none⟩ = some (.int .i64 og) ∧ w'.cell? ⟨OB, 2, none⟩ = some (.bool om) ∧ w'.cell? ⟨OB, 3, none⟩ = some (.slice o1 ol r1) ∧ w'.cell? ⟨OB, 4, none⟩ = some (.slice o2 ok r2) ∧ w'.cell? ⟨TB, 0, none⟩ = some (.int .i64 0) ∧ w'.cell? ⟨TB, 1, none⟩ = some (.int .i64 19) ∧ w'.cell? ⟨TB, 2, none⟩ = some (.bool tm) ∧ w'.cell? ⟨TB, 3, none⟩ = some (.slice t1 tl u1) ∧ w'.cell? ⟨TB, 4, none⟩ = some (.slice t2 tk u2)) (by kernel_rfl) (u_ HSz _ HO5.drew HT5.drew) (fun hHeld => ?_)
    refine wpAnyH_take (i := 0) (oi := { dst := some 62, op := .load 33 (.tmp 5), type := 33, pos := "ref.go:206", after := #[], guard := none }) (v := ?_) rfl (by kernel_rfl) (by kernel_rfl) (by kernel_rfl) (fun _ _ _ h => h) (Or.inl ⟨by rfl, ?rcy0⟩) hHeld ?_
    case rcy0 => (intro w_ hSw; obtain ⟨g0, g1, g2, g3, g4, h0, h1, h2, h3, h4⟩ := hSw; go_simp; try with_reducible rfl)
    simp only [Act.put, s1_, s2_, s3_]
    refine wpAnyH_take (i := 1) (oi := { dst := some 63, op := .load 33 (.tmp 6), type := 33, pos := "ref.go:206", after := #[{ on := 15, ground := .gcOnly Departure.lateStores }], guard := none }) (v := ?_) rfl (by kernel_rfl) (by kernel_rfl) (by kernel_rfl) (fun _ _ _ h => h) (Or.inl ⟨by rfl, ?rcy1⟩) hHeld ?_
    case rcy1 => (intro w_ hSw; obtain ⟨g0, g1, g2, g3, g4, h0, h1, h2, h3, h4⟩ := hSw; go_simp; try with_reducible rfl)
    simp only [Act.put, s1_, s2_, s3_]
    refine wpAnyH_take (i := 2) (oi := { dst := some 64, op := .fieldAddr 33 (.tmp 6) 0, type := 0, pos := "ref.go:206", after := #[], guard := none }) (v := ?_) rfl (by kernel_rfl) (by kernel_rfl) (by kernel_rfl) (fun _ _ _ h => h) (Or.inl ⟨by rfl, ?rcy2⟩) hHeld ?_
    case rcy2 => (intro w_ hSw; obtain ⟨g0, g1, g2, g3, g4, h0, h1, h2, h3, h4⟩ := hSw; go_simp; try with_reducible rfl)
    simp only [Act.put, s1_, s2_, s3_]
    refine wpAnyH_take (i := 3) (oi := { dst := some 65, op := .load 3 (.tmp 64), type := 3, pos := "ref.go:206", after := #[{ on := 2, ground := .data }], guard := none }) (v := ?_) rfl (by kernel_rfl) (by kernel_rfl) (by kernel_rfl) (fun _ _ _ h => h) (Or.inl ⟨by rfl, ?rcy3⟩) hHeld ?_
    case rcy3 => (intro w_ hSw; obtain ⟨g0, g1, g2, g3, g4, h0, h1, h2, h3, h4⟩ := hSw; go_simp; try with_reducible rfl)
    simp only [Act.put, s1_, s2_, s3_]
    refine wpAnyH_take (i := 4) (oi := { dst := some 66, op := .binOp .eql 3 (.tmp 65) (.const (.int .i64 0)) 3, type := 4, pos := "ref.go:206", after := #[{ on := 3, ground := .data }], guard := none }) (v := ?_) rfl (by kernel_rfl) (by kernel_rfl) (by kernel_rfl) (fun _ _ _ h => h) (Or.inl ⟨by rfl, ?rcy4⟩) hHeld ?_
    case rcy4 => (intro w_ hSw; obtain ⟨g0, g1, g2, g3, g4, h0, h1, h2, h3, h4⟩ := hSw; go_simp; try with_reducible rfl)
    simp only [Act.put, s1_, s2_, s3_]
    refine wpAnyH_take (i := 5) (oi := { dst := some 67, op := .move (.tmp 66), type := 4, pos := "ref.go:206", after := #[{ on := 4, ground := .data }], guard := none }) (v := ?_) rfl (by kernel_rfl) (by kernel_rfl) (by kernel_rfl) (fun _ _ _ h => h) (Or.inl ⟨by rfl, ?rcy5⟩) hHeld ?_
    case rcy5 => (intro w_ hSw; obtain ⟨g0, g1, g2, g3, g4, h0, h1, h2, h3, h4⟩ := hSw; go_simp; try with_reducible rfl)
    simp only [Act.put, s1_, s2_, s3_]
    refine wpAnyH_take (i := 6) (oi := { dst := some 68, op := .fieldAddr 33 (.tmp 6) 1, type := 0, pos := "ref.go:206", after := #[{ on := 5, ground := .guard }], guard := some (5, true) }) (v := ?_) rfl (by kernel_rfl) (by kernel_rfl) (by kernel_rfl) (fun _ _ _ h => h) (Or.inl ⟨by rfl, ?rcy6⟩) hHeld ?_
    case rcy6 => (intro w_ hSw; obtain ⟨g0, g1, g2, g3, g4, h0, h1, h2, h3, h4⟩ := hSw; go_simp; try with_reducible rfl)
    simp only [Act.put, s1_, s2_, s3_]
    refine wpAnyH_take (i := 7) (oi := { dst := some 69, op := .load 3 (.tmp 68), type := 3, pos := "ref.go:206", after := #[{ on := 6, ground := .data }, { on := 5, ground := .guard }], guard := some (5, true) }) (v := ?_) rfl (by kernel_rfl) (by kernel_rfl) (by kernel_rfl) (fun _ _ _ h => h) (Or.inl ⟨by rfl, ?rcy7⟩) hHeld ?_
    case rcy7 => (intro w_ hSw; obtain ⟨g0, g1, g2, g3, g4, h0, h1, h2, h3, h4⟩ := hSw; go_simp; try with_reducible rfl)
    simp only [Act.put, s1_, s2_, s3_]
    refine wpAnyH_take (i := 8) (oi := { dst := some 70, op := .binOp .eql 3 (.tmp 69) (.const (.int .i64 12)) 3, type := 4, pos := "ref.go:206", after := #[{ on := 7, ground := .data }, { on := 5, ground := .guard }], guard := some (5, true) }) (v := ?_) rfl (by kernel_rfl) (by kernel_rfl) (by kernel_rfl) (fun _ _ _ h => h) (Or.inl ⟨by rfl, ?rcy8⟩) hHeld ?_
    case rcy8 => (intro w_ hSw; obtain ⟨g0, g1, g2, g3, g4, h0, h1, h2, h3, h4⟩ := hSw; go_simp; try with_reducible rfl)
    simp only [Act.put, s1_, s2_, s3_]
    refine wpAnyH_take (i := 9) (oi := { dst := some 71, op := .move (.tmp 70), type := 4, pos := "ref.go:206", after := #[{ on := 8, ground := .data }, { on := 5, ground := .chain }, { on := 5, ground := .guard }], guard := some (5, true) }) (v := ?_) rfl (by kernel_rfl) (by kernel_rfl) (by kernel_rfl) (fun _ _ _ h => h) (Or.inl ⟨by rfl, ?rcy9⟩) hHeld ?_
    case rcy9 => (intro w_ hSw; obtain ⟨g0, g1, g2, g3, g4, h0, h1, h2, h3, h4⟩ := hSw; go_simp; try with_reducible rfl)
    simp only [Act.put, s1_, s2_, s3_]
    refine wpAnyH_take (i := 10) (oi := { dst := some 72, op := .fieldAddr 33 (.tmp 6) 1, type := 0, pos := "ref.go:206", after := #[{ on := 9, ground := .guard }, { on := 16, ground := .gcOnly Departure.lateStores }], guard := some (9, false) }) (v := ?_) rfl (by kernel_rfl) (by kernel_rfl) (by kernel_rfl) (fun _ _ _ h => h) (Or.inl ⟨by rfl, ?rcy10⟩) hHeld ?_
    case rcy10 => (intro w_ hSw; obtain ⟨g0, g1, g2, g3, g4, h0, h1, h2, h3, h4⟩ := hSw; go_simp; try with_reducible rfl)
    simp only [Act.put, s1_, s2_, s3_]
    refine wpAnyH_take (i := 11) (oi := { dst := some 73, op := .load 3 (.tmp 72), type := 3, pos := "ref.go:206", after := #[{ on := 10, ground := .data }, { on := 9, ground := .guard }, { on := 16, ground := .gcOnly Departure.lateStores }], guard := some (9, false) }) (v := ?_) rfl (by kernel_rfl) (by kernel_rfl) (by kernel_rfl) (fun _ _ _ h => h) (Or.inl ⟨by rfl, ?rcy11⟩) hHeld ?_
    case rcy11 => (intro w_ hSw; obtain ⟨g0, g1, g2, g3, g4, h0, h1, h2, h3, h4⟩ := hSw; go_simp; try with_reducible rfl)
    simp only [Act.put, s1_, s2_, s3_]
    refine wpAnyH_take (i := 12) (oi := { dst := some 74, op := .binOp .eql 3 (.tmp 73) (.const (.int .i64 19)) 3, type := 4, pos := "ref.go:206", after := #[{ on := 11, ground := .data }, { on := 9, ground := .guard }, { on := 16, ground := .gcOnly Departure.lateStores }], guard := some (9, false) }) (v := ?_) rfl (by kernel_rfl) (by kernel_rfl) (by kernel_rfl) (fun _ _ _ h => h) (Or.inl ⟨by rfl, ?rcy12⟩) hHeld ?_
    case rcy12 => (intro w_ hSw; obtain ⟨g0, g1, g2, g3, g4, h0, h1, h2, h3, h4⟩ := hSw; go_simp; try with_reducible rfl)
    simp only [Act.put, s1_, s2_, s3_]
    refine wpAnyH_take (i := 13) (oi := { dst := some 75, op := .pick (.tmp 71) (.const (.bool true)) (.tmp 74), type := 4, pos := "ref.go:206", after := #[{ on := 9, ground := .data }, { on := 12, ground := .data }, { on := 5, ground := .guard }, { on := 16, ground := .gcOnly Departure.lateStores }], guard := some (5, true) }) (v := ?_) rfl (by kernel_rfl) (by kernel_rfl) (by kernel_rfl) (fun _ _ _ h => h) (Or.inl ⟨by rfl, ?rcy13⟩) hHeld ?_
    case rcy13 => (intro w_ hSw; obtain ⟨g0, g1, g2, g3, g4, h0, h1, h2, h3, h4⟩ := hSw; go_simp; try with_reducible rfl)
    simp only [Act.put, s1_, s2_, s3_]
    refine wpAnyH_take (i := 14) (oi := { dst := some 76, op := .pick (.tmp 67) (.tmp 75) (.const (.bool false)), type := 4, pos := "ref.go:206", after := #[{ on := 5, ground := .data }, { on := 13, ground := .data }, { on := 16, ground := .gcOnly Departure.lateStores }], guard := none }) (v := ?_) rfl (by kernel_rfl) (by kernel_rfl) (by kernel_rfl) (fun _ _ _ h => h) (Or.inl ⟨by rfl, ?rcy14⟩) hHeld ?_
    case rcy14 => (intro w_ hSw; obtain ⟨g0, g1, g2, g3, g4, h0, h1, h2, h3, h4⟩ := hSw; go_simp; try with_reducible rfl)
    simp only [Act.put, s1_, s2_, s3_]
    refine wpAnyH_ready (rs := [15]) (by kernel_rfl) (by simp) ?_
    refine AllReadyH.cons (o := { dst := none, op := .store 33 (.tmp 2) (.tmp 62), type := 0, pos := "ref.go:206", after := #[{ on := 0, ground := .data }, { on := 9, ground := .chain }, { on := 0, ground := .phase }, { on := 1, ground := .textOnly Departure.lateStores }, { on := 2, ground := .textOnly Departure.lateStores }, { on := 3, ground := .textOnly Departure.lateStores }, { on := 4, ground := .textOnly Departure.lateStores }, { on := 5, ground := .textOnly Departure.lateStores }, { on := 6, ground := .textOnly Departure.lateStores }, { on := 7, ground := .textOnly Departure.lateStores }, { on := 8, ground := .textOnly Departure.lateStores }, { on := 9, ground := .textOnly Departure.lateStores }, { on := 10, ground := .textOnly Departure.lateStores }, { on := 11, ground := .textOnly Departure.lateStores }, { on := 12, ground := .textOnly Departure.lateStores }, { on := 13, ground := .textOnly Departure.lateStores }, { on := 14, ground := .textOnly Departure.lateStores }], guard := none }) rfl (fun K_ hK_ => ?_) AllReadyH.nil
    obtain ⟨wa, hwa⟩ := exq ((w5.drew).setRow R2 #[.int .i64 oc, .int .i64 og, .bool om, .slice o1 ol r1, .slice o2 ok r2])
    have HO6 : Hid (Blk w wa OB #[.int .i64 oc, .int .i64 og, .bool om, .slice o1 ol r1, .slice o2 ok r2] 33) := by show Blk _ _ _ _ _; rw [← hwa]; exact HO5.drew.other HR2.ge HNe.1 _
    have HT6 : Hid (Blk w wa TB #[.int .i64 0, .int .i64 19, .bool tm, .slice t1 tl u1, .slice t2 tk u2] 33) := by show Blk _ _ _ _ _; rw [← hwa]; exact HT5.drew.other HR2.ge HNe.2.1 _
    have HR2a : Hid (Blk w wa R2 #[.int .i64 oc, .int .i64 og, .bool om, .slice o1 ol r1, .slice o2 ok r2] 33) := by show Blk _ _ _ _ _; rw [← hwa]; exact HR2.drew.set _
    have HR3a : Hid (Blk w wa R3 #[.int .i64 0, .int .i64 0, .bool false, .slice none 0 0, .slice none 0 0] 33) := by show Blk _ _ _ _ _; rw [← hwa]; exact HR3.drew.other HR2.ge HNe.2.2.1 _
    rw [if_pos (by rfl)]
    refine wp_store_row 33 _ _ rfl R2 #[.int .i64 oc, .int .i64 og, .bool om, .slice o1 ol r1, .slice o2 ok r2] rfl rfl 33 _ HR2.drew.res rvalue5p rfl (by simp [Value.oneCell']) ?_
    rw [hwa]
    refine hK_.out _ _ (u_ HSz _ (u_ HO6) (u_ HT6)) (fun hHeld => ?_)
    clear hK_ K_
    refine wpAnyH_ready (rs := [16]) (by kernel_rfl) (by simp) ?_
    refine AllReadyH.cons (o := { dst := none, op := .store 33 (.tmp 3) (.tmp 63), type := 0, pos := "ref.go:206", after := #[{ on := 1, ground := .data }, { on := 15, ground := .chain }, { on := 0, ground := .phase }, { on := 1, ground := .phase }, { on := 2, ground := .textOnly Departure.lateStores }, { on := 3, ground := .textOnly Departure.lateStores }, { on := 4, ground := .textOnly Departure.lateStores }, { on := 5, ground := .textOnly Departure.lateStores }, { on := 6, ground := .textOnly Departure.lateStores }, { on := 7, ground := .textOnly Departure.lateStores }, { on := 8, ground := .textOnly Departure.lateStores }, { on := 9, ground := .textOnly Departure.lateStores }, { on := 10, ground := .textOnly Departure.lateStores }, { on := 11, ground := .textOnly Departure.lateStores }, { on := 12, ground := .textOnly Departure.lateStores }, { on := 13, ground := .textOnly Departure.lateStores }, { on := 14, ground := .textOnly Departure.lateStores }, { on := 15, ground := .phase }], guard := none }) rfl (fun K_ hK_ => ?_) AllReadyH.nil
    obtain ⟨wb, hwb⟩ := exq ((wa).setRow R3 #[.int .i64 0, .int .i64 19, .bool tm, .slice t1 tl u1, .slice t2 tk u2])
    have HO7 : Hid (Blk w wb OB #[.int .i64 oc, .int .i64 og, .bool om, .slice o1 ol r1, .slice o2 ok r2] 33) := by show Blk _ _ _ _ _; rw [← hwb]; exact HO6.other HR3.ge HNe.2.2.2.1 _
    have HT7 : Hid (Blk w wb TB #[.int .i64 0, .int .i64 19, .bool tm, .slice t1 tl u1, .slice t2 tk u2] 33) := by show Blk _ _ _ _ _; rw [← hwb]; exact HT6.other HR3.ge HNe.2.2.2.2.1 _
    have HR2b : Hid (Blk w wb R2 #[.int .i64 oc, .int .i64 og, .bool om, .slice o1 ol r1, .slice o2 ok r2] 33) := by show Blk _ _ _ _ _; rw [← hwb]; exact HR2a.other HR3.ge HNe.2.2.2.2.2 _
    have HR3b : Hid (Blk w wb R3 #[.int .i64 0, .int .i64 19, .bool tm, .slice t1 tl u1, .slice t2 tk u2] 33) := by show Blk _ _ _ _ _; rw [← hwb]; exact HR3a.set _
    rw [if_pos (by rfl)]
    refine wp_store_row 33 _ _ rfl R3 #[.int .i64 0, .int .i64 19, .bool tm, .slice t1 tl u1, .slice t2 tk u2] rfl rfl 33 _ HR3a.res rvalue5p rfl (by simp [Value.oneCell']) ?_
    rw [hwb]
    refine hK_.out _ _ (u_ HSz _ (u_ HO7) (u_ HT7)) (fun hHeld => ?_)
    clear hK_ K_
    refine wpAnyH_take (i := 17) (oi := { dst := some 4, op := .assign (.tmp 76), type := 4, pos := "ref.go:206", after := #[{ on := 14, ground := .data }, { on := 16, ground := .chain }, { on := 0, ground := .phase }, { on := 1, ground := .phase }, { on := 2, ground := .phase }, { on := 3, ground := .phase }, { on := 4, ground := .phase }, { on := 5, ground := .phase }, { on := 6, ground := .phase }, { on := 7, ground := .phase }, { on := 8, ground := .phase }, { on := 9, ground := .phase }, { on := 10, ground := .phase }, { on := 11, ground := .phase }, { on := 12, ground := .phase }, { on := 13, ground := .phase }, { on := 14, ground := .phase }, { on := 15, ground := .phase }, { on := 16, ground := .phase }], guard := none }) (v := ?_) rfl (by kernel_rfl) (by kernel_rfl) (by kernel_rfl) (fun _ _ _ h => h) (Or.inl ⟨by rfl, ?rcy17⟩) hHeld ?_
    case rcy17 => (intro w_ hSw; go_simp; try with_reducible rfl)
    simp only [Act.put, s1_, s2_, s3_]
    refine wpAnyH_done (by kernel_rfl) ?_ _
    clear hHeld
    go_wp2
    refine bodyPost_ret (res_rows_tmp Tryz.results58 _ _ R2 R3 33 #[.int .i64 oc, .int .i64 og, .bool om, .slice o1 ol r1, .slice o2 ok r2] #[.int .i64 0, .int .i64 19, .bool tm, .slice t1 tl u1, .slice t2 tk u2] (0, 0) (0, 0) _ rfl rfl HR2b.res HR3b.res Tryz.underlying33 rfl rvalue5p rvalue5p _ rfl) rfl ⟨[.int .i64 oc, .int .i64 og, .bool om, .slice o1 ol r1, .slice o2 ok r2], [.int .i64 0, .int .i64 19, .bool tm, .slice t1 tl u1, .slice t2 tk u2], by rw [u_ HE]; rfl, ?_⟩
    exact ⟨by rw [u_ HE]; exact ⟨no, HVo.below HR2b.b⟩, by rw [u_ HE]; exact ⟨nt, HVt.below HR2b.b⟩, HR2b.b⟩
   ·have q2 : (tg == 19) = false := by simpa using y3
    have HE : Hid (pairV v = (ov, tv, false)) := by show _ = _; rw [u_ HPV, decide_eq_false y2, decide_eq_false y3]; rfl
    clear y2 y3
    refine wp_region_held_drew (S := fun w' => w'.cell? ⟨OB, 0, none⟩ = some (.int .i64 oc) ∧ w'.cell? ⟨OB, 1, none⟩ = some (.int .i64 og) ∧ w'.cell? ⟨OB, 2, none⟩ = some (.bool om) ∧ w'.cell? ⟨OB, 3, none⟩ = some (.slice o1 ol r1) ∧ w'.cell? ⟨OB, 4, none⟩ = some (.slice o2 ok r2) ∧ w'.cell? ⟨TB, 0, none⟩ = some (.int .i64 0) ∧ w'.cell? ⟨TB, 1, none⟩ = some (.int .i64 tg) ∧ w'.cell? ⟨TB, 2, none⟩ = some (.bool tm) ∧ w'.cell? ⟨TB, 3, none⟩ = some (.slice t1 tl u1) ∧ w'.cell? ⟨TB, 4, none⟩ = some (.slice t2 tk u2)) (by kernel_rfl) (u_ HSz _ HO5.drew HT5.drew) (fun hHeld => ?_)
    refine wpAnyH_take (i := 0) (oi := { dst := some 62, op := .load 33 (.tmp 5), type := 33, pos := "ref.go:206", after := #[], guard := none }) (v := ?_) rfl (by kernel_rfl) (by kernel_rfl) (by kernel_rfl) (fun _ _ _ h => h) (Or.inl ⟨by rfl, ?rdy0⟩) hHeld ?_
    case rdy0 => (intro w_ hSw; obtain ⟨g0, g1, g2, g3, g4, h0, h1, h2, h3, h4⟩ := hSw; go_simp; try with_reducible rfl)
    simp only [Act.put, s1_, s2_, s3_]
    refine wpAnyH_take (i := 1) (oi := { dst := some 63, op := .load 33 (.tmp 6), type := 33, pos := "ref.go:206", after := #[{ on := 15, ground := .gcOnly Departure.lateStores }], guard := none }) (v := ?_) rfl (by kernel_rfl) (by kernel_rfl) (by kernel_rfl) (fun _ _ _ h => h) (Or.inl ⟨by rfl, ?rdy1⟩) hHeld ?_
    case rdy1 => (intro w_ hSw; obtain ⟨g0, g1, g2, g3, g4, h0, h1, h2, h3, h4⟩ := hSw; go_simp; try with_reducible rfl)
    simp only [Act.put, s1_, s2_, s3_]
    refine wpAnyH_take (i := 2) (oi := { dst := some 64, op := .fieldAddr 33 (.tmp 6) 0, type := 0, pos := "ref.go:206", after := #[], guard := none }) (v := ?_) rfl (by kernel_rfl) (by kernel_rfl) (by kernel_rfl) (fun _ _ _ h => h) (Or.inl ⟨by rfl, ?rdy2⟩) hHeld ?_
    case rdy2 => (intro w_ hSw; obtain ⟨g0, g1, g2, g3, g4, h0, h1, h2, h3, h4⟩ := hSw; go_simp; try with_reducible rfl)
    simp only [Act.put, s1_, s2_, s3_]
    refine wpAnyH_take (i := 3) (oi := { dst := some 65, op := .load 3 (.tmp 64), type := 3, pos := "ref.go:206", after := #[{ on := 2, ground := .data }], guard := none }) (v := ?_) rfl (by kernel_rfl) (by kernel_rfl) (by kernel_rfl) (fun _ _ _ h => h) (Or.inl ⟨by rfl, ?rdy3⟩) hHeld ?_
    case rdy3 => (intro w_ hSw; obtain ⟨g0, g1, g2, g3, g4, h0, h1, h2, h3, h4⟩ := hSw; go_simp; try with_reducible rfl)
    simp only [Act.put, s1_, s2_, s3_]
    refine wpAnyH_take (i := 4) (oi := { dst := some 66, op := .binOp .eql 3 (.tmp 65) (.const (.int .i64 0)) 3, type := 4, pos := "ref.go:206", after := #[{ on := 3, ground := .data }], guard := none }) (v := ?_) rfl (by kernel_rfl) (by kernel_rfl) (by kernel_rfl) (fun _ _ _ h => h) (Or.inl ⟨by rfl, ?rdy4⟩) hHeld ?_
    case rdy4 => (intro w_ hSw; obtain ⟨g0, g1, g2, g3, g4, h0, h1, h2, h3, h4⟩ := hSw; go_simp; try with_reducible rfl)
    simp only [Act.put, s1_, s2_, s3_]
    refine wpAnyH_take (i := 5) (oi := { dst := some 67, op := .move (.tmp 66), type := 4, pos := "ref.go:206", after := #[{ on := 4, ground := .data }], guard := none }) (v := ?_) rfl (by kernel_rfl) (by kernel_rfl) (by kernel_rfl) (fun _ _ _ h => h) (Or.inl ⟨by rfl, ?rdy5⟩) hHeld ?_
    case rdy5 => (intro w_ hSw; obtain ⟨g0, g1, g2, g3, g4, h0, h1, h2, h3, h4⟩ := hSw; go_simp; try with_reducible rfl)
    simp only [Act.put, s1_, s2_, s3_]
    refine wpAnyH_take (i := 6) (oi := { dst := some 68, op := .fieldAddr 33 (.tmp 6) 1, type := 0, pos := "ref.go:206", after := #[{ on := 5, ground := .guard }], guard := some (5, true) }) (v := ?_) rfl (by kernel_rfl) (by kernel_rfl) (by kernel_rfl) (fun _ _ _ h => h) (Or.inl ⟨by rfl, ?rdy6⟩) hHeld ?_
    case rdy6 => (intro w_ hSw; obtain ⟨g0, g1, g2, g3, g4, h0, h1, h2, h3, h4⟩ := hSw; go_simp; try with_reducible rfl)
    simp only [Act.put, s1_, s2_, s3_]
    refine wpAnyH_take (i := 7) (oi := { dst := some 69, op := .load 3 (.tmp 68), type := 3, pos := "ref.go:206", after := #[{ on := 6, ground := .data }, { on := 5, ground := .guard }], guard := some (5, true) }) (v := ?_) rfl (by kernel_rfl) (by kernel_rfl) (by kernel_rfl) (fun _ _ _ h => h) (Or.inl ⟨by rfl, ?rdy7⟩) hHeld ?_
    case rdy7 => (intro w_ hSw; obtain ⟨g0, g1, g2, g3, g4, h0, h1, h2, h3, h4⟩ := hSw; go_simp; try with_reducible rfl)
    simp only [Act.put, s1_, s2_, s3_]
    refine wpAnyH_take (i := 8) (oi := { dst := some 70, op := .binOp .eql 3 (.tmp 69) (.const (.int .i64 12)) 3, type := 4, pos := "ref.go:206", after := #[{ on := 7, ground := .data }, { on := 5, ground := .guard }], guard := some (5, true) }) (v := ?_) rfl (by kernel_rfl) (by kernel_rfl) (by kernel_rfl) (fun _ _ _ h => h) (Or.inl ⟨by rfl, ?rdy8⟩) hHeld ?_
    case rdy8 => (intro w_ hSw; obtain ⟨g0, g1, g2, g3, g4, h0, h1, h2, h3, h4⟩ := hSw; go_simp; try with_reducible rfl)
    simp only [Act.put, s1_, s2_, s3_]
    refine wpAnyH_take (i := 9) (oi := { dst := some 71, op := .move (.tmp 70), type := 4, pos := "ref.go:206", after := #[{ on := 8, ground := .data }, { on := 5, ground := .chain }, { on := 5, ground := .guard }], guard := some (5, true) }) (v := ?_) rfl (by kernel_rfl) (by kernel_rfl) (by kernel_rfl) (fun _ _ _ h => h) (Or.inl ⟨by rfl, ?rdy9⟩) hHeld ?_
    case rdy9 => (intro w_ hSw; obtain ⟨g0, g1, g2, g3, g4, h0, h1, h2, h3, h4⟩ := hSw; go_simp; try with_reducible rfl)
    simp only [Act.put, s1_, s2_, s3_]
    refine wpAnyH_take (i := 10) (oi := { dst := some 72, op := .fieldAddr 33 (.tmp 6) 1, type := 0, pos := "ref.go:206", after := #[{ on := 9, ground := .guard }, { on := 16, ground := .gcOnly Departure.lateStores }], guard := some (9, false) }) (v := ?_) rfl (by kernel_rfl) (by kernel_rfl) (by kernel_rfl) (fun _ _ _ h => h) (Or.inl ⟨by rfl, ?rdy10⟩) hHeld ?_
    case rdy10 => (intro w_ hSw; obtain ⟨g0, g1, g2, g3, g4, h0, h1, h2, h3, h4⟩ := hSw; go_simp; try with_reducible rfl)
    simp only [Act.put, s1_, s2_, s3_]
    refine wpAnyH_take (i := 11) (oi := { dst := some 73, op := .load 3 (.tmp 72), type := 3, pos := "ref.go:206", after := #[{ on := 10, ground := .data }, { on := 9, ground := .guard }, { on := 16, ground := .gcOnly Departure.lateStores }], guard := some (9, false) }) (v := ?_) rfl (by kernel_rfl) (by kernel_rfl) (by kernel_rfl) (fun _ _ _ h => h) (Or.inl ⟨by rfl, ?rdy11⟩) hHeld ?_
    case rdy11 => (intro w_ hSw; obtain ⟨g0, g1, g2, g3, g4, h0, h1, h2, h3, h4⟩ := hSw; go_simp; try with_reducible rfl)
    simp only [Act.put, s1_, s2_, s3_]
    refine wpAnyH_take (i := 12) (oi := { dst := some 74, op := .binOp .eql 3 (.tmp 73) (.const (.int .i64 19)) 3, type := 4, pos := "ref.go:206", after := #[{ on := 11, ground := .data }, { on := 9, ground := .guard }, { on := 16, ground := .gcOnly Departure.lateStores }], guard := some (9, false) }) (v := ?_) rfl (by kernel_rfl) (by kernel_rfl) (by kernel_rfl) (fun _ _ _ h => h) (Or.inl ⟨by rfl, ?rdy12⟩) hHeld ?_
    case rdy12 => (intro w_ hSw; obtain ⟨g0, g1, g2, g3, g4, h0, h1, h2, h3, h4⟩ := hSw; go_simp; try with_reducible rfl)
    simp only [Act.put, s1_, s2_, s3_]
    refine wpAnyH_take (i := 13) (oi := { dst := some 75, op := .pick (.tmp 71) (.const (.bool true)) (.tmp 74), type := 4, pos := "ref.go:206", after := #[{ on := 9, ground := .data }, { on := 12, ground := .data }, { on := 5, ground := .guard }, { on := 16, ground := .gcOnly Departure.lateStores }], guard := some (5, true) }) (v := ?_) rfl (by kernel_rfl) (by kernel_rfl) (by kernel_rfl) (fun _ _ _ h => h) (Or.inl ⟨by rfl, ?rdy13⟩) hHeld ?_
    case rdy13 => (intro w_ hSw; obtain ⟨g0, g1, g2, g3, g4, h0, h1, h2, h3, h4⟩ := hSw; go_simp; try with_reducible rfl)
    simp only [Act.put, s1_, s2_, s3_]
    refine wpAnyH_take (i := 14) (oi := { dst := some 76, op := .pick (.tmp 67) (.tmp 75) (.const (.bool false)), type := 4, pos := "ref.go:206", after := #[{ on := 5, ground := .data }, { on := 13, ground := .data }, { on := 16, ground := .gcOnly Departure.lateStores }], guard := none }) (v := ?_) rfl (by kernel_rfl) (by kernel_rfl) (by kernel_rfl) (fun _ _ _ h => h) (Or.inl ⟨by rfl, ?rdy14⟩) hHeld ?_
    case rdy14 => (intro w_ hSw; obtain ⟨g0, g1, g2, g3, g4, h0, h1, h2, h3, h4⟩ := hSw; go_simp; try with_reducible rfl)
    simp only [Act.put, s1_, s2_, s3_]
    refine wpAnyH_ready (rs := [15]) (by kernel_rfl) (by simp) ?_
    refine AllReadyH.cons (o := { dst := none, op := .store 33 (.tmp 2) (.tmp 62), type := 0, pos := "ref.go:206", after := #[{ on := 0, ground := .data }, { on := 9, ground := .chain }, { on := 0, ground := .phase }, { on := 1, ground := .textOnly Departure.lateStores }, { on := 2, ground := .textOnly Departure.lateStores }, { on := 3, ground := .textOnly Departure.lateStores }, { on := 4, ground := .textOnly Departure.lateStores }, { on := 5, ground := .textOnly Departure.lateStores }, { on := 6, ground := .textOnly Departure.lateStores }, { on := 7, ground := .textOnly Departure.lateStores }, { on := 8, ground := .textOnly Departure.lateStores }, { on := 9, ground := .textOnly Departure.lateStores }, { on := 10, ground := .textOnly Departure.lateStores }, { on := 11, ground := .textOnly Departure.lateStores }, { on := 12, ground := .textOnly Departure.lateStores }, { on := 13, ground := .textOnly Departure.lateStores }, { on := 14, ground := .textOnly Departure.lateStores }], guard := none }) rfl (fun K_ hK_ => ?_) AllReadyH.nil
    obtain ⟨wa, hwa⟩ := exq ((w5.drew).setRow R2 #[.int .i64 oc, .int .i64 og, .bool om, .slice o1 ol r1, .slice o2 ok r2])
    have HO6 : Hid (Blk w wa OB #[.int .i64 oc, .int .i64 og, .bool om, .slice o1 ol r1, .slice o2 ok r2] 33) := by show Blk _ _ _ _ _; rw [← hwa]; exact HO5.drew.other HR2.ge HNe.1 _
    have HT6 : Hid (Blk w wa TB #[.int .i64 0, .int .i64 tg, .bool tm, .slice t1 tl u1, .slice t2 tk u2] 33) := by show Blk _ _ _ _ _; rw [← hwa]; exact HT5.drew.other HR2.ge HNe.2.1 _
    have HR2a : Hid (Blk w wa R2 #[.int .i64 oc, .int .i64 og, .bool om, .slice o1 ol r1, .slice o2 ok r2] 33) := by show Blk _ _ _ _ _; rw [← hwa]; exact HR2.drew.set _
    have HR3a : Hid (Blk w wa R3 #[.int .i64 0, .int .i64 0, .bool false, .slice none 0 0, .slice none 0 0] 33) := by show Blk _ _ _ _ _; rw [← hwa]; exact HR3.drew.other HR2.ge HNe.2.2.1 _
    rw [if_pos (by rfl)]
    refine wp_store_row 33 _ _ rfl R2 #[.int .i64 oc, .int .i64 og, .bool om, .slice o1 ol r1, .slice o2 ok r2] rfl rfl 33 _ HR2.drew.res rvalue5p rfl (by simp [Value.oneCell']) ?_
    rw [hwa]
    refine hK_.out _ _ (u_ HSz _ (u_ HO6) (u_ HT6)) (fun hHeld => ?_)
    clear hK_ K_
    refine wpAnyH_ready (rs := [16]) (by kernel_rfl) (by simp) ?_
    refine AllReadyH.cons (o := { dst := none, op := .store 33 (.tmp 3) (.tmp 63), type := 0, pos := "ref.go:206", after := #[{ on := 1, ground := .data }, { on := 15, ground := .chain }, { on := 0, ground := .phase }, { on := 1, ground := .phase }, { on := 2, ground := .textOnly Departure.lateStores }, { on := 3, ground := .textOnly Departure.lateStores }, { on := 4, ground := .textOnly Departure.lateStores }, { on := 5, ground := .textOnly Departure.lateStores }, { on := 6, ground := .textOnly Departure.lateStores }, { on := 7, ground := .textOnly Departure.lateStores }, { on := 8, ground := .textOnly Departure.lateStores }, { on := 9, ground := .textOnly Departure.lateStores }, { on := 10, ground := .textOnly Departure.lateStores }, { on := 11, ground := .textOnly Departure.lateStores }, { on := 12, ground := .textOnly Departure.lateStores }, { on := 13, ground := .textOnly Departure.lateStores }, { on := 14, ground := .textOnly Departure.lateStores }, { on := 15, ground := .phase }], guard := none }) rfl (fun K_ hK_ => ?_) AllReadyH.nil
    obtain ⟨wb, hwb⟩ := exq ((wa).setRow R3 #[.int .i64 0, .int .i64 tg, .bool tm, .slice t1 tl u1, .slice t2 tk u2])
    have HO7 : Hid (Blk w wb OB #[.int .i64 oc, .int .i64 og, .bool om, .slice o1 ol r1, .slice o2 ok r2] 33) := by show Blk _ _ _ _ _; rw [← hwb]; exact HO6.other HR3.ge HNe.2.2.2.1 _
    have HT7 : Hid (Blk w wb TB #[.int .i64 0, .int .i64 tg, .bool tm, .slice t1 tl u1, .slice t2 tk u2] 33) := by show Blk _ _ _ _ _; rw [← hwb]; exact HT6.other HR3.ge HNe.2.2.2.2.1 _
    have HR2b : Hid (Blk w wb R2 #[.int .i64 oc, .int .i64 og, .bool om, .slice o1 ol r1, .slice o2 ok r2] 33) := by show Blk _ _ _ _ _; rw [← hwb]; exact HR2a.other HR3.ge HNe.2.2.2.2.2 _
    have HR3b : Hid (Blk w wb R3 #[.int .i64 0, .int .i64 tg, .bool tm, .slice t1 tl u1, .slice t2 tk u2] 33) := by show Blk _ _ _ _ _; rw [← hwb]; exact HR3a.set _
    rw [if_pos (by rfl)]
    refine wp_store_row 33 _ _ rfl R3 #[.int .i64 0, .int .i64 tg, .bool tm, .slice t1 tl u1, .slice t2 tk u2] rfl rfl 33 _ HR3a.res rvalue5p rfl (by simp [Value.oneCell']) ?_
    rw [hwb]
    refine hK_.out _ _ (u_ HSz _ (u_ HO7) (u_ HT7)) (fun hHeld => ?_)
    clear hK_ K_
    refine wpAnyH_take (i := 17) (oi := { dst := some 4, op := .assign (.tmp 76), type := 4, pos := "ref.go:206", after := #[{ on := 14, ground := .data }, { on := 16, ground := .chain }, { on := 0, ground := .phase }, { on := 1, ground := .phase }, { on := 2, ground := .phase }, { on := 3, ground := .phase }, { on := 4, ground := .phase }, { on := 5, ground := .phase }, { on := 6, ground := .phase }, { on := 7, ground := .phase }, { on := 8, ground := .phase }, { on := 9, ground := .phase }, { on := 10, ground := .phase }, { on := 11, ground := .phase }, { on := 12, ground := .phase }, { on := 13, ground := .phase }, { on := 14, ground := .phase }, { on := 15, ground := .phase }, { on := 16, ground := .phase }], guard := none }) (v := ?_) rfl (by kernel_rfl) (by kernel_rfl) (by kernel_rfl) (fun _ _ _ h => h) (Or.inl ⟨by rfl, ?rdy17⟩) hHeld ?_
    case rdy17 => (intro w_ hSw; go_simp; try with_reducible rfl)
    simp only [Act.put, s1_, s2_, s3_]
    refine wpAnyH_done (by kernel_rfl) ?_ _
    clear hHeld
    go_wp2
    refine bodyPost_ret (res_rows_tmp Tryz.results58 _ _ R2 R3 33 #[.int .i64 oc, .int .i64 og, .bool om, .slice o1 ol r1, .slice o2 ok r2] #[.int .i64 0, .int .i64 tg, .bool tm, .slice t1 tl u1, .slice t2 tk u2] (0, 0) (0, 0) _ rfl rfl HR2b.res HR3b.res Tryz.underlying33 rfl rvalue5p rvalue5p _ rfl) rfl ⟨[.int .i64 oc, .int .i64 og, .bool om, .slice o1 ol r1, .slice o2 ok r2], [.int .i64 0, .int .i64 tg, .bool tm, .slice t1 tl u1, .slice t2 tk u2], by rw [u_ HE]; rfl, ?_⟩
    exact ⟨by rw [u_ HE]; exact ⟨no, HVo.below HR2b.b⟩, by rw [u_ HE]; exact ⟨nt, HVt.below HR2b.b⟩, HR2b.b⟩
 ·have q0 : (tc == 0) = false := by simpa using y1
  have HE : Hid (pairV v = (ov, tv, false)) := by show _ = _; rw [u_ HPV, decide_eq_false y1]; rfl
  clear y1
  refine wp_region_held_drew (S := fun w' => w'.cell? ⟨OB, 0, none⟩ = some (.int .i64 oc) ∧ w'.cell? ⟨OB, 1, none⟩ = some (.int .i64 og) ∧ w'.cell? ⟨OB, 2, none⟩ = some (.bool om) ∧ w'.cell? ⟨OB, 3, none⟩ = some (.slice o1 ol r1) ∧ w'.cell? ⟨OB, 4, none⟩ = some (.slice o2 ok r2) ∧ w'.cell? ⟨TB, 0, none⟩ = some (.int .i64 tc) ∧ w'.cell? ⟨TB, 1, none⟩ = some (.int .i64 tg) ∧ w'.cell? ⟨TB, 2, none⟩ = some (.bool tm) ∧ w'.cell? ⟨TB, 3, none⟩ = some (.slice t1 tl u1) ∧ w'.cell? ⟨TB, 4, none⟩ = some (.slice t2 tk u2)) (by kernel_rfl) (u_ HSz _ HO5.drew HT5.drew) (fun hHeld => ?_)
  refine wpAnyH_take (i := 0) (oi := { dst := some 62, op := .load 33 (.tmp 5), type := 33, pos := "ref.go:206", after := #[], guard := none }) (v := ?_) rfl (by kernel_rfl) (by kernel_rfl) (by kernel_rfl) (fun _ _ _ h => h) (Or.inl ⟨by rfl, ?ray0⟩) hHeld ?_
  case ray0 => (intro w_ hSw; obtain ⟨g0, g1, g2, g3, g4, h0, h1, h2, h3, h4⟩ := hSw; go_simp; try with_reducible rfl)
  simp only [Act.put, s1_, s2_, s3_]
  refine wpAnyH_take (i := 1) (oi := { dst := some 63, op := .load 33 (.tmp 6), type := 33, pos := "ref.go:206", after := #[{ on := 15, ground := .gcOnly Departure.lateStores }], guard := none }) (v := ?_) rfl (by kernel_rfl) (by kernel_rfl) (by kernel_rfl) (fun _ _ _ h => h) (Or.inl ⟨by rfl, ?ray1⟩) hHeld ?_
  case ray1 => (intro w_ hSw; obtain ⟨g0, g1, g2, g3, g4, h0, h1, h2, h3, h4⟩ := hSw; go_simp; try with_reducible rfl)
  simp only [Act.put, s1_, s2_, s3_]
  refine wpAnyH_take (i := 2) (oi := { dst := some 64, op := .fieldAddr 33 (.tmp 6) 0, type := 0, pos := "ref.go:206", after := #[], guard := none }) (v := ?_) rfl (by kernel_rfl) (by kernel_rfl) (by kernel_rfl) (fun _ _ _ h => h) (Or.inl ⟨by rfl, ?ray2⟩) hHeld ?_
  case ray2 => (intro w_ hSw; obtain ⟨g0, g1, g2, g3, g4, h0, h1, h2, h3, h4⟩ := hSw; go_simp; try with_reducible rfl)
  simp only [Act.put, s1_, s2_, s3_]
  refine wpAnyH_take (i := 3) (oi := { dst := some 65, op := .load 3 (.tmp 64), type := 3, pos := "ref.go:206", after := #[{ on := 2, ground := .data }], guard := none }) (v := ?_) rfl (by kernel_rfl) (by kernel_rfl) (by kernel_rfl) (fun _ _ _ h => h) (Or.inl ⟨by rfl, ?ray3⟩) hHeld ?_
  case ray3 => (intro w_ hSw; obtain ⟨g0, g1, g2, g3, g4, h0, h1, h2, h3, h4⟩ := hSw; go_simp; try with_reducible rfl)
  simp only [Act.put, s1_, s2_, s3_]
  refine wpAnyH_take (i := 4) (oi := { dst := some 66, op := .binOp .eql 3 (.tmp 65) (.const (.int .i64 0)) 3, type := 4, pos := "ref.go:206", after := #[{ on := 3, ground := .data }], guard := none }) (v := ?_) rfl (by kernel_rfl) (by kernel_rfl) (by kernel_rfl) (fun _ _ _ h => h) (Or.inl ⟨by rfl, ?ray4⟩) hHeld ?_
  case ray4 => (intro w_ hSw; obtain ⟨g0, g1, g2, g3, g4, h0, h1, h2, h3, h4⟩ := hSw; go_simp; try with_reducible rfl)
  simp only [Act.put, s1_, s2_, s3_]
  refine wpAnyH_take (i := 5) (oi := { dst := some 67, op := .move (.tmp 66), type := 4, pos := "ref.go:206", after := #[{ on := 4, ground := .data }], guard := none }) (v := ?_) rfl (by kernel_rfl) (by kernel_rfl) (by kernel_rfl) (fun _ _ _ h => h) (Or.inl ⟨by rfl, ?ray5⟩) hHeld ?_
  case ray5 => (intro w_ hSw; obtain ⟨g0, g1, g2, g3, g4, h0, h1, h2, h3, h4⟩ := hSw; go_simp; try with_reducible rfl)
  simp only [Act.put, s1_, s2_, s3_]
  refine wpAnyH_take (i := 6) (oi := { dst := some 68, op := .fieldAddr 33 (.tmp 6) 1, type := 0, pos := "ref.go:206", after := #[{ on := 5, ground := .guard }], guard := some (5, true) }) (v := undef) rfl (by kernel_rfl) (by kernel_rfl) (by kernel_rfl) (fun _ _ _ h => h) (Or.inr ⟨by rfl, rfl⟩) hHeld ?_
  simp only [Act.put, s1_, s2_, s3_]
  refine wpAnyH_take (i := 7) (oi := { dst := some 69, op := .load 3 (.tmp 68), type := 3, pos := "ref.go:206", after := #[{ on := 6, ground := .data }, { on := 5, ground := .guard }], guard := some (5, true) }) (v := undef) rfl (by kernel_rfl) (by kernel_rfl) (by kernel_rfl) (fun _ _ _ h => h) (Or.inr ⟨by rfl, rfl⟩) hHeld ?_
  simp only [Act.put, s1_, s2_, s3_]
  refine wpAnyH_take (i := 8) (oi := { dst := some 70, op := .binOp .eql 3 (.tmp 69) (.const (.int .i64 12)) 3, type := 4, pos := "ref.go:206", after := #[{ on := 7, ground := .data }, { on := 5, ground := .guard }], guard := some (5, true) }) (v := undef) rfl (by kernel_rfl) (by kernel_rfl) (by kernel_rfl) (fun _ _ _ h => h) (Or.inr ⟨by rfl, rfl⟩) hHeld ?_
  simp only [Act.put, s1_, s2_, s3_]
  refine wpAnyH_take (i := 9) (oi := { dst := some 71, op := .move (.tmp 70), type := 4, pos := "ref.go:206", after := #[{ on := 8, ground := .data }, { on := 5, ground := .chain }, { on := 5, ground := .guard }], guard := some (5, true) }) (v := undef) rfl (by kernel_rfl) (by kernel_rfl) (by kernel_rfl) (fun _ _ _ h => h) (Or.inr ⟨by rfl, rfl⟩) hHeld ?_
  simp only [Act.put, s1_, s2_, s3_]
  refine wpAnyH_take (i := 10) (oi := { dst := some 72, op := .fieldAddr 33 (.tmp 6) 1, type := 0, pos := "ref.go:206", after := #[{ on := 9, ground := .guard }, { on := 16, ground := .gcOnly Departure.lateStores }], guard := some (9, false) }) (v := undef) rfl (by kernel_rfl) (by kernel_rfl) (by kernel_rfl) (fun _ _ _ h => h) (Or.inr ⟨by rfl, rfl⟩) hHeld ?_
  simp only [Act.put, s1_, s2_, s3_]
  refine wpAnyH_take (i := 11) (oi := { dst := some 73, op := .load 3 (.tmp 72), type := 3, pos := "ref.go:206", after := #[{ on := 10, ground := .data }, { on := 9, ground := .guard }, { on := 16, ground := .gcOnly Departure.lateStores }], guard := some (9, false) }) (v := undef) rfl (by kernel_rfl) (by kernel_rfl) (by kernel_rfl) (fun _ _ _ h => h) (Or.inr ⟨by rfl, rfl⟩) hHeld ?_
  simp only [Act.put, s1_, s2_, s3_]
  refine wpAnyH_take (i := 12) (oi := { dst := some 74, op := .binOp .eql 3 (.tmp 73) (.const (.int .i64 19)) 3, type := 4, pos := "ref.go:206", after := #[{ on := 11, ground := .data }, { on := 9, ground := .guard }, { on := 16, ground := .gcOnly Departure.lateStores }], guard := some (9, false) }) (v := undef) rfl (by kernel_rfl) (by kernel_rfl) (by kernel_rfl) (fun _ _ _ h => h) (Or.inr ⟨by rfl, rfl⟩) hHeld ?_
  simp only [Act.put, s1_, s2_, s3_]
  refine wpAnyH_take (i := 13) (oi := { dst := some 75, op := .pick (.tmp 71) (.const (.bool true)) (.tmp 74), type := 4, pos := "ref.go:206", after := #[{ on := 9, ground := .data }, { on := 12, ground := .data }, { on := 5, ground := .guard }, { on := 16, ground := .gcOnly Departure.lateStores }], guard := some (5, true) }) (v := undef) rfl (by kernel_rfl) (by kernel_rfl) (by kernel_rfl) (fun _ _ _ h => h) (Or.inr ⟨by rfl, rfl⟩) hHeld ?_
  simp only [Act.put, s1_, s2_, s3_]
  refine wpAnyH_take (i := 14) (oi := { dst := some 76, op := .pick (.tmp 67) (.tmp 75) (.const (.bool false)), type := 4, pos := "ref.go:206", after := #[{ on := 5, ground := .data }, { on := 13, ground := .data }, { on := 16, ground := .gcOnly Departure.lateStores }], guard := none }) (v := ?_) rfl (by kernel_rfl) (by kernel_rfl) (by kernel_rfl) (fun _ _ _ h => h) (Or.inl ⟨by rfl, ?ray14⟩) hHeld ?_
  case ray14 => (intro w_ hSw; obtain ⟨g0, g1, g2, g3, g4, h0, h1, h2, h3, h4⟩ := hSw; go_simp; try with_reducible rfl)
  simp only [Act.put, s1_, s2_, s3_]
  refine wpAnyH_ready (rs := [15]) (by kernel_rfl) (by simp) ?_
  refine AllReadyH.cons (o := { dst := none, op := .store 33 (.tmp 2) (.tmp 62), type := 0, pos := "ref.go:206", after := #[{ on := 0, ground := .data }, { on := 9, ground := .chain }, { on := 0, ground := .phase }, { on := 1, ground := .textOnly Departure.lateStores }, { on := 2, ground := .textOnly Departure.lateStores }, { on := 3, ground := .textOnly Departure.lateStores }, { on := 4, ground := .textOnly Departure.lateStores }, { on := 5, ground := .textOnly Departure.lateStores }, { on := 6, ground := .textOnly Departure.lateStores }, { on := 7, ground := .textOnly Departure.lateStores }, { on := 8, ground := .textOnly Departure.lateStores }, { on := 9, ground := .textOnly Departure.lateStores }, { on := 10, ground := .textOnly Departure.lateStores }, { on := 11, ground := .textOnly Departure.lateStores }, { on := 12, ground := .textOnly Departure.lateStores }, { on := 13, ground := .textOnly Departure.lateStores }, { on := 14, ground := .textOnly Departure.lateStores }], guard := none }) rfl (fun K_ hK_ => ?_) AllReadyH.nil
  obtain ⟨wa, hwa⟩ := exq ((w5.drew).setRow R2 #[.int .i64 oc, .int .i64 og, .bool om, .slice o1 ol r1, .slice o2 ok r2])
  have HO6 : Hid (Blk w wa OB #[.int .i64 oc, .int .i64 og, .bool om, .slice o1 ol r1, .slice o2 ok r2] 33) := by show Blk _ _ _ _ _; rw [← hwa]; exact HO5.drew.other HR2.ge HNe.1 _
  have HT6 : Hid (Blk w wa TB #[.int .i64 tc, .int .i64 tg, .bool tm, .slice t1 tl u1, .slice t2 tk u2] 33) := by show Blk _ _ _ _ _; rw [← hwa]; exact HT5.drew.other HR2.ge HNe.2.1 _
  have HR2a : Hid (Blk w wa R2 #[.int .i64 oc, .int .i64 og, .bool om, .slice o1 ol r1, .slice o2 ok r2] 33) := by show Blk _ _ _ _ _; rw [← hwa]; exact HR2.drew.set _
  have HR3a : Hid (Blk w wa R3 #[.int .i64 0, .int .i64 0, .bool false, .slice none 0 0, .slice none 0 0] 33) := by show Blk _ _ _ _ _; rw [← hwa]; exact HR3.drew.other HR2.ge HNe.2.2.1 _
  rw [if_pos (by rfl)]
  refine wp_store_row 33 _ _ rfl R2 #[.int .i64 oc, .int .i64 og, .bool om, .slice o1 ol r1, .slice o2 ok r2] rfl rfl 33 _ HR2.drew.res rvalue5p rfl (by simp [Value.oneCell']) ?_
  rw [hwa]
  refine hK_.out _ _ (u_ HSz _ (u_ HO6) (u_ HT6)) (fun hHeld => ?_)
  clear hK_ K_
  refine wpAnyH_ready (rs := [16]) (by kernel_rfl) (by simp) ?_
  refine AllReadyH.cons (o := { dst := none, op := .store 33 (.tmp 3) (.tmp 63), type := 0, pos := "ref.go:206", after := #[{ on := 1, ground := .data }, { on := 15, ground := .chain }, { on := 0, ground := .phase }, { on := 1, ground := .phase }, { on := 2, ground := .textOnly Departure.lateStores }, { on := 3, ground := .textOnly Departure.lateStores }, { on := 4, ground := .textOnly Departure.lateStores }, { on := 5, ground := .textOnly Departure.lateStores }, { on := 6, ground := .textOnly Departure.lateStores }, { on := 7, ground := .textOnly Departure.lateStores }, { on := 8, ground := .textOnly Departure.lateStores }, { on := 9, ground := .textOnly Departure.lateStores }, { on := 10, ground := .textOnly Departure.lateStores }, { on := 11, ground := .textOnly Departure.lateStores }, { on := 12, ground := .textOnly Departure.lateStores }, { on := 13, ground := .textOnly Departure.lateStores }, { on := 14, ground := .textOnly Departure.lateStores }, { on := 15, ground := .phase }], guard := none }) rfl (fun K_ hK_ => ?_) AllReadyH.nil
  obtain ⟨wb, hwb⟩ := exq ((wa).setRow R3 #[.int .i64 tc, .int .i64 tg, .bool tm, .slice t1 tl u1, .slice t2 tk u2])
  have HO7 : Hid (Blk w wb OB #[.int .i64 oc, .int .i64 og, .bool om, .slice o1 ol r1, .slice o2 ok r2] 33) := by show Blk _ _ _ _ _; rw [← hwb]; exact HO6.other HR3.ge HNe.2.2.2.1 _
  have HT7 : Hid (Blk w wb TB #[.int .i64 tc, .int .i64 tg, .bool tm, .slice t1 tl u1, .slice t2 tk u2] 33) := by show Blk _ _ _ _ _; rw [← hwb]; exact HT6.other HR3.ge HNe.2.2.2.2.1 _
  have HR2b : Hid (Blk w wb R2 #[.int .i64 oc, .int .i64 og, .bool om, .slice o1 ol r1, .slice o2 ok r2] 33) := by show Blk _ _ _ _ _; rw [← hwb]; exact HR2a.other HR3.ge HNe.2.2.2.2.2 _
  have HR3b : Hid (Blk w wb R3 #[.int .i64 tc, .int .i64 tg, .bool tm, .slice t1 tl u1, .slice t2 tk u2] 33) := by show Blk _ _ _ _ _; rw [← hwb]; exact HR3a.set _
  rw [if_pos (by rfl)]
  refine wp_store_row 33 _ _ rfl R3 #[.int .i64 tc, .int .i64 tg, .bool tm, .slice t1 tl u1, .slice t2 tk u2] rfl rfl 33 _ HR3a.res rvalue5p rfl (by simp [Value.oneCell']) ?_
  rw [hwb]
  refine hK_.out _ _ (u_ HSz _ (u_ HO7) (u_ HT7)) (fun hHeld => ?_)
  clear hK_ K_
  refine wpAnyH_take (i := 17) (oi := { dst := some 4, op := .assign (.tmp 76), type := 4, pos := "ref.go:206", after := #[{ on := 14, ground := .data }, { on := 16, ground := .chain }, { on := 0, ground := .phase }, { on := 1, ground := .phase }, { on := 2, ground := .phase }, { on := 3, ground := .phase }, { on := 4, ground := .phase }, { on := 5, ground := .phase }, { on := 6, ground := .phase }, { on := 7, ground := .phase }, { on := 8, ground := .phase }, { on := 9, ground := .phase }, { on := 10, ground := .phase }, { on := 11, ground := .phase }, { on := 12, ground := .phase }, { on := 13, ground := .phase }, { on := 14, ground := .phase }, { on := 15, ground := .phase }, { on := 16, ground := .phase }], guard := none }) (v := ?_) rfl (by kernel_rfl) (by kernel_rfl) (by kernel_rfl) (fun _ _ _ h => h) (Or.inl ⟨by rfl, ?ray17⟩) hHeld ?_
  case ray17 => (intro w_ hSw; go_simp; try with_reducible rfl)
  simp only [Act.put, s1_, s2_, s3_]
  refine wpAnyH_done (by kernel_rfl) ?_ _
  clear hHeld
  go_wp2
  refine bodyPost_ret (res_rows_tmp Tryz.results58 _ _ R2 R3 33 #[.int .i64 oc, .int .i64 og, .bool om, .slice o1 ol r1, .slice o2 ok r2] #[.int .i64 tc, .int .i64 tg, .bool tm, .slice t1 tl u1, .slice t2 tk u2] (0, 0) (0, 0) _ rfl rfl HR2b.res HR3b.res Tryz.underlying33 rfl rvalue5p rvalue5p _ rfl) rfl ⟨[.int .i64 oc, .int .i64 og, .bool om, .slice o1 ol r1, .slice o2 ok r2], [.int .i64 tc, .int .i64 tg, .bool tm, .slice t1 tl u1, .slice t2 tk u2], by rw [u_ HE]; rfl, ?_⟩
  exact ⟨by rw [u_ HE]; exact ⟨no, HVo.below HR2b.b⟩, by rw [u_ HE]; exact ⟨nt, HVt.below HR2b.b⟩, HR2b.b⟩
end Q
end Go.Proofs.YtcofnockikninaaGreatDoor
