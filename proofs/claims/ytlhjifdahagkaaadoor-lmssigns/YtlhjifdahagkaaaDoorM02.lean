/-
  The walks of the reference's Steps, coef and Digits.
-/
import Derived.Test.YtlhjifdahagkaaaDoorM01
namespace Go.Proofs.YtlhjifdahagkaaaDoor
open Go.RowKit
set_option maxRecDepth 100000 in
set_option maxHeartbeats 2000000 in
theorem steps_any {H : Bs → Bs} (C : RefHash H) (w0 : World) (xi x : Value) (id a : Bs) (hi : BytesAt w0 xi id) (hx : BytesAt w0 x a) (li : id.length ≤ 1000) (la : a.length ≤ 1000) (q i f t : Nat) (hq : q ≤ 4611686018427387904) (hii : i ≤ 4611686018427387904) (hft : f ≤ t) (ht : t ≤ 255) :
    TellsB w0 61 #[xi, .int .i64 (q : Int), .int .i64 (i : Int), x, .int .i64 (f : Int), .int .i64 (t : Int)] (steps H id q i a f (t - f)) := by
  have HC := hide C
  have HX := hide hi
  have HA := hide hx
  have Hl := hide (And.intro li la)
  clear C hi hx li la
  go_enter Tryd.func61, Tryd.ntmps61
  go_wp2
  go_loopw [3, 13] (fun xv jj wr => ∃ (n j : Nat) (a2 : Bs), n ≤ t - f ∧ j ≤ 255 ∧ jj = .int .i64 (j : Int) ∧ Hid (j = f + n) ∧ Hid (BytesAt wr xv a2) ∧ Hid (a2.length ≤ 1000) ∧ Hid (a2 = steps H id q i a f n) ∧ Hid (Below w0.heap.size w0 wr)) (fun _ jj _ => t - (intOf jj).toNat)
  case atStart => exact ⟨0, f, a, by omega, by omega, rfl, rfl, HA, (unhide Hl).2, rfl, Below.refl _ _⟩
  case round =>
    clear HA
    obtain ⟨n, j, a2, hn, hj, rfl, Hj, HA, HL2, HE, HB⟩ := hrel
    have jb : (j : Int) ≤ 255 := by omega
    rename World => wc
    by_cases hlt : j < t
    · have d1 : decide ((j : Int) < (t : Int)) = true := by simp; omega
      have d1' : decide (j < t) = true := by simp; omega
      have cvb : IntKind.u8.wrap (j : Int) = (j : Int) := by rw [IntKind.wrap_u8']; omega
      go_wp2_with fail
      refine (head_any wc xi id q i ((unhide HX).below (unhide HB)) (by have := unhide Hl; omega) hq hii).mono ?_
      rintro e w1 ⟨v1, rfl, hR⟩
      have hj8 : (UInt8.ofNat j).toNat = j := by rw [UInt8.toNat_ofNat']; omega
      have HV := bytes_new w1 [UInt8.ofNat j]
      have ebv : ([UInt8.ofNat j] : Bs).map bv = [.int .u8 (j : Int)] := by simp [bv, hj8]
      rw [ebv] at HV
      have HVh := hide HV
      have HR1 := hide (hR.lit (.cells [Value.int .u8 (j : Int)].toArray 5))
      have Hl1 : Hid ((head id q i).length + ([UInt8.ofNat j] : Bs).length ≤ 1073741824) := by show _ ≤ _; have := unhide Hl; rw [len_head]; simp; omega
      have Hl2 : Hid ((head id q i ++ [UInt8.ofNat j]).length + a2.length ≤ 1073741824) := by show _ ≤ _; have := unhide Hl; have := unhide HL2; rw [List.length_append, len_head]; simp; omega
      clear HV ebv hR hj8
      go_wp2_with (first
        | (at_builtin; refine wpList_append_row rfl _ _ rfl v1 _ (head id q i) [UInt8.ofNat j] rfl (unhide HR1) rfl (unhide HVh) (unhide Hl1) ?_
           intro v2 w2 hR
           have HR2 := hide hR
           have HA2 := hide ((unhide HA).below hR.b)
           clear hR)
        | (at_builtin; refine wpList_append_row rfl _ _ rfl v2 _ (head id q i ++ [UInt8.ofNat j]) a2 rfl (unhide HR2) rfl (unhide HA2) (unhide Hl2) ?_
           intro v3 w3 hR
           have HR3 := hide hR
           clear hR))
      refine ((unhide HC).sum w3 v3 _ (unhide HR3).bytes (by have := unhide Hl; have := unhide HL2; rw [List.length_append, List.length_append, len_head]; simp; omega)).mono ?_
      rintro e w4 ⟨v4, rfl, hR⟩
      have HA4 := hide hR.bytes
      have HB4 : Hid (Below w0.heap.size w0 w4) := ((unhide HB).trans ((unhide HR3).b.mono (unhide HB).size)).trans (hR.b.mono ((unhide HB).trans ((unhide HR3).b.mono (unhide HB).size)).size)
      have HL4 : Hid ((H (head id q i ++ [UInt8.ofNat j] ++ a2)).length ≤ 1000) := by show _ ≤ _; rw [(unhide HC).len]; omega
      have HE4 : Hid (H (head id q i ++ [UInt8.ofNat j] ++ a2) = steps H id q i a f (n + 1)) := by show _ = _; rw [steps_snoc, ← unhide HE, ← unhide Hj]
      have Hj4 : Hid (j + 1 = f + (n + 1)) := by show _ = _; have := unhide Hj; omega
      have hn4 : n + 1 ≤ t - f := by have := unhide Hj; omega
      clear hR HR1 HR2 HR3 HA HB HE Hj HL2
      go_wp2
      go_roundw
      case rel =>
        first
          | exact ⟨n + 1, j + 1, _, hn4, by omega, by go_num, Hj4, HA4, HL4, HE4, HB4⟩
          | ((repeat apply Exists.intro); exact ⟨⟨n + 1, j + 1, _, hn4, by omega, by go_num, Hj4, HA4, HL4, HE4, HB4⟩, rfl⟩)
      case measure => simp [intOf]; omega
    · have d1 : decide ((j : Int) < (t : Int)) = false := by simp; omega
      have d1' : decide (j < t) = false := by simp; omega
      have HF : Hid (BytesAt wc u3 (steps H id q i a f (t - f))) := by
        show BytesAt _ _ _
        have h1 := unhide Hj
        rw [show t - f = n by omega, ← unhide HE]
        exact unhide HA
      clear HA HE Hj HL2
      go_wp2
      go_ret
      exact ⟨_, rfl, unhide HF, unhide HB⟩
set_option maxRecDepth 100000 in
set_option maxHeartbeats 1000000 in
theorem coef_any (w0 : World) (x : Value) (b : Bs) (hx : BytesAt w0 x b) (i wd : Nat) (hw : IsW wd) (hi : i * wd / 8 < b.length) (hl : b.length ≤ 1000) :
    Calls Tryd.prog 78 #[x, .int .i64 (i : Int), .int .i64 (wd : Int)] w0 fun e w' => e = .returned (.int .i64 (coef b i wd : Int)) ∧ Below w0.heap.size w0 w' := by
  obtain ⟨sp, c, rfl, _, _, hc⟩ := bytes_open hx
  obtain ⟨bb, bo, rfl, hbb, hcell⟩ := hc (by intro e; rw [e] at hi; simp at hi)
  have hc1 := hcell (i * wd / 8) hi
  have hcf : coef b i wd = (b.getD (i * wd / 8) 0).toNat / 2 ^ (8 - wd - i * wd % 8) % 2 ^ wd := rfl
  obtain ⟨X, hX⟩ : ∃ X, (b.getD (i * wd / 8) 0).toNat = X := ⟨_, rfl⟩
  have hXb : X < 256 := by rw [← hX]; exact (b.getD (i * wd / 8) 0).toNat_lt
  rw [hX] at hc1 hcf
  have hdv : i * wd % 8 + wd ≤ 8 := by rcases hw with rfl | rfl | rfl | rfl <;> omega
  have hw8 : wd ≤ 8 := by omega
  have hw0 : 1 ≤ wd := by rcases hw with rfl | rfl | rfl | rfl <;> omega
  obtain ⟨A, hA⟩ : ∃ A, i * wd = A := ⟨_, rfl⟩
  have hAi : (i : Int) * (wd : Int) = (A : Int) := by rw [← hA]; simp
  rw [hA] at hcf hdv hc1 hi
  have hAb : A ≤ 8000 := by omega
  obtain ⟨j, hj⟩ : ∃ j, A / 8 = j := ⟨_, rfl⟩
  obtain ⟨m, hm⟩ : ∃ m, A % 8 = m := ⟨_, rfl⟩
  have q1 : (A : Int).tdiv 8 = (j : Int) := by rw [Int.tdiv_eq_ediv_of_nonneg (by omega)]; omega
  have q2 : (A : Int).tmod 8 = (m : Int) := by rw [Int.tmod_eq_emod_of_nonneg (by omega)]; omega
  rw [hj] at hc1 hi
  rw [hm] at hcf hdv
  obtain ⟨s, hs⟩ : ∃ s, 8 - wd - m = s := ⟨_, rfl⟩
  rw [hs] at hcf
  have q3 : (8 : Int) - (wd : Int) - (m : Int) = (s : Int) := by omega
  have hsb : s ≤ 7 := by omega
  have q4 : (X : Int) / 2 ^ s = ((X / 2 ^ s : Nat) : Int) := by simp
  obtain ⟨Y, hY⟩ : ∃ Y, X / 2 ^ s = Y := ⟨_, rfl⟩
  rw [hY] at q4 hcf
  have hYb : Y < 256 := by rw [← hY]; exact Nat.lt_of_le_of_lt (Nat.div_le_self _ _) hXb
  have hp0 : 0 < 2 ^ wd := Nat.pow_pos (by omega)
  have hp1 : 2 ^ wd ≤ 256 := Nat.pow_le_pow_right (show 0 < 2 by omega) hw8
  have hpi : ((2 ^ wd : Nat) : Int) = 2 ^ wd := by simp
  have q5 : (Y : Int).tmod (2 ^ wd) = (coef b i wd : Int) := by rw [Int.tmod_eq_emod_of_nonneg (by omega), hcf]; simp
  have p0 : (0 : Int) < 2 ^ wd := by omega
  have p1 : (2 : Int) ^ wd ≤ 256 := by omega
  have hwp : IntKind.i64.wrap ((2 : Int) ^ wd) = 2 ^ wd := IntWalk.i64_in _ (by omega)
  have hcl : (coef b i wd : Int) < 256 := by have := coef_lt b i wd; omega
  generalize coef b i wd = cf at q5 hcl hcf
  have Hcf := hide hcf
  have wb : (wd : Int) ≤ 8 := by omega
  have wb0 : (1 : Int) ≤ (wd : Int) := by omega
  have mb : (m : Int) ≤ 7 := by omega
  have sb : (s : Int) ≤ 7 := by omega
  have s0 : (0 : Int) ≤ (s : Int) := by omega
  have jb0 : (0 : Int) ≤ (j : Int) := by omega
  have jb : (j : Int) < (b.length : Int) := by omega
  have Yb : (Y : Int) < 256 := by omega
  have Xb : (X : Int) < 256 := by omega
  have Ab : (A : Int) ≤ 8000 := by omega
  clear hx hc hcell hX hA hj hm hs hY hcf hw hi hpi hp0 hp1 hdv hw8 hw0 hsb hYb hXb hAb
  go_enter Tryd.func78, Tryd.ntmps78
  go_wp2
  go_region
  go_wp2
  go_ret
  exact ⟨rfl, (Below.refl _ _).drew⟩
end Go.Proofs.YtlhjifdahagkaaaDoor
/-
  The walk of the reference's Digits.
-/
namespace Go.Proofs.YtlhjifdahagkaaaDoor
open Go.RowKit
def dvals (q : Bs) (wd n : Nat) : List Value := (List.range n).map fun i => Value.int .i64 (digit q wd i : Int)
theorem dvals_succ (q : Bs) (wd n : Nat) : dvals q wd (n + 1) = dvals q wd n ++ [.int .i64 (digit q wd n : Int)] := by simp [dvals, List.range_succ]
theorem len_dvals (q : Bs) (wd n : Nat) : (dvals q wd n).length = n := by simp [dvals]
theorem sumTo_le (q : Bs) (wd : Nat) (hw : wd ≤ 8) : ∀ n, sumTo q wd n ≤ 255 * n
  | 0 => Nat.le_refl _
  | n + 1 => by
    have h1 := sumTo_le q wd hw n
    have h2 : 2 ^ wd ≤ 256 := Nat.pow_le_pow_right (show 0 < 2 by omega) hw
    rw [sumTo]
    omega
set_option maxRecDepth 100000 in
set_option maxHeartbeats 2000000 in
theorem digits_any (w0 : World) (x : Value) (q : Bs) (hx : BytesAt w0 x q) (hq : q.length = 32) (wd : Nat) (hw : IsW wd) :
    Calls Tryd.prog 60 #[x, .int .i64 (wd : Int)] w0 fun e w' => ∃ v, e = .returned v ∧ OwnV 3 w' w0.heap.size v (dvals q wd (pW wd)) ∧ Below w0.heap.size w0 w' := by
  have HX := hide hx
  have Hq := hide hq
  have Hw := hide hw
  have Hwi := hide (widthOf_of hw)
  have hw8 : wd ≤ 8 := by rcases hw with rfl | rfl | rfl | rfl <;> omega
  have hw0 : 1 ≤ wd := by rcases hw with rfl | rfl | rfl | rfl <;> omega
  obtain ⟨N, hN⟩ : ∃ N, 256 / wd = N := ⟨_, rfl⟩
  have hNb : N ≤ 256 := by rw [← hN]; exact Nat.div_le_self _ _
  have HNw : Hid (∀ i, i < N → i * wd / 8 < 32) := fun i hi => by
    rw [← hN] at hi
    rcases unhide Hw with rfl | rfl | rfl | rfl <;> omega
  have HN := hide hN
  have d1 : (256 : Int).tdiv (wd : Int) = (N : Int) := by rw [Int.tdiv_eq_ediv_of_nonneg (by omega), ← hN]; simp
  have p1 : (2 : Int) ^ wd ≤ 256 := by
    have := Nat.pow_le_pow_right (show 0 < 2 by omega) hw8
    have e : ((2 ^ wd : Nat) : Int) = 2 ^ wd := by simp
    omega
  have p0 : (0 : Int) < 2 ^ wd := by
    have := Nat.pow_pos (n := wd) (show 0 < 2 by omega)
    have e : ((2 ^ wd : Nat) : Int) = 2 ^ wd := by simp
    omega
  have hwp : IntKind.i64.wrap ((2 : Int) ^ wd) = 2 ^ wd := IntWalk.i64_in _ (by omega)
  have wb : (wd : Int) ≤ 8 := by omega
  have wb0 : (1 : Int) ≤ (wd : Int) := by omega
  clear hx hq hw hN
  go_enter Tryd.func60, Tryd.ntmps60
  go_wp2_with fail
  refine (width_any (wd : Int) w0).mono ?_
  rw [unhide Hwi]
  rintro e w1 ⟨rfl, rfl⟩
  go_wp2
  go_loopw [9, 10] (fun ss ii wr => ∃ i S : Nat, i ≤ N ∧ ii = .int .i64 (i : Int) ∧ S ≤ 65280 ∧ ss = .int .i64 (S : Int) ∧ Hid (S = sumTo q wd i) ∧ Hid (Below w1.heap.size w1 wr)) (fun _ ii _ => N - (intOf ii).toNat)
  case atStart => exact ⟨0, 0, by omega, rfl, by omega, rfl, rfl, Below.refl _ _⟩
  case round =>
    obtain ⟨i, S, hi, rfl, hS, rfl, HS, HB⟩ := hrel
    have ib : (i : Int) ≤ 256 := by omega
    have Sb : (S : Int) ≤ 65280 := by omega
    by_cases hlt : i < N
    · have HBd := hide (unhide HB).drew
      have HXd := hide ((unhide HX).below (unhide HBd))
      have hcl := coef_lt q i wd
      have hcb : coef q i wd < 256 := by have := Nat.pow_le_pow_right (show 0 < 2 by omega) hw8; omega
      have hst : sumTo q wd (i + 1) = sumTo q wd i + (2 ^ wd - 1 - coef q i wd) := rfl
      have hsb := sumTo_le q wd hw8 (i + 1)
      have Hco := hide (coef_any wr.drew x q (unhide HXd) i wd (unhide Hw) (by rw [unhide Hq]; exact unhide HNw i hlt) (by rw [unhide Hq]; omega))
      generalize coef q i wd = cf at hcl hcb hst Hco
      have ci : (2 : Int) ^ wd - 1 - (cf : Int) = ((2 ^ wd - 1 - cf : Nat) : Int) := by
        have e : ((2 ^ wd : Nat) : Int) = 2 ^ wd := by simp
        omega
      obtain ⟨D, hD⟩ : ∃ D, 2 ^ wd - 1 - cf = D := ⟨_, rfl⟩
      rw [hD] at ci hst
      have hSD : S + D ≤ 65280 := by rw [unhide HS, ← hst]; omega
      have HSD : Hid (S + D = sumTo q wd (i + 1)) := by show _ = _; rw [hst, unhide HS]
      have Db : (D : Int) ≤ 65280 := by omega
      have cfb : (cf : Int) < 256 := by omega
      clear hst hsb hD hcl hcb HS
      go_wp2
      go_region_held3 (fun _ => True) (trivial) ((go_at_call 78; refine (unhide Hco).mono ?_; rintro e w3 ⟨rfl, hb3⟩; have HB3 := hide ((unhide HBd).trans (hb3.mono (unhide HBd).size)); clear hb3))
      go_wp2
      have hv : IntKind.i64.wrap ((S : Int) + IntKind.i64.wrap (IntKind.i64.wrap ((2 : Int) ^ wd - 1) - (cf : Int))) = ((S + D : Nat) : Int) := by
        rw [IntWalk.i64_in ((2 : Int) ^ wd - 1) (by omega), ci, IntWalk.i64_in (D : Int) (by omega), IntWalk.i64_in ((S : Int) + (D : Int)) (by omega)]; simp
      exact ⟨⟨i + 1, S + D, by omega, by go_num, hSD, by rw [hv], HSD, HB3⟩, by simp [intOf]; omega⟩
    · obtain rfl : i = N := by omega
      have d2 : decide ((i : Int) < (i : Int)) = false := by simp
      obtain ⟨ls, hls⟩ : ∃ ls, lsW wd = ls := ⟨_, rfl⟩
      have hlb : ls ≤ 7 := by rw [← hls]; rcases unhide Hw with rfl | rfl | rfl | rfl <;> simp [lsW]
      obtain ⟨T, hT⟩ : ∃ T, S * 2 ^ ls = T := ⟨_, rfl⟩
      have hTi : (S : Int) * 2 ^ ls = (T : Int) := by rw [← hT]; simp
      have hTb : T ≤ 8355840 := by
        rw [← hT]
        exact Nat.mul_le_mul hS (Nat.pow_le_pow_right (show 0 < 2 by omega) hlb)
      have HWS : Hid (withSum q wd = q ++ big T 2) := by
        show _ = _
        unfold withSum
        rw [hls, unhide HN, ← unhide HS, hT]
      have Tb : (T : Int) ≤ 8355840 := by omega
      have lb : (ls : Int) ≤ 7 := by omega
      rw [hls]
      clear hls hT HS
      go_wp2_with fail
      refine (big_any _ T 2 (by omega) (by omega)).mono ?_
      rintro e w2 ⟨v2, rfl, hR⟩
      replace HB := hide ((unhide HB).trans (hR.b.mono (unhide HB).size))
      have HV2 := hide hR.bytes
      clear hR
      go_wp2_with fail
      refine (join_any w2 x v2 q (big T 2) ((unhide HX).below (unhide HB)) (unhide HV2) (by rw [unhide Hq, len_big]; omega)).mono ?_
      rintro e w3 ⟨v3, rfl, hR⟩
      replace HB := hide ((unhide HB).trans (hR.b.mono (unhide HB).size))
      rw [← unhide HWS] at hR
      have HV3 := hide hR.bytes
      have HlW : Hid ((withSum q wd).length = 34) := by show _ = _; rw [unhide HWS, List.length_append, unhide Hq, len_big]
      obtain ⟨p, hp⟩ : ∃ p, pW wd = p := ⟨_, rfl⟩
      have hpb : p ≤ 265 := by rw [← hp]; rcases unhide Hw with rfl | rfl | rfl | rfl <;> simp [pW]
      have HPw : Hid (∀ k, k < p → k * wd / 8 < 34) := fun k hk => by
        rw [← hp] at hk
        rcases unhide Hw with rfl | rfl | rfl | rfl <;> (simp [pW] at hk; omega)
      have Hp := hide hp
      have pb : (p : Int) ≤ 265 := by omega
      rw [hp]
      clear hR hp HV2 HWS hTi
      go_wp2
      go_loopw [12, 13] (fun out kk wr => ∃ k : Nat, k ≤ p ∧ kk = .int .i64 (k : Int) ∧ Hid (OwnV 3 wr w3.heap.size out (dvals q wd k)) ∧ Hid (Below w3.heap.size w3 wr)) (fun _ kk _ => p - (intOf kk).toNat)
      case atStart => exact ⟨0, by omega, rfl, own_nil 3 w3 w3.heap.size, Below.refl _ _⟩
      case round =>
        obtain ⟨k, hk, rfl, HO, HB3⟩ := hrel
        rename World => wc
        have kb : (k : Int) ≤ 265 := by omega
        by_cases hkl : k < p
        · go_wp2_with fail
          refine (coef_any wc v3 (withSum q wd) ((unhide HV3).below (unhide HB3)) k wd (unhide Hw) (by rw [unhide HlW]; exact unhide HPw k hkl) (by rw [unhide HlW]; omega)).mono ?_
          rintro e w4 ⟨rfl, hb4⟩
          have hdg : coef (withSum q wd) k wd = digit q wd k := rfl
          have hds := dvals_succ q wd k
          rw [hdg]
          generalize digit q wd k = dg at hds ⊢
          have HO4 := hide (((unhide HO).below hb4).alloc (.cells #[.int .i64 (dg : Int)] 3))
          have hbA : Below w3.heap.size w3 (w4.alloc (.cells #[.int .i64 (dg : Int)] 3)) := ((unhide HB3).trans (hb4.mono (unhide HB3).size)).alloc ((unhide HB3).trans (hb4.mono (unhide HB3).size)).size _
          have HbA := hide hbA
          have HVA := hide (vals_new w4 [.int .i64 (dg : Int)] 3)
          have Hll := hide (show (dvals q wd k).length + [Value.int .i64 (dg : Int)].length ≤ 1073741824 by rw [len_dvals]; simp; omega)
          have Hds := hide hds
          clear hb4 hbA hds hdg HO
          go_wp2_with (at_builtin; refine wpList_append_vals Ei rfl _ _ rfl w3.heap.size _ _ (dvals q wd k) [.int .i64 (dg : Int)] rfl (unhide HO4) rfl (unhide HVA) (by simp [Value.oneCell']) (unhide HbA).size (unhide Hll) ?_
                       intro v5 w5 hO5 hg5 _
                       rw [← unhide Hds] at hO5
                       have HO5 := hide hO5
                       have HB5 := hide (own_below (unhide HO4) hg5 (unhide HbA) (unhide HbA).size)
                       clear hO5 hg5)
          go_roundw
          case rel =>
            first
              | exact ⟨k + 1, by omega, by go_num, HO5, HB5⟩
              | ((repeat apply Exists.intro); exact ⟨⟨k + 1, by omega, by go_num, HO5, HB5⟩, rfl⟩)
          case measure => simp [intOf]; omega
        · obtain rfl : k = p := by omega
          have dk : decide ((k : Int) < (k : Int)) = false := by simp
          have HO6 : Hid (OwnV 3 wc w1.heap.size u12 (dvals q wd (pW wd))) := by
            show OwnV _ _ _ _ _
            rw [unhide Hp]
            exact (unhide HO).mono (unhide HB).size
          have HB6 := hide ((unhide HB).trans ((unhide HB3).mono (unhide HB).size))
          clear HO
          go_wp2
          go_ret
          exact ⟨_, rfl, unhide HO6, unhide HB6⟩
end Go.Proofs.YtlhjifdahagkaaaDoor
/-
  The walk of the reference's node: a leaf's key, and the nodes above.
-/
namespace Go.Proofs.YtlhjifdahagkaaaDoor
open Go.RowKit
theorem Row.drew {wb w : World} {v : Value} {l : Bs} (h : Row wb w v l) : Row wb w.drew v l := ⟨OwnV.drew h.own, h.b.drew⟩
set_option maxRecDepth 100000 in
set_option maxHeartbeats 4000000 in
theorem leafnode_any {H : Bs → Bs} (C : RefHash H) (w0 : World) (L : Int) (h wd : Nat) (xi xs : Value) (id seed : Bs) (hi : BytesAt w0 xi id) (hs : BytesAt w0 xs seed) (li : id.length = 16) (ls : seed.length = 32) (hh : h ≤ 6) (hw : IsW wd) (r : Nat) (hr : 2 ^ h ≤ r) (hr2 : r < 2 ^ (h + 1)) :
    GivesB w0 55 #[keyV L (h : Int) (wd : Int) xi xs, .int .i64 (r : Int)] (nodeAt H id seed h wd 0 r) := by
  have HC := hide C
  have hbA : Below w0.heap.size w0 (w0.alloc (.cells #[.int .i64 L, .int .i64 (h : Int), .int .i64 (wd : Int), xi, xs] 29)) := (Below.refl _ _).alloc (Nat.le_refl _) _
  have HX := hide (hi.below hbA)
  have HS := hide (hs.below hbA)
  have HK := hide (key_new w0 L (h : Int) (wd : Int) xi xs 29)
  have HB := hide hbA
  have Hl := hide (And.intro li ls)
  have Hwi := hide (widthOf_of hw)
  have Hw := hide hw
  obtain ⟨Q, hQ⟩ : ∃ Q, 2 ^ h = Q := ⟨_, rfl⟩
  have hQi : (2 : Int) ^ h = (Q : Int) := by rw [← hQ]; simp
  have hQb : Q ≤ 64 := by rw [← hQ]; exact Nat.pow_le_pow_right (show 0 < 2 by omega) hh
  have hr3 : r < 2 * Q := by rw [Nat.pow_succ, hQ] at hr2; omega
  rw [hQ] at hr
  have HQ := hide hQ
  have d1 : decide ((r : Int) < (Q : Int)) = false := by simp; omega
  have d1' : decide (r < Q) = false := by simp; omega
  have hb : (h : Int) ≤ 6 := by omega
  have rb : (r : Int) < 128 := by omega
  clear C hi hs hbA li ls hw hQ hr2
  unfold keyV
  go_enter Tryd.func55, Tryd.ntmps55
  go_wp2_with fail
  refine (width_any (wd : Int) _).mono ?_
  rw [unhide Hwi]
  rintro e wA ⟨rfl, hwA⟩
  rw [← hwA] at HX HS HK HB
  have c3 := (unhide HK).c 3 _ rfl
  obtain ⟨q, hq⟩ : ∃ q, r - Q = q := ⟨_, rfl⟩
  have hqi : (r : Int) - (Q : Int) = (q : Int) := by omega
  have hqb : q < 64 := by omega
  have Hq := hide hq
  obtain ⟨p, hp⟩ : ∃ p, pW wd = p := ⟨_, rfl⟩
  have hpb : p ≤ 265 := by rw [← hp]; rcases unhide Hw with rfl | rfl | rfl | rfl <;> simp [pW]
  have Hp := hide hp
  have pb : (p : Int) ≤ 265 := by omega
  have qb : (q : Int) < 64 := by omega
  rw [hqi, hp]
  clear hq hp hwA hqi
  go_wp2_with fail
  refine (head_any wA xi id q 0x8080 (unhide HX) (by have := unhide Hl; omega) (by omega) (by omega)).mono ?_
  rintro e w1 ⟨v1, rfl, hR⟩
  have HR := hide hR
  clear hR c3
  have HR0 : Hid (Row wA w1 v1 (head id q 0x8080 ++ endsTo H id seed wd q 0)) := by show Row _ _ _ _; simpa [endsTo] using unhide HR
  have p1 : (2 : Int) ^ wd ≤ 256 := by
    have := Nat.pow_le_pow_right (show 0 < 2 by omega) (show wd ≤ 8 by rcases unhide Hw with rfl | rfl | rfl | rfl <;> omega)
    have e : ((2 ^ wd : Nat) : Int) = 2 ^ wd := by simp
    omega
  have p0 : (0 : Int) < 2 ^ wd := by
    have := Nat.pow_pos (n := wd) (show 0 < 2 by omega)
    have e : ((2 ^ wd : Nat) : Int) = 2 ^ wd := by simp
    omega
  have hwp : IntKind.i64.wrap ((2 : Int) ^ wd) = 2 ^ wd := IntWalk.i64_in _ (by omega)
  obtain ⟨E, hE⟩ : ∃ E, 2 ^ wd - 1 = E := ⟨_, rfl⟩
  have hEi : IntKind.i64.wrap ((2 : Int) ^ wd - 1) = (E : Int) := by
    rw [IntWalk.i64_in _ (by omega)]
    have e : ((2 ^ wd : Nat) : Int) = 2 ^ wd := by simp
    omega
  have hEb : E ≤ 255 := by
    have e : ((2 ^ wd : Nat) : Int) = 2 ^ wd := by simp
    omega
  have HEe := hide hE
  have wb : (wd : Int) ≤ 8 := by rcases unhide Hw with rfl | rfl | rfl | rfl <;> omega
  have wb0 : (1 : Int) ≤ (wd : Int) := by rcases unhide Hw with rfl | rfl | rfl | rfl <;> omega
  clear HR hE
  go_wp2
  go_loopw [13, 14] (fun ends ii wr => ∃ i : Nat, i ≤ p ∧ ii = .int .i64 (i : Int) ∧ Hid (Row wA wr ends (head id q 0x8080 ++ endsTo H id seed wd q i))) (fun _ ii _ => p - (intOf ii).toNat)
  case atStart => exact ⟨0, by omega, rfl, HR0⟩
  case round =>
    clear HR0
    obtain ⟨i, hi, rfl, HR⟩ := hrel
    have ib : (i : Int) ≤ 265 := by omega
    rename World => wc
    by_cases hlt : i < p
    · have HRd := hide (unhide HR).drew
      have HKd := hide ((unhide HK).below (unhide HRd).b)
      have HXd := hide ((unhide HX).below (unhide HRd).b)
      have HSd := hide ((unhide HS).below (unhide HRd).b)
      have HKc := hide ((unhide HK).below (unhide HR).b)
      have c0 := (unhide HKc).c 0 _ rfl
      have c1 := (unhide HKc).c 1 _ rfl
      have c2 := (unhide HKc).c 2 _ rfl
      have c3 := (unhide HKc).c 3 _ rfl
      have c4 := (unhide HKc).c 4 _ rfl
      have Hsec := hide (secret_any (unhide HC) wc.drew L (h : Int) (wd : Int) xi xs id seed (unhide HXd) (unhide HSd) (by have := unhide Hl; omega) (by have := unhide Hl; omega) q i (by omega) (by omega))
      have Hll : Hid ((head id q 0x8080 ++ endsTo H id seed wd q i).length + (steps H id q i (secret H id seed q i) 0 (E - 0)).length ≤ 1073741824) := by
        show _ ≤ _
        have h1 := unhide Hl
        rw [List.length_append, len_head, len_ends H (unhide HC).len, len_steps H (unhide HC).len _ _ _ _ _ _ (len_secret H (unhide HC).len _ _ _ _)]
        omega
      go_wp2
      go_region_held3 (fun w' => w'.cell? ⟨w0.heap.size, 0, none⟩ = some (.int .i64 L) ∧ w'.cell? ⟨w0.heap.size, 1, none⟩ = some (.int .i64 (h : Int)) ∧ w'.cell? ⟨w0.heap.size, 2, none⟩ = some (.int .i64 (wd : Int)) ∧ w'.cell? ⟨w0.heap.size, 3, none⟩ = some xi ∧ w'.cell? ⟨w0.heap.size, 4, none⟩ = some xs) (go_keep)
        ((first
          | (go_at_call 36; refine (unhide Hsec).mono ?_; rintro e w2 ⟨v2, rfl, hR2⟩; have HR2 := hide hR2; have HK2 := hide ((unhide HKd).below hR2.b); have k0 := (unhide HK2).c 0 _ rfl; have k1 := (unhide HK2).c 1 _ rfl; have k2 := (unhide HK2).c 2 _ rfl; have k3 := (unhide HK2).c 3 _ rfl; have k4 := (unhide HK2).c 4 _ rfl; clear hR2)
          | (go_at_call 61; refine (steps_any (unhide HC) w2 xi v2 id (secret H id seed q i) ((unhide HXd).below (unhide HR2).b) (unhide HR2).bytes (by have := unhide Hl; omega) (by rw [len_secret H (unhide HC).len]; omega) q i 0 E (by omega) (by omega) (by omega) hEb).mono ?_; rintro e w3 ⟨v3, rfl, hB3, hb3⟩; have HV3 := hide hB3; have HR3 := hide ((unhide HRd).call ((unhide HR2).b.trans (hb3.mono (unhide HR2).b.size))); have HK3 := hide ((unhide HK2).below hb3); have m0 := (unhide HK3).c 0 _ rfl; have m1 := (unhide HK3).c 1 _ rfl; have m2 := (unhide HK3).c 2 _ rfl; have m3 := (unhide HK3).c 3 _ rfl; have m4 := (unhide HK3).c 4 _ rfl; clear hB3 hb3)
          | (refine step_append_row rfl _ _ rfl _ v3 (head id q 0x8080 ++ endsTo H id seed wd q i) (steps H id q i (secret H id seed q i) 0 (E - 0)) (by simp [Act.eval]) (unhide HR3) (by simp [Act.eval]) (unhide HV3) (unhide Hll) ?_; intro v4 w4 hR4 _; have HR4 := hide hR4; have HK4 := hide ((unhide HK).below hR4.b); have n0 := (unhide HK4).c 0 _ rfl; have n1 := (unhide HK4).c 1 _ rfl; have n2 := (unhide HK4).c 2 _ rfl; have n3 := (unhide HK4).c 3 _ rfl; have n4 := (unhide HK4).c 4 _ rfl; clear hR4)))
      have HR5 : Hid (Row wA w4 v4 (head id q 0x8080 ++ endsTo H id seed wd q (i + 1))) := by
        show Row _ _ _ _
        have := unhide HR4
        rw [Nat.sub_zero, ← unhide HEe, List.append_assoc] at this
        exact this
      clear c0 c1 c2 c3 c4 HR4 HKc HKd HXd HSd HRd HR
      go_wp2
      go_roundw
      case rel =>
        first
          | exact ⟨i + 1, by omega, by go_num, HR5⟩
          | ((repeat apply Exists.intro); exact ⟨⟨i + 1, by omega, by go_num, HR5⟩, rfl⟩)
      case measure => simp [intOf]; omega
    · obtain rfl : i = p := by omega
      have di : decide ((i : Int) < (i : Int)) = false := by simp
      have HKc := hide ((unhide HK).below (unhide HR).b)
      have c3 := (unhide HKc).c 3 _ rfl
      go_wp2_with fail
      refine (head_any wc xi id r 0x8282 ((unhide HX).below (unhide HR).b) (by have := unhide Hl; omega) (by omega) (by omega)).mono ?_
      rintro e w2 ⟨v2, rfl, hR2⟩
      have HR2 := hide hR2
      have HE2 := hide ((unhide HR).bytes.below hR2.b)
      have HB2 := hide (((unhide HB).trans ((unhide HR).b.mono (unhide HB).size)))
      clear hR2 c3
      go_wp2_with fail
      refine ((unhide HC).sum w2 _ _ (unhide HE2) (by have h1 := unhide Hl; rw [List.length_append, len_head, len_ends H (unhide HC).len]; omega)).mono ?_
      rintro e w3 ⟨v3, rfl, hR3⟩
      have HR2' := hide ((unhide HR2).call hR3.b)
      have HV3 := hide hR3.bytes
      have Hl3 : Hid ((head id r 0x8282).length + (H (head id q 0x8080 ++ endsTo H id seed wd q i)).length ≤ 1073741824) := by show _ ≤ _; have h1 := unhide Hl; rw [len_head, (unhide HC).len]; omega
      clear hR3
      go_wp2_with (at_builtin; refine wpList_append_row rfl _ _ rfl v2 v3 (head id r 0x8282) (H (head id q 0x8080 ++ endsTo H id seed wd q i)) rfl (unhide HR2') rfl (unhide HV3) (unhide Hl3) ?_
                   intro v4 w4 hR4
                   have HR4 := hide hR4
                   clear hR4)
      refine ((unhide HC).sum w4 v4 _ (unhide HR4).bytes (by have h1 := unhide Hl; rw [List.length_append, len_head, (unhide HC).len]; omega)).mono ?_
      rintro e w5 ⟨v5, rfl, hR5⟩
      have HF : Hid (Row w0 w5 v5 (nodeAt H id seed h wd 0 r)) := by
        show Row _ _ _ _
        have e1 : nodeAt H id seed h wd 0 r = H (head id r 0x8282 ++ H (head id q 0x8080 ++ endsTo H id seed wd q i)) := by
          show H (head id r 0x8282 ++ leafKey H id seed wd (r - 2 ^ h)) = _
          unfold leafKey
          rw [unhide HQ, unhide Hq, unhide Hp]
        rw [e1]
        exact (hR5.up (unhide HR4).b).up (unhide HB2)
      clear hR5
      go_wp2
      go_ret
      exact ⟨_, rfl, unhide HF⟩
end Go.Proofs.YtlhjifdahagkaaaDoor
/-
  The walks of the reference's node (all heights), Tree and one.
-/
namespace Go.Proofs.YtlhjifdahagkaaaDoor
open Go.RowKit
set_option maxRecDepth 100000 in
set_option maxHeartbeats 4000000 in
theorem node_any {H : Bs → Bs} (C : RefHash H) (L : Int) (h wd : Nat) (xi xs : Value) (id seed : Bs) (li : id.length = 16) (ls : seed.length = 32) (hh : h ≤ 6) (hw : IsW wd) :
    ∀ (d : Nat), d ≤ h → ∀ (r : Nat), 2 ^ (h - d) ≤ r → r < 2 ^ (h - d + 1) → ∀ (w0 : World), BytesAt w0 xi id → BytesAt w0 xs seed →
    GivesB w0 55 #[keyV L (h : Int) (wd : Int) xi xs, .int .i64 (r : Int)] (nodeAt H id seed h wd d r)
  | 0, _, r, h1, h2, w0, hi, hs => leafnode_any C w0 L h wd xi xs id seed hi hs li ls hh hw r h1 h2
  | d + 1, hd, r, h1, h2, w0, hi, hs => by
    have ih := node_any C L h wd xi xs id seed li ls hh hw d (by omega)
    have HC := hide C
    have hbA : Below w0.heap.size w0 (w0.alloc (.cells #[.int .i64 L, .int .i64 (h : Int), .int .i64 (wd : Int), xi, xs] 29)) := (Below.refl _ _).alloc (Nat.le_refl _) _
    obtain ⟨wA, hwA⟩ : ∃ wA, w0.alloc (.cells #[.int .i64 L, .int .i64 (h : Int), .int .i64 (wd : Int), xi, xs] 29) = wA := ⟨_, rfl⟩
    have hK := key_new w0 L (h : Int) (wd : Int) xi xs 29
    rw [hwA] at hbA hK
    have HX := hide (hi.below hbA)
    have HS := hide (hs.below hbA)
    have HK := hide hK
    have HB := hide hbA
    have Hl := hide (And.intro li ls)
    have e1 : h - d = h - (d + 1) + 1 := by omega
    have hr1 : 2 ^ (h - d) ≤ 2 * r ∧ 2 * r + 1 < 2 ^ (h - d + 1) := by
      rw [e1]
      rw [Nat.pow_succ] at h2 ⊢
      rw [Nat.pow_succ]
      omega
    have Hl1 := hide (ih (2 * r) hr1.1 (by omega))
    have Hl2 := hide (ih (2 * r + 1) (by omega) hr1.2)
    have hrh : r < 2 ^ h := Nat.lt_of_lt_of_le h2 (Nat.pow_le_pow_right (show 0 < 2 by omega) (by omega))
    obtain ⟨Q, hQ⟩ : ∃ Q, 2 ^ h = Q := ⟨_, rfl⟩
    have hQi : (2 : Int) ^ h = (Q : Int) := by rw [← hQ]; simp
    have hQb : Q ≤ 64 := by rw [← hQ]; exact Nat.pow_le_pow_right (show 0 < 2 by omega) hh
    rw [hQ] at hrh
    have d1 : decide ((r : Int) < (Q : Int)) = true := by simp; omega
    have d1' : decide (r < Q) = true := by simp; omega
    have hb : (h : Int) ≤ 6 := by omega
    have rb : (r : Int) < 64 := by omega
    have m1 : (2 : Int) * (r : Int) = ((2 * r : Nat) : Int) := by simp
    have m2 : ((2 * r : Nat) : Int) + 1 = ((2 * r + 1 : Nat) : Int) := by simp
    obtain ⟨r2, hr2⟩ : ∃ r2, 2 * r = r2 := ⟨_, rfl⟩
    obtain ⟨r3, hr3⟩ : ∃ r3, r2 + 1 = r3 := ⟨_, rfl⟩
    rw [hr2] at m1 m2 Hl1 Hl2
    rw [hr3] at m2 Hl2
    have Hn : Hid (nodeAt H id seed h wd (d + 1) r = H (head id r 0x8383 ++ nodeAt H id seed h wd d r2 ++ nodeAt H id seed h wd d r3)) := by show _ = _; rw [← hr3, ← hr2]; rfl
    have r2b : (r2 : Int) < 128 := by omega
    have r3b : (r3 : Int) < 129 := by omega
    have c0 := hK.c 0 _ rfl
    have c1 := hK.c 1 _ rfl
    have c2 := hK.c 2 _ rfl
    have c3 := hK.c 3 _ rfl
    have c4 := hK.c 4 _ rfl
    clear C hi hs hbA li ls hw hQ h1 h2 hr1 ih hK e1 hr2 hr3
    unfold keyV
    go_enter Tryd.func55, Tryd.ntmps55
    go_wp2_with fail
    refine ((unhide Hl1) wA (unhide HX) (unhide HS)).mono ?_
    rintro e w1 ⟨v1, rfl, hR1⟩
    have HK1 := hide ((unhide HK).below hR1.b)
    have HX1 := hide ((unhide HX).below hR1.b)
    have HS1 := hide ((unhide HS).below hR1.b)
    have HV1 := hide hR1.bytes
    have HB1 := hide ((unhide HB).trans (hR1.b.mono (unhide HB).size))
    have k0 := (unhide HK1).c 0 _ rfl
    have k1 := (unhide HK1).c 1 _ rfl
    have k2 := (unhide HK1).c 2 _ rfl
    have k3 := (unhide HK1).c 3 _ rfl
    have k4 := (unhide HK1).c 4 _ rfl
    clear hR1 c0 c1 c2 c3 c4 Hl1
    go_wp2_with fail
    refine ((unhide Hl2) w1 (unhide HX1) (unhide HS1)).mono ?_
    rintro e w2 ⟨v2, rfl, hR2⟩
    have HX2 := hide ((unhide HX1).below hR2.b)
    have HV12 := hide ((unhide HV1).below hR2.b)
    have HV2 := hide hR2.bytes
    have HB2 := hide ((unhide HB1).trans (hR2.b.mono (unhide HB1).size))
    have m3 := ((unhide HK1).below hR2.b).c 3 _ rfl
    clear hR2 k0 k1 k2 k3 k4 Hl2 HX HS HX1 HS1 HV1 HB1
    go_wp2_with fail
    refine (head_any w2 xi id r 0x8383 (unhide HX2) (by have := unhide Hl; omega) (by omega) (by omega)).mono ?_
    rintro e w3 ⟨v3, rfl, hR3⟩
    have HR3 := hide hR3
    have HV13 := hide ((unhide HV12).below hR3.b)
    have Hll1 : Hid ((head id r 0x8383).length + (nodeAt H id seed h wd d r2).length ≤ 1073741824) := by show _ ≤ _; have h1 := unhide Hl; rw [len_head, len_node H (unhide HC).len]; omega
    have Hll2 : Hid ((head id r 0x8383 ++ nodeAt H id seed h wd d r2).length + (nodeAt H id seed h wd d r3).length ≤ 1073741824) := by show _ ≤ _; have h1 := unhide Hl; rw [List.length_append, len_head, len_node H (unhide HC).len, len_node H (unhide HC).len]; omega
    clear hR3 m3
    go_wp2_with (first
      | (at_builtin; refine wpList_append_row rfl _ _ rfl v3 v1 (head id r 0x8383) (nodeAt H id seed h wd d r2) rfl (unhide HR3) rfl (unhide HV13) (unhide Hll1) ?_
         intro v4 w4 hR4
         have HR4 := hide hR4
         have HV24 := hide ((unhide HV2).below hR4.b)
         clear hR4)
      | (at_builtin; refine wpList_append_row rfl _ _ rfl v4 v2 (head id r 0x8383 ++ nodeAt H id seed h wd d r2) (nodeAt H id seed h wd d r3) rfl (unhide HR4) rfl (unhide HV24) (unhide Hll2) ?_
         intro v5 w5 hR5
         have HR5 := hide hR5
         clear hR5))
    refine ((unhide HC).sum w5 v5 _ (unhide HR5).bytes (by have h1 := unhide Hl; rw [List.length_append, List.length_append, len_head, len_node H (unhide HC).len, len_node H (unhide HC).len]; omega)).mono ?_
    rintro e w6 ⟨v6, rfl, hR6⟩
    have HF : Hid (Row w0 w6 v6 (nodeAt H id seed h wd (d + 1) r)) := by
      show Row _ _ _ _
      rw [unhide Hn]
      exact (hR6.up (unhide HR5).b).up (unhide HB2)
    clear hR6
    go_wp2
    go_ret
    exact ⟨_, rfl, unhide HF⟩
set_option maxRecDepth 100000 in
set_option maxHeartbeats 4000000 in
theorem tree_any {H : Bs → Bs} (C : RefHash H) (w0 : World) (L : Int) (h wd : Nat) (xi xs : Value) (id seed : Bs) (hi : BytesAt w0 xi id) (hs : BytesAt w0 xs seed) (li : id.length = 16) (ls : seed.length = 32) (hh : h ≤ 6) (hh1 : 1 ≤ h) (hw : IsW wd) :
    GivesB w0 32 #[keyV L (h : Int) (wd : Int) xi xs] (tree H id seed h wd) := by
  have HC := hide C
  have hbA : Below w0.heap.size w0 (w0.alloc (.cells #[.int .i64 L, .int .i64 (h : Int), .int .i64 (wd : Int), xi, xs] 29)) := (Below.refl _ _).alloc (Nat.le_refl _) _
  obtain ⟨wA, hwA⟩ : ∃ wA, w0.alloc (.cells #[.int .i64 L, .int .i64 (h : Int), .int .i64 (wd : Int), xi, xs] 29) = wA := ⟨_, rfl⟩
  have hK := key_new w0 L (h : Int) (wd : Int) xi xs 29
  rw [hwA] at hbA hK
  have HX := hide (hi.below hbA)
  have HS := hide (hs.below hbA)
  have HK := hide hK
  have HB := hide hbA
  have Hl := hide (And.intro li ls)
  have Hwi := hide (widthOf_of hw)
  have Hno : Hid (∀ w, BytesAt w xi id → BytesAt w xs seed → GivesB w 55 #[keyV L (h : Int) (wd : Int) xi xs, .int .i64 1] (nodeAt H id seed h wd h 1)) := fun w a b => node_any C L h wd xi xs id seed li ls hh hw h (Nat.le_refl _) 1 (by simp) (by simp) w a b
  have htb : tyH h ≤ 4294967296 := by unfold tyH; split <;> omega
  have hwb : tyW wd ≤ 4 := by rcases hw with rfl | rfl | rfl | rfl <;> simp [tyW]
  obtain ⟨tw, htw⟩ : ∃ tw, tyW wd = tw := ⟨_, rfl⟩
  obtain ⟨th, hth⟩ : ∃ th, tyH h = th := ⟨_, rfl⟩
  rw [htw] at Hwi hwb
  have Hty := hide (fun w => type_any h hh w)
  rw [hth] at Hty htb
  have Htr : Hid (tree H id seed h wd = big th 4 ++ big tw 4 ++ id ++ nodeAt H id seed h wd h 1) := by show _ = _; unfold tree; rw [hth, htw]
  have c1 := hK.c 1 _ rfl
  have c2 := hK.c 2 _ rfl
  have hb : (h : Int) ≤ 6 := by omega
  clear C hi hs hbA li ls hw hK htw hth
  unfold keyV
  go_enter Tryd.func32, Tryd.ntmps32
  go_wp2_with fail
  refine (width_any (wd : Int) _).mono ?_
  rw [unhide Hwi]
  rintro e w1 ⟨rfl, hw1⟩
  subst hw1
  go_wp2_with fail
  refine (unhide Hty w1).mono ?_
  rintro e w2 ⟨rfl, rfl⟩
  go_wp2_with fail
  refine (big_any w2 th 4 (by omega) (by omega)).mono ?_
  rintro e w3 ⟨v3, rfl, hR⟩
  have HV3 := hide hR.bytes
  have HA3 := hide hR.b
  clear hR c1 c2
  go_wp2_with fail
  refine (big_any w3 tw 4 (by omega) (by omega)).mono ?_
  rintro e w4 ⟨v4, rfl, hR⟩
  have HV34 := hide ((unhide HV3).below hR.b)
  have HV4 := hide hR.bytes
  have HA4 := hide ((unhide HA3).trans (hR.b.mono (unhide HA3).size))
  clear hR HV3 HA3
  go_wp2_with fail
  refine (join_any w4 v3 v4 (big th 4) (big tw 4) (unhide HV34) (unhide HV4) (by rw [len_big, len_big]; omega)).mono ?_
  rintro e w5 ⟨v5, rfl, hR⟩
  have HR5 := hide (hR.up (unhide HA4))
  clear hR HV34 HV4
  have c3 := ((unhide HK).below (unhide HR5).b).c 3 _ rfl
  have HX5 := hide ((unhide HX).below (unhide HR5).b)
  have Hl5 : Hid ((big th 4 ++ big tw 4).length + id.length ≤ 1073741824) := by show _ ≤ _; have h1 := unhide Hl; rw [List.length_append, len_big, len_big]; omega
  have Hl7 : Hid ((big th 4 ++ big tw 4 ++ id).length + (nodeAt H id seed h wd h 1).length ≤ 1073741824) := by show _ ≤ _; have h1 := unhide Hl; rw [List.length_append, List.length_append, len_big, len_big, len_node H (unhide HC).len]; omega
  go_wp2_with (at_builtin; refine wpList_append_row rfl _ _ rfl v5 xi (big th 4 ++ big tw 4) id rfl (unhide HR5) rfl (unhide HX5) (unhide Hl5) ?_
               intro v6 w6 hR
               have HR6 := hide hR
               have HK6 := hide ((unhide HK).below hR.b)
               have k0 := (unhide HK6).c 0 _ rfl
               have k1 := (unhide HK6).c 1 _ rfl
               have k2 := (unhide HK6).c 2 _ rfl
               have k3 := (unhide HK6).c 3 _ rfl
               have k4 := (unhide HK6).c 4 _ rfl
               clear hR c3)
  refine (unhide Hno w6 ((unhide HX).below (unhide HR6).b) ((unhide HS).below (unhide HR6).b)).mono ?_
  rintro e w7 ⟨v7, rfl, hR⟩
  have HR7 := hide ((unhide HR6).call hR.b)
  have HV7 := hide hR.bytes
  clear hR k0 k1 k2 k3 k4
  go_wp2_with (at_builtin; refine wpList_append_row rfl _ _ rfl v6 v7 (big th 4 ++ big tw 4 ++ id) (nodeAt H id seed h wd h 1) rfl (unhide HR7) rfl (unhide HV7) (unhide Hl7) ?_
               intro v8 w8 hR
               have HR8 := hide hR
               clear hR)
  have HF : Hid (Row w0 w8 v8 (tree H id seed h wd)) := by
    show Row _ _ _ _
    rw [unhide Htr]
    exact (unhide HR8).up (unhide HB)
  go_ret
  exact ⟨_, rfl, unhide HF⟩
end Go.Proofs.YtlhjifdahagkaaaDoor
