/-
  The walk of the landed readForm.
-/
import Derived.Test.YtngkidlgcdofhabDoorKg
import Derived.Test.YtngkidlgcdofhabDoorKi
namespace Go.Proofs.YtngkidlgcdofhabDoor
open Go.RowKit
namespace K
/-- What is told of a value's form: the class, tag and form, what is left, the error. -/
def FormTold (x : Value) (b : Bs) (told : Told (Nat × Nat × Bool × Bs)) (c t : Nat) (m : Bool) (rest : Value) (er : Nat) : Prop := match told with
  | .no e => er = e ∧ rest = .slice none 0 0
  | .yes (c', t', m', l) => er = 0 ∧ c = c' ∧ t = t' ∧ m = m' ∧ ∃ sp cc, rest = .slice sp l.length cc ∧ ∀ W, BytesAt W x b → BytesAt W rest l
theorem bits31 : ∀ p : Fin 256, bits .and .u8 ((p.val : Nat) : Int) 31 = ((p.val % 32 : Nat) : Int) := by decide +kernel
theorem bits32 : ∀ p : Fin 256, bits .and .u8 ((p.val : Nat) : Int) 32 = (((p.val / 32 % 2) * 32 : Nat) : Int) := by decide +kernel
theorem tag_cons (c : UInt8) (l : Bs) : tagP (c :: l) = if c.toNat % 32 < 31 then .yes (c.toNat / 64, c.toNat % 32, decide (c.toNat / 32 % 2 = 1), l) else match ltagP l with
    | .no e => .no e
    | .yes (t, r) => .yes (c.toNat / 64, t, decide (c.toNat / 32 % 2 = 1), r) := by
  show (if c.toNat % 32 < 31 then _ else _) = _
  split
  · rfl
  · unfold ltagP
    cases longP 0 0 l with
    | no e => rfl
    | yes tr =>
      obtain ⟨t, r⟩ := tr
      by_cases h : t < 31
      · simp only [if_pos h]
      · simp only [if_neg h]
set_option maxRecDepth 100000 in
set_option maxHeartbeats 8000000 in
theorem rform_c (w : World) (x : Value) (b : Bs) (hx : BytesAt w x b) (hl : b.length ≤ 1000000) :
    Calls Tryd.prog 23 #[x] w fun e w' => ∃ (c t : Nat) (m : Bool) (rest : Value) (er : Nat), e = .returned (.tuple #[.agg #[.int .i64 (c : Int), .int .i64 (t : Int), .bool m, .slice none 0 0, .slice none 0 0], rest, .int .i64 (er : Int)]) ∧ FormTold x b (tagP b) c t m rest er ∧ Below w.heap.size w w' := by
  obtain ⟨sp, cap, rfl, hcap, _, _⟩ := bytes_open hx
  obtain ⟨N, hN⟩ : ∃ N, b.length = N := ⟨_, rfl⟩
  have HN := hide hN
  rw [hN] at hx hl hcap ⊢
  have hA := Blk.new (Below.refl w.heap.size w) #[.int .i64 0, .int .i64 0, .bool false, .slice none 0 0, .slice none 0 0] 26
  by_cases h0 : N = 0
  · subst h0
    have HT : Hid (tagP b = .no 20) := by show _ = _; rw [List.eq_nil_of_length_eq_zero hN]; rfl
    have HA := hide hA
    clear hx hN hA
    go_enter Tryd.func23, Tryd.ntmps23
    go_wp2
    exact bodyPost_ret (res_row_tmp2 Tryd.results23 _ _ w.heap.size 26 #[.int .i64 0, .int .i64 0, .bool false, .slice none 0 0, .slice none 0 0] (0, 0) _ rfl (unhide HA).res Tryd.underlying26 rfl value5 (.slice none 0 0) (.int .i64 20) rfl rfl) rfl ⟨0, 0, false, _, 20, rfl, by rw [unhide HT]; exact ⟨rfl, rfl⟩, (unhide HA).b⟩
  obtain ⟨w1, hw1⟩ : ∃ w1, w.alloc (.cells #[.int .i64 0, .int .i64 0, .bool false, .slice none 0 0, .slice none 0 0] 26) = w1 := ⟨_, rfl⟩
  obtain ⟨A, eA⟩ : ∃ A, w.heap.size = A := ⟨_, rfl⟩
  rw [hw1, eA] at hA
  obtain ⟨ba, oa, p, rfl, hp, hpb, hc⟩ := byte_at (hx.below hA.b) hN 0 (by omega)
  rw [Nat.add_zero] at hc
  have z0 : ((N : Int) == 0) = false := by simp; omega
  have z1 : (0 : Int) < (N : Int) := by omega
  have z2 : 0 < N := by omega
  obtain ⟨sp1, c1, m1, hm1, hs1, hx1, hl1⟩ := tail_at (some ⟨ba, oa, none⟩) cap hN 1 1 rfl (by omega)
  have HL : Hid (tagP b = if p % 32 < 31 then .yes (p / 64, p % 32, decide (p / 32 % 2 = 1), b.drop 1) else match ltagP (b.drop 1) with
      | .no e => .no e
      | .yes (t, r) => .yes (p / 64, t, decide (p / 32 % 2 = 1), r)) := by
    show _ = _
    have h1 := drop_cons (b := b) (k := 0) (by omega)
    rw [List.drop_zero] at h1
    have h2 := tag_cons (b.getD 0 0) (b.drop 1)
    rw [hp] at h2
    rw [← h2]
    exact congrArg tagP h1
  have HX1 := hide (hx1 w hx)
  have HXf := hide hx1
  have HL1 := hide hl1
  have HA := hide hA
  have b0 := hA.cell 0 _ rfl
  have b1 := hA.cell 1 _ rfl
  have b2 := hA.cell 2 _ rfl
  have b3 := hA.cell 3 _ rfl
  have b4 := hA.cell 4 _ rfl
  have f0 := hA.frozen 0
  have f1 := hA.frozen 1
  have f2 := hA.frozen 2
  have f3 := hA.frozen 3
  have f4 := hA.frozen 4
  obtain ⟨C, hC⟩ : ∃ C, p / 64 = C := ⟨_, rfl⟩
  obtain ⟨T, hT⟩ : ∃ T, p % 32 = T := ⟨_, rfl⟩
  obtain ⟨M, hM⟩ : ∃ M, p / 32 % 2 * 32 = M := ⟨_, rfl⟩
  have e1 : (p : Int) / 64 = (C : Int) := by omega
  have uC8 : IntKind.u8.wrap (C : Int) = (C : Int) := by rw [IntKind.wrap_u8']; omega
  have uC : IntKind.i64.wrap (C : Int) = (C : Int) := IntWalk.i64_in _ (by omega)
  have uT : IntKind.i64.wrap (T : Int) = (T : Int) := IntWalk.i64_in _ (by omega)
  have a31 : bits .and .u8 (p : Int) 31 = (T : Int) := by rw [← hT]; exact bits31 ⟨p, hpb⟩
  have a32 : bits .and .u8 (p : Int) 32 = (M : Int) := by rw [← hM]; exact bits32 ⟨p, hpb⟩
  obtain ⟨m, hm⟩ : ∃ m, decide (p / 32 % 2 = 1) = m := ⟨_, rfl⟩
  have dM : ((M : Int) != 0) = m := by
    rw [← hm]
    rcases (by omega : p / 32 % 2 = 0 ∨ p / 32 % 2 = 1) with h | h
    · rw [h] at hM ⊢
      subst hM
      rfl
    · rw [h] at hM ⊢
      subst hM
      rfl
  rw [hC, hT, hm] at HL
  have hTb : T ≤ 31 := by omega
  clear hx hN hp hx1 hl1 h0 hA hC hT hM hm
  go_enter Tryd.func23, Tryd.ntmps23
  go_wp2
  go_region
  have hA2 := ((unhide HA).put5 (.int .i64 (C : Int)) (.int .i64 (T : Int)) (.bool m) (.slice none 0 0) (.slice none 0 0)).drew
  obtain ⟨w2, hw2⟩ : ∃ w2, (((((w1.setCell ⟨A, 0, none⟩ (.int .i64 (C : Int))).setCell ⟨A, 1, none⟩ (.int .i64 (T : Int))).setCell ⟨A, 2, none⟩ (.bool m)).setCell ⟨A, 3, none⟩ (.slice none 0 0)).setCell ⟨A, 4, none⟩ (.slice none 0 0)).drew = w2 := ⟨_, rfl⟩
  rw [hw2] at hA2 ⊢
  have HA2 := hide hA2
  have d0 := hA2.cell 0 _ rfl
  have d1 := hA2.cell 1 _ rfl
  have d2 := hA2.cell 2 _ rfl
  have d3 := hA2.cell 3 _ rfl
  have d4 := hA2.cell 4 _ rfl
  have g0 := hA2.frozen 0
  have g1 := hA2.frozen 1
  have g2 := hA2.frozen 2
  have g3 := hA2.frozen 3
  have g4 := hA2.frozen 4
  clear b0 b1 b2 b3 b4 f0 f1 f2 f3 f4 hA2 HA hw2 hw1 hc
  by_cases h31 : T < 31
  · have t1 : ((T : Int) == 31) = false := by simp; omega
    have HT : Hid (tagP b = .yes (C, T, m, b.drop 1)) := by show _ = _; rw [unhide HL, if_pos h31]
    clear HL h31
    go_wp2
    have h1 := (unhide HA2).put5 (.int .i64 (C : Int)) (.int .i64 (T : Int)) (.bool m) (.slice none 0 0) (.slice none 0 0)
    exact bodyPost_ret (res_row_tmp2 Tryd.results23 _ _ A 26 #[.int .i64 (C : Int), .int .i64 (T : Int), .bool m, .slice none 0 0, .slice none 0 0] (0, 0) _ rfl h1.res Tryd.underlying26 rfl value5 (.slice sp1 m1 c1) (.int .i64 0) rfl rfl) rfl ⟨C, T, m, .slice sp1 m1 c1, 0, rfl, by rw [unhide HT]; exact ⟨rfl, rfl, rfl, rfl, sp1, c1, by rw [unhide HL1], unhide HXf⟩, h1.b⟩
  have hT31 : T = 31 := by omega
  have t1 : ((T : Int) == 31) = true := by simp; omega
  have HL2 : Hid (tagP b = match ltagP (b.drop 1) with
      | .no e => .no e
      | .yes (t, r) => .yes (C, t, m, r)) := by show _ = _; rw [unhide HL, if_neg h31]
  have Hrt := hide (rtag_c w2 (.slice sp1 m1 c1) (b.drop 1) ((unhide HX1).below (unhide HA2).b) (by rw [unhide HL1]; omega))
  clear HL h31 hT31
  go_wp2_with fail
  refine (unhide Hrt).mono ?_
  rintro e w3 ⟨tv, rest, er, rfl, hnum, hb3⟩
  have hA3 := (unhide HA2).call hb3
  have HA3 := hide hA3
  have HNum := hide hnum
  have Hb3 := hide hb3
  obtain ⟨rs, rn, rc, hrest⟩ : ∃ rs rn rc, rest = .slice rs rn rc := by
    have h1 := hnum
    unfold NumTold at h1
    split at h1
    · exact ⟨_, _, _, h1.2⟩
    · obtain ⟨_, _, sp', c', h2, _⟩ := h1
      exact ⟨_, _, _, h2⟩
  subst hrest
  have j0 := hA3.cell 0 _ rfl
  have j1 := hA3.cell 1 _ rfl
  have j2 := hA3.cell 2 _ rfl
  have j3 := hA3.cell 3 _ rfl
  have j4 := hA3.cell 4 _ rfl
  have i0 := hA3.frozen 0
  have i1 := hA3.frozen 1
  have i2 := hA3.frozen 2
  have i3 := hA3.frozen 3
  have i4 := hA3.frozen 4
  clear hnum hb3 hA3 Hrt d0 d1 d2 d3 d4 g0 g1 g2 g3 g4
  go_upto_region 7 with fail
  have hA4 := Blk.put (cs := [.int .i64 (C : Int), .int .i64 (T : Int), .bool m, .slice none 0 0, .slice none 0 0]) (unhide HA3) 1 (by simp) (.int .i64 (tv : Int))
  simp only [List.set_cons_succ, List.set_cons_zero] at hA4
  obtain ⟨w4, hw4⟩ : ∃ w4, w3.setCell ⟨A, 1, none⟩ (.int .i64 (tv : Int)) = w4 := ⟨_, rfl⟩
  rw [hw4] at hA4 ⊢
  have HA4 := hide hA4
  have q0 := hA4.cell 0 _ rfl
  have q1 := hA4.cell 1 _ rfl
  have q2 := hA4.cell 2 _ rfl
  have q3 := hA4.cell 3 _ rfl
  have q4 := hA4.cell 4 _ rfl
  have r0 := hA4.frozen 0
  have r1 := hA4.frozen 1
  have r2 := hA4.frozen 2
  have r3 := hA4.frozen 3
  have r4 := hA4.frozen 4
  clear hA4 j0 j1 j2 j3 j4 i0 i1 i2 i3 i4
  go_wp2
  have h1 := (unhide HA4).put5 (.int .i64 (C : Int)) (.int .i64 (tv : Int)) (.bool m) (.slice none 0 0) (.slice none 0 0)
  refine bodyPost_ret (res_row_tmp2 Tryd.results23 _ _ A 26 #[.int .i64 (C : Int), .int .i64 (tv : Int), .bool m, .slice none 0 0, .slice none 0 0] (0, 0) _ rfl h1.res Tryd.underlying26 rfl value5 (.slice rs rn rc) (.int .i64 (er : Int)) rfl rfl) rfl ⟨C, tv, m, .slice rs rn rc, er, rfl, ?_, h1.b⟩
  rw [unhide HL2]
  have h2 := unhide HNum
  unfold NumTold at h2
  cases hlt : ltagP (b.drop 1) with
  | no e => rw [hlt] at h2; exact h2
  | yes tr =>
    obtain ⟨t, r⟩ := tr
    rw [hlt] at h2
    obtain ⟨h3, h4, sp', c', h5, h6⟩ := h2
    exact ⟨h3, rfl, h4, rfl, sp', c', h5, fun W h => h6 W (unhide HXf W h)⟩
end K
end Go.Proofs.YtngkidlgcdofhabDoor
