/-
  The walk of the landed readForm.
-/
import Derived.Test.YtngkidlgcdofhaaDoorKg
import Derived.Test.YtngkidlgcdofhaaDoorMH
import Derived.Test.YtngkidlgcdofhaaDoorMB
import Derived.Test.YtngkidlgcdofhaaDoorMade9
namespace Go.Proofs.YtngkidlgcdofhaaDoor
open Go.RowKit
namespace K
/-- What is told of a value's form: the class, tag and form, what is left, the error. -/
def FormTold (x : Value) (b : Bs) (told : Told (Nat × Nat × Bool × Bs)) (c t : Nat) (m : Bool) (rest : Value) (er : Nat) : Prop := match told with
  | .no e => er = e ∧ rest = .slice none 0 0
  | .yes (c', t', m', l) => er = 0 ∧ c = c' ∧ t = t' ∧ m = m' ∧ ∃ sp cc, rest = .slice sp l.length cc ∧ ∀ W, BytesAt W x b → BytesAt W rest l
theorem bits31 : ∀ p : Fin 256, bits .and .u8 ((p.val : Nat) : Int) 31 = ((p.val % 32 : Nat) : Int) := by decide +kernel
theorem bits32 : ∀ p : Fin 256, bits .and .u8 ((p.val : Nat) : Int) 32 = (((p.val / 32 % 2) * 32 : Nat) : Int) := by decide +kernel
theorem tag_cons (c : UInt8) (l : Bs) : tagP (c :: l) = if c.toNat % 32 < 31 then .yes (c.toNat / 64, c.toNat % 32, decide (c.toNat / 32 % 2 = 1), l) else match ltagP l with
    | .no e => .no e
    | .yes (t, r) => .yes (c.toNat / 64, t, decide (c.toNat / 32 % 2 = 1), r) := by
  show (if c.toNat % 32 < 31 then _ else _) = _
  split
  · rfl
  · unfold ltagP
    cases longP 0 0 l with
    | no e => rfl
    | yes tr =>
      obtain ⟨t, r⟩ := tr
      by_cases h : t < 31
      · simp only [if_pos h]
      · simp only [if_neg h]
set_option maxRecDepth 100000 in
set_option maxHeartbeats 8000000 in
theorem rform_c (w : World) (x : Value) (b : Bs) (hx : BytesAt w x b) (hl : b.length ≤ 1000000) :
    Calls Tryd.prog 25 #[x] w fun e w' => ∃ (c t : Nat) (m : Bool) (rest : Value) (er : Nat), e = .returned (.tuple #[.agg #[.int .i64 (c : Int), .int .i64 (t : Int), .bool m, .slice none 0 0, .slice none 0 0], rest, .int .i64 (er : Int)]) ∧ FormTold x b (tagP b) c t m rest er ∧ Below w.heap.size w w' := by
  obtain ⟨sp, cap, rfl, hcap, _, _⟩ := bytes_open hx
  obtain ⟨N, hN⟩ : ∃ N, b.length = N := ⟨_, rfl⟩
  have HN := hide hN
  rw [hN] at hx hl hcap ⊢
  have hA := Blk.new (Below.refl w.heap.size w) #[.int .i64 0, .int .i64 0, .bool false, .slice none 0 0, .slice none 0 0] 26
  by_cases h0 : N = 0
  · subst h0
    have HT : Hid (tagP b = .no 20) := by show _ = _; rw [List.eq_nil_of_length_eq_zero hN]; rfl
    have HA := hide hA
    clear hx hN hA
    go_enter Tryd.func25, Tryd.ntmps25
    go_wp2
    exact bodyPost_ret (res_row_tmp2 Tryd.results25 _ _ w.heap.size 26 #[.int .i64 0, .int .i64 0, .bool false, .slice none 0 0, .slice none 0 0] (0, 0) _ rfl (unhide HA).res Tryd.underlying26 rfl value5 (.slice none 0 0) (.int .i64 20) rfl rfl) rfl ⟨0, 0, false, _, 20, rfl, by rw [unhide HT]; exact ⟨rfl, rfl⟩, (unhide HA).b⟩
  obtain ⟨w1, hw1⟩ : ∃ w1, w.alloc (.cells #[.int .i64 0, .int .i64 0, .bool false, .slice none 0 0, .slice none 0 0] 26) = w1 := ⟨_, rfl⟩
  obtain ⟨A, eA⟩ : ∃ A, w.heap.size = A := ⟨_, rfl⟩
  rw [hw1, eA] at hA
  obtain ⟨ba, oa, p, rfl, hp, hpb, hc⟩ := byte_at (hx.below hA.b) hN 0 (by omega)
  rw [Nat.add_zero] at hc
  have z0 : ((N : Int) == 0) = false := by simp; omega
  have z1 : (0 : Int) < (N : Int) := by omega
  have z2 : 0 < N := by omega
  obtain ⟨sp1, c1, m1, hm1, hs1, hx1, hl1⟩ := tail_at (some ⟨ba, oa, none⟩) cap hN 1 1 rfl (by omega)
  have HL : Hid (tagP b = if p % 32 < 31 then .yes (p / 64, p % 32, decide (p / 32 % 2 = 1), b.drop 1) else match ltagP (b.drop 1) with
      | .no e => .no e
      | .yes (t, r) => .yes (p / 64, t, decide (p / 32 % 2 = 1), r)) := by
    show _ = _
    have h1 := drop_cons (b := b) (k := 0) (by omega)
    rw [List.drop_zero] at h1
    have h2 := tag_cons (b.getD 0 0) (b.drop 1)
    rw [hp] at h2
    rw [← h2]
    exact congrArg tagP h1
  have HX1 := hide (hx1 w hx)
  have HXf := hide hx1
  have HL1 := hide hl1
  have HA := hide hA
  have b0 := hA.cell 0 _ rfl
  have b1 := hA.cell 1 _ rfl
  have b2 := hA.cell 2 _ rfl
  have b3 := hA.cell 3 _ rfl
  have b4 := hA.cell 4 _ rfl
  have f0 := hA.frozen 0
  have f1 := hA.frozen 1
  have f2 := hA.frozen 2
  have f3 := hA.frozen 3
  have f4 := hA.frozen 4
  obtain ⟨C, hC⟩ : ∃ C, p / 64 = C := ⟨_, rfl⟩
  obtain ⟨T, hT⟩ : ∃ T, p % 32 = T := ⟨_, rfl⟩
  obtain ⟨M, hM⟩ : ∃ M, p / 32 % 2 * 32 = M := ⟨_, rfl⟩
  have e1 : (p : Int) / 64 = (C : Int) := by omega
  have uC8 : IntKind.u8.wrap (C : Int) = (C : Int) := by rw [IntKind.wrap_u8']; omega
  have uC : IntKind.i64.wrap (C : Int) = (C : Int) := IntWalk.i64_in _ (by omega)
  have uT : IntKind.i64.wrap (T : Int) = (T : Int) := IntWalk.i64_in _ (by omega)
  have a31 : bits .and .u8 (p : Int) 31 = (T : Int) := by rw [← hT]; exact bits31 ⟨p, hpb⟩
  have a32 : bits .and .u8 (p : Int) 32 = (M : Int) := by rw [← hM]; exact bits32 ⟨p, hpb⟩
  obtain ⟨m, hm⟩ : ∃ m, decide (p / 32 % 2 = 1) = m := ⟨_, rfl⟩
  have dM : ((M : Int) != 0) = m := by
    rw [← hm]
    rcases (by omega : p / 32 % 2 = 0 ∨ p / 32 % 2 = 1) with h | h
    · rw [h] at hM ⊢
      subst hM
      rfl
    · rw [h] at hM ⊢
      subst hM
      rfl
  rw [hC, hT, hm] at HL
  have hTb : T ≤ 31 := by omega
  clear hx hN hp hx1 hl1 h0 hA hC hT hM hm
  go_enter Tryd.func25, Tryd.ntmps25
  go_wp2
  go_region
  have hA2 := ((unhide HA).put5 (.int .i64 (C : Int)) (.int .i64 (T : Int)) (.bool m) (.slice none 0 0) (.slice none 0 0)).drew
  obtain ⟨w2, hw2⟩ : ∃ w2, (((((w1.setCell ⟨A, 0, none⟩ (.int .i64 (C : Int))).setCell ⟨A, 1, none⟩ (.int .i64 (T : Int))).setCell ⟨A, 2, none⟩ (.bool m)).setCell ⟨A, 3, none⟩ (.slice none 0 0)).setCell ⟨A, 4, none⟩ (.slice none 0 0)).drew = w2 := ⟨_, rfl⟩
  rw [hw2] at hA2 ⊢
  have HA2 := hide hA2
  have d0 := hA2.cell 0 _ rfl
  have d1 := hA2.cell 1 _ rfl
  have d2 := hA2.cell 2 _ rfl
  have d3 := hA2.cell 3 _ rfl
  have d4 := hA2.cell 4 _ rfl
  have g0 := hA2.frozen 0
  have g1 := hA2.frozen 1
  have g2 := hA2.frozen 2
  have g3 := hA2.frozen 3
  have g4 := hA2.frozen 4
  clear b0 b1 b2 b3 b4 f0 f1 f2 f3 f4 hA2 HA hw2 hw1 hc
  by_cases h31 : T < 31
  · have t1 : ((T : Int) == 31) = false := by simp; omega
    have HT : Hid (tagP b = .yes (C, T, m, b.drop 1)) := by show _ = _; rw [unhide HL, if_pos h31]
    clear HL h31
    go_wp2
    have h1 := (unhide HA2).put5 (.int .i64 (C : Int)) (.int .i64 (T : Int)) (.bool m) (.slice none 0 0) (.slice none 0 0)
    exact bodyPost_ret (res_row_tmp2 Tryd.results25 _ _ A 26 #[.int .i64 (C : Int), .int .i64 (T : Int), .bool m, .slice none 0 0, .slice none 0 0] (0, 0) _ rfl h1.res Tryd.underlying26 rfl value5 (.slice sp1 m1 c1) (.int .i64 0) rfl rfl) rfl ⟨C, T, m, .slice sp1 m1 c1, 0, rfl, by rw [unhide HT]; exact ⟨rfl, rfl, rfl, rfl, sp1, c1, by rw [unhide HL1], unhide HXf⟩, h1.b⟩
  have hT31 : T = 31 := by omega
  have t1 : ((T : Int) == 31) = true := by simp; omega
  have HL2 : Hid (tagP b = match ltagP (b.drop 1) with
      | .no e => .no e
      | .yes (t, r) => .yes (C, t, m, r)) := by show _ = _; rw [unhide HL, if_neg h31]
  have Hrt := hide (rtag_c w2 (.slice sp1 m1 c1) (b.drop 1) ((unhide HX1).below (unhide HA2).b) (by rw [unhide HL1]; omega))
  clear HL h31 hT31
  go_wp2_with fail
  refine (unhide Hrt).mono ?_
  rintro e w3 ⟨tv, rest, er, rfl, hnum, hb3⟩
  have hA3 := (unhide HA2).call hb3
  have HA3 := hide hA3
  have HNum := hide hnum
  have Hb3 := hide hb3
  obtain ⟨rs, rn, rc, hrest⟩ : ∃ rs rn rc, rest = .slice rs rn rc := by
    have h1 := hnum
    unfold NumTold at h1
    split at h1
    · exact ⟨_, _, _, h1.2⟩
    · obtain ⟨_, _, sp', c', h2, _⟩ := h1
      exact ⟨_, _, _, h2⟩
  subst hrest
  have j0 := hA3.cell 0 _ rfl
  have j1 := hA3.cell 1 _ rfl
  have j2 := hA3.cell 2 _ rfl
  have j3 := hA3.cell 3 _ rfl
  have j4 := hA3.cell 4 _ rfl
  have i0 := hA3.frozen 0
  have i1 := hA3.frozen 1
  have i2 := hA3.frozen 2
  have i3 := hA3.frozen 3
  have i4 := hA3.frozen 4
  clear hnum hb3 hA3 Hrt d0 d1 d2 d3 d4 g0 g1 g2 g3 g4
  go_upto_region 7 with fail
  have hA4 := Blk.put (cs := [.int .i64 (C : Int), .int .i64 (T : Int), .bool m, .slice none 0 0, .slice none 0 0]) (unhide HA3) 1 (by simp) (.int .i64 (tv : Int))
  simp only [List.set_cons_succ, List.set_cons_zero] at hA4
  obtain ⟨w4, hw4⟩ : ∃ w4, w3.setCell ⟨A, 1, none⟩ (.int .i64 (tv : Int)) = w4 := ⟨_, rfl⟩
  rw [hw4] at hA4 ⊢
  have HA4 := hide hA4
  have q0 := hA4.cell 0 _ rfl
  have q1 := hA4.cell 1 _ rfl
  have q2 := hA4.cell 2 _ rfl
  have q3 := hA4.cell 3 _ rfl
  have q4 := hA4.cell 4 _ rfl
  have r0 := hA4.frozen 0
  have r1 := hA4.frozen 1
  have r2 := hA4.frozen 2
  have r3 := hA4.frozen 3
  have r4 := hA4.frozen 4
  clear hA4 j0 j1 j2 j3 j4 i0 i1 i2 i3 i4
  go_wp2
  have h1 := (unhide HA4).put5 (.int .i64 (C : Int)) (.int .i64 (tv : Int)) (.bool m) (.slice none 0 0) (.slice none 0 0)
  refine bodyPost_ret (res_row_tmp2 Tryd.results25 _ _ A 26 #[.int .i64 (C : Int), .int .i64 (tv : Int), .bool m, .slice none 0 0, .slice none 0 0] (0, 0) _ rfl h1.res Tryd.underlying26 rfl value5 (.slice rs rn rc) (.int .i64 (er : Int)) rfl rfl) rfl ⟨C, tv, m, .slice rs rn rc, er, rfl, ?_, h1.b⟩
  rw [unhide HL2]
  have h2 := unhide HNum
  unfold NumTold at h2
  cases hlt : ltagP (b.drop 1) with
  | no e => rw [hlt] at h2; exact h2
  | yes tr =>
    obtain ⟨t, r⟩ := tr
    rw [hlt] at h2
    obtain ⟨h3, h4, sp', c', h5, h6⟩ := h2
    exact ⟨h3, rfl, h4, rfl, sp', c', h5, fun W h => h6 W (unhide HXf W h)⟩
end K
end Go.Proofs.YtngkidlgcdofhaaDoor
/-
  What reading tells, and a value that fill puts together.
-/
namespace Go.Proofs.YtngkidlgcdofhaaDoor
open Go.RowKit
namespace K
/-- Filling a value whose form is known. -/
def fillP (f c t : Nat) (m : Bool) (b : Bs) : Told DV :=
  if okT c t m = false then .no 21 else
  if m = false then (if rightC c t b = false then .no 24 else .yes (.mk c t false b [])) else
  match kidsP (valueP formD f) b.length b with
  | .no e => .no e
  | .yes ks => if (fallsP (ks.map (·.2)) && decide (c = 0 ∧ t = 17)) = true then .no 25 else .yes (.mk c t true [] (ks.map (·.1)))
theorem value_fill {f : Nat} {l l1 l2 : Bs} {c t n : Nat} {m : Bool} (h : tagP l = .yes (c, t, m, l1)) (h2 : lenP l1 = .yes (n, l2)) : valueP formD (f + 1) l = if l2.length < n then .no 20 else match fillP f c t m (l2.take n) with
    | .no e => .no e
    | .yes v => .yes (v, l2.drop n) := by
  unfold valueP
  rw [h]
  simp only []
  rw [h2]
  simp only []
  split
  · rfl
  rename_i hlen
  have hn : (l2.take n).length = n := by rw [List.length_take]; omega
  have e17 : ∀ q : Bool, (q && decide (c = 0) && decide (t = 17)) = (q && decide (c = 0 ∧ t = 17)) := fun q => by rw [Bool.and_assoc, ← Bool.decide_and]
  unfold fillP
  rw [hn]
  cases m with
  | false =>
    simp only [Bool.false_eq_true, if_false, form_ok, if_true, true_and]
    cases okT c t false <;> cases rightC c t (l2.take n) <;> simp
  | true =>
    simp only [if_true, form_ok, Bool.true_eq_false, false_and, if_false, e17]
    cases okT c t true with
    | false => simp
    | true =>
      simp only [Bool.true_eq_false, if_false, ne_eq, not_true_eq_false]
      cases kidsP (valueP formD f) n (l2.take n) with
      | no e => rfl
      | yes ks =>
        by_cases hq : (fallsP (ks.map (·.2)) && decide (c = 0 ∧ t = 17)) = true
        · simp only [if_pos hq]
        · simp only [if_neg hq]
def zeroL : List Value := [.int .i64 0, .int .i64 0, .bool false, .slice none 0 0, .slice none 0 0]
/-- What is told of a value that is read. -/
def ReadTold (f : Nat) (w' : World) (B : Nat) (x : Value) (b : Bs) (cs : List Value) (rest : Value) (er : Nat) : Prop := match valueP formD f b with
  | .no e => er = e ∧ cs = zeroL
  | .yes (v, r) => er = 0 ∧ VAt f (fun k => B ≤ k) w' cs v ∧ ∃ sp c, rest = .slice sp r.length c ∧ ∀ W, BytesAt W x b → BytesAt W rest r
def ReadC (f : Nat) : Prop := ∀ (w : World) (x : Value) (b : Bs) (D : Nat), Tabs w → BytesAt w x b → b.length ≤ 65536 → D + f = 17 → Calls Tryd.prog 19 #[x, .int .i64 (D : Int)] w fun e w' => ∃ (cs : List Value) (s : Option Addr) (n c : Nat) (er : Nat), e = .returned (.tuple #[.agg cs.toArray, .slice s n c, .int .i64 (er : Int)]) ∧ ReadTold f w' w.heap.size x b cs (.slice s n c) er ∧ Below w.heap.size w w'
def FillTold (f c t : Nat) (m : Bool) (w' : World) (B : Nat) (b : Bs) (cs : List Value) (er : Nat) : Prop := match fillP f c t m b with
  | .no e => er = e ∧ cs = zeroL
  | .yes v => er = 0 ∧ VAt (f + 1) (fun k => B ≤ k) w' cs v
def FillC (f : Nat) : Prop := ∀ (w : World) (c t : Nat) (m : Bool) (y : Value) (b : Bs) (D : Nat), Tabs w → BytesAt w y b → b.length ≤ 65536 → D + (f + 1) = 17 → Calls Tryd.prog 27 #[.agg #[.int .i64 (c : Int), .int .i64 (t : Int), .bool m, .slice none 0 0, .slice none 0 0], y, .int .i64 (D : Int)] w fun e w' => ∃ (cs : List Value) (er : Nat), e = .returned (.tuple #[.agg cs.toArray, .int .i64 (er : Int)]) ∧ FillTold f c t m w' w.heap.size b cs er ∧ Below w.heap.size w w'
/-- A read value has the form of five cells. -/
theorem read_form {f : Nat} {w' : World} {B : Nat} {x rest : Value} {b : Bs} {cs : List Value} {er : Nat} (h : ReadTold f w' B x b cs rest er) : ∃ (c t : Int) (m : Bool) (s1 s2 : Option Addr) (n1 c1 n2 c2 : Nat), cs = [.int .i64 c, .int .i64 t, .bool m, .slice s1 n1 c1, .slice s2 n2 c2] := by
  unfold ReadTold at h
  split at h
  · exact ⟨_, _, _, _, _, _, _, _, _, h.2⟩
  · obtain ⟨_, hv, _⟩ := h
    obtain ⟨s1, c1, s2, c2, e⟩ := hv.form
    exact ⟨_, _, _, _, _, _, _, _, _, e⟩
theorem fill_form {f c t : Nat} {m : Bool} {w' : World} {B : Nat} {b : Bs} {cs : List Value} {er : Nat} (h : FillTold f c t m w' B b cs er) : ∃ (c t : Int) (m : Bool) (s1 s2 : Option Addr) (n1 c1 n2 c2 : Nat), cs = [.int .i64 c, .int .i64 t, .bool m, .slice s1 n1 c1, .slice s2 n2 c2] := by
  unfold FillTold at h
  split at h
  · exact ⟨_, _, _, _, _, _, _, _, _, h.2⟩
  · obtain ⟨_, hv⟩ := h
    obtain ⟨s1, c1, s2, c2, e⟩ := hv.form
    exact ⟨_, _, _, _, _, _, _, _, _, e⟩
theorem Edv : Elem5 Tryd.prog 24 26 (.agg #[.int .i64 0, .int .i64 0, .bool false, .slice none 0 0, .slice none 0 0]) := by
  refine ⟨Tryd.underlying24, ?_, rfl⟩
  have h : (Tryd.prog.info? 26).map (fun i => (i.zero, i.size, i.bytes)) = some (some (.agg #[.int .i64 0, .int .i64 0, .bool false, .slice none 0 0, .slice none 0 0]), 5, 72) := by kernel_rfl
  obtain ⟨i, hi, h2⟩ := Option.map_eq_some_iff.1 h
  simp only [Prod.mk.injEq] at h2
  exact ⟨i, hi, h2.1, h2.2.1, h2.2.2⟩
/-- append of one value of five cells. -/
theorem wpList_append_five {t e : TypeId} {z : Value} (E : Elem5 Tryd.prog t e z) {w : World} {ops : Array Oper} {rest : List Oper} {o : Oper} {a : Act} {Q : Exit → Act → World → Prop} (hgd : o.guard = none) (s x : Operand)
    (ho : o.op = .call { callee := .builtin .append, args := #[s, x], argTypes := #[t, t] }) (base : Nat) (v : Value) (n : Nat) (xs ds : List Value) (hs : a.eval s = v) (hown : OwnD e w base v n xs) (ga go c : Nat)
    (hx : a.eval x = .slice (some ⟨ga, go, none⟩) 1 c) (hds : ds.length = 5) (hy : CellsAt w ga go ds) (h1 : ∀ u ∈ ds, u.oneCell' = true) (hb : base ≤ w.heap.size) (hlen : n ≤ 1073741824)
    (h : ∀ v' w', OwnD e w' base v' (n + 1) (xs ++ ds) → w.grownBy w' v.ownBlock → (v'.ownBlock = v.ownBlock ∨ v'.ownBlock = some w.heap.size) → wpList Tryd.prog ops Q rest (a.put o.dst v') w') : wpList Tryd.prog ops Q (o :: rest) a w := by
  refine wpList_plain hgd fun K hK => ?_
  obtain ⟨v', w', hrun, h2, h3, h4⟩ := run_append_five E w base v n xs ds hown ga go c hds hy h1 hb hlen o.type
  unfold Oper.wp execOp
  simp only [ho, resolve, invoke, builtin, Sem.run_bind, Sem.run_pure, Result.andThen_ok, List.map_toArray, List.map_cons, List.map_nil, hs, hx, hrun]
  exact hK _ _ (h v' w' h2 h3 h4)
/-- The blocks that a kid may lie in. -/
def Fr (Q : Nat) (x : Value) (b : Nat) : Prop := Q < b ∧ x.ownBlock ≠ some b
/-- What stands behind so many kids. -/
structure KM (n : Nat) (w wr : World) (O R Q c t : Nat) (xk : Value) (rule : Array Value) (ks : List DV) (xs : List Value) : Prop where
  out : Blk w wr O #[.int .i64 (c : Int), .int .i64 (t : Int), .bool true, .slice none 0 0, xk] 26
  res : Blk w wr R zeroL.toArray 26
  rul : Blk w wr Q rule 68
  own : OwnD 26 wr (Q + 1) xk ks.length xs
  kids : ∀ (j : Nat) (k : DV), ks[j]? = some k → VAt n (Fr Q xk) wr ((xs.drop (j * 5)).take 5) k
  oq : O < Q ∧ R < Q ∧ O ≠ R
theorem KM.below {n : Nat} {w wr w' : World} {O R Q c t : Nat} {xk : Value} {rule : Array Value} {ks : List DV} {xs : List Value} (h : KM n w wr O R Q c t xk rule ks xs) (hb : Below wr.heap.size wr w') : KM n w w' O R Q c t xk rule ks xs :=
  ⟨h.out.call hb, h.res.call hb, h.rul.call hb, h.own.below hb, fun j k hk => (h.kids j k hk).below hb, h.oq⟩
theorem blk_grown {w0 a b : World} {A : Nat} {cs : Array Value} {T : TypeId} {r : Option Nat} (h : Blk w0 a A cs T) (hg : a.grownBy b r) (hne : some A ≠ r) (hb : Below w0.heap.size w0 b) : Blk w0 b A cs T :=
  ⟨by rw [hg.block A h.lt hne]; exact h.res, hb, h.ge⟩
/-- One kid more. -/
theorem KM.add {n : Nat} {w wa wb : World} {O R Q c t : Nat} {xk v' : Value} {rule : Array Value} {ks : List DV} {xs ds : List Value} {k : DV} (h : KM n w wa O R Q c t xk rule ks xs) (hv : VAt n (Fr Q xk) wa ds k)
    (hown : OwnD 26 wb (Q + 1) v' (ks.length + 1) (xs ++ ds)) (hg : wa.grownBy wb xk.ownBlock) (hor : v'.ownBlock = xk.ownBlock ∨ v'.ownBlock = some wa.heap.size) : KM n w (wb.setCell ⟨O, 4, none⟩ v') O R Q c t v' rule (ks ++ [k]) (xs ++ ds) := by
  have hxo : ∀ g, xk.ownBlock = some g → Q + 1 ≤ g := fun g hx => (OwnD.block h.own g hx).1
  have hvo : ∀ g, v'.ownBlock = some g → Q + 1 ≤ g := fun g hx => (OwnD.block hown g hx).1
  have hQw : w.heap.size ≤ Q := h.rul.ge
  have hB1 : Below w.heap.size w wb := grown_below' h.out.b hg h.out.b.size (fun g hx => by have := hxo g hx; omega)
  have hO := blk_grown h.out hg (fun e => by have := hxo O e.symm; have := h.oq.1; omega) hB1
  have hR := blk_grown h.res hg (fun e => by have := hxo R e.symm; have := h.oq.2.1; omega) hB1
  have hQ := blk_grown h.rul hg (fun e => by have := hxo Q e.symm; omega) hB1
  have hgs : wb.grownBy (wb.setCell ⟨O, 4, none⟩ v') (some O) := grown_setCell (World.grownBy.refl _ _) ⟨O, 4, none⟩ v' rfl
  have hB2 : Below w.heap.size w (wb.setCell ⟨O, 4, none⟩ v') := below_set hB1 hB1.size O h.out.ge 4 v'
  have turn : ∀ {ds' : List Value} {k' : DV}, VAt n (Fr Q xk) wa ds' k' → VAt n (Fr Q v') (wb.setCell ⟨O, 4, none⟩ v') ds' k' := fun hv' => by
    have h1 : VAt n (fun b => Fr Q xk b ∧ Fr Q v' b) wa _ _ := hv'.mono fun b hb hbl => ⟨hb, hb.1, fun e => by
      rcases hor with ho | ho
      · rw [ho] at e; exact hb.2 e
      · rw [ho] at e; simp only [Option.some.injEq] at e; omega⟩
    have h2 := h1.kept hg (fun g hx hf => hf.1.2 hx)
    have h3 := h2.kept hgs (fun g hx hf => by simp only [Option.some.injEq] at hx; have := hf.1.1; have := h.oq.1; omega)
    exact h3.mono fun b hb _ => hb.2
  refine ⟨?_, blk_grown hR hgs (fun e => by simp only [Option.some.injEq] at e; have := h.oq.2.2; omega) hB2, blk_grown hQ hgs (fun e => by simp only [Option.some.injEq] at e; have := h.oq.1; omega) hB2, ?_, fun j k' hk' => ?_, h.oq⟩
  · have := Blk.put (cs := [.int .i64 (c : Int), .int .i64 (t : Int), .bool true, .slice none 0 0, xk]) hO 4 (by simp) v'
    exact this
  · rw [List.length_append, List.length_singleton]
    exact OwnD.kept hown hgs (fun g hx e => by have := hvo g hx; simp only [Option.some.injEq] at e; have := h.oq.1; omega)
  · have hj : j < (ks ++ [k]).length := (List.getElem?_eq_some_iff.1 hk').1
    rw [List.length_append, List.length_singleton] at hj
    rcases Nat.lt_succ_iff_lt_or_eq.1 hj with hj | rfl
    · rw [List.getElem?_append_left hj] at hk'
      rw [chunk_old h.own.1 hj]
      exact turn (h.kids j k' hk')
    · rw [List.getElem?_append_right (Nat.le_refl _), Nat.sub_self] at hk'
      simp at hk'
      subst hk'
      rw [chunk_new h.own.1 hv.len]
      exact turn hv
/-- All of it: the value, wherever the result is written. -/
theorem KM.done {n : Nat} {w wr w' : World} {O R Q c t : Nat} {xk : Value} {rule : Array Value} {ks : List DV} {xs : List Value} (h : KM n w wr O R Q c t xk rule ks xs) (hl : ks.length ≤ 1000000) (hg : wr.grownBy w' (some R)) : ∃ sk ck, xk = .slice sk ks.length ck ∧ VAt (n + 1) (fun b => w.heap.size ≤ b) w' (dcells (c : Int) (t : Int) true (.slice none 0 0) xk) (.mk (c : Int) (t : Int) true [] ks) := by
  obtain ⟨sp, cp, e, hc1, hc2⟩ := h.own.form
  subst e
  refine ⟨sp, cp, rfl, .slice none 0 0, sp, cp, rfl, bytes_nil _, fun hne => absurd rfl hne, ⟨by simp [DV.bytes], by simp only [DV.kids]; omega⟩, hc1, hc2, fun hne => ?_⟩
  simp only [DV.kids] at hne
  obtain ⟨g, c', e2, hb, _, _, hat⟩ := OwnD.at h.own (List.length_pos_iff.2 hne)
  simp only [Value.slice.injEq] at e2
  obtain ⟨rfl, _, _⟩ := e2
  have hgR : some g ≠ some R := fun e => by simp only [Option.some.injEq] at e; have := h.oq.2.1; omega
  have hQw := h.rul.ge
  refine ⟨g, 0, rfl, by omega, fun i k hik => ?_⟩
  have hi : i < ks.length := (List.getElem?_eq_some_iff.1 hik).1
  refine ⟨_, (hat i hi).kept hg hgR, ?_⟩
  have h1 := (h.kids i k hik).kept hg (fun g' hx hf => by simp only [Option.some.injEq] at hx; have := hf.1; have := h.oq.2.1; omega)
  exact h1.mono fun b hb _ => by have := hb.1; omega
/-- The row of kids. -/
theorem KM.row {n : Nat} {w wr : World} {O R Q c t : Nat} {xk : Value} {rule : Array Value} {ks : List DV} {xs : List Value} (h : KM n w wr O R Q c t xk rule ks xs) : RowK n (Fr Q xk) wr xk ks := by
  obtain ⟨sp, cp, e, hc1, hc2⟩ := h.own.form
  refine ⟨sp, cp, e, fun i k hik => ?_⟩
  have hi : i < ks.length := (List.getElem?_eq_some_iff.1 hik).1
  obtain ⟨g, c', e2, hb, _, _, hat⟩ := OwnD.at h.own (by omega)
  rw [e] at e2
  simp only [Value.slice.injEq] at e2
  exact ⟨g, 0, _, e2.1, hat i hi, h.kids i k hik⟩
end K
end Go.Proofs.YtngkidlgcdofhaaDoor
/-
  The walk of the landed fill.
-/
namespace Go.Proofs.YtngkidlgcdofhaaDoor
open Go.RowKit
namespace K
/-- What is told, by what the plain words say. -/
def FTold (f : Nat) (P : Told DV) (w' : World) (B : Nat) (cs : List Value) (er : Nat) : Prop := match P with
  | .no e => er = e ∧ cs = zeroL
  | .yes v => er = 0 ∧ VAt (f + 1) (fun k => B ≤ k) w' cs v
/-- A plain value that has just been made. -/
theorem leaf_at {w' : World} {B f c t : Nat} {b : Bs} {x : Value} (hx : OwnB w' B x b) (hl : b.length ≤ 1000000) : VAt (f + 1) (fun k => B ≤ k) w' (dcells (c : Int) (t : Int) false x (.slice none 0 0)) (.mk (c : Int) (t : Int) false b []) :=
  ⟨x, none, 0, rfl, hx.bytes, fun _ k hk => by
    have hh := hx
    unfold OwnB OwnV at hh
    rcases hh.2 with ⟨h1, _⟩ | ⟨g, cap, cur, h1, hb, _⟩
    · rw [h1] at hk; cases hk
    · rw [h1] at hk
      simp only [Value.ownBlock, Option.some.injEq] at hk
      omega, ⟨by simp only [DV.bytes]; omega, by simp [DV.kids]⟩, by simp [DV.kids], fun _ => rfl, fun h => absurd rfl h⟩
theorem grown5 (w : World) (R : Nat) (a b c d e : Value) : w.grownBy (((((w.setCell ⟨R, 0, none⟩ a).setCell ⟨R, 1, none⟩ b).setCell ⟨R, 2, none⟩ c).setCell ⟨R, 3, none⟩ d).setCell ⟨R, 4, none⟩ e) (some R) :=
  grown_setCell (grown_setCell (grown_setCell (grown_setCell (grown_setCell (World.grownBy.refl _ (some R)) ⟨R, 0, none⟩ a rfl) ⟨R, 1, none⟩ b rfl) ⟨R, 2, none⟩ c rfl) ⟨R, 3, none⟩ d rfl) ⟨R, 4, none⟩ e rfl
theorem own_kept {a b : World} {B R : Nat} {x : Value} {l : Bs} (h : OwnB a B x l) (hg : a.grownBy b (some R)) (hR : R < B) : OwnB b B x l := by
  unfold OwnB at h ⊢
  refine OwnV.kept h hg ?_
  cases hq : x.ownBlock with
  | none => exact Or.inl rfl
  | some g =>
    refine Or.inr fun e => ?_
    have hh := h
    unfold OwnV at hh
    rcases hh.2 with ⟨h2, _⟩ | ⟨g', cap, cur, h2, hb, _⟩
    · rw [h2] at hq; cases hq
    · rw [h2] at hq
      simp only [Value.ownBlock, Option.some.injEq] at hq
      simp only [Option.some.injEq] at e
      omega
def lenV : Value → Nat
  | .slice _ n _ => n
  | _ => 0
theorem prep_done {g : Bs → Told (DV × Bs)} {m : Nat} (d : List (DV × Bs)) : prepK d (kidsP g m []) = .yes d := by
  rw [kids_end]
  unfold prepK
  simp
set_option maxRecDepth 100000 in
set_option maxHeartbeats 16000000 in
theorem fill_step (f : Nat) (hrd : ReadC f) : FillC f := fun w c t m y b D hT hy hl hD => by
  obtain ⟨ys, yc, rfl, _, _, _⟩ := bytes_open hy
  obtain ⟨N, hN⟩ : ∃ N, b.length = N := ⟨_, rfl⟩
  rw [hN] at hy hl ⊢
  have HY := hide hy
  have HT := hide hT
  have HN := hide hN
  have HRd := hide hrd
  have HU : Hid (fillP f c t m b = if okT c t m = false then .no 21 else
    if m = false then (if rightC c t b = false then .no 24 else .yes (.mk c t false b [])) else
    match kidsP (valueP formD f) b.length b with
    | .no e => .no e
    | .yes ks => if (fallsP (ks.map (·.2)) && decide (c = 0 ∧ t = 17)) = true then .no 25 else .yes (.mk c t true [] (ks.map (·.1)))) := by show _ = _; unfold fillP; rfl
  obtain ⟨P, hP⟩ : ∃ P, fillP f c t m b = P := ⟨_, rfl⟩
  have HTo : Hid (∀ w' B cs er, FTold f P w' B cs er → FillTold f c t m w' B b cs er) := fun w' B cs er h => by unfold FillTold; unfold FTold at h; rw [hP]; exact h
  rw [hP] at HU
  -- the blocks
  have hO := Blk.new (Below.refl w.heap.size w) #[.int .i64 (c : Int), .int .i64 (t : Int), .bool m, .slice none 0 0, .slice none 0 0] 26
  obtain ⟨w1, hw1⟩ : ∃ w1, w.alloc (.cells #[.int .i64 (c : Int), .int .i64 (t : Int), .bool m, .slice none 0 0, .slice none 0 0] 26) = w1 := ⟨_, rfl⟩
  rw [hw1] at hO
  have hR := Blk.new hO.b zeroL.toArray 26
  have hO2 := hO.lit (.cells zeroL.toArray 26)
  have hOR : w.heap.size ≠ w1.heap.size := by have := hO.lt; omega
  obtain ⟨w2, hw2⟩ : ∃ w2, w1.alloc (.cells zeroL.toArray 26) = w2 := ⟨_, rfl⟩
  rw [hw2] at hR hO2
  obtain ⟨O, eO⟩ : ∃ O, w.heap.size = O := ⟨_, rfl⟩
  obtain ⟨R, eR⟩ : ∃ R, w1.heap.size = R := ⟨_, rfl⟩
  rw [eO] at hO2
  rw [eR] at hR
  rw [eO, eR] at hOR
  have k0 := hO2.cell 0 _ rfl
  have k1 := hO2.cell 1 _ rfl
  have k2 := hO2.cell 2 _ rfl
  have k3 := hO2.cell 3 _ rfl
  have k4 := hO2.cell 4 _ rfl
  have HO2 := hide hO2
  have HR2 := hide hR
  have Hru := hide (rule_c c t m none none 0 0 0 0 w2)
  have hw2z : w1.alloc (.cells #[.int .i64 0, .int .i64 0, .bool false, .slice none 0 0, .slice none 0 0] 26) = w2 := hw2
  have Hws := hide eO
  clear hO hR hO2 hy hT hN hrd hP hw2
  go_enter Tryd.func27, Tryd.ntmps27
  go_wp2_with fail
  refine (unhide Hru).mono ?_
  rintro e w3 ⟨mm, fb, fk, rfl, hfb, hfk, htold, hb3⟩
  have hO3 := (unhide HO2).call hb3
  have hR3 := (unhide HR2).call hb3
  have hQ := Blk.new hO3.b #[.bool false, .nilFunc, .nilFunc] 68
  have hO4 := hO3.lit (.cells #[.bool false, .nilFunc, .nilFunc] 68)
  have hR4 := hR3.lit (.cells #[.bool false, .nilFunc, .nilFunc] 68)
  obtain ⟨w4, hw4⟩ : ∃ w4, w3.alloc (.cells #[.bool false, .nilFunc, .nilFunc] 68) = w4 := ⟨_, rfl⟩
  have hOQ : O < w3.heap.size := hO3.lt
  have hRQ : R < w3.heap.size := hR3.lt
  rw [hw4] at hQ hO4 hR4
  obtain ⟨Q, eQ⟩ : ∃ Q, w3.heap.size = Q := ⟨_, rfl⟩
  rw [eQ] at hQ hOQ hRQ
  have ofn : ∀ {v : Value}, FnV v → v.oneCell' = true := fun h => by rcases h with rfl | ⟨f, rfl⟩ <;> rfl
  have HOne := hide (one3 (.bool mm) fb fk rfl (ofn hfb) (ofn hfk))
  have HQ := hide hQ
  have HQ5 := hide (hQ.set #[.bool mm, fb, fk])
  have HO5 := hide (hO4.other hQ.ge (by omega) #[.bool mm, fb, fk])
  have HR5 := hide (hR4.other hQ.ge (by omega) #[.bool mm, fb, fk])
  have HTold := hide htold
  have Hlt : Hid (O < Q ∧ R < Q ∧ O ≠ R) := ⟨hOQ, hRQ, hOR⟩
  clear hO3 hR3 hQ hO4 hR4 hb3 htold hfb hfk Hru ofn k0 k1 k2 k3 k4 HO2 HR2 hOQ hRQ hOR
  obtain ⟨ok, hok⟩ : ∃ ok, okT c t m = ok := ⟨_, rfl⟩
  rw [hok] at HU ⊢
  have Hok := hide hok
  clear hok
  go_upto_region 2 with (refine wpList_store_row rfl 68 _ _ rfl Q #[.bool mm, fb, fk] rfl rfl 68 _ (unhide HQ).res rule3 rfl (unhide HOne) ?_)
  obtain ⟨w5, hw5⟩ : ∃ w5, w4.setRow Q #[.bool mm, fb, fk] = w5 := ⟨_, rfl⟩
  rw [hw5] at HQ5 HO5 HR5 ⊢
  clear hw5 hw4 HQ HOne hw1 hw2z
  have r0 := (unhide HR5).cell 0 _ rfl
  have r1 := (unhide HR5).cell 1 _ rfl
  have r2 := (unhide HR5).cell 2 _ rfl
  have r3 := (unhide HR5).cell 3 _ rfl
  have r4 := (unhide HR5).cell 4 _ rfl
  have g0 := (unhide HR5).frozen 0
  have g1 := (unhide HR5).frozen 1
  have g2 := (unhide HR5).frozen 2
  have g3 := (unhide HR5).frozen 3
  have g4 := (unhide HR5).frozen 4
  have k0 := (unhide HO5).cell 0 _ rfl
  have k1 := (unhide HO5).cell 1 _ rfl
  have k2 := (unhide HO5).cell 2 _ rfl
  have k3 := (unhide HO5).cell 3 _ rfl
  have k4 := (unhide HO5).cell 4 _ rfl
  have f3 := (unhide HO5).frozen 3
  have q1 := (unhide HQ5).cell 1 _ rfl
  have q2 := (unhide HQ5).cell 2 _ rfl
  cases ok with
  | false =>
    have HE : Hid (P = .no 21) := by show _ = _; rw [unhide HU]; rfl
    clear HU HTold
    go_wp2
    have h1 := (unhide HR5).put5 (.int .i64 0) (.int .i64 0) (.bool false) (.slice none 0 0) (.slice none 0 0)
    exact bodyPost_ret (res_row_tmp Tryd.results27 _ _ R 26 zeroL.toArray (0, 0) _ rfl h1.res Tryd.underlying26 rfl value5 (.int .i64 21) rfl) rfl ⟨zeroL, 21, rfl, unhide HTo _ _ _ _ (by rw [unhide HE]; exact ⟨rfl, rfl⟩), by first | exact h1.b | (rw [← unhide Hws]; exact h1.b)⟩
  | true =>
    cases m with
    | false =>
      obtain ⟨fn, hfn, hen0, hbf⟩ := (unhide HTold (unhide Hok)).1 rfl
      subst hfn
      have hen : ∀ args W, (callFunc fn args).run Tryd.prog W = .ok (.enter fn args) W := hen0
      clear hen0
      have HU2 : Hid (P = if rightC c t b = false then .no 24 else .yes (.mk c t false b [])) := by show _ = _; rw [unhide HU]; simp
      have Hcl := hide (hbf w5 (.slice ys N yc) b ((unhide HT).below (unhide HO5).b) ((unhide HY).below (unhide HO5).b) (by rw [unhide HN]; omega))
      obtain ⟨u, hu⟩ : ∃ u, rightC c t b = u := ⟨_, rfl⟩
      rw [hu] at Hcl HU2
      clear hbf hu HU HTold
      go_wp2_with fail
      refine (unhide Hcl).mono ?_
      rintro e w6 ⟨rfl, hb6⟩
      have HO6 := hide ((unhide HO5).call hb6)
      have HR6 := hide ((unhide HR5).call hb6)
      clear hb6 Hcl r0 r1 r2 r3 r4 g0 g1 g2 g3 g4 k0 k1 k2 k3 k4 f3 q1 q2 HO5 HR5 HQ5 hen
      have r0 := (unhide HR6).cell 0 _ rfl
      have r1 := (unhide HR6).cell 1 _ rfl
      have r2 := (unhide HR6).cell 2 _ rfl
      have r3 := (unhide HR6).cell 3 _ rfl
      have r4 := (unhide HR6).cell 4 _ rfl
      have g0 := (unhide HR6).frozen 0
      have g1 := (unhide HR6).frozen 1
      have g2 := (unhide HR6).frozen 2
      have g3 := (unhide HR6).frozen 3
      have g4 := (unhide HR6).frozen 4
      cases u with
      | false =>
        have HE : Hid (P = .no 24) := by show _ = _; rw [unhide HU2]; rfl
        go_wp2
        have h1 := (unhide HR6).put5 (.int .i64 0) (.int .i64 0) (.bool false) (.slice none 0 0) (.slice none 0 0)
        exact bodyPost_ret (res_row_tmp Tryd.results27 _ _ R 26 zeroL.toArray (0, 0) _ rfl h1.res Tryd.underlying26 rfl value5 (.int .i64 24) rfl) rfl ⟨zeroL, 24, rfl, unhide HTo _ _ _ _ (by rw [unhide HE]; exact ⟨rfl, rfl⟩), by first | exact h1.b | (rw [← unhide Hws]; exact h1.b)⟩
      | true =>
        have HE : Hid (P = .yes (.mk c t false b [])) := by show _ = _; rw [unhide HU2]; rfl
        have HRw : Hid (Row w6 w6 (.slice none 0 0) []) := ⟨ownb_nil _ _, Below.refl _ _⟩
        have HY6 : Hid (BytesAt w6 (.slice ys N yc) b) := (unhide HY).below (unhide HO6).b
        have Hll : Hid (([] : Bs).length + b.length ≤ 1073741824) := by show _ ≤ _; rw [unhide HN]; simp; omega
        clear r0 r1 r2 r3 r4 g0 g1 g2 g3 g4 HU2
        go_upto_region 8 with (at_builtin; refine wpList_append_row rfl _ _ rfl (.slice none 0 0) (.slice ys N yc) [] b rfl (unhide HRw) rfl (unhide HY6) (unhide Hll) ?_
                               intro v7 w7 hR7
                               rw [List.nil_append] at hR7
                               obtain ⟨s7, c7, ev7⟩ := hR7.own.form
                               rw [unhide HN] at ev7
                               subst ev7
                               have HR7 := hide hR7
                               have HO7 := hide ((unhide HO6).call hR7.b)
                               have HRR7 := hide ((unhide HR6).call hR7.b)
                               have k3 := (unhide HO7).cell 3 _ rfl
                               have f3 := (unhide HO7).frozen 3
                               clear hR7)
        have hO8 := Blk.put (cs := [.int .i64 (c : Int), .int .i64 (t : Int), .bool false, .slice none 0 0, .slice none 0 0]) (unhide HO7) 3 (by simp) (.slice s7 N c7)
        simp only [List.set_cons_succ, List.set_cons_zero] at hO8
        have hgs : w7.grownBy (w7.setCell ⟨O, 3, none⟩ (.slice s7 N c7)) (some O) := grown_setCell (World.grownBy.refl _ _) ⟨O, 3, none⟩ _ rfl
        have hlt := unhide Hlt
        have hR8 := blk_grown (unhide HRR7) hgs (fun e => by simp only [Option.some.injEq] at e; omega) hO8.b
        have hown8 : OwnB (w7.setCell ⟨O, 3, none⟩ (.slice s7 N c7)) w6.heap.size (.slice s7 N c7) b := own_kept (unhide HR7).own hgs (unhide HO6).lt
        obtain ⟨w8, hw8⟩ : ∃ w8, w7.setCell ⟨O, 3, none⟩ (.slice s7 N c7) = w8 := ⟨_, rfl⟩
        rw [hw8] at hO8 hR8 hown8 ⊢
        have k0 := hO8.cell 0 _ rfl
        have k1 := hO8.cell 1 _ rfl
        have k2 := hO8.cell 2 _ rfl
        have k3' := hO8.cell 3 _ rfl
        have k4 := hO8.cell 4 _ rfl
        have r0 := hR8.cell 0 _ rfl
        have r1 := hR8.cell 1 _ rfl
        have r2 := hR8.cell 2 _ rfl
        have r3 := hR8.cell 3 _ rfl
        have r4 := hR8.cell 4 _ rfl
        have g0 := hR8.frozen 0
        have g1 := hR8.frozen 1
        have g2 := hR8.frozen 2
        have g3 := hR8.frozen 3
        have g4 := hR8.frozen 4
        have HRR8 := hide hR8
        have HOwn8 := hide hown8
        have Hsz6 : Hid (w.heap.size ≤ w6.heap.size ∧ R < w6.heap.size) := ⟨(unhide HO6).b.size, (unhide HR6).lt⟩
        clear hO8 hR8 hown8 hgs hlt hw8 k3 f3 HO7 HRR7 HR7 HO6 HR6
        go_wp2
        have h1 := (unhide HRR8).put5 (.int .i64 (c : Int)) (.int .i64 (t : Int)) (.bool false) (.slice s7 N c7) (.slice none 0 0)
        refine bodyPost_ret (res_row_tmp Tryd.results27 _ _ R 26 (dcells (c : Int) (t : Int) false (.slice s7 N c7) (.slice none 0 0)).toArray (0, 0) _ rfl h1.res Tryd.underlying26 rfl value5 (.int .i64 0) rfl) rfl ⟨_, 0, rfl, unhide HTo _ _ _ _ ?_, by first | exact h1.b | (rw [← unhide Hws]; exact h1.b)⟩
        rw [unhide HE]
        refine ⟨rfl, leaf_at ?_ (by rw [unhide HN]; omega)⟩
        exact (own_kept (unhide HOwn8) (grown5 _ _ _ _ _ _ _) (unhide Hsz6).2).mono (by first | exact (unhide Hsz6).1 | (rw [← unhide Hws]; exact (unhide Hsz6).1))
    | true =>
      have hkr := (unhide HTold (unhide Hok)).2 rfl
      unfold KidsRule at hkr
      obtain ⟨g, hg⟩ : ∃ g, (if c = 0 ∧ t = 17 then 52 else 39) = g := ⟨_, rfl⟩
      rw [hg] at hkr
      subst hkr
      have Hg := hide hg
      have HU2 : Hid (P = match kidsP (valueP formD f) b.length b with
          | .no e => .no e
          | .yes ks => if (fallsP (ks.map (·.2)) && decide (c = 0 ∧ t = 17)) = true then .no 25 else .yes (.mk c t true [] (ks.map (·.1)))) := by show _ = _; rw [unhide HU]; simp
      clear HU HTold hg
      obtain ⟨D1, hD1⟩ : ∃ D1, D + 1 = D1 := ⟨_, rfl⟩
      have eD1 : (D : Int) + 1 = (D1 : Int) := by omega
      have uD1 : IntKind.i64.wrap (D1 : Int) = (D1 : Int) := IntWalk.i64_in _ (by omega)
      have HD1 : Hid (D1 + f = 17) := by show _ = _; omega
      have HK0 : Hid (KM f w w5 O R Q c t (.slice none 0 0) #[.bool mm, fb, .func (.func g) #[] #[]] [] []) := ⟨unhide HO5, unhide HR5, unhide HQ5, ownd_nil _ _ _, fun j k hk => by simp at hk, unhide Hlt⟩
      clear hD1 r0 r1 r2 r3 r4 g0 g1 g2 g3 g4 k0 k1 k3 k4 f3 q1 q2 HO5 HR5 HQ5
      go_wp2
      clear k2
      go_loopw [1] (fun bb wr => ∃ (sv : Option Addr) (M cv : Nat) (l : Bs) (MM : Nat) (dn : List (DV × Bs)) (sk : Option Addr) (ck Kn : Nat) (xs : List Value), bb = .slice sv M cv ∧ M ≤ N ∧ Kn ≤ 65536 ∧ Hid (l.length = M ∧ BytesAt w (.slice sv M cv) l ∧ l.length ≤ MM ∧ dn.length + l.length ≤ b.length ∧ dn.length = Kn ∧ kidsP (valueP formD f) b.length b = prepK dn (kidsP (valueP formD f) MM l)) ∧ Hid (KM f w wr O R Q c t (.slice sk Kn ck) #[.bool mm, fb, .func (.func g) #[] #[]] (dn.map (·.1)) xs)) (fun bb _ => lenV bb)
      case atStart => exact ⟨ys, N, yc, b, b.length, [], none, 0, 0, [], rfl, by omega, by omega, ⟨unhide HN, unhide HY, Nat.le_refl _, by simp, rfl, (prep_nil _).symm⟩, HK0⟩
      case round =>
        obtain ⟨sv, M, cv, l, MM, dn, sk, ck, Kn, xs, rfl, hM, hKn, HE, HK⟩ := hrel
        clear HK0
        by_cases hpos : 0 < M
        · have d1 : decide ((0 : Int) < (M : Int)) = true := by simp; omega
          have d1n : decide (0 < M) = true := by simp; omega
          have Hcall := hide (unhide HRd wr (.slice sv M cv) l D1 ((unhide HT).below (unhide HK).out.b) ((unhide HE).2.1.below (unhide HK).out.b) (by have := (unhide HE).1; omega) (unhide HD1))
          go_wp2_with fail
          refine (unhide Hcall).mono ?_
          rintro e w6 ⟨cs, rs, rn, rc, er, rfl, htold, hb6⟩
          obtain ⟨zc, zt, zm, z1, z2, y1, y2, y3, y4, ecs⟩ := read_form htold
          subst ecs
          have HTo6 := hide htold
          have HK6 := hide ((unhide HK).below hb6)
          clear htold hb6 Hcall
          go_upto_region 11 with fail
          have HK7 := hide ((unhide HK6).below ((Below.refl _ _).alloc (Nat.le_refl _) (.cells #[.int .i64 zc, .int .i64 zt, .bool zm, .slice z1 y1 y2, .slice z2 y3 y4] 26)))
          have HE7 := hide (Blk.new (unhide HK6).out.b #[.int .i64 zc, .int .i64 zt, .bool zm, .slice z1 y1 y2, .slice z2 y3 y4] 26)
          have HE7b : Hid (Below w6.heap.size w6 (w6.alloc (.cells #[.int .i64 zc, .int .i64 zt, .bool zm, .slice z1 y1 y2, .slice z2 y3 y4] 26))) := (Below.refl _ _).alloc (Nat.le_refl _) _
          obtain ⟨w7, hw7⟩ : ∃ w7, w6.alloc (.cells #[.int .i64 zc, .int .i64 zt, .bool zm, .slice z1 y1 y2, .slice z2 y3 y4] 26) = w7 := ⟨_, rfl⟩
          rw [hw7] at HK7 HE7 HE7b ⊢
          obtain ⟨E, eE⟩ : ∃ E, w6.heap.size = E := ⟨_, rfl⟩
          rw [eE] at HE7 ⊢
          clear hw7
          cases hval : valueP formD f l with
          | no e' =>
            have h1 := unhide HTo6
            unfold ReadTold at h1
            rw [hval] at h1
            obtain ⟨her, _⟩ := h1
            have hne := value_pos f l e' hval
            have HEr : Hid (P = .no er) := by
              show _ = _
              have hl0 : l ≠ [] := fun e => by have := (unhide HE).1; rw [e] at this; simp at this; omega
              rw [unhide HU2, (unhide HE).2.2.2.2.2, kids_no dn hl0 (unhide HE).2.2.1 hval, her]
            have e0 : ((er : Int) == 0) = false := by simp; omega
            have e0' : ((er : Int) != 0) = true := by simp; omega
            have r0 := (unhide HK7).res.cell 0 _ rfl
            have r1 := (unhide HK7).res.cell 1 _ rfl
            have r2 := (unhide HK7).res.cell 2 _ rfl
            have r3 := (unhide HK7).res.cell 3 _ rfl
            have r4 := (unhide HK7).res.cell 4 _ rfl
            have g0 := (unhide HK7).res.frozen 0
            have g1 := (unhide HK7).res.frozen 1
            have g2 := (unhide HK7).res.frozen 2
            have g3 := (unhide HK7).res.frozen 3
            have g4 := (unhide HK7).res.frozen 4
            clear hval her hne HU2 HTo6
            go_wp2
            have h1 := (unhide HK7).res.put5 (.int .i64 0) (.int .i64 0) (.bool false) (.slice none 0 0) (.slice none 0 0)
            exact bodyPost_ret (res_row_tmp Tryd.results27 _ _ R 26 zeroL.toArray (0, 0) _ rfl h1.res Tryd.underlying26 rfl value5 (.int .i64 (er : Int)) rfl) rfl ⟨zeroL, er, rfl, unhide HTo _ _ _ _ (by rw [unhide HEr]; exact ⟨rfl, rfl⟩), by first | exact h1.b | (rw [← unhide Hws]; exact h1.b)⟩
          | yes vr =>
            obtain ⟨v, r⟩ := vr
            have h1 := unhide HTo6
            unfold ReadTold at h1
            rw [hval] at h1
            obtain ⟨her, hv6, sp, cp, erest, hrest⟩ := h1
            simp only [Value.slice.injEq] at erest
            obtain ⟨e1, hrn, e3⟩ := erest
            subst e1 e3
            have hless := value_less hval
            have hl0 : l ≠ [] := fun e => by have := (unhide HE).1; rw [e] at this; simp at this; omega
            obtain ⟨hlM, hBl, hMM, hdl, hdK, hkk⟩ := unhide HE
            have HE2 : Hid (r.length = rn ∧ BytesAt w (.slice rs rn rc) r ∧ r.length ≤ MM - 1 ∧ (dn ++ [(v, l.take (l.length - r.length))]).length + r.length ≤ b.length ∧ (dn ++ [(v, l.take (l.length - r.length))]).length = Kn + 1 ∧ kidsP (valueP formD f) b.length b = prepK (dn ++ [(v, l.take (l.length - r.length))]) (kidsP (valueP formD f) (MM - 1) r)) := by
              refine ⟨hrn.symm, hrest w hBl, by omega, ?_, ?_, ?_⟩
              · rw [List.length_append, List.length_singleton]; omega
              · rw [List.length_append, List.length_singleton, hdK]
              · rw [hkk, kids_yes dn hl0 hMM hval]
            have hrnb : rn < M ∧ rn ≤ N ∧ Kn + 1 ≤ 65536 := by
              have h2 := unhide HN
              refine ⟨by omega, by omega, by omega⟩
            have e0 : ((er : Int) == 0) = true := by simp; omega
            have e0' : ((er : Int) != 0) = false := by simp; omega
            have hKq := (unhide HK).rul.lt
            have hKo := fun g hx => (OwnD.block (unhide HK).own g hx).2
            have hKl : (dn.map (·.1)).length = Kn := by rw [List.length_map]; exact hdK
            have HV8 : Hid (VAt f (Fr Q (.slice sk Kn ck)) (w7.alloc (.cells #[.int .i64 zc, .int .i64 zt, .bool zm, .slice z1 y1 y2, .slice z2 y3 y4] 26)) [.int .i64 zc, .int .i64 zt, .bool zm, .slice z1 y1 y2, .slice z2 y3 y4] v) :=
              ((hv6.mono (S' := Fr Q (.slice sk Kn ck)) (fun b' hb' _ => ⟨by omega, fun e => by have := hKo b' e; omega⟩)).below (unhide HE7b)).below ((Below.refl _ _).alloc (Nat.le_refl _) _)
            have HK8 := hide ((unhide HK7).below ((Below.refl _ _).alloc (Nat.le_refl _) (.cells #[.int .i64 zc, .int .i64 zt, .bool zm, .slice z1 y1 y2, .slice z2 y3 y4] 26)))
            have y0' := (unhide HE7).cell 0 _ rfl
            have y1' := (unhide HE7).cell 1 _ rfl
            have y2' := (unhide HE7).cell 2 _ rfl
            have y3' := (unhide HE7).cell 3 _ rfl
            have y4' := (unhide HE7).cell 4 _ rfl
            have o4 := (unhide HK7).out.cell 4 _ rfl
            have H1c : Hid (∀ u ∈ ([.int .i64 zc, .int .i64 zt, .bool zm, .slice z1 y1 y2, .slice z2 y3 y4] : List Value), u.oneCell' = true) := by
              intro u hu
              simp only [List.mem_cons, List.not_mem_nil, or_false] at hu
              rcases hu with rfl | rfl | rfl | rfl | rfl <;> rfl
            have Hsz8 : Hid (Q + 1 ≤ (w7.alloc (.cells #[.int .i64 zc, .int .i64 zt, .bool zm, .slice z1 y1 y2, .slice z2 y3 y4] 26)).heap.size) := (unhide HK8).rul.lt
            have HKl := hide hKl
            have Hkb : Hid ((dn.map (·.1)).length ≤ 1073741824) := by show _ ≤ _; rw [hKl]; omega
            have Hlt4 : Hid (∀ g', (Value.slice sk Kn ck).ownBlock = some g' → Q + 1 ≤ g') := fun g' hx => (OwnD.block (unhide HK).own g' hx).1
            clear hval her hv6 hrest hless hl0 hlM hBl hMM hdl hdK hkk hKq hKo hKl hrn HE HTo6 HE7 HE7b HK HK6
            go_upto_region 14 with (at_builtin; refine wpList_append_five Edv rfl _ _ rfl (Q + 1) (.slice sk Kn ck) (dn.map (·.1)).length xs [.int .i64 zc, .int .i64 zt, .bool zm, .slice z1 y1 y2, .slice z2 y3 y4] rfl (unhide HK8).own w7.heap.size 0 1 rfl rfl (cells_new w7 _ 26) (unhide H1c) (unhide Hsz8) (unhide Hkb) ?_
                                    intro v9 w9 hown9 hg9 hor9
                                    obtain ⟨s9, c9, ev9, _, _⟩ := hown9.form
                                    rw [unhide HKl] at ev9
                                    subst ev9
                                    have hB9 : Below w.heap.size w w9 := grown_below' (unhide HK8).out.b hg9 (unhide HK8).out.b.size (fun g' hx => by have := unhide Hlt4 g' hx; have := (unhide HK8).rul.ge; omega)
                                    have hO9 := blk_grown (unhide HK8).out hg9 (fun e => by have := unhide Hlt4 O e.symm; have := (unhide HK8).oq.1; omega) hB9
                                    have o9 := hO9.cell 4 _ rfl
                                    have of9 := hO9.frozen 4
                                    have HOw9 := hide hown9
                                    have HG9 := hide hg9
                                    have HOr9 := hide hor9
                                    clear hown9 hg9 hor9 hB9 hO9)
            have HK9 := hide ((unhide HK8).add (unhide HV8) (unhide HOw9) (unhide HG9) (unhide HOr9))
            have HK10 : Hid (KM f w (w9.setCell ⟨O, 4, none⟩ (.slice s9 (Kn + 1) c9)) O R Q c t (.slice s9 (Kn + 1) c9) #[.bool mm, fb, .func (.func g) #[] #[]] ((dn ++ [(v, l.take (l.length - r.length))]).map (·.1)) (xs ++ [.int .i64 zc, .int .i64 zt, .bool zm, .slice z1 y1 y2, .slice z2 y3 y4])) := by
              rw [List.map_append]
              exact unhide HK9
            clear HK9 HK8 HV8 HOw9 HG9 HOr9 o9 of9 o4 y0' y1' y2' y3' y4' HK7 H1c Hsz8 Hkb Hlt4 HKl
            go_wp2
            go_roundw
            case rel =>
              first
                | exact ⟨rs, rn, rc, r, MM - 1, _, s9, c9, Kn + 1, _, rfl, hrnb.2.1, hrnb.2.2, HE2, HK10⟩
                | exact ⟨⟨rs, rn, rc, r, MM - 1, _, s9, c9, Kn + 1, _, rfl, hrnb.2.1, hrnb.2.2, HE2, HK10⟩, rfl⟩
            case measure => exact hrnb.1
        · have d1 : decide ((0 : Int) < (M : Int)) = false := by simp; omega
          have d1n : decide (0 < M) = false := by simp; omega
          have hk : kidsP (valueP formD f) b.length b = .yes dn := by
            have h1 := (unhide HE).2.2.2.2.2
            have hnil : l = [] := List.eq_nil_of_length_eq_zero (by have := (unhide HE).1; omega)
            rw [hnil, prep_done] at h1
            exact h1
          obtain ⟨hall, hflat⟩ := kids_back formD f (fun l r v h => value_back formD f l r v h) _ _ _ hk
          have hwt : weights (dn.map (·.1)) ≤ 1000000 := by
            have h1 := weights_le formD f _ _ hall
            rw [← hflat, unhide HN] at h1
            omega
          have hKl : (dn.map (·.1)).length = Kn := by rw [List.length_map]; exact (unhide HE).2.2.2.2.1
          have HU3 : Hid (P = if (fallsP (dn.map (·.2)) && decide (c = 0 ∧ t = 17)) = true then .no 25 else .yes (.mk c t true [] (dn.map (·.1)))) := by show _ = _; rw [unhide HU2, hk]
          have Hall := hide hall
          have Hwt := hide hwt
          have HKl := hide hKl
          have o4 := (unhide HK).out.cell 4 _ rfl
          have q2 := (unhide HK).rul.cell 2 _ rfl
          clear hk hall hflat hwt hKl HU2 HE hpos
          -- the two rules
          have Hend : Hid (∀ (u : Bool), (P = if u = true then .yes (.mk c t true [] (dn.map (·.1))) else .no 25) → True) := fun _ _ => trivial
          by_cases h17 : c = 0 ∧ t = 17
          · have hgv : g = 52 := by rw [← unhide Hg, if_pos h17]
            have HU4 : Hid (P = if fallsP (dn.map (·.2)) = true then .no 25 else .yes (.mk c t true [] (dn.map (·.1)))) := by show _ = _; rw [unhide HU3, decide_eq_true h17, Bool.and_true]
            have Hfa := hide (fall_all f f _ _ wr _ _ (unhide HK).row (unhide Hwt) (unhide Hall))
            obtain ⟨u, hu⟩ : ∃ u, fallsP (dn.map (·.2)) = u := ⟨_, rfl⟩
            rw [hu] at Hfa HU4
            subst hgv
            clear HU3 h17 hu Hall Hend
            go_wp2_with fail
            refine (unhide Hfa).mono ?_
            rintro e w8 ⟨rfl, hb8⟩
            have HK8 := hide ((unhide HK).below hb8)
            clear hb8 Hfa o4 q2
            have o0 := (unhide HK8).out.cell 0 _ rfl
            have o1 := (unhide HK8).out.cell 1 _ rfl
            have o2 := (unhide HK8).out.cell 2 _ rfl
            have o3 := (unhide HK8).out.cell 3 _ rfl
            have o4 := (unhide HK8).out.cell 4 _ rfl
            have r0 := (unhide HK8).res.cell 0 _ rfl
            have r1 := (unhide HK8).res.cell 1 _ rfl
            have r2 := (unhide HK8).res.cell 2 _ rfl
            have r3 := (unhide HK8).res.cell 3 _ rfl
            have r4 := (unhide HK8).res.cell 4 _ rfl
            have g0 := (unhide HK8).res.frozen 0
            have g1 := (unhide HK8).res.frozen 1
            have g2 := (unhide HK8).res.frozen 2
            have g3 := (unhide HK8).res.frozen 3
            have g4 := (unhide HK8).res.frozen 4
            cases u with
            | true =>
              have HE2 : Hid (P = .no 25) := by show _ = _; rw [unhide HU4]; rfl
              go_wp2
              have h1 := (unhide HK8).res.put5 (.int .i64 0) (.int .i64 0) (.bool false) (.slice none 0 0) (.slice none 0 0)
              exact bodyPost_ret (res_row_tmp Tryd.results27 _ _ R 26 zeroL.toArray (0, 0) _ rfl h1.res Tryd.underlying26 rfl value5 (.int .i64 25) rfl) rfl ⟨zeroL, 25, rfl, unhide HTo _ _ _ _ (by rw [unhide HE2]; exact ⟨rfl, rfl⟩), by first | exact h1.b | (rw [← unhide Hws]; exact h1.b)⟩
            | false =>
              have HE2 : Hid (P = .yes (.mk c t true [] (dn.map (·.1)))) := by show _ = _; rw [unhide HU4]; rfl
              go_wp2
              have h1 := (unhide HK8).res.put5 (.int .i64 (c : Int)) (.int .i64 (t : Int)) (.bool true) (.slice none 0 0) (.slice sk Kn ck)
              obtain ⟨_, _, _, hvat⟩ := (unhide HK8).done (by rw [unhide HKl]; omega) (grown5 w8 R (.int .i64 (c : Int)) (.int .i64 (t : Int)) (.bool true) (.slice none 0 0) (.slice sk Kn ck))
              exact bodyPost_ret (res_row_tmp Tryd.results27 _ _ R 26 (dcells (c : Int) (t : Int) true (.slice none 0 0) (.slice sk Kn ck)).toArray (0, 0) _ rfl h1.res Tryd.underlying26 rfl value5 (.int .i64 0) rfl) rfl ⟨_, 0, rfl, unhide HTo _ _ _ _ (by rw [unhide HE2]; first | exact ⟨rfl, hvat⟩ | (rw [← unhide Hws]; exact ⟨rfl, hvat⟩)), by first | exact h1.b | (rw [← unhide Hws]; exact h1.b)⟩
          · have hgv : g = 39 := by rw [← unhide Hg, if_neg h17]
            have HE2 : Hid (P = .yes (.mk c t true [] (dn.map (·.1)))) := by show _ = _; rw [unhide HU3, decide_eq_false h17, Bool.and_false]; rfl
            have Hfa := hide (anyk_c wr (.slice sk Kn ck))
            subst hgv
            clear HU3 h17 Hall Hend
            go_wp2_with fail
            refine (unhide Hfa).mono ?_
            rintro e w8 ⟨rfl, hb8⟩
            have HK8 := hide ((unhide HK).below hb8)
            clear hb8 Hfa o4 q2
            have o0 := (unhide HK8).out.cell 0 _ rfl
            have o1 := (unhide HK8).out.cell 1 _ rfl
            have o2 := (unhide HK8).out.cell 2 _ rfl
            have o3 := (unhide HK8).out.cell 3 _ rfl
            have o4 := (unhide HK8).out.cell 4 _ rfl
            have r0 := (unhide HK8).res.cell 0 _ rfl
            have r1 := (unhide HK8).res.cell 1 _ rfl
            have r2 := (unhide HK8).res.cell 2 _ rfl
            have r3 := (unhide HK8).res.cell 3 _ rfl
            have r4 := (unhide HK8).res.cell 4 _ rfl
            have g0 := (unhide HK8).res.frozen 0
            have g1 := (unhide HK8).res.frozen 1
            have g2 := (unhide HK8).res.frozen 2
            have g3 := (unhide HK8).res.frozen 3
            have g4 := (unhide HK8).res.frozen 4
            go_wp2
            have h1 := (unhide HK8).res.put5 (.int .i64 (c : Int)) (.int .i64 (t : Int)) (.bool true) (.slice none 0 0) (.slice sk Kn ck)
            obtain ⟨_, _, _, hvat⟩ := (unhide HK8).done (by rw [unhide HKl]; omega) (grown5 w8 R (.int .i64 (c : Int)) (.int .i64 (t : Int)) (.bool true) (.slice none 0 0) (.slice sk Kn ck))
            exact bodyPost_ret (res_row_tmp Tryd.results27 _ _ R 26 (dcells (c : Int) (t : Int) true (.slice none 0 0) (.slice sk Kn ck)).toArray (0, 0) _ rfl h1.res Tryd.underlying26 rfl value5 (.int .i64 0) rfl) rfl ⟨_, 0, rfl, unhide HTo _ _ _ _ (by rw [unhide HE2]; first | exact ⟨rfl, hvat⟩ | (rw [← unhide Hws]; exact ⟨rfl, hvat⟩)), by first | exact h1.b | (rw [← unhide Hws]; exact h1.b)⟩
end K
end Go.Proofs.YtngkidlgcdofhaaDoor
