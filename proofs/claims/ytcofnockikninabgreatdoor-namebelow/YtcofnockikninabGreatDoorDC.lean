/-
  The walks of the landed SameDN, dirWithin (and the library's slices.Equal of attributes).
-/
import Derived.Test.YtcofnockikninabGreatDoorDa10
import Derived.BigRegion
namespace Go.Proofs.YtcofnockikninabGreatDoor
open Go.RowKit
def sameP (a b : List (Bs × Bs)) : Bool := decide (a = b)
def dirP (d l : List (Bs × Bs)) : Bool := decide (l.length ≤ d.length) && sameP (d.take l.length) l
theorem dnc_at {w : World} {sp : Option Addr} {n c : Nat} {d : List (Bs × Bs)} (h : DnAt w (.slice sp n c) d) {k : Nat} (hk : k < d.length) : ∃ (a : Bs × Bs) (bb oo : Nat), d[k]? = some a ∧ sp = some ⟨bb, oo, none⟩ ∧ w.cell? ⟨bb, oo + k * 2, none⟩ = some (.string (N.st a.1)) ∧ w.cell? ⟨bb, oo + k * 2 + 1, none⟩ = some (.string (N.st a.2)) := by
  obtain ⟨sp', c', e, _, _, h3⟩ := h
  simp only [Value.slice.injEq] at e
  obtain ⟨rfl, _, _⟩ := e
  obtain ⟨b, o, e2, hc⟩ := h3 (fun e => by rw [e] at hk; simp at hk)
  obtain ⟨a, ha⟩ : ∃ a, d[k]? = some a := ⟨_, List.getElem?_eq_getElem hk⟩
  exact ⟨a, b, o, ha, e2, (hc k a ha).1, (hc k a ha).2⟩
namespace N
open K
set_option maxRecDepth 100000 in
set_option maxHeartbeats 8000000 in
theorem equal_c (w : World) (sa sb : Option Addr) (n m ca cb : Nat) (da db : List (Bs × Bs)) (ha : DnAt w (.slice sa n ca) da) (hb : DnAt w (.slice sb m cb) db) (hn : da.length = n) (hm : db.length = m) (hn9 : n ≤ 1000000000) (hm9 : m ≤ 1000000000) :
    Calls Tryz.prog 52 #[.slice sa n ca, .slice sb m cb] w fun e w' => e = .returned (.bool (sameP da db)) ∧ Below w.heap.size w w' := by
  obtain ⟨ANS, hA⟩ : ∃ ANS, sameP da db = ANS := ⟨_, rfl⟩
  rw [hA]
  have HA := hide hA
  have Ha : Hid (∀ wr, Below w.heap.size w wr → DnAt wr (.slice sa n ca) da) := fun wr h => ha.below h
  have Hb : Hid (∀ wr, Below w.heap.size w wr → DnAt wr (.slice sb m cb) db) := fun wr h => hb.below h
  have Hn := hide hn
  have Hm := hide hm
  clear hA ha hb hn hm
  by_cases hnm : n = m
  · subst hnm
    have g1 : ((n : Int) != (n : Int)) = false := by simp
    go_enter Tryz.func52, Tryz.ntmps52
    go_wp2
    clear g1
    go_loopw [13] (fun ii wr => ∃ k : Nat, k ≤ n ∧ ii = .int .i64 (k : Int) ∧ Hid (da.take k = db.take k) ∧ Hid (Below w.heap.size w wr)) (fun ii _ => n - (intOf ii).toNat)
    case atStart => exact ⟨0, by omega, rfl, rfl, Below.refl _ _⟩
    case round =>
      obtain ⟨k, hk, rfl, HE, HB⟩ := hrel
      by_cases hlt : k < n
      · obtain ⟨a, ba, oa, hda, rfl, ha1, ha2⟩ := dnc_at (unhide Ha wr (unhide HB)) (k := k) (by have := unhide Hn; omega)
        obtain ⟨b, bb, ob, hdb, rfl, hb1, hb2⟩ := dnc_at (unhide Hb wr (unhide HB)) (k := k) (by have := unhide Hm; omega)
        have f1 : decide ((k : Int) < (n : Int)) = true := by simp; omega
        have f1n : decide (k < n) = true := by simp; omega
        have k0 : (0 : Int) ≤ (k : Int) := by omega
        have k1 : (k : Int) < (n : Int) := by omega
        obtain ⟨P, hP⟩ : ∃ P, decide (a.1 = b.1) = P := ⟨_, rfl⟩
        obtain ⟨Q, hQ⟩ : ∃ Q, decide (a.2 = b.2) = Q := ⟨_, rfl⟩
        obtain ⟨t1, ht1⟩ : ∃ t, st a.1 = t := ⟨_, rfl⟩
        obtain ⟨t2, ht2⟩ : ∃ t, st a.2 = t := ⟨_, rfl⟩
        obtain ⟨u1, hu1⟩ : ∃ t, st b.1 = t := ⟨_, rfl⟩
        obtain ⟨u2, hu2⟩ : ∃ t, st b.2 = t := ⟨_, rfl⟩
        rw [ht1] at ha1
        rw [ht2] at ha2
        rw [hu1] at hb1
        rw [hu2] at hb2
        have e1 : (t1.toList == u1.toList) = P := by rw [eql_str, ← ht1, ← hu1, bs_st, bs_st]; exact hP
        have e2 : (t2.toList == u2.toList) = Q := by rw [eql_str, ← ht2, ← hu2, bs_st, bs_st]; exact hQ
        have HPQ : Hid ((P = true → Q = true → da.take (k + 1) = db.take (k + 1)) ∧ ((P = false ∨ Q = false) → ANS = false)) := by
          refine ⟨fun h1 h2 => ?_, fun h => ?_⟩
          · have hab : a = b := by
              cases a; cases b
              rw [h1] at hP
              rw [h2] at hQ
              simp only at hP hQ
              rw [of_decide_eq_true hP, of_decide_eq_true hQ]
            rw [List.take_add_one, List.take_add_one, unhide HE, hda, hdb, hab]
          · rw [← unhide HA]
            refine decide_eq_false fun he => ?_
            rw [he, hdb, Option.some.injEq] at hda
            subst hda
            rcases h with h | h
            · rw [h] at hP; simp at hP
            · rw [h] at hQ; simp at hQ
        clear hP hQ ht1 ht2 hu1 hu2 hda hdb
        cases P <;> cases Q
        case true.true =>
          have HE2 := hide ((unhide HPQ).1 rfl rfl)
          clear HPQ
          go_wp2
          go_region
          go_wp2
          go_roundw
          case rel =>
            first
              | exact ⟨k + 1, by omega, by go_num, HE2, (unhide HB).drew⟩
              | ((repeat apply Exists.intro); exact ⟨⟨k + 1, by omega, by go_num, HE2, (unhide HB).drew⟩, rfl⟩)
          case measure => simp [intOf]; omega
        all_goals
          have HF := hide ((unhide HPQ).2 (by simp))
          clear HPQ
          go_wp2
          go_region
          go_wp2
          go_ret
          exact ⟨by rw [unhide HF]; rfl, (unhide HB).drew⟩
      · have f1 : decide ((k : Int) < (n : Int)) = false := by simp; omega
        have f1n : decide (k < n) = false := by simp; omega
        have HF : Hid (ANS = true) := by
          show _ = _
          rw [← unhide HA]
          refine decide_eq_true ?_
          have h := unhide HE
          rw [List.take_of_length_le (by have := unhide Hn; omega), List.take_of_length_le (by have := unhide Hm; omega)] at h
          exact h
        go_wp2
        go_ret
        exact ⟨by rw [unhide HF]; rfl, unhide HB⟩
  · have g1 : ((n : Int) != (m : Int)) = true := by simp; omega
    have g2 : ((n : Int) == (m : Int)) = false := by simp; omega
    have HF : Hid (ANS = false) := by
      show _ = _
      rw [← unhide HA]
      refine decide_eq_false fun he => hnm ?_
      rw [← unhide Hn, ← unhide Hm, he]
    have HB := hide (Below.refl w.heap.size w)
    clear hnm
    go_enter Tryz.func52, Tryz.ntmps52
    go_wp2
    go_ret
    exact ⟨by rw [unhide HF]; rfl, unhide HB⟩
theorem samedn_c (w : World) (sa sb : Option Addr) (n m ca cb : Nat) (da db : List (Bs × Bs)) (ha : DnAt w (.slice sa n ca) da) (hb : DnAt w (.slice sb m cb) db) (hn : da.length = n) (hm : db.length = m) (hn9 : n ≤ 1000000000) (hm9 : m ≤ 1000000000) :
    Calls Tryz.prog 32 #[.slice sa n ca, .slice sb m cb] w fun e w' => e = .returned (.bool (sameP da db)) ∧ Below w.heap.size w w' := by
  have He := hide (equal_c w sa sb n m ca cb da db ha hb hn hm hn9 hm9)
  clear ha hb hn hm
  go_enter Tryz.func32, Tryz.ntmps32
  go_wp2_with fail
  refine (unhide He).mono ?_
  rintro e w2 ⟨rfl, hb⟩
  have HB := hide hb
  clear hb
  go_wp2
  go_ret
  exact ⟨rfl, unhide HB⟩
theorem under_dn : Tryz.prog.underlying 26 = some (.slice (Tryz.prog.elem 26)) := by kernel_rfl
theorem elem_dn : Tryz.prog.elem 26 = 33 := by kernel_rfl
theorem size_attr (w : World) : (Go.sizeOf 33).run Tryz.prog w = .ok 2 w := by
  have h : (Tryz.prog.info? 33).map (·.size) = some 2 := by kernel_rfl
  obtain ⟨i, hi, h2⟩ := Option.map_eq_some_iff.1 h
  simp [Go.sizeOf, typeInfo, hi, h2]
/-- A DN's beginning. -/
theorem slice_dn {w0 : World} {sp : Option Addr} {n c : Nat} {d : List (Bs × Bs)} (hd : DnAt w0 (.slice sp n c) d) (hn : d.length = n) (m : Nat) (h : m ≤ n) : ∃ sq, (∀ w, (Instr.sliceAt 26 (.slice sp n c) none (some (.int .i64 (m : Int))) none).run Tryz.prog w = .ok (.slice sq m c) w) ∧ DnAt w0 (.slice sq m c) (d.take m) := by
  obtain ⟨sp', c', e, h1, h2, h3⟩ := hd
  simp only [Value.slice.injEq] at e
  obtain ⟨rfl, e2, rfl⟩ := e
  have hmc : m ≤ c := by omega
  have hl : (d.take m).length = m := by rw [List.length_take]; omega
  refine ⟨if c = 0 then sp else sp.map (·.add 0), fun w => ?_, ?_⟩
  · rw [run_sliceAt_slice w 26 _ _ _ _ under_dn, run_slice_h w 26 sp n c under_dn .i64 (m : Int) (by omega) (by omega), elem_dn, size_attr, Result.andThen_ok]
    simp [sliced]
  · refine ⟨_, c, by rw [hl], by rw [hl]; exact hmc, fun hs => ?_, fun hne => ?_⟩
    · by_cases hc : c = 0
      · exact hc
      · rw [if_neg hc] at hs
        cases sp with
        | none => exact h2 rfl
        | some x => cases hs
    · have hdne : d ≠ [] := fun e => by rw [e] at hne; simp at hne
      obtain ⟨b, o, e3, hc⟩ := h3 hdne
      subst e3
      have hm0 : 0 < m := Nat.pos_of_ne_zero fun e => hne (by rw [e, List.take_zero])
      refine ⟨b, o, ?_, fun i a hi => ?_⟩
      · rw [if_neg (by omega), Option.map_some, Addr.add_mid, Nat.add_zero]
      · have him : i < m := by have := (List.getElem?_eq_some_iff.1 hi).1; omega
        rw [List.getElem?_take_of_lt him] at hi
        exact hc i a hi
set_option maxRecDepth 100000 in
set_option maxHeartbeats 4000000 in
theorem dirw_c (w : World) (sa sb : Option Addr) (n m ca cb : Nat) (da db : List (Bs × Bs)) (ha : DnAt w (.slice sa n ca) da) (hb : DnAt w (.slice sb m cb) db) (hn : da.length = n) (hm : db.length = m) (hm9 : m ≤ 1000000000) :
    Calls Tryz.prog 14 #[.slice sa n ca, .slice sb m cb] w fun e w' => e = .returned (.bool (dirP da db)) ∧ Below w.heap.size w w' := by
  by_cases hle : m ≤ n
  · obtain ⟨sq, hsl, hdq⟩ := slice_dn ha hn m hle
    have Hs := hide (samedn_c w sq sb m m ca cb (da.take m) db hdq hb (by rw [List.length_take]; omega) hm hm9 hm9)
    have HT : Hid (dirP da db = sameP (da.take m) db) := by show _ = _; unfold dirP; rw [hm, decide_eq_true (by omega), Bool.true_and]
    have g1 : decide ((m : Int) ≤ (n : Int)) = true := by simp; omega
    have g1n : decide (m ≤ n) = true := by simp; omega
    clear ha hb hn hm hdq
    go_enter Tryz.func14, Tryz.ntmps14
    go_wp2_with fail
    refine (unhide Hs).mono ?_
    rintro e w2 ⟨rfl, hb⟩
    have HB := hide hb
    clear hb
    go_wp2
    go_ret
    exact ⟨by rw [unhide HT]; rfl, unhide HB⟩
  · have HT : Hid (dirP da db = false) := by show _ = _; unfold dirP; rw [hm, decide_eq_false (by omega), Bool.false_and]
    have g1 : decide ((m : Int) ≤ (n : Int)) = false := by simp; omega
    have g1n : decide (m ≤ n) = false := by simp; omega
    have HB := hide (Below.refl w.heap.size w)
    clear ha hb hn hm
    go_enter Tryz.func14, Tryz.ntmps14
    go_wp2
    go_ret
    exact ⟨by rw [unhide HT]; rfl, unhide HB⟩
end N
end Go.Proofs.YtcofnockikninabGreatDoor
/-
  Rows of attributes that grow.
-/
namespace Go.Proofs.YtcofnockikninabGreatDoor
open Go.RowKit
def cellsA (d : List (Bs × Bs)) : List Value := d.flatMap fun a => [.string (N.st a.1), .string (N.st a.2)]
theorem cellsA_len (d : List (Bs × Bs)) : (cellsA d).length = d.length * 2 := by
  induction d with
  | nil => rfl
  | cons a d ih =>
    have e : cellsA (a :: d) = [.string (N.st a.1), .string (N.st a.2)] ++ cellsA d := by unfold cellsA; simp
    rw [e, List.length_append, ih, List.length_cons]
    simp
    omega
theorem cellsA_app (d e : List (Bs × Bs)) : cellsA (d ++ e) = cellsA d ++ cellsA e := by unfold cellsA; simp
theorem cellsA_one (d : List (Bs × Bs)) : ∀ u ∈ cellsA d, u.oneCell' = true := fun u hu => by
  unfold cellsA at hu
  obtain ⟨a, _, h⟩ := List.mem_flatMap.1 hu
  simp only [List.mem_cons, List.not_mem_nil, or_false] at h
  rcases h with rfl | rfl <;> rfl
theorem cellsA_at : ∀ (d : List (Bs × Bs)) (i : Nat) (a : Bs × Bs), d[i]? = some a → (cellsA d)[i * 2]? = some (.string (N.st a.1)) ∧ (cellsA d)[i * 2 + 1]? = some (.string (N.st a.2))
  | [], i, a, h => by simp at h
  | x :: d, 0, a, h => by
    simp only [List.getElem?_cons_zero, Option.some.injEq] at h
    subst h
    exact ⟨rfl, rfl⟩
  | x :: d, i + 1, a, h => by
    have ih := cellsA_at d i a (by simpa using h)
    have e : cellsA (x :: d) = .string (N.st x.1) :: .string (N.st x.2) :: cellsA d := by unfold cellsA; simp
    rw [e, show (i + 1) * 2 = i * 2 + 1 + 1 by omega]
    exact ih
theorem cellsA_back : ∀ (d : List (Bs × Bs)) (j : Nat) (u : Value), (cellsA d)[j]? = some u → ∃ i a, d[i]? = some a ∧ ((j = i * 2 ∧ u = .string (N.st a.1)) ∨ (j = i * 2 + 1 ∧ u = .string (N.st a.2)))
  | [], j, u, h => by simp [cellsA] at h
  | x :: d, j, u, h => by
    have e : cellsA (x :: d) = .string (N.st x.1) :: .string (N.st x.2) :: cellsA d := by unfold cellsA; simp
    rw [e] at h
    match j, h with
    | 0, h => exact ⟨0, x, rfl, Or.inl ⟨rfl, by simpa using h.symm⟩⟩
    | 1, h => exact ⟨0, x, rfl, Or.inr ⟨rfl, by simpa using h.symm⟩⟩
    | j + 2, h =>
      obtain ⟨i, a, h1, h2⟩ := cellsA_back d j u (by simpa using h)
      refine ⟨i + 1, a, by simpa using h1, ?_⟩
      rcases h2 with h2 | h2
      · exact Or.inl ⟨by omega, h2.2⟩
      · exact Or.inr ⟨by omega, h2.2⟩
/-- A row of attributes of the call's own, begun at the world wb. -/
structure ARow (wb w : World) (v : Value) (d : List (Bs × Bs)) : Prop where
  own : w.ownsRow wb.heap.size 33 2 v d.length (cellsA d)
  b : Below wb.heap.size wb w
theorem arow_nil (w : World) : ARow w w (.slice none 0 0) [] := ⟨World.ownsRow_nil w _ 33 2, Below.refl _ _⟩
theorem ARow.call {wb w w' : World} {v : Value} {d : List (Bs × Bs)} (h : ARow wb w v d) (hb : Below w.heap.size w w') : ARow wb w' v d := by
  refine ⟨⟨h.own.1, ?_⟩, h.b.trans (hb.mono h.b.size)⟩
  rcases h.own.2 with h2 | ⟨g, cap, cur, hv, hB, hg, r⟩
  · exact Or.inl h2
  · exact Or.inr ⟨g, cap, cur, hv, hB, by rw [hb.block g (Array.getElem?_eq_some_iff.1 hg).1]; exact hg, r⟩
theorem ARow.form {wb w : World} {v : Value} {d : List (Bs × Bs)} (h : ARow wb w v d) : ∃ sp c, v = .slice sp d.length c := by
  rcases h.own.2 with ⟨rfl, e⟩ | ⟨g, cap, cur, rfl, _⟩
  · exact ⟨none, 0, by rw [e]⟩
  · exact ⟨_, _, rfl⟩
theorem ARow.dn {wb w : World} {v : Value} {d : List (Bs × Bs)} (h : ARow wb w v d) : DnAt w v d := by
  rcases h.own.2 with ⟨rfl, e⟩ | ⟨g, cap, cur, rfl, _, hg, hn, _⟩
  · refine ⟨none, 0, by rw [e], by omega, fun _ => rfl, fun hd => absurd (List.eq_nil_of_length_eq_zero e) hd⟩
  · refine ⟨_, _, rfl, hn, fun e => (by cases e), fun _ => ⟨g, 0, rfl, fun i a hi => ?_⟩⟩
    obtain ⟨h1, h2⟩ := cellsA_at d i a hi
    have k1 := World.ownsRow.cells h.own (g := g) rfl _ _ h1
    have k2 := World.ownsRow.cells h.own (g := g) rfl _ _ h2
    rw [Addr.add_mid] at k1 k2
    rw [Nat.zero_add] at k1 k2 ⊢
    exact ⟨k1, k2⟩
theorem attr_info : ∃ i, Tryz.prog.info? 33 = some i ∧ i.zero = some (.agg #[.string ByteArray.empty, .string ByteArray.empty]) ∧ i.size = 2 ∧ i.bytes = 32 := by
  have h : (Tryz.prog.info? 33).map (fun i => (i.zero, i.size, i.bytes)) = some (some (.agg #[.string ByteArray.empty, .string ByteArray.empty]), 2, 32) := by kernel_rfl
  obtain ⟨i, hi, h2⟩ := Option.map_eq_some_iff.1 h
  simp only [Prod.mk.injEq] at h2
  exact ⟨i, hi, h2.1, h2.2.1, h2.2.2⟩
theorem run_append_attrs (wb w : World) (v x : Value) (d e : List (Bs × Bs)) (hd : ARow wb w v d) (hx : DnAt w x e) (he : e ≠ []) (hl : d.length + e.length ≤ 1000000) (ty : TypeId) :
    ∃ v' w', (Builtin.append_ #[26, 26] ty #[v, x]).run Tryz.prog w = .ok v' w' ∧ ARow wb w' v' (d ++ e) ∧ w.grownBy w' v.ownBlock := by
  obtain ⟨i, hi, hz, hsz, hby⟩ := attr_info
  obtain ⟨sp, c, rfl, _, _, h3⟩ := hx
  obtain ⟨b, o, rfl, hc⟩ := h3 he
  have hn : ∀ j u, (cellsA e)[j]? = some u → w.cell? ((⟨b, o, none⟩ : Addr).add j) = some u := fun j u hu => by
    rw [Addr.add_mid]
    obtain ⟨i, a, h1, h2⟩ := cellsA_back e j u hu
    obtain ⟨k1, k2⟩ := hc i a h1
    rcases h2 with ⟨rfl, rfl⟩ | ⟨rfl, rfl⟩
    · exact k1
    · rw [← Nat.add_assoc]; exact k2
  obtain ⟨v', w', hr, h2, h3, _⟩ := run_append_own (P := Tryz.prog) w wb.heap.size 26 ty 33 i _ 2 32 Tryz.underlying26 hi hz hsz hby rfl (by omega) v d.length (cellsA d) hd.own ⟨b, o, none⟩ e.length c (cellsA e) (cellsA_len e) hn (cellsA_one e) (by simp only [maxLen]; omega) (by omega) hd.b.size
  refine ⟨v', w', hr, ⟨?_, ?_⟩, h3⟩
  · rw [cellsA_app, List.length_append]; exact h2
  · exact hd.b.grown h3 hd.b.size (fun g hg => (World.ownsRow.lt hd.own g hg).1)
theorem wpList_append_attrs {wb w : World} {ops : Array Oper} {rest : List Oper} {o : Oper} {a : Act} {Q : Exit → Act → World → Prop} (hgd : o.guard = none) (s x : Operand)
    (ho : o.op = .call { callee := .builtin .append, args := #[s, x], argTypes := #[26, 26] }) (v y : Value) (d e : List (Bs × Bs)) (hs : a.eval s = v) (hd : ARow wb w v d)
    (hx : a.eval x = y) (hy : DnAt w y e) (he : e ≠ []) (hl : d.length + e.length ≤ 1000000)
    (h : ∀ v' w', ARow wb w' v' (d ++ e) → w.grownBy w' v.ownBlock → wpList Tryz.prog ops Q rest (a.put o.dst v') w') : wpList Tryz.prog ops Q (o :: rest) a w := by
  obtain ⟨v', w', hr, h2, h3⟩ := run_append_attrs wb w v y d e hd hy he hl o.type
  refine wpList_plain hgd fun _ hK => ?_
  unfold Oper.wp execOp
  simp only [ho, resolve, invoke, builtin, Sem.run_bind, Sem.run_pure, Result.andThen_ok, List.map_toArray, List.map_cons, List.map_nil, hs, hx, hr]
  exact hK _ _ (h v' w' h2 h3)
/-- One attribute in a block that has just been laid. -/
theorem one_attr (w : World) (a b : ByteArray) : DnAt (w.alloc (.cells #[.string a, .string b] 33)) (.slice (some ⟨w.heap.size, 0, none⟩) 1 1) [(N.bs a, N.bs b)] := by
  refine ⟨_, 1, rfl, Nat.le_refl _, fun e => (by cases e), fun _ => ⟨w.heap.size, 0, rfl, fun i x hi => ?_⟩⟩
  match i, hi with
  | 0, hi =>
    simp only [List.getElem?_cons_zero, Option.some.injEq] at hi
    subst hi
    simp only [N.st_bs]
    exact ⟨cell_of_row _ _ _ _ 33 (0, 0) (heap_alloc_new w _) |>.trans rfl, cell_of_row _ _ _ _ 33 (0, 0) (heap_alloc_new w _) |>.trans rfl⟩
  | i + 1, hi => simp at hi
/-- A text of an attribute written over. -/
theorem ARow.text {wb w : World} {g n c k : Nat} {d : List (Bs × Bs)} {a : Bs × Bs} (h : ARow wb w (.slice (some ⟨g, 0, none⟩) n c) d) (hk : d[k]? = some a) (t : ByteArray) :
    (w.cell? ⟨g, k * 2 + 1, none⟩ = some (.string (N.st a.2)) ∧ w.frozen? ⟨g, k * 2 + 1, none⟩ = false) ∧ DnAt (w.setCell ⟨g, k * 2 + 1, none⟩ (.string t)) (.slice (some ⟨g, 0, none⟩) n c) (d.set k (a.1, N.bs t)) ∧ Below wb.heap.size wb (w.setCell ⟨g, k * 2 + 1, none⟩ (.string t)) := by
  have hkl : k < d.length := (List.getElem?_eq_some_iff.1 hk).1
  have hdn := h.dn
  obtain ⟨sp, c', e, h1, h2, h3⟩ := hdn
  simp only [Value.slice.injEq] at e
  obtain ⟨rfl, rfl, rfl⟩ := e
  obtain ⟨b, o, e2, hc⟩ := h3 (fun e => by rw [e] at hkl; simp at hkl)
  simp only [Option.some.injEq, Addr.mk.injEq, and_true] at e2
  obtain ⟨rfl, rfl⟩ := e2
  simp only [Nat.zero_add] at hc
  rcases h.own.2 with ⟨e, _⟩ | ⟨g', cap, cur, e, hge, hg, _⟩
  · cases e
  simp only [Value.slice.injEq, Option.some.injEq, Addr.mk.injEq, and_true] at e
  obtain ⟨rfl, _⟩ := e
  refine ⟨⟨(hc k a hk).2, frozen_of_row w g _ cur 33 hg⟩, ⟨_, c, by rw [List.length_set], by rw [List.length_set]; exact h1, h2, fun _ => ⟨g, 0, rfl, fun i x hi => ?_⟩⟩, h.b.setCell (p := ⟨g, k * 2 + 1, none⟩) hge _⟩
  rw [Nat.zero_add]
  have far : ∀ j, j ≠ k * 2 + 1 → (w.setCell ⟨g, k * 2 + 1, none⟩ (.string t)).cell? ⟨g, j, none⟩ = w.cell? ⟨g, j, none⟩ := fun j hj => World.cell?_setCell_other _ _ _ _ (fun e => hj (by simp only [Addr.mk.injEq] at e; exact e.2.1.symm))
  by_cases hik : i = k
  · subst hik
    rw [List.getElem?_set_self hkl, Option.some.injEq] at hi
    subst hi
    refine ⟨by rw [far _ (by omega)]; exact (hc i a hk).1, ?_⟩
    simp only [N.st_bs]
    exact World.cell?_setCell_same _ _ _ (hc i a hk).2
  · rw [List.getElem?_set_ne (fun e => hik e.symm)] at hi
    exact ⟨by rw [far _ (by omega)]; exact (hc i x hi).1, by rw [far _ (by omega)]; exact (hc i x hi).2⟩
end Go.Proofs.YtcofnockikninabGreatDoor
