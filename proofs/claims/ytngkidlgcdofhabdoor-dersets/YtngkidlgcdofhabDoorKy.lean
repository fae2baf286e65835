/-
  What reading tells, and a value that fill puts together.
-/
import Derived.Test.YtngkidlgcdofhabDoorKj
import Derived.Test.YtngkidlgcdofhabDoorKw
import Derived.Test.YtngkidlgcdofhabDoorMade9
namespace Go.Proofs.YtngkidlgcdofhabDoor
open Go.RowKit
namespace K
/-- Filling a value whose form is known. -/
def fillP (f c t : Nat) (m : Bool) (b : Bs) : Told DV :=
  if okT c t m = false then .no 21 else
  if m = false then (if rightC c t b = false then .no 24 else .yes (.mk c t false b [])) else
  match kidsP (valueP formD f) b.length b with
  | .no e => .no e
  | .yes ks => if (fallsP (ks.map (·.2)) && decide (c = 0 ∧ t = 17)) = true then .no 25 else .yes (.mk c t true [] (ks.map (·.1)))
theorem value_fill {f : Nat} {l l1 l2 : Bs} {c t n : Nat} {m : Bool} (h : tagP l = .yes (c, t, m, l1)) (h2 : lenP l1 = .yes (n, l2)) : valueP formD (f + 1) l = if l2.length < n then .no 20 else match fillP f c t m (l2.take n) with
    | .no e => .no e
    | .yes v => .yes (v, l2.drop n) := by
  unfold valueP
  rw [h]
  simp only []
  rw [h2]
  simp only []
  split
  · rfl
  rename_i hlen
  have hn : (l2.take n).length = n := by rw [List.length_take]; omega
  have e17 : ∀ q : Bool, (q && decide (c = 0) && decide (t = 17)) = (q && decide (c = 0 ∧ t = 17)) := fun q => by rw [Bool.and_assoc, ← Bool.decide_and]
  unfold fillP
  rw [hn]
  cases m with
  | false =>
    simp only [Bool.false_eq_true, if_false, form_ok, if_true, true_and]
    cases okT c t false <;> cases rightC c t (l2.take n) <;> simp
  | true =>
    simp only [if_true, form_ok, Bool.true_eq_false, false_and, if_false, e17]
    cases okT c t true with
    | false => simp
    | true =>
      simp only [Bool.true_eq_false, if_false, ne_eq, not_true_eq_false]
      cases kidsP (valueP formD f) n (l2.take n) with
      | no e => rfl
      | yes ks =>
        by_cases hq : (fallsP (ks.map (·.2)) && decide (c = 0 ∧ t = 17)) = true
        · simp only [if_pos hq]
        · simp only [if_neg hq]
def zeroL : List Value := [.int .i64 0, .int .i64 0, .bool false, .slice none 0 0, .slice none 0 0]
/-- What is told of a value that is read. -/
def ReadTold (f : Nat) (w' : World) (B : Nat) (x : Value) (b : Bs) (cs : List Value) (rest : Value) (er : Nat) : Prop := match valueP formD f b with
  | .no e => er = e ∧ cs = zeroL
  | .yes (v, r) => er = 0 ∧ VAt f (fun k => B ≤ k) w' cs v ∧ ∃ sp c, rest = .slice sp r.length c ∧ ∀ W, BytesAt W x b → BytesAt W rest r
def ReadC (f : Nat) : Prop := ∀ (w : World) (x : Value) (b : Bs) (D : Nat), Tabs w → BytesAt w x b → b.length ≤ 65536 → D + f = 17 → Calls Tryd.prog 19 #[x, .int .i64 (D : Int)] w fun e w' => ∃ (cs : List Value) (s : Option Addr) (n c : Nat) (er : Nat), e = .returned (.tuple #[.agg cs.toArray, .slice s n c, .int .i64 (er : Int)]) ∧ ReadTold f w' w.heap.size x b cs (.slice s n c) er ∧ Below w.heap.size w w'
def FillTold (f c t : Nat) (m : Bool) (w' : World) (B : Nat) (b : Bs) (cs : List Value) (er : Nat) : Prop := match fillP f c t m b with
  | .no e => er = e ∧ cs = zeroL
  | .yes v => er = 0 ∧ VAt (f + 1) (fun k => B ≤ k) w' cs v
def FillC (f : Nat) : Prop := ∀ (w : World) (c t : Nat) (m : Bool) (y : Value) (b : Bs) (D : Nat), Tabs w → BytesAt w y b → b.length ≤ 65536 → D + (f + 1) = 17 → Calls Tryd.prog 25 #[.agg #[.int .i64 (c : Int), .int .i64 (t : Int), .bool m, .slice none 0 0, .slice none 0 0], y, .int .i64 (D : Int)] w fun e w' => ∃ (cs : List Value) (er : Nat), e = .returned (.tuple #[.agg cs.toArray, .int .i64 (er : Int)]) ∧ FillTold f c t m w' w.heap.size b cs er ∧ Below w.heap.size w w'
/-- A read value has the form of five cells. -/
theorem read_form {f : Nat} {w' : World} {B : Nat} {x rest : Value} {b : Bs} {cs : List Value} {er : Nat} (h : ReadTold f w' B x b cs rest er) : ∃ (c t : Int) (m : Bool) (s1 s2 : Option Addr) (n1 c1 n2 c2 : Nat), cs = [.int .i64 c, .int .i64 t, .bool m, .slice s1 n1 c1, .slice s2 n2 c2] := by
  unfold ReadTold at h
  split at h
  · exact ⟨_, _, _, _, _, _, _, _, _, h.2⟩
  · obtain ⟨_, hv, _⟩ := h
    obtain ⟨s1, c1, s2, c2, e⟩ := hv.form
    exact ⟨_, _, _, _, _, _, _, _, _, e⟩
theorem fill_form {f c t : Nat} {m : Bool} {w' : World} {B : Nat} {b : Bs} {cs : List Value} {er : Nat} (h : FillTold f c t m w' B b cs er) : ∃ (c t : Int) (m : Bool) (s1 s2 : Option Addr) (n1 c1 n2 c2 : Nat), cs = [.int .i64 c, .int .i64 t, .bool m, .slice s1 n1 c1, .slice s2 n2 c2] := by
  unfold FillTold at h
  split at h
  · exact ⟨_, _, _, _, _, _, _, _, _, h.2⟩
  · obtain ⟨_, hv⟩ := h
    obtain ⟨s1, c1, s2, c2, e⟩ := hv.form
    exact ⟨_, _, _, _, _, _, _, _, _, e⟩
theorem Edv : Elem5 Tryd.prog 24 26 (.agg #[.int .i64 0, .int .i64 0, .bool false, .slice none 0 0, .slice none 0 0]) := by
  refine ⟨Tryd.underlying24, ?_, rfl⟩
  have h : (Tryd.prog.info? 26).map (fun i => (i.zero, i.size, i.bytes)) = some (some (.agg #[.int .i64 0, .int .i64 0, .bool false, .slice none 0 0, .slice none 0 0]), 5, 72) := by kernel_rfl
  obtain ⟨i, hi, h2⟩ := Option.map_eq_some_iff.1 h
  simp only [Prod.mk.injEq] at h2
  exact ⟨i, hi, h2.1, h2.2.1, h2.2.2⟩
/-- append of one value of five cells. -/
theorem wpList_append_five {t e : TypeId} {z : Value} (E : Elem5 Tryd.prog t e z) {w : World} {ops : Array Oper} {rest : List Oper} {o : Oper} {a : Act} {Q : Exit → Act → World → Prop} (hgd : o.guard = none) (s x : Operand)
    (ho : o.op = .call { callee := .builtin .append, args := #[s, x], argTypes := #[t, t] }) (base : Nat) (v : Value) (n : Nat) (xs ds : List Value) (hs : a.eval s = v) (hown : OwnD e w base v n xs) (ga go c : Nat)
    (hx : a.eval x = .slice (some ⟨ga, go, none⟩) 1 c) (hds : ds.length = 5) (hy : CellsAt w ga go ds) (h1 : ∀ u ∈ ds, u.oneCell' = true) (hb : base ≤ w.heap.size) (hlen : n ≤ 1073741824)
    (h : ∀ v' w', OwnD e w' base v' (n + 1) (xs ++ ds) → w.grownBy w' v.ownBlock → (v'.ownBlock = v.ownBlock ∨ v'.ownBlock = some w.heap.size) → wpList Tryd.prog ops Q rest (a.put o.dst v') w') : wpList Tryd.prog ops Q (o :: rest) a w := by
  refine wpList_plain hgd fun K hK => ?_
  obtain ⟨v', w', hrun, h2, h3, h4⟩ := run_append_five E w base v n xs ds hown ga go c hds hy h1 hb hlen o.type
  unfold Oper.wp execOp
  simp only [ho, resolve, invoke, builtin, Sem.run_bind, Sem.run_pure, Result.andThen_ok, List.map_toArray, List.map_cons, List.map_nil, hs, hx, hrun]
  exact hK _ _ (h v' w' h2 h3 h4)
/-- The blocks that a kid may lie in. -/
def Fr (Q : Nat) (x : Value) (b : Nat) : Prop := Q < b ∧ x.ownBlock ≠ some b
/-- What stands behind so many kids. -/
structure KM (n : Nat) (w wr : World) (O R Q c t : Nat) (xk : Value) (rule : Array Value) (ks : List DV) (xs : List Value) : Prop where
  out : Blk w wr O #[.int .i64 (c : Int), .int .i64 (t : Int), .bool true, .slice none 0 0, xk] 26
  res : Blk w wr R zeroL.toArray 26
  rul : Blk w wr Q rule 52
  own : OwnD 26 wr (Q + 1) xk ks.length xs
  kids : ∀ (j : Nat) (k : DV), ks[j]? = some k → VAt n (Fr Q xk) wr ((xs.drop (j * 5)).take 5) k
  oq : O < Q ∧ R < Q ∧ O ≠ R
theorem KM.below {n : Nat} {w wr w' : World} {O R Q c t : Nat} {xk : Value} {rule : Array Value} {ks : List DV} {xs : List Value} (h : KM n w wr O R Q c t xk rule ks xs) (hb : Below wr.heap.size wr w') : KM n w w' O R Q c t xk rule ks xs :=
  ⟨h.out.call hb, h.res.call hb, h.rul.call hb, h.own.below hb, fun j k hk => (h.kids j k hk).below hb, h.oq⟩
theorem blk_grown {w0 a b : World} {A : Nat} {cs : Array Value} {T : TypeId} {r : Option Nat} (h : Blk w0 a A cs T) (hg : a.grownBy b r) (hne : some A ≠ r) (hb : Below w0.heap.size w0 b) : Blk w0 b A cs T :=
  ⟨by rw [hg.block A h.lt hne]; exact h.res, hb, h.ge⟩
/-- One kid more. -/
theorem KM.add {n : Nat} {w wa wb : World} {O R Q c t : Nat} {xk v' : Value} {rule : Array Value} {ks : List DV} {xs ds : List Value} {k : DV} (h : KM n w wa O R Q c t xk rule ks xs) (hv : VAt n (Fr Q xk) wa ds k)
    (hown : OwnD 26 wb (Q + 1) v' (ks.length + 1) (xs ++ ds)) (hg : wa.grownBy wb xk.ownBlock) (hor : v'.ownBlock = xk.ownBlock ∨ v'.ownBlock = some wa.heap.size) : KM n w (wb.setCell ⟨O, 4, none⟩ v') O R Q c t v' rule (ks ++ [k]) (xs ++ ds) := by
  have hxo : ∀ g, xk.ownBlock = some g → Q + 1 ≤ g := fun g hx => (OwnD.block h.own g hx).1
  have hvo : ∀ g, v'.ownBlock = some g → Q + 1 ≤ g := fun g hx => (OwnD.block hown g hx).1
  have hQw : w.heap.size ≤ Q := h.rul.ge
  have hB1 : Below w.heap.size w wb := grown_below' h.out.b hg h.out.b.size (fun g hx => by have := hxo g hx; omega)
  have hO := blk_grown h.out hg (fun e => by have := hxo O e.symm; have := h.oq.1; omega) hB1
  have hR := blk_grown h.res hg (fun e => by have := hxo R e.symm; have := h.oq.2.1; omega) hB1
  have hQ := blk_grown h.rul hg (fun e => by have := hxo Q e.symm; omega) hB1
  have hgs : wb.grownBy (wb.setCell ⟨O, 4, none⟩ v') (some O) := grown_setCell (World.grownBy.refl _ _) ⟨O, 4, none⟩ v' rfl
  have hB2 : Below w.heap.size w (wb.setCell ⟨O, 4, none⟩ v') := below_set hB1 hB1.size O h.out.ge 4 v'
  have turn : ∀ {ds' : List Value} {k' : DV}, VAt n (Fr Q xk) wa ds' k' → VAt n (Fr Q v') (wb.setCell ⟨O, 4, none⟩ v') ds' k' := fun hv' => by
    have h1 : VAt n (fun b => Fr Q xk b ∧ Fr Q v' b) wa _ _ := hv'.mono fun b hb hbl => ⟨hb, hb.1, fun e => by
      rcases hor with ho | ho
      · rw [ho] at e; exact hb.2 e
      · rw [ho] at e; simp only [Option.some.injEq] at e; omega⟩
    have h2 := h1.kept hg (fun g hx hf => hf.1.2 hx)
    have h3 := h2.kept hgs (fun g hx hf => by simp only [Option.some.injEq] at hx; have := hf.1.1; have := h.oq.1; omega)
    exact h3.mono fun b hb _ => hb.2
  refine ⟨?_, blk_grown hR hgs (fun e => by simp only [Option.some.injEq] at e; have := h.oq.2.2; omega) hB2, blk_grown hQ hgs (fun e => by simp only [Option.some.injEq] at e; have := h.oq.1; omega) hB2, ?_, fun j k' hk' => ?_, h.oq⟩
  · have := Blk.put (cs := [.int .i64 (c : Int), .int .i64 (t : Int), .bool true, .slice none 0 0, xk]) hO 4 (by simp) v'
    exact this
  · rw [List.length_append, List.length_singleton]
    exact OwnD.kept hown hgs (fun g hx e => by have := hvo g hx; simp only [Option.some.injEq] at e; have := h.oq.1; omega)
  · have hj : j < (ks ++ [k]).length := (List.getElem?_eq_some_iff.1 hk').1
    rw [List.length_append, List.length_singleton] at hj
    rcases Nat.lt_succ_iff_lt_or_eq.1 hj with hj | rfl
    · rw [List.getElem?_append_left hj] at hk'
      rw [chunk_old h.own.1 hj]
      exact turn (h.kids j k' hk')
    · rw [List.getElem?_append_right (Nat.le_refl _), Nat.sub_self] at hk'
      simp at hk'
      subst hk'
      rw [chunk_new h.own.1 hv.len]
      exact turn hv
/-- All of it: the value, wherever the result is written. -/
theorem KM.done {n : Nat} {w wr w' : World} {O R Q c t : Nat} {xk : Value} {rule : Array Value} {ks : List DV} {xs : List Value} (h : KM n w wr O R Q c t xk rule ks xs) (hl : ks.length ≤ 1000000) (hg : wr.grownBy w' (some R)) : ∃ sk ck, xk = .slice sk ks.length ck ∧ VAt (n + 1) (fun b => w.heap.size ≤ b) w' (dcells (c : Int) (t : Int) true (.slice none 0 0) xk) (.mk (c : Int) (t : Int) true [] ks) := by
  obtain ⟨sp, cp, e, hc1, hc2⟩ := h.own.form
  subst e
  refine ⟨sp, cp, rfl, .slice none 0 0, sp, cp, rfl, bytes_nil _, fun hne => absurd rfl hne, ⟨by simp [DV.bytes], by simp only [DV.kids]; omega⟩, hc1, hc2, fun hne => ?_⟩
  simp only [DV.kids] at hne
  obtain ⟨g, c', e2, hb, _, _, hat⟩ := OwnD.at h.own (List.length_pos_iff.2 hne)
  simp only [Value.slice.injEq] at e2
  obtain ⟨rfl, _, _⟩ := e2
  have hgR : some g ≠ some R := fun e => by simp only [Option.some.injEq] at e; have := h.oq.2.1; omega
  have hQw := h.rul.ge
  refine ⟨g, 0, rfl, by omega, fun i k hik => ?_⟩
  have hi : i < ks.length := (List.getElem?_eq_some_iff.1 hik).1
  refine ⟨_, (hat i hi).kept hg hgR, ?_⟩
  have h1 := (h.kids i k hik).kept hg (fun g' hx hf => by simp only [Option.some.injEq] at hx; have := hf.1; have := h.oq.2.1; omega)
  exact h1.mono fun b hb _ => by have := hb.1; omega
/-- The row of kids. -/
theorem KM.row {n : Nat} {w wr : World} {O R Q c t : Nat} {xk : Value} {rule : Array Value} {ks : List DV} {xs : List Value} (h : KM n w wr O R Q c t xk rule ks xs) : RowK n (Fr Q xk) wr xk ks := by
  obtain ⟨sp, cp, e, hc1, hc2⟩ := h.own.form
  refine ⟨sp, cp, e, fun i k hik => ?_⟩
  have hi : i < ks.length := (List.getElem?_eq_some_iff.1 hik).1
  obtain ⟨g, c', e2, hb, _, _, hat⟩ := OwnD.at h.own (by omega)
  rw [e] at e2
  simp only [Value.slice.injEq] at e2
  exact ⟨g, 0, _, e2.1, hat i hi, h.kids i k hik⟩
end K
end Go.Proofs.YtngkidlgcdofhabDoor
