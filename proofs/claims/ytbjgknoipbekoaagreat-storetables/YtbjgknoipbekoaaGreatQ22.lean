/-
  Rows of changes that grow; the walk of the landed store's readChanges.
  The walk of the landed store's pairs.changes.
  A plate and a store on it, both made behind a world; the statements' set and gone, walked.
  Plain words on stores (layer 15): how many pairs there are, and how many bytes.
-/
import Derived.Test.YtbjgknoipbekoaaGreatQ20
import Derived.Test.YtbjgknoipbekoaaGreatQ21
import Derived.Test.YtbjgknoipbekoaaGreatQ19
import Derived.Test.YtbjgknoipbekoaaGreatQ18
namespace Go.Proofs.YtbjgknoipbekoaaGreat
open Go.RowKit
theorem ElCh : ElemN Tryz.prog 36 72 (.agg #[.slice none 0 0, .slice none 0 0, .bool false]) 3 56 := elemN_of Tryz.underlying36 (by kernel_rfl) rfl (by omega) (by omega) (by omega)
/-- append of one element of several cells to a row of the call's own. -/
theorem wpList_append_one {t e : TypeId} {z : Value} {m by_ : Nat} (E : ElemN Tryz.prog t e z m by_) {w : World} {ops : Array Oper} {rest : List Oper} {o : Oper} {a : Act} {Q : Exit → Act → World → Prop} (hgd : o.guard = none) (s x : Operand)
    (ho : o.op = .call { callee := .builtin .append, args := #[s, x], argTypes := #[t, t] }) (base : Nat) (v : Value) (n : Nat) (xs ds : List Value) (hs : a.eval s = v) (hown : OwnN e m w base v n xs) (ga go c : Nat)
    (hx : a.eval x = .slice (some ⟨ga, go, none⟩) 1 c) (hds : ds.length = m) (hy : CellsAt w ga go ds) (h1 : ∀ u ∈ ds, u.oneCell' = true) (hb : base ≤ w.heap.size) (hlen : n ≤ 1073741824)
    (h : ∀ v' w', OwnN e m w' base v' (n + 1) (xs ++ ds) → w.grownBy w' v.ownBlock → (v'.ownBlock = v.ownBlock ∨ v'.ownBlock = some w.heap.size) → wpList Tryz.prog ops Q rest (a.put o.dst v') w') : wpList Tryz.prog ops Q (o :: rest) a w := by
  refine wpList_plain hgd fun K hK' => ?_
  obtain ⟨v', w', hrun, r1, r2, r3⟩ := run_append_one E w base v n xs ds hown ga go c hds hy h1 hb hlen o.type
  unfold Oper.wp
  simp [execOp, ho, resolve, invoke, builtin, hs, hx, hrun, Result.andThen]
  exact hK' _ _ (h v' w' r1 r2 r3)
def chsT (t : List (Ch × Value × Value)) : List Ch := t.map (·.1)
def chCells (t : List (Ch × Value × Value)) : List Value := t.flatMap fun x => [x.2.1, x.2.2, .bool x.1.gone]
theorem chCells_at : ∀ (t : List (Ch × Value × Value)) (i : Nat) (x : Ch × Value × Value), t[i]? = some x → (chCells t)[i * 3]? = some x.2.1 ∧ (chCells t)[i * 3 + 1]? = some x.2.2 ∧ (chCells t)[i * 3 + 2]? = some (.bool x.1.gone)
  | [], i, x, h => by simp at h
  | y :: t, 0, x, h => by
    simp only [List.getElem?_cons_zero, Option.some.injEq] at h
    subst h
    exact ⟨rfl, rfl, rfl⟩
  | y :: t, i + 1, x, h => by
    rw [List.getElem?_cons_succ] at h
    obtain ⟨h1, h2, h3⟩ := chCells_at t i x h
    have e : ∀ j, (chCells (y :: t))[(i + 1) * 3 + j]? = (chCells t)[i * 3 + j]? := fun j => by
      show (([y.2.1, y.2.2, .bool y.1.gone] : List Value) ++ chCells t)[(i + 1) * 3 + j]? = _
      rw [List.getElem?_append_right (by simp; omega)]
      congr 1
      simp only [List.length_cons, List.length_nil]
      omega
    exact ⟨(e 0).trans h1, (e 1).trans h2, (e 2).trans h3⟩
theorem chCells_snoc (t : List (Ch × Value × Value)) (x : Ch × Value × Value) : chCells (t ++ [x]) = chCells t ++ [x.2.1, x.2.2, .bool x.1.gone] := by
  unfold chCells
  rw [List.flatMap_append]
  simp
/-- A row of changes of the call's own, whose bytes lie in blocks of K. -/
structure ChRow (K : Set_) (B : Nat) (w : World) (v : Value) (t : List (Ch × Value × Value)) : Prop where
  own : OwnN 72 3 w B v t.length (chCells t)
  each : ∀ x ∈ t, ElS K w x.2.1 x.1.key ∧ ElS K w x.2.2 x.1.val
theorem ElS.low {K : Set_} {B : Nat} {a b : World} {v : Value} {l : Bs} (h : ElS K a v l) (hb : Below B a b) (hK : ∀ k, K k → k < B) : ElS K b v l :=
  h.aside (S := fun k => B ≤ k) ⟨hb.os, hb.tape, hb.output, hb.size, fun k _ hn => hb.block k (by omega)⟩ fun k hk hKk => by have := hK k hKk; omega
theorem ChRow.call {K : Set_} {B : Nat} {w w' : World} {v : Value} {t : List (Ch × Value × Value)} (h : ChRow K B w v t) (hb : Below w.heap.size w w') : ChRow K B w' v t :=
  ⟨h.own.below hb, fun x hx => ⟨(h.each x hx).1.aside (S := none_) (Aside.of_below hb) fun _ h => h.elim, (h.each x hx).2.aside (S := none_) (Aside.of_below hb) fun _ h => h.elim⟩⟩
theorem chrow_nil (K : Set_) (B : Nat) (w : World) : ChRow K B w (.slice none 0 0) [] := ⟨ownn_nil _ _ _ _, fun x hx => by cases hx⟩
/-- The row as a slice of changes. -/
theorem ChRow.at_ {K K' : Set_} {B : Nat} {w : World} {v : Value} {t : List (Ch × Value × Value)} (h : ChRow K B w v t) (hK : ∀ k, K k → K' k) (hB : ∀ k, B ≤ k → K' k) : ChsAt K' w v (chsT t) := by
  unfold chsT
  obtain ⟨sp, c, e, h1, h2⟩ := h.own.form
  refine ⟨⟨sp, c, by rw [List.length_map]; exact e, by rw [List.length_map]; exact h1, h2⟩, fun i ch hi => ?_⟩
  rw [List.getElem?_map] at hi
  obtain ⟨x, hx, rfl⟩ := Option.map_eq_some_iff.1 hi
  have hpos : 0 < t.length := by have := (List.getElem?_eq_some_iff.1 hx).1; omega
  obtain ⟨g, cp, ev, hB1, hg, _, hcell⟩ := h.own.at hpos
  obtain ⟨e0, e1, e2⟩ := chCells_at t i x hx
  have hm := List.mem_of_getElem? hx
  refine ⟨g, 0, _, cp, ev, hB g hB1, hg, x.2.1, x.2.2, ⟨?_, ?_, ?_, (h.each x hm).1.mono hK, (h.each x hm).2.mono hK⟩⟩
  · exact hcell _ _ e0
  · exact hcell _ _ e1
  · exact hcell _ _ e2
/-- One more. -/
theorem ChRow.add {K : Set_} {B : Nat} {w w' : World} {v v' : Value} {t : List (Ch × Value × Value)} {x : Ch × Value × Value} (h : ChRow K B w v t) (ho : OwnN 72 3 w' B v' (t.length + 1) (chCells t ++ [x.2.1, x.2.2, .bool x.1.gone])) (hb : Below B w w') (hK : ∀ k, K k → k < B) (h1 : ElS K w x.2.1 x.1.key) (h2 : ElS K w x.2.2 x.1.val) : ChRow K B w' v' (t ++ [x]) := by
  refine ⟨by rw [List.length_append, chCells_snoc]; exact ho, fun y hy => ?_⟩
  rcases List.mem_append.1 hy with hy | hy
  · exact ⟨(h.each y hy).1.low hb hK, (h.each y hy).2.low hb hK⟩
  · rw [List.mem_singleton] at hy
    subst hy
    exact ⟨h1.low hb hK, h2.low hb hK⟩
theorem rd1_less {b r : Bs} {c : Ch} (h : rd1 b = some (c, r)) : r.length < b.length := by
  unfold rd1 at h
  split at h
  · split at h
    · cases h
    · split at h
      · simp only [Option.some.injEq, Prod.mk.injEq] at h
        rw [← h.2, List.length_drop]
        simp only [List.length_cons]
        omega
      · split at h
        · split at h
          · cases h
          · split at h
            · cases h
            · simp only [Option.some.injEq, Prod.mk.injEq] at h
              rw [← h.2, List.length_drop, List.length_drop, List.length_drop]
              simp only [List.length_cons]
              omega
        · cases h
  · cases h
theorem rdL_nil (n : Nat) : rdL n [] = some [] := by cases n <;> simp [rdL]
theorem rdL_step {n : Nat} {b : Bs} (h : b ≠ []) (hn : b.length ≤ n) : ∃ m, n = m + 1 ∧ rdL n b = match rd1 b with | none => none | some (c, r) => (rdL m r).map (c :: ·) := by
  obtain ⟨m, rfl⟩ : ∃ m, n = m + 1 := ⟨n - 1, by have : b.length ≠ 0 := fun e => h (List.eq_nil_of_length_eq_zero e); omega⟩
  exact ⟨m, rfl, by rw [rdL, if_neg h]; cases rd1 b <;> rfl⟩
set_option maxRecDepth 100000 in
set_option maxHeartbeats 4000000 in
theorem sreadch_c {K : Set_} {w : World} {x : Value} {b : Bs} (hx : ElS K w x b) (hb : b.length ≤ 1000000) (hK : ∀ k, K k → k < w.heap.size) :
    Calls Tryz.prog 68 #[x] w fun e w' => ∃ v, e = .returned (.tuple #[v, .bool (chsOf b).isSome]) ∧ (∀ l, chsOf b = some l → ChsAt (fun k => K k ∨ w.heap.size ≤ k) w' v l) ∧ Below w.heap.size w w' := by
  have HX := hide hx
  obtain ⟨sp, c, rfl, _⟩ := bytes_open hx.at_
  obtain ⟨N, hN⟩ : ∃ N, b.length = N := ⟨_, rfl⟩
  rw [hN] at HX hb ⊢
  have HNb := hide hN
  obtain ⟨ANS, hA⟩ : ∃ y, chsOf b = y := ⟨_, rfl⟩
  have HA0 : Hid (ANS = (rdL b.length b).map (([] : List Ch) ++ ·)) := by show _ = _; rw [← hA]; unfold chsOf; simp
  rw [hA]
  clear hx hN hA
  go_enter Tryz.func68, Tryz.ntmps68
  go_wp2
  go_loopw [0, 4] (fun bb ll wr => ∃ (sq sl : Option Addr) (nq cq nl cl n : Nat) (r : Bs) (t : List (Ch × Value × Value)), bb = .slice sq nq cq ∧ ll = .slice sl nl cl ∧ nq ≤ 1000000 ∧ nl + nq ≤ 1000000 ∧ Hid (r.length = nq) ∧ Hid (t.length = nl) ∧ Hid (ElS K wr (.slice sq nq cq) r) ∧ Hid (ChRow K w.heap.size wr (.slice sl nl cl) t) ∧ Hid (ANS = (rdL n r).map (chsT t ++ ·)) ∧ Hid (r.length ≤ n) ∧ Hid (Below w.heap.size w wr)) (fun bb _ _ => match bb with | .slice _ n _ => n | _ => 0)
  case atStart => exact ⟨sp, none, N, c, 0, 0, b.length, b, [], rfl, rfl, hb, by omega, unhide HNb, rfl, unhide HX, chrow_nil _ _ _, unhide HA0, Nat.le_refl _, Below.refl _ _⟩
  case round =>
    clear HX HNb HA0
    obtain ⟨sq, sl, nq, cq, nl, cl, n, r, t, rfl, rfl, hnq, hnl, HNq, HNl, HX, HT, HA, HRn, HB⟩ := hrel
    by_cases h0 : nq = 0
    · subst h0
      have d1 : decide ((0 : Int) < ((0 : Nat) : Int)) = false := by simp
      have d1i : decide ((0 : Int) < 0) = false := by simp
      have HE : Hid (ANS = some (chsT t)) := by
        show _ = _
        rw [unhide HA, List.eq_nil_of_length_eq_zero (unhide HNq), rdL_nil]
        simp
      clear HA HX
      go_wp2
      go_ret2
      refine ⟨_, by rw [unhide HE]; rfl, fun l hl => ?_, unhide HB⟩
      rw [unhide HE] at hl
      simp only [Option.some.injEq] at hl
      rw [← hl]
      exact (unhide HT).at_ (fun k hk => Or.inl hk) fun k hk => Or.inr hk
    · have d1 : decide ((0 : Int) < (nq : Int)) = true := by simp; omega
      have d1n : decide (0 < nq) = true := by simp; omega
      have hrne : r ≠ [] := fun e => h0 (by rw [← unhide HNq, e]; rfl)
      obtain ⟨m, hm, hstep⟩ := rdL_step hrne (unhide HRn)
      have Hc := hide (scut_c (unhide HX) (by rw [unhide HNq]; exact hnq) hrne (fun h => by have := hK _ h; have := (unhide HB).size; omega))
      have HST : Hid (ANS = (match rd1 r with | none => none | some (c, r') => (rdL m r').map (c :: ·)).map (chsT t ++ ·)) := by show _ = _; rw [← hstep]; exact unhide HA
      have HM : Hid (n = m + 1) := hm
      clear hrne hm hstep HA
      go_upto_region 4 with (first
        | (go_at_call 88; refine (unhide Hc).mono ?_
           rintro e W2 ⟨s1, s2, sr, n1, n2, nr, c1, c2, cr, g, rfl, hcr, hb2⟩
           obtain ⟨ok, hok⟩ : ∃ y, (rd1 r).isSome = y := ⟨_, rfl⟩
           have HOK := hide hok
           rw [hok]
           have HCR := hide hcr
           obtain ⟨W3, hW3⟩ : ∃ y, W2.alloc (.cells #[.slice s1 n1 c1, .slice s2 n2 c2, .bool g] 72) = y := ⟨_, rfl⟩
           have HB2 := hide hb2
           have HS3 : Hid (S3 W3 W2.heap.size (.slice s1 n1 c1) (.slice s2 n2 c2) (.bool g)) := by rw [← hW3]; exact S3.new W2 _ _ _
           have HB3 : Hid (Below wr.heap.size wr W3) := by rw [← hW3]; exact hb2.alloc hb2.size _
           have HB23 : Hid (Below W2.heap.size W2 W3) := by rw [← hW3]; exact (Below.refl _ _).alloc (Nat.le_refl _) _
           clear hcr hb2 hok))
      have n0 := (unhide HS3).c0
      have n1' := (unhide HS3).c1
      have n2' := (unhide HS3).c2
      cases ok
      · have HE : Hid (ANS = none) := by
          show _ = _
          rw [unhide HST]
          have h1 := unhide HOK
          cases hr : rd1 r with
          | none => rfl
          | some z => rw [hr] at h1; cases h1
        have HBw := hide ((unhide HB).trans ((unhide HB3).mono (unhide HB).size))
        go_wp2
        go_ret2
        refine ⟨_, by rw [unhide HE]; rfl, fun l hl => ?_, unhide HBw⟩
        rw [unhide HE] at hl
        cases hl
      · obtain ⟨ch, r', hr⟩ : ∃ c r', rd1 r = some (c, r') := by
          have h1 := unhide HOK
          cases hr : rd1 r with
          | none => rw [hr] at h1; cases h1
          | some z => exact ⟨z.1, z.2, rfl⟩
        obtain ⟨hg, hk1, hk2, hk3⟩ := unhide HCR ch r' hr
        obtain ⟨_, _, ek1, _⟩ := bytes_open hk1.at_
        obtain ⟨_, _, ek2, _⟩ := bytes_open hk2.at_
        obtain ⟨_, _, ek3, _⟩ := bytes_open hk3.at_
        have hless := rd1_less hr
        have hnr : nr = r'.length := by simp only [Value.slice.injEq] at ek3; exact ek3.2.1
        have HNr := hide hnr
        have hB3w := (unhide HB).trans ((unhide HB3).mono (unhide HB).size)
        have hB2s : w.heap.size ≤ W2.heap.size := Nat.le_trans (unhide HB).size (unhide HB2).size
        have HK1 := hide (hk1.aside (S := none_) (Aside.of_below (unhide HB23)) fun _ h => h.elim)
        have HK2 := hide (hk2.aside (S := none_) (Aside.of_below (unhide HB23)) fun _ h => h.elim)
        have HK3 := hide (hk3.aside (S := none_) (Aside.of_below (unhide HB23)) fun _ h => h.elim)
        have HT3 := hide ((unhide HT).call (unhide HB3))
        have HST' : Hid (ANS = (rdL m r').map (chsT (t ++ [(ch, Value.slice s1 n1 c1, Value.slice s2 n2 c2)]) ++ ·)) := by
          show _ = _
          rw [unhide HST, hr]
          cases hz : rdL m r' <;> simp [chsT, hz]
        have HRm : Hid (r'.length ≤ m) := by show _ ≤ _; have := unhide HRn; have := unhide HM; omega
        have hnr1 : nr < nq := by rw [hnr, ← unhide HNq]; exact hless
        have HGc : Hid (ch.gone = g) := hg
        have HBw3 := hide hB3w
        have HB2s := hide hB2s
        obtain ⟨W4, hW4⟩ : ∃ y, W3.alloc (.cells #[.slice s1 n1 c1, .slice s2 n2 c2, .bool g] 72) = y := ⟨_, rfl⟩
        have HS4 : Hid (S3 W4 W3.heap.size (.slice s1 n1 c1) (.slice s2 n2 c2) (.bool g)) := by rw [← hW4]; exact S3.new W3 _ _ _
        have HB34 : Hid (Below W3.heap.size W3 W4) := by rw [← hW4]; exact (Below.refl _ _).alloc (Nat.le_refl _) _
        have HT4 := hide ((unhide HT3).call (unhide HB34))
        have HBw4 := hide ((unhide HBw3).trans ((unhide HB34).mono (unhide HBw3).size))
        clear hr hg hk1 hk2 hk3 ek1 ek2 ek3 hless hnr hB3w hB2s HST HRn HM HX HT HCR HOK HT3
        go_wp2_with (first
          | (at_builtin; refine wpList_append_one ElCh rfl _ _ rfl w.heap.size (.slice sl nl cl) nl (chCells t) [.slice s1 n1 c1, .slice s2 n2 c2, .bool g] rfl (by have := (unhide HT4).own; rw [unhide HNl] at this; exact this) W3.heap.size 0 1 rfl rfl (fun j u hu => by
               rcases j with _ | _ | _ | j
               · simp only [List.getElem?_cons_zero, Option.some.injEq] at hu; subst hu; exact (unhide HS4).c0
               · simp only [List.getElem?_cons_succ, List.getElem?_cons_zero, Option.some.injEq] at hu; subst hu; exact (unhide HS4).c1
               · simp only [List.getElem?_cons_succ, List.getElem?_cons_zero, Option.some.injEq] at hu; subst hu; exact (unhide HS4).c2
               · simp at hu) (by simp [Value.oneCell']) (unhide HBw4).size (by omega) ?_
             intro v5 W5 ho5 hg5 hor5
             obtain ⟨s5, c5, e5, _⟩ := ho5.form
             subst e5
             have hb5 : Below w.heap.size W4 W5 := Aside.below (S := fun k => (Value.slice sl nl cl).ownBlock = some k) (Aside.of_grown hg5 fun _ h => h) (unhide HBw4).size fun k hk => ((unhide HT4).own.lt k hk).1
             have HK3' := hide (((unhide HK3).aside (S := none_) (Aside.of_below (unhide HB34)) fun _ h => h.elim).low hb5 hK)
             have HT5 : Hid (ChRow K w.heap.size W5 (.slice s5 (nl + 1) c5) (t ++ [(ch, .slice s1 n1 c1, .slice s2 n2 c2)])) := (unhide HT4).add (x := (ch, .slice s1 n1 c1, .slice s2 n2 c2)) (by rw [unhide HNl]; simp only [unhide HGc]; exact ho5) hb5 hK ((unhide HK1).aside (S := none_) (Aside.of_below (unhide HB34)) fun _ h => h.elim) ((unhide HK2).aside (S := none_) (Aside.of_below (unhide HB34)) fun _ h => h.elim)
             have HBw5 : Hid (Below w.heap.size w W5) := (unhide HBw4).trans hb5
             clear ho5 hg5 hor5 hb5))
        refine ⟨⟨sr, s5, nr, cr, nl + 1, c5, m, r', _, rfl, rfl, by omega, by omega, (unhide HNr).symm, ?_, HK3', HT5, HST', HRm, HBw5⟩, ?_⟩
        · show _ = _; rw [List.length_append, unhide HNl]; rfl
        · exact hnr1
end Go.Proofs.YtbjgknoipbekoaaGreat
namespace Go.Proofs.YtbjgknoipbekoaaGreat
open Go.RowKit Go.MapKept
theorem bytes_of_text (w : World) (S : ByteArray) : BytesAt (w.drew.alloc (.cells (bytesRow S (grownCap w S.size 0 5)) 5 ((bytesRow S (grownCap w S.size 0 5)).size, (bytesRow S (grownCap w S.size 0 5)).size + 1))) (.slice (some ⟨w.heap.size, 0, none⟩) S.size (grownCap w S.size 0 5)) S.data.toList := by
  have hlen : S.data.toList.length = S.size := by rw [Array.length_toList]; rfl
  have hge := grownCap_ge w S.size 0 5
  refine ⟨_, _, by rw [List.length_map, hlen], by rw [List.length_map, hlen]; exact hge, fun e => (by cases e), fun _ => ⟨w.heap.size, 0, rfl, fun j v hv => ?_⟩⟩
  have hj : j < S.data.size := by have := (List.getElem?_eq_some_iff.1 hv).1; simpa using this
  rw [Nat.zero_add]
  have h1 := World.cell?_alloc_mark w.drew (bytesRow S (grownCap w S.size 0 5)) 5 ((bytesRow S (grownCap w S.size 0 5)).size, (bytesRow S (grownCap w S.size 0 5)).size + 1) j
  have h2 := bytesRow_at S (grownCap w S.size 0 5) j hj
  have h3 : (S.data.toList.map bv)[j]? = some (.int .u8 (S.data[j].toNat : Int)) := by
    rw [List.getElem?_map, Array.getElem?_toList, Array.getElem?_eq_getElem hj]
    rfl
  rw [h3] at hv
  rw [← hv, ← h2]
  exact h1
/-- []byte(s). -/
theorem conv_bytes (w : World) (s : ByteArray) : ∃ (cp : Nat) (wb : World), (convert 9 23 (.string s)).run Tryz.prog w = .ok (.slice (some ⟨w.heap.size, 0, none⟩) s.size cp) wb ∧ BytesAt wb (.slice (some ⟨w.heap.size, 0, none⟩) s.size cp) s.data.toList ∧ Below w.heap.size w wb ∧ wb.heap.size = w.heap.size + 1 :=
  ⟨_, _, run_bytes_of_string (P := Tryz.prog) w 9 23 5 s Tryz.underlying9 Tryz.underlying23 Tryz.underlying5, bytes_of_text w s, (Below.refl w.heap.size w).drew.alloc (Nat.le_refl _) _, by simp⟩
theorem SMAt.cut {V : Set_} {w : World} {B : Nat} {f : Bs → Option Bs} (h : SMAt V w B f) : SMAt (fun k => V k ∧ k < w.heap.size) w B f := by
  obtain ⟨es, c, h1, h2, h3⟩ := h
  exact ⟨es, c, h1, h2, ⟨fun e he => by obtain ⟨k, b, a1, a2, a3⟩ := h3.each e he; exact ⟨k, b, a1, a2, a3.mono' fun k hk hV => ⟨hV, hk⟩⟩, h3.none⟩⟩
theorem ChRow.mono {K K' : Set_} {B : Nat} {w : World} {v : Value} {t : List (Ch × Value × Value)} (h : ChRow K B w v t) (hK : ∀ k, K k → K' k) : ChRow K' B w v t := ⟨h.own, fun x hx => ⟨(h.each x hx).1.mono hK, (h.each x hx).2.mono hK⟩⟩
theorem ChRow.add' {K : Set_} {B : Nat} {w w' : World} {v v' : Value} {t : List (Ch × Value × Value)} {x : Ch × Value × Value} (h : ChRow K B w v t) (ho : OwnN 72 3 w' B v' (t.length + 1) (chCells t ++ [x.2.1, x.2.2, .bool x.1.gone])) (ha : Aside (fun k => v.ownBlock = some k) w w') (hn : ∀ k, v.ownBlock = some k → ¬ K k) (h1 : ElS K w x.2.1 x.1.key) (h2 : ElS K w x.2.2 x.1.val) : ChRow K B w' v' (t ++ [x]) := by
  refine ⟨by rw [List.length_append, chCells_snoc]; exact ho, fun y hy => ?_⟩
  rcases List.mem_append.1 hy with hy | hy
  · exact ⟨(h.each y hy).1.aside ha hn, (h.each y hy).2.aside ha hn⟩
  · rw [List.mem_singleton] at hy
    subst hy
    exact ⟨h1.aside ha hn, h2.aside ha hn⟩
theorem keys_all (ps : List (Bs × Bs)) : keysP ps [] = ps.map (·.1) := by
  unfold keysP
  rw [List.filter_eq_self]
  intro x _
  rfl
theorem get_at {ps : List (Bs × Bs)} (h : SortedP ps) {i : Nat} {x : Bs × Bs} (hx : ps[i]? = some x) : getP ps x.1 = some x.2 := by
  induction ps generalizing i with
  | nil => simp at hx
  | cons y ps ih =>
    unfold getP
    cases i with
    | zero =>
      simp only [List.getElem?_cons_zero, Option.some.injEq] at hx
      subst hx
      rw [if_pos rfl]
    | succ i =>
      rw [List.getElem?_cons_succ] at hx
      have h1 := (List.pairwise_cons.1 h).1 x (List.mem_of_getElem? hx)
      rw [if_neg (less_ne h1)]
      exact ih (List.pairwise_cons.1 h).2 hx
theorem all_take {ps : List (Bs × Bs)} {i : Nat} {x : Bs × Bs} (hx : ps[i]? = some x) : allP (ps.take (i + 1)) = allP (ps.take i) ++ [⟨x.1, x.2, false⟩] := by
  rw [List.take_add_one, hx]
  unfold allP
  rw [List.map_append]
  rfl
set_option maxRecDepth 100000 in
set_option maxHeartbeats 4000000 in
theorem pchanges_c {V : Set_} {w : World} {B : Nat} {ps : List (Bs × Bs)} (h : SMAt V w B (getP ps)) (hV : ∀ k, V k → k < w.heap.size) (hs : SortedP ps) (hl : ps.length ≤ 1000000) :
    Calls Tryz.prog 63 #[.map (some B)] w fun e w' => ∃ v, e = .returned v ∧ ChsAt (fun k => V k ∨ w.heap.size ≤ k) w' v (allP ps) ∧ Below w.heap.size w w' := by
  have HM := hide h
  have HS := hide hs
  have HV := hide hV
  have Hk := hide (pkeys_c h hs hl ⟨#[]⟩)
  rw [show (⟨#[]⟩ : ByteArray).data.toList = [] from rfl, keys_all] at Hk
  obtain ⟨n, hn⟩ : ∃ n, ps.length = n := ⟨_, rfl⟩
  have HN := hide hn
  rw [hn] at hl
  clear h hs hV hn
  go_enter Tryz.func63, Tryz.ntmps63
  go_wp2_with (first
    | (go_at_call 52; refine (unhide Hk).mono ?_
       rintro e w1 ⟨v1, rfl, ho1, hb1⟩
       obtain ⟨s1, c1, e1⟩ := OwnV.form ho1
       rw [List.length_map, List.length_map, unhide HN] at e1
       subst e1
       have HO1 := hide ho1
       have HB1 := hide hb1
       clear ho1 hb1))
  go_loopw [3, 9] (fun lv ii wr => ∃ (i : Nat) (sl : Option Addr) (cl : Nat) (t : List (Ch × Value × Value)) (K : Set_), i ≤ n ∧ lv = .slice sl i cl ∧ ii = .int .i64 (i : Int) ∧ Hid (chsT t = allP (ps.take i)) ∧ Hid (ChRow K w.heap.size wr (.slice sl i cl) t) ∧ Hid (OwnS wr w.heap.size (.slice s1 n c1) (ps.map (·.1))) ∧ Hid (∀ k, K k → k < wr.heap.size) ∧ Hid (∀ k, K k → V k ∨ w.heap.size ≤ k) ∧ Hid (∀ k, V k ∨ (Value.slice s1 n c1).ownBlock = some k → K k) ∧ Hid (∀ k, (Value.slice sl i cl).ownBlock = some k → ¬ K k) ∧ Hid (Below w.heap.size w wr)) (fun _ ii _ => n - (intOf ii).toNat)
  case atStart =>
    refine ⟨0, none, 0, [], fun k => V k ∨ (Value.slice s1 n c1).ownBlock = some k, by omega, rfl, rfl, rfl, chrow_nil _ _ _, unhide HO1, fun k hk => ?_, fun k hk => ?_, fun k hk => hk, fun k hk => by simp [Value.ownBlock] at hk, unhide HB1⟩
    · rcases hk with hk | hk
      · exact Nat.lt_of_lt_of_le (unhide HV k hk) (unhide HB1).size
      · exact (World.ownsRow.lt (unhide HO1) k hk).2
    · rcases hk with hk | hk
      · exact Or.inl hk
      · exact Or.inr (World.ownsRow.lt (unhide HO1) k hk).1
  case round =>
    clear HO1 HB1
    obtain ⟨i, sl, cl, t, K, hi, rfl, rfl, HT, HR, HO, HKl, HKw, HKV, HKn, HB⟩ := hrel
    by_cases hlt : i < n
    · obtain ⟨x, hx⟩ : ∃ x, ps[i]? = some x := ⟨_, List.getElem?_eq_getElem (by have := unhide HN; omega)⟩
      have f1 : decide ((i : Int) < (n : Int)) = true := by simp; omega
      have f1n : decide (i < n) = true := by simp; omega
      have j0 : (0 : Int) ≤ (i : Int) := by omega
      have j1 : (i : Int) < (n : Int) := by omega
      have hne0 : (ps.map (·.1)).map ks ≠ [] := by
        intro e
        have h1 : ((ps.map (·.1)).map ks).length = n := by rw [List.length_map, List.length_map]; exact unhide HN
        rw [e] at h1
        simp at h1
        omega
      obtain ⟨gk, ck, ek, _, _, hcell⟩ := OwnV.cellAt (unhide HO) hne0
      rw [List.length_map, List.length_map, unhide HN] at ek hcell
      simp only [Value.slice.injEq] at ek
      obtain ⟨es1, _, ec1⟩ := ek
      obtain ⟨sx, hsx⟩ : ∃ y : ByteArray, (⟨x.1.toArray⟩ : ByteArray) = y := ⟨_, rfl⟩
      have k0 : wr.cell? ⟨gk, i, none⟩ = some (.string sx) := by
        rw [hcell i hlt, List.getD_eq_getElem?_getD, List.getElem?_map, List.getElem?_map, hx]
        show some (ks x.1) = _
        unfold ks
        rw [hsx]
      have hxs : sx.data.toList = x.1 := by rw [← hsx]
      have hxl : sx.size = x.1.length := by rw [← hxs, Array.length_toList]; rfl
      have HXK : Hid (ks x.1 = .string sx) := by show _ = _; unfold ks; rw [hsx]
      obtain ⟨cp, w2, hcv, hbt, hb2, hsz2⟩ := conv_bytes wr sx
      have hM2 := ((unhide HM).below (unhide HB)).below hb2
      obtain ⟨vv, hlk, hvv⟩ := hM2.look x.1 false
      simp only [Bool.false_eq_true, if_false] at hlk
      rw [unhide HXK] at hlk
      rw [get_at (unhide HS) hx, Option.getD_some] at hvv
      obtain ⟨s2, c2, e2, _⟩ := bytes_open hvv.at_
      subst e2
      rw [hxs] at hbt
      have HAl := hide (all_take hx)
      obtain ⟨VN, hVN⟩ : ∃ y, x.2.length = y := ⟨_, rfl⟩
      obtain ⟨KN, hKN⟩ : ∃ y, sx.size = y := ⟨_, rfl⟩
      rw [hVN] at hlk hvv
      rw [hKN] at hcv hbt
      -- the sets
      have HK2l : Hid (∀ k, (K k ∨ k = wr.heap.size) → k < w2.heap.size) := fun k hk => by
        rcases hk with hk | hk
        · have := unhide HKl k hk; omega
        · omega
      have HK2w : Hid (∀ k, (K k ∨ k = wr.heap.size) → V k ∨ w.heap.size ≤ k) := fun k hk => by
        rcases hk with hk | hk
        · exact unhide HKw k hk
        · exact Or.inr (by have := (unhide HB).size; omega)
      have HK2V : Hid (∀ k, V k ∨ (Value.slice s1 n c1).ownBlock = some k → (K k ∨ k = wr.heap.size)) := fun k hk => Or.inl (unhide HKV k hk)
      have HK2n : Hid (∀ k, (Value.slice sl i cl).ownBlock = some k → ¬ (K k ∨ k = wr.heap.size)) := fun k hk h => by
        rcases h with h | h
        · exact unhide HKn k hk h
        · have := ((unhide HR).own.lt k hk).2; omega
      obtain ⟨W3, hW3⟩ : ∃ y, w2.alloc (.cells #[.slice (some ⟨wr.heap.size, 0, none⟩) KN cp, .slice s2 VN c2, .bool false] 72) = y := ⟨_, rfl⟩
      have HS3 : Hid (S3 W3 w2.heap.size (.slice (some ⟨wr.heap.size, 0, none⟩) KN cp) (.slice s2 VN c2) (.bool false)) := by rw [← hW3]; exact S3.new w2 _ _ _
      have hb23 : Below w2.heap.size w2 W3 := by rw [← hW3]; exact (Below.refl _ _).alloc (Nat.le_refl _) _
      have hb3 : Below wr.heap.size wr W3 := hb2.trans (hb23.mono hb2.size)
      have HB3 := hide ((unhide HB).trans (hb3.mono (unhide HB).size))
      have HR3 := hide (((unhide HR).call hb3).mono (K' := fun k => K k ∨ k = wr.heap.size) fun k hk => Or.inl hk)
      have HO3 := hide (OwnV.below (unhide HO) hb3)
      have HE1 : Hid (ElS (fun k => K k ∨ k = wr.heap.size) W3 (.slice (some ⟨wr.heap.size, 0, none⟩) KN cp) x.1) := ⟨hbt.below hb23, fun _ k hk => Or.inr (by simpa [Value.ownBlock] using hk.symm)⟩
      have HE2 : Hid (ElS (fun k => K k ∨ k = wr.heap.size) W3 (.slice s2 VN c2) x.2) := (hvv.aside (S := none_) (Aside.of_below hb23) fun _ h => h.elim).mono fun k hk => Or.inl (unhide HKV k (Or.inl hk))
      have HSZ : Hid (w2.heap.size < W3.heap.size) := World.block_lt_of_cell? _ _ (unhide HS3).c0
      have HTl : Hid (t.length = i) := by
        have h1 := congrArg List.length (unhide HT)
        unfold chsT allP at h1
        rw [List.length_map, List.length_map, List.length_take] at h1
        show _ = _
        have := unhide HN
        omega
      subst es1
      clear hsz2 hne0 hx hcell hsx hxs hxl hbt hb2 hM2 hvv hVN hKN hb23 hb3 HR HO HKl HKw HKV HKn HB ec1 ck
      go_wp2_with (first
        | (at_builtin; refine wpList_append_one ElCh rfl _ _ rfl w.heap.size (.slice sl i cl) i (chCells t) [.slice (some ⟨wr.heap.size, 0, none⟩) KN cp, .slice s2 VN c2, .bool false] rfl (by have := (unhide HR3).own; rw [unhide HTl] at this; exact this) w2.heap.size 0 1 rfl rfl (fun j u hu => by
             rcases j with _ | _ | _ | j
             · simp only [List.getElem?_cons_zero, Option.some.injEq] at hu; subst hu; exact (unhide HS3).c0
             · simp only [List.getElem?_cons_succ, List.getElem?_cons_zero, Option.some.injEq] at hu; subst hu; exact (unhide HS3).c1
             · simp only [List.getElem?_cons_succ, List.getElem?_cons_zero, Option.some.injEq] at hu; subst hu; exact (unhide HS3).c2
             · simp at hu) (by simp [Value.oneCell']) (unhide HB3).size (by omega) ?_
           intro v5 W5 ho5 hg5 hor5
           obtain ⟨s5, c5, e5, _⟩ := ho5.form
           subst e5
           have ha5 : Aside (fun k => (Value.slice sl i cl).ownBlock = some k) W3 W5 := Aside.of_grown hg5 fun _ h => h
           have HR5 : Hid (ChRow (fun k => K k ∨ k = wr.heap.size) w.heap.size W5 (.slice s5 (i + 1) c5) (t ++ [(⟨x.1, x.2, false⟩, .slice (some ⟨wr.heap.size, 0, none⟩) KN cp, .slice s2 VN c2)])) := (unhide HR3).add' (x := (⟨x.1, x.2, false⟩, .slice (some ⟨wr.heap.size, 0, none⟩) KN cp, .slice s2 VN c2)) (by rw [unhide HTl]; exact ho5) ha5 (unhide HK2n) (unhide HE1) (unhide HE2)
           have HO5 : Hid (OwnS W5 w.heap.size (.slice (some ⟨gk, 0, none⟩) n c1) (ps.map (·.1))) := OwnV.aside (unhide HO3) ha5 fun k hk h => unhide HK2n k h (unhide HK2V k (Or.inr hk))
           have HB5 : Hid (Below w.heap.size w W5) := (unhide HB3).trans (Aside.below ha5 (unhide HB3).size fun k hk => ((unhide HR3).own.lt k hk).1)
           have HK5l : Hid (∀ k, (K k ∨ k = wr.heap.size) → k < W5.heap.size) := fun k hk => by have h1 := unhide HK2l k hk; have h2 := unhide HSZ; have h3 := ha5.size; omega
           have HK5n : Hid (∀ k, (Value.slice s5 (i + 1) c5).ownBlock = some k → ¬ (K k ∨ k = wr.heap.size)) := fun k hk h => by
             rcases hor5 with ho | ho
             · rw [ho] at hk; exact unhide HK2n k hk h
             · rw [ho] at hk
               simp only [Option.some.injEq] at hk
               have h1 := unhide HK2l k h
               have h2 := unhide HSZ
               omega
           clear ho5 hg5 hor5 ha5))
      refine ⟨⟨i + 1, s5, c5, _, fun k => K k ∨ k = wr.heap.size, by omega, rfl, ?_, ?_, HR5, HO5, HK5l, HK2w, HK2V, HK5n, HB5⟩, ?_⟩
      · simp
      · show _ = _
        rw [unhide HAl, ← unhide HT]
        unfold chsT
        rw [List.map_append]
        rfl
      · simp [intOf]; omega
    · obtain rfl : i = n := by omega
      have f1 : decide ((i : Int) < (i : Int)) = false := by simp
      have HE : Hid (ChsAt (fun k => V k ∨ w.heap.size ≤ k) wr (.slice sl i cl) (allP ps)) := by
        have h := (unhide HR).at_ (K' := fun k => V k ∨ w.heap.size ≤ k) (unhide HKw) fun k hk => Or.inr hk
        rw [unhide HT, List.take_of_length_le (by have := unhide HN; omega)] at h
        exact h
      clear HR HT HO HKl HKw HKV HKn
      go_wp2
      go_ret
      exact ⟨_, rfl, unhide HE, unhide HB⟩
end Go.Proofs.YtbjgknoipbekoaaGreat
namespace Go.Proofs.YtbjgknoipbekoaaGreat
open Go.RowKit
/-- A plate and a store on it, both made behind the world w0. -/
structure Stg (PAt : Set_ → Set_ → World → Value → PS → Prop) (SAt : Set_ → Set_ → World → Value → Value → SS → Prop) (w0 w : World) (p t : Value) (S R S2 R2 : Set_) (s : PS) (G : SS) : Prop where
  st : SAt S2 R2 w t p G
  p : PAt S R w p s
  sepP : ∀ k, S2 k → ¬ S k ∧ ¬ R k
  sepL : ∀ k, S k → ¬ R2 k
  ge : ∀ k, S k ∨ R k → w0.heap.size ≤ k
  ge2 : ∀ k, S2 k ∨ R2 k → w0.heap.size ≤ k
  b : Below w0.heap.size w0 w
section
variable {PAt : Set_ → Set_ → World → Value → PS → Prop} {SAt : Set_ → Set_ → World → Value → Value → SS → Prop} (HP : Plate PAt) (HS : Store PAt SAt)
variable {w0 w w' : World} {p t : Value} {S R S2 R2 : Set_} {s : PS} {G : SS}
include HP HS in
theorem Stg.below (h : Stg PAt SAt w0 w p t S R S2 R2 s G) (hb : Below w.heap.size w w') : Stg PAt SAt w0 w' p t S R S2 R2 s G :=
  ⟨HS.kept h.st (T := none_) (Aside.of_below hb) fun _ hk => hk.elim, HP.kept h.p (T := none_) (Aside.of_below hb) fun _ hk => hk.elim, h.sepP, h.sepL, h.ge, h.ge2, h.b.trans (hb.mono h.b.size)⟩
include HP HS in
/-- Blocks that are not theirs were written. -/
theorem Stg.kept (h : Stg PAt SAt w0 w p t S R S2 R2 s G) {T : Set_} (ha : Aside T w w') (hT : ∀ k, T k → (¬ S k ∧ ¬ R k) ∧ ¬ S2 k ∧ ¬ R2 k) (hg : ∀ k, T k → w0.heap.size ≤ k) : Stg PAt SAt w0 w' p t S R S2 R2 s G :=
  ⟨HS.kept h.st ha fun k hk => (hT k hk).2, HP.kept h.p ha fun k hk => (hT k hk).1, h.sepP, h.sepL, h.ge, h.ge2, h.b.trans (ha.below h.b.size hg)⟩
include HS in
/-- A Commit. -/
theorem Stg.commit (h : Stg PAt SAt w0 w p t S R S2 R2 s G) {K : Set_} {x : Value} {l : List Ch} {T : Nat} (hx : ChsAt K w x l) (hK : ∀ k, K k → ¬ S k ∧ ¬ S2 k) (hl : l.length ≤ 1000) (hh : G.half = (s.safe.length - 2) / 2) (hL : G.closed = false → Live G.half G.gen T s G.log G.pairs ∧ T + 1 < 4294967296) :
    Calls Tryz.prog 14 #[t, x] w fun e w' => e = .returned (.int .i64 (commitS G s l).1) ∧ (∃ S' R' S2' R2', Stg PAt SAt w0 w' p t S' R' S2' R2' (commitS G s l).2.2 (commitS G s l).2.1 ∧ ∀ k, (S' k ∨ R' k) ∨ S2' k ∨ R2' k → ((S k ∨ R k) ∨ S2 k ∨ R2 k) ∨ w.heap.size ≤ k) ∧ Aside (fun k => S k ∨ S2 k) w w' := by
  refine (HS.commit K x l T h.p h.st h.sepP h.sepL hx hK hl hh hL).mono ?_
  rintro e w' ⟨rfl, S', R', S2', R2', q1, q2, q3, q4, q5, q6, q7, q8⟩
  have hs := h.b.size
  have hge : ∀ k, S k ∨ S2 k → w0.heap.size ≤ k := fun k hk => hk.elim (fun h3 => h.ge k (Or.inl h3)) fun h3 => h.ge2 k (Or.inl h3)
  refine ⟨rfl, ⟨S', R', S2', R2', ⟨q2, q1, q6, q7, fun k hk => ?_, fun k hk => ?_, h.b.trans (q8.below hs hge)⟩, fun k hk => ?_⟩, q8⟩
  · rcases hk with hk | hk
    · rcases q3 k (Or.inl hk) with h3 | h3
      · exact hge k h3
      · omega
    · rcases q4 k hk with h3 | h3
      · exact h.ge k (Or.inr h3)
      · omega
  · rcases hk with hk | hk
    · rcases q3 k (Or.inr hk) with h3 | h3
      · exact hge k h3
      · omega
    · rcases q5 k hk with h3 | h3
      · exact h.ge2 k (Or.inr h3)
      · omega
  · rcases hk with (hk | hk) | hk | hk
    · rcases q3 k (Or.inl hk) with (h3 | h3) | h3
      · exact Or.inl (Or.inl (Or.inl h3))
      · exact Or.inl (Or.inr (Or.inl h3))
      · exact Or.inr h3
    · rcases q4 k hk with h3 | h3
      · exact Or.inl (Or.inl (Or.inr h3))
      · exact Or.inr h3
    · rcases q3 k (Or.inr hk) with (h3 | h3) | h3
      · exact Or.inl (Or.inl (Or.inl h3))
      · exact Or.inl (Or.inr (Or.inl h3))
      · exact Or.inr h3
    · rcases q5 k hk with h3 | h3
      · exact Or.inl (Or.inr (Or.inr h3))
      · exact Or.inr h3
/-- A store is opened on a plate. -/
theorem On.opened_ (HS : Store PAt SAt) (h : On PAt w0 w p S R s) {hf T : Nat} {ps : List (Bs × Bs)} (H : AtRest hf T s ps) (hT : T + 1 < 4294967296) (hh : hf = (s.safe.length - 2) / 2) {G' : SS} {s' : PS} (he : openS s hf = (0, some G', s')) :
    Calls Tryz.prog 10 #[p] w fun e w' => ∃ a, e = .returned (.tuple #[.pointer (some a), .int .i64 0]) ∧ (∃ S' R' S2 R2, Stg PAt SAt w0 w' p (.pointer (some a)) S' R' S2 R2 s' G') ∧ Aside S w w' := by
  refine (HS.open_ hf T ps h.p H hT hh).mono ?_
  rw [he]
  rintro e w' ⟨v, rfl, S', R', S2, R2, q1, q2, q3, q4, q5, _, q7, q8, q9, q10⟩
  have hst := q5 G' rfl
  obtain ⟨a, rfl⟩ := HS.ptr hst
  have hs := h.b.size
  refine ⟨a, rfl, ⟨S', R', S2, R2, hst, q1, q9, q10, fun k hk => ?_, fun k hk => ?_, h.b.trans (q4.below hs fun k hk => h.ge k (Or.inl hk))⟩, q4⟩
  · rcases hk with hk | hk
    · rcases q2 k hk with h3 | h3
      · exact h.ge k (Or.inl h3)
      · omega
    · rcases q3 k hk with h3 | h3
      · exact h.ge k (Or.inr h3)
      · omega
  · rcases hk with hk | hk
    · rcases q7 k hk with h3 | h3
      · exact h.ge k (Or.inl h3)
      · omega
    · have := q8 k hk; omega
theorem Stg.on (h : Stg PAt SAt w0 w p t S R S2 R2 s G) : On PAt w0 w p S R s := ⟨h.p, h.ge, h.b⟩
/-- Behind an Open of another store on the same plate. -/
theorem Stg.beside (HS : Store PAt SAt) (h : Stg PAt SAt w0 w p t S R S2 R2 s G) {t2 : Value} {S' R' S3 R3 : Set_} {s' : PS} {G' : SS} (h2 : Stg PAt SAt w0 w' p t2 S' R' S3 R3 s' G') (ha : Aside S w w') (hS : ∀ k, S' k → S k ∨ w.heap.size ≤ k) (hR : ∀ k, R' k → R k ∨ w.heap.size ≤ k) : Stg PAt SAt w0 w' p t S' R' S2 R2 s' G := by
  have ho := HS.old h.st
  refine ⟨HS.kept h.st ha fun k hk => ⟨fun h3 => (h.sepP k h3).1 hk, h.sepL k hk⟩, h2.p, fun k hk => ⟨fun h3 => ?_, fun h3 => ?_⟩, fun k h3 hk => ?_, h2.ge, h.ge2, h2.b⟩
  · rcases hS k h3 with h4 | h4
    · exact (h.sepP k hk).1 h4
    · have := ho k (Or.inl hk); omega
  · rcases hR k h3 with h4 | h4
    · exact (h.sepP k hk).2 h4
    · have := ho k (Or.inl hk); omega
  · rcases hS k h3 with h4 | h4
    · exact h.sepL k h4 hk
    · have := ho k (Or.inr hk); omega
end
theorem results_cell1 {fn : Func} {p : Tmp} {ty : TypeId} (h : fn.results = #[.cell p ty]) (tmps : Array Value) (w : World) (g : Nat) (cs : Array Value)
    (hp : tmps.getD p undef = .pointer (some ⟨g, 0, none⟩)) (hl : (loadVar ty ⟨g, 0, none⟩).run Tryz.prog w = .ok (.agg cs) w) :
    (results fn tmps).run Tryz.prog w = .ok (.agg cs) w := by
  have hp' : tmps[p]?.getD undef = .pointer (some ⟨g, 0, none⟩) := by simpa using hp
  simp [results, h, hp', asAddr, hl]
/-- A change in a value: its parts lie in new blocks. -/
structure ChV (B : Nat) (w : World) (c : Ch) (kv vv : Value) : Prop where
  key : BytesAt w kv c.key
  val : BytesAt w vv c.val
  kb : c.key ≠ [] → ∀ k, kv.ownBlock = some k → B ≤ k
  vb : c.val ≠ [] → ∀ k, vv.ownBlock = some k → B ≤ k
theorem ChV.below {B : Nat} {a b : World} {c : Ch} {kv vv : Value} (h : ChV B a c kv vv) (hb : Below a.heap.size a b) : ChV B b c kv vv := ⟨h.key.below hb, h.val.below hb, h.kb, h.vb⟩
set_option maxRecDepth 100000 in
set_option maxHeartbeats 2000000 in
theorem lset_c (w : World) (k v : ByteArray) : Calls Tryz.prog 38 #[.string k, .string v] w fun e w' => ∃ s1 n1 c1 s2 n2 c2, e = .returned (.agg #[.slice s1 n1 c1, .slice s2 n2 c2, .bool false]) ∧ ChV w.heap.size w' ⟨k.data.toList, v.data.toList, false⟩ (.slice s1 n1 c1) (.slice s2 n2 c2) ∧ Below w.heap.size w w' := by
  obtain ⟨w1, hw1⟩ : ∃ y, w.alloc (.cells #[.slice none 0 0, .slice none 0 0, .bool false] 72) = y := ⟨_, rfl⟩
  have hS1 : S3 w1 w.heap.size (.slice none 0 0) (.slice none 0 0) (.bool false) := by rw [← hw1]; exact S3.new w _ _ _
  have hb1 : Below w.heap.size w w1 := by rw [← hw1]; exact (Below.refl _ _).alloc (Nat.le_refl _) _
  obtain ⟨cp, w2, hcv, hbt, hb2, hz2⟩ := conv_bytes w1 k
  obtain ⟨cq, w3, hcw, hbu, hb3, hz3⟩ := conv_bytes w2 v
  clear hz2 hz3
  have hS3 := (hS1.below hb2).below hb3
  have HS3 := hide hS3
  obtain ⟨W4, hW4⟩ : ∃ y, w3.setRow w.heap.size #[.slice (some ⟨w1.heap.size, 0, none⟩) k.size cp, .slice (some ⟨w2.heap.size, 0, none⟩) v.size cq, .bool false] = y := ⟨_, rfl⟩
  have HS4 : Hid (S3 W4 w.heap.size (.slice (some ⟨w1.heap.size, 0, none⟩) k.size cp) (.slice (some ⟨w2.heap.size, 0, none⟩) v.size cq) (.bool false)) := by rw [← hW4]; exact setRow_heap _ w.heap.size _ _ 72 _ hS3
  have hA4 : Aside (fun j => j = w.heap.size) w3 W4 := by rw [← hW4]; exact ⟨rfl, rfl, rfl, by simp, fun j _ hj => setRow_other _ _ j _ hj⟩
  have hlt1 := World.block_lt_of_cell? _ _ hS1.c0
  have hlt2 := hb2.size
  have HB4 : Hid (Below w.heap.size w W4) := (hb1.trans ((hb2.trans (hb3.mono hb2.size)).mono hb1.size)).trans (hA4.below (by have := hb3.size; have := hb1.size; omega) fun j hj => by omega)
  have HC : Hid (ChV w.heap.size W4 ⟨k.data.toList, v.data.toList, false⟩ (.slice (some ⟨w1.heap.size, 0, none⟩) k.size cp) (.slice (some ⟨w2.heap.size, 0, none⟩) v.size cq)) := by
    refine ⟨(hbt.below hb3).aside hA4 fun j hj e => ?_, hbu.aside hA4 fun j hj e => ?_, fun _ j hj => ?_, fun _ j hj => ?_⟩
    all_goals simp only [Value.ownBlock, Option.some.injEq] at hj
    · simp only at hlt1; omega
    · simp only at hlt1; omega
    · simp only at hlt1; omega
    · simp only at hlt1; omega
  obtain ⟨KN, hKN⟩ : ∃ y, k.size = y := ⟨_, rfl⟩
  obtain ⟨VN, hVN⟩ : ∃ y, v.size = y := ⟨_, rfl⟩
  rw [hKN] at hcv hW4 HS4 HC
  rw [hVN] at hcw hW4 HS4 HC
  clear hS1 hb1 hbt hb2 hbu hb3 hS3 hA4 hlt1 hlt2 hKN hVN
  go_enter Tryz.func38, Tryz.ntmps38
  go_wp2_with (refine wpList_store_row rfl 72 _ _ rfl w.heap.size #[.slice (some ⟨w1.heap.size, 0, none⟩) KN cp, .slice (some ⟨w2.heap.size, 0, none⟩) VN cq, .bool false] rfl rfl 72 _ (unhide HS3) info_ch rfl (by simp [Value.oneCell']) ?_; rw [hW4])
  (try simp only [Exit.inBlock, Exit.then])
  refine bodyPost_ret (results_cell1 Tryz.results38 _ _ w.heap.size _ rfl (unhide HS4).load) rfl ?_
  exact ⟨_, _, _, _, _, _, rfl, unhide HC, unhide HB4⟩
set_option maxRecDepth 100000 in
set_option maxHeartbeats 2000000 in
theorem lgone_c (w : World) (k : ByteArray) : Calls Tryz.prog 39 #[.string k] w fun e w' => ∃ s1 n1 c1, e = .returned (.agg #[.slice s1 n1 c1, .slice none 0 0, .bool true]) ∧ ChV w.heap.size w' ⟨k.data.toList, [], true⟩ (.slice s1 n1 c1) (.slice none 0 0) ∧ Below w.heap.size w w' := by
  obtain ⟨w1, hw1⟩ : ∃ y, w.alloc (.cells #[.slice none 0 0, .slice none 0 0, .bool false] 72) = y := ⟨_, rfl⟩
  have hS1 : S3 w1 w.heap.size (.slice none 0 0) (.slice none 0 0) (.bool false) := by rw [← hw1]; exact S3.new w _ _ _
  have hb1 : Below w.heap.size w w1 := by rw [← hw1]; exact (Below.refl _ _).alloc (Nat.le_refl _) _
  obtain ⟨cp, w2, hcv, hbt, hb2, hz2⟩ := conv_bytes w1 k
  clear hz2
  have hS3 := hS1.below hb2
  have HS3 := hide hS3
  obtain ⟨W4, hW4⟩ : ∃ y, w2.setRow w.heap.size #[.slice (some ⟨w1.heap.size, 0, none⟩) k.size cp, .slice none 0 0, .bool true] = y := ⟨_, rfl⟩
  have HS4 : Hid (S3 W4 w.heap.size (.slice (some ⟨w1.heap.size, 0, none⟩) k.size cp) (.slice none 0 0) (.bool true)) := by rw [← hW4]; exact setRow_heap _ w.heap.size _ _ 72 _ hS3
  have hA4 : Aside (fun j => j = w.heap.size) w2 W4 := by rw [← hW4]; exact ⟨rfl, rfl, rfl, by simp, fun j _ hj => setRow_other _ _ j _ hj⟩
  have hlt1 := World.block_lt_of_cell? _ _ hS1.c0
  have HB4 : Hid (Below w.heap.size w W4) := (hb1.trans (hb2.mono hb1.size)).trans (hA4.below (by have := hb2.size; have := hb1.size; omega) fun j hj => by omega)
  have HC : Hid (ChV w.heap.size W4 ⟨k.data.toList, [], true⟩ (.slice (some ⟨w1.heap.size, 0, none⟩) k.size cp) (.slice none 0 0)) := by
    refine ⟨hbt.aside hA4 fun j hj e => ?_, bytes_nil _, fun _ j hj => ?_, fun h => absurd rfl h⟩
    all_goals simp only [Value.ownBlock, Option.some.injEq] at hj
    · simp only at hlt1; omega
    · simp only at hlt1; omega
  obtain ⟨KN, hKN⟩ : ∃ y, k.size = y := ⟨_, rfl⟩
  rw [hKN] at hcv hW4 HS4 HC
  clear hS1 hb1 hbt hb2 hS3 hA4 hlt1 hKN
  go_enter Tryz.func39, Tryz.ntmps39
  go_wp2_with (refine wpList_store_row rfl 72 _ _ rfl w.heap.size #[.slice (some ⟨w1.heap.size, 0, none⟩) KN cp, .slice none 0 0, .bool true] rfl rfl 72 _ (unhide HS3) info_ch rfl (by simp [Value.oneCell']) ?_; rw [hW4])
  (try simp only [Exit.inBlock, Exit.then])
  refine bodyPost_ret (results_cell1 Tryz.results39 _ _ w.heap.size _ rfl (unhide HS4).load) rfl ?_
  exact ⟨_, _, _, rfl, unhide HC, unhide HB4⟩
end Go.Proofs.YtbjgknoipbekoaaGreat
namespace Go.Proofs.YtbjgknoipbekoaaGreat
/-- The bytes of all pairs. -/
def sizeP (ps : List (Bs × Bs)) : Nat := (wrL (allP ps)).length
theorem size_cons (x : Bs × Bs) (ps : List (Bs × Bs)) : sizeP (x :: ps) = (6 + x.1.length + x.2.length) + sizeP ps := by
  unfold sizeP allP
  rw [List.map_cons, wrL_cons, List.length_append]
  unfold wr1
  simp [big_len]
  omega
theorem size_nil : sizeP [] = 0 := rfl
theorem size_set (c : Ch) (h : c.gone = false) : (wr1 c).length = 6 + c.key.length + c.val.length := by
  unfold wr1
  rw [if_neg (by rw [h]; decide)]
  simp [big_len]
  omega
theorem len_size : ∀ ps : List (Bs × Bs), 6 * ps.length ≤ sizeP ps
  | [] => by simp
  | x :: ps => by
    have := len_size ps
    rw [size_cons, List.length_cons]
    omega
theorem size_app (a b : List (Bs × Bs)) : sizeP (a ++ b) = sizeP a + sizeP b := by
  unfold sizeP allP
  rw [List.map_append, wrL_app, List.length_append]
theorem ins_size (c : Ch) : ∀ (put : Bool) (ps : List (Bs × Bs)), sizeP (insP c put ps) ≤ sizeP ps + (if put = true then 0 else 6 + c.key.length + c.val.length)
  | true, [] => by simp [insP, size_nil]
  | false, [] => by simp [insP, size_cons, size_nil]
  | put, x :: ps => by
    have h1 := ins_size c true ps
    have h2 := ins_size c false ps
    simp only [if_true, Bool.false_eq_true, if_false] at h1 h2
    have hA : sizeP (if x.1 = c.key then [] else [x]) ≤ 6 + x.1.length + x.2.length := by
      split
      · rw [size_nil]; omega
      · rw [size_cons, size_nil]; omega
    have hC : sizeP [(c.key, c.val)] = 6 + c.key.length + c.val.length := by rw [size_cons, size_nil]; rfl
    unfold insP
    rw [size_app, size_app, size_cons]
    cases put
    · cases hl : lessB x.1 c.key
      · rw [if_pos ⟨rfl, rfl⟩, hC]
        simp only [Bool.not_false, Bool.false_or, Bool.false_eq_true, if_false]
        omega
      · rw [if_neg (fun h => by cases h.2), size_nil]
        simp only [Bool.not_true, Bool.false_or, Bool.false_eq_true, if_false]
        omega
    · rw [if_neg (fun h => by cases h.1), size_nil]
      simp only [Bool.true_or, if_true]
      omega
theorem with_size : ∀ (l : List Ch) (ps : List (Bs × Bs)), sizeP (withP ps l) ≤ sizeP ps + (wrL l).length
  | [], ps => by rw [with_nil]; simp [wrL]
  | c :: l, ps => by
    rw [with_cons, wrL_cons, List.length_append]
    have h1 := with_size l (insP c c.gone ps)
    have h2 := ins_size c c.gone ps
    cases hg : c.gone
    · rw [hg] at h1 h2
      rw [size_set c hg]
      simp only [Bool.false_eq_true, if_false] at h2
      omega
    · rw [hg] at h1 h2
      simp only [if_true] at h2
      omega
theorem rd1_size {b r : Bs} {c : Ch} (h : rd1 b = some (c, r)) : (wr1 c).length + r.length ≤ b.length := by
  unfold rd1 at h
  split at h
  · rename_i t n rr
    split at h
    · cases h
    · split at h
      · simp only [Option.some.injEq, Prod.mk.injEq] at h
        rw [← h.1, ← h.2, List.length_drop]
        unfold wr1
        simp only [if_true, List.length_cons, List.length_take]
        omega
      · split at h
        · split at h
          · cases h
          · split at h
            · cases h
            · simp only [Option.some.injEq, Prod.mk.injEq] at h
              rw [← h.1, ← h.2, size_set _ rfl]
              simp only [List.length_drop, List.length_take, List.length_cons] at *
              omega
        · cases h
  · cases h
theorem rdL_size : ∀ (n : Nat) (b : Bs) (l : List Ch), rdL n b = some l → (wrL l).length ≤ b.length
  | 0, b, l, h => by
    unfold rdL at h
    split at h
    · simp only [Option.some.injEq] at h
      rw [← h]
      simp [wrL]
    · cases h
  | n + 1, b, l, h => by
    unfold rdL at h
    split at h
    · simp only [Option.some.injEq] at h
      rw [← h]
      simp [wrL]
    · cases hr : rd1 b with
      | none => rw [hr] at h; cases h
      | some z =>
        obtain ⟨c, r⟩ := z
        rw [hr] at h
        obtain ⟨l', h1, h2⟩ := Option.map_eq_some_iff.1 h
        have h3 := rdL_size n r l' h1
        have h4 := rd1_size hr
        rw [← h2, wrL_cons, List.length_append]
        omega
theorem lead_size : ∀ (rs : List (Bs × Nat)) (ps qs : List (Bs × Bs)), leadP ps rs = some qs → sizeP qs + 4 * rs.length ≤ sizeP ps + 48 * usedR rs
  | [], ps, qs, h => by
    unfold leadP at h
    simp only [Option.some.injEq] at h
    rw [h]
    simp
  | x :: rs, ps, qs, h => by
    unfold leadP at h
    cases hc : chsOf x.1 with
    | none => rw [hc] at h; cases h
    | some l =>
      rw [hc] at h
      have h1 := lead_size rs _ _ h
      have h2 := with_size l ps
      have h3 := rdL_size _ _ _ hc
      unfold usedR needs
      rw [List.length_cons]
      omega
theorem StOn.size {h g T : Nat} {s : PS} {rs : List (Bs × Nat)} {ps : List (Bs × Bs)} (H : StOn h g T s rs ps) : sizeP ps ≤ 393216 ∧ ps.length ≤ 65536 := by
  have h1 := lead_size rs [] ps H.lead
  have h2 := H.rest.few.1
  have h3 := H.fit
  have h4 := H.rest.ok.few
  have h5 := len_size ps
  rw [size_nil] at h1
  omega
end Go.Proofs.YtbjgknoipbekoaaGreat
