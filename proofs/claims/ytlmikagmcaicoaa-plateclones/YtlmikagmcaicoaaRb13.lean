/-
  The reference's Write, walked.
-/
import Derived.Test.YtlmikagmcaicoaaRa13
import Derived.Deep.RegionLaw
namespace Go.Proofs.Ytlmikagmcaicoaa
open Go.RowKit
/-- Another head, all else as it was. -/
theorem RForm.head {R A : Nat} {D : Set_} {w w' : World} {vs : List Value} {lv : Value} {ls : List (Nat × Value)} {s : PS} (h : RForm R A D w vs lv ls s) (hg : w.grownBy w' (some R)) (L : Int) (d : Bool) (hok : (⟨s.safe, s.loose, L, d⟩ : PS).Ok)
    (hs : w'.heap[R]? = some (.cells [.int .i64 (s.safe.length : Int), .slice (some ⟨A, 0, none⟩) vs.length vs.length, lv, .int .i64 L, .bool d].toArray 37 (0, 0))) : RForm R A D w' vs lv ls ⟨s.safe, s.loose, L, d⟩ := by
  have hb : Aside (fun k => k = R) w w' := Aside.of_grown hg fun k hk => (Option.some.inj hk).symm
  have hlt : ∀ {B : Nat} {o : Obj}, w.heap[B]? = some o → B < w.heap.size := fun h => (Array.getElem?_eq_some_iff.1 h).1
  refine ⟨hs, ?_, h.len, fun i x b h1 h2 => (h.secs i x b h1 h2).aside hb fun k hk hS => h.dR (by rw [← hS]; exact hk), h.own.aside hb fun k hk hS => h.lR (by rw [← hS]; exact hk), h.llen, fun i x y h1 h2 => ?_, h.ne, h.lR, h.lA, h.dR, h.dA, h.dl, fun k hk => Nat.lt_of_lt_of_le (h.old k hk) hb.size, hok⟩
  · rw [hb.block A (hlt h.row) fun hS => h.ne hS.symm]; exact h.row
  · obtain ⟨e, h3, h4⟩ := h.lsec i x y h1 h2
    exact ⟨e, h3.aside hb fun k hk hS => h.dR (by rw [← hS]; exact h4 k hk), h4⟩
theorem own_empty_b (W : World) : OwnB (W.alloc (.cells #[] 5)) W.heap.size (.slice (some ⟨W.heap.size, 0, none⟩) 0 0) [] :=
  ⟨rfl, Or.inr ⟨W.heap.size, 0, #[], rfl, Nat.le_refl _, heap_alloc_new W _, Nat.le_refl _, by simp [maxLen], rfl, rfl⟩⟩
/-- Behind the last store of Write. -/
theorem rwrite_end {Q D : Set_} {R A K n c2 c4 clv : Nat} {w w1 w2 w4 w5 : World} {vs : List Value} {sp2 sp4 splv : Option Addr} {ls : List (Nat × Value)} {s : PS} {b : Bs}
    (hq : ∀ k, Q k ↔ (k = R ∨ k = A ∨ (Value.slice splv s.loose.length clv).ownBlock = some k ∨ D k)) (hf : RForm R A D w1 vs (.slice splv s.loose.length clv) ls ⟨s.safe, s.loose, (tickS s).left, (tickS s).down⟩) (hK : s.loose.length = K) (ha : Aside Q w w1)
    (hr : Row w1 w2 (.slice sp2 64 c2) b) (hb : b.length = 64) (hlv : OwnN 69 2 w1 0 (.slice splv K clv) K (lcells ls)) (ho : OwnN 69 2 w4 0 (.slice sp4 (K + 1) c4) (K + 1) (lcells ls ++ [.int .i64 (n : Int), .slice sp2 64 c2]))
    (hg : (w2.alloc (.cells #[.int .i64 (n : Int), .slice sp2 64 c2] 69)).grownBy w4 (Value.slice splv K clv).ownBlock) (hor : (Value.slice sp4 (K + 1) c4).ownBlock = (Value.slice splv K clv).ownBlock ∨ (Value.slice sp4 (K + 1) c4).ownBlock = some (w2.alloc (.cells #[.int .i64 (n : Int), .slice sp2 64 c2] 69)).heap.size)
    (hp : w5.heap[R]? = some (.cells ([.int .i64 (s.safe.length : Int), .slice (some ⟨A, 0, none⟩) vs.length vs.length, .slice splv K clv, .int .i64 (tickS s).left, .bool (tickS s).down].set 2 (.slice sp4 (K + 1) c4)).toArray 37 (0, 0)))
    (hgp : w4.grownBy w5 (some R)) (hok : (⟨(tickS s).safe, (tickS s).loose ++ [((n : Int).toNat, b)], (tickS s).left, (tickS s).down⟩ : PS).Ok) :
    ∃ Q', RAt Q' w5 (.pointer (some ⟨R, 0, none⟩)) ⟨(tickS s).safe, (tickS s).loose ++ [((n : Int).toNat, b)], (tickS s).left, (tickS s).down⟩ ∧ (∀ k, Q' k → Q k ∨ w.heap.size ≤ k) ∧ Aside Q w w5 := by
  subst hK
  obtain ⟨bb, cb, e, hbb, hblt, _⟩ := OwnV.cellAt hr.own (by intro e; have := congrArg List.length e; simp [hb] at this)
  simp only [Value.slice.injEq] at e
  obtain ⟨rfl, _, rfl⟩ := e
  have hb3 : Below w2.heap.size w2 (w2.alloc (.cells #[.int .i64 (n : Int), .slice (some ⟨bb, 0, none⟩) 64 c2] 69)) := (Below.refl _ _).alloc (Nat.le_refl _) _
  have hs3 : (w2.alloc (.cells #[.int .i64 (n : Int), .slice (some ⟨bb, 0, none⟩) 64 c2] 69)).heap.size = w2.heap.size + 1 := by simp
  obtain ⟨w3, hw3⟩ : ∃ x, w2.alloc (.cells #[.int .i64 (n : Int), .slice (some ⟨bb, 0, none⟩) 64 c2] 69) = x := ⟨_, rfl⟩
  rw [hw3] at hg hor hb3 hs3
  have h13 : Below w1.heap.size w1 w3 := hr.b.trans (hb3.mono hr.b.size)
  have a15 : Aside (fun k => k = R ∨ (Value.slice splv s.loose.length clv).ownBlock = some k) w1 w5 := by
    refine ((Aside.of_below (S := fun k => k = R ∨ (Value.slice splv s.loose.length clv).ownBlock = some k) h13).trans (T := fun k => (Value.slice splv s.loose.length clv).ownBlock = some k) (Aside.of_grown hg fun k hk => hk) fun i _ h => Or.inr h).trans (T := fun k => k = R) (Aside.of_grown hgp fun k hk => (Option.some.inj hk).symm) fun i _ h => Or.inl h
  have hlt : ∀ {B : Nat} {o : Obj}, w1.heap[B]? = some o → B < w1.heap.size := fun h => (Array.getElem?_eq_some_iff.1 h).1
  have hlvlt : ∀ k, (Value.slice splv s.loose.length clv).ownBlock = some k → k < w1.heap.size := fun k hk => (hlv.lt k hk).2
  have h45 : Aside (fun k => k = R) w4 w5 := Aside.of_grown hgp fun k hk => (Option.some.inj hk).symm
  have hnew : ∀ k, (Value.slice sp4 (s.loose.length + 1) c4).ownBlock = some k → (Value.slice splv s.loose.length clv).ownBlock = some k ∨ k = w3.heap.size := fun k hk => by
    rcases hor with h | h
    · exact Or.inl (h ▸ hk)
    · rw [hk] at h; exact Or.inr (Option.some.inj h)
  have hbnew : BytesAt w5 (.slice (some ⟨bb, 0, none⟩) 64 c2) b := by
    have h1 := (hr.bytes.below hb3).aside (S := fun k => (Value.slice splv s.loose.length clv).ownBlock = some k) (Aside.of_grown hg fun k hk => hk) (fun k hk hq => by simp only [Value.ownBlock, Option.some.injEq] at hk; have := hlvlt k hq; omega)
    exact h1.aside h45 (fun k hk hq => by simp only [Value.ownBlock, Option.some.injEq] at hk; have := hlt hf.str; omega)
  have hw1s := h13.size
  refine ⟨fun k => k = R ∨ k = A ∨ (Value.slice sp4 (s.loose.length + 1) c4).ownBlock = some k ∨ (D k ∨ k = bb), ⟨R, A, fun k => D k ∨ k = bb, vs, .slice sp4 (s.loose.length + 1) c4, ls ++ [(n, .slice (some ⟨bb, 0, none⟩) 64 c2)], rfl, ⟨?_, ?_, hf.len, fun i x y h1 h2 => ?_, ?_, ?_, fun i x y h1 h2 => ?_, hf.ne, ?_, ?_, ?_, ?_, ?_, ?_, hok⟩, fun k => Iff.rfl⟩, ?_, ?_⟩
  · exact hp
  · rw [a15.block A (hlt hf.row) (fun h => by rcases h with h | h; exact hf.ne h.symm; exact hf.lA h)]; exact hf.row
  · exact ((hf.secs i x y h1 h2).aside a15 (fun k hk hS => by rcases hS with rfl | h; exact hf.dR hk; exact hf.dl k h hk)).mono fun k hk => Or.inl hk
  · rw [lcells_app]
    show OwnN 69 2 w5 0 _ (s.loose ++ [_]).length _
    rw [List.length_append]
    refine OwnN.aside ho h45 fun k hk hR => ?_
    subst hR
    rcases hnew k hk with h | h
    · exact hf.lR h
    · have := hlt hf.str; omega
  · show _ = (s.loose ++ [_]).length
    rw [List.length_append, List.length_append]
    have := hf.llen
    simp only [List.length_cons, List.length_nil] at this ⊢
    omega
  · have hll : ls.length = s.loose.length := hf.llen
    by_cases hi : i < ls.length
    · rw [List.getElem?_append_left hi] at h1
      have h2' : (s.loose ++ [((n : Int).toNat, b)])[i]? = some y := h2
      rw [List.getElem?_append_left (by omega)] at h2'
      obtain ⟨e, h3, h4⟩ := hf.lsec i x y h1 h2'
      exact ⟨e, h3.aside a15 (fun k hk hS => by rcases hS with rfl | h; exact hf.dR (h4 _ hk); exact hf.dl k h (h4 k hk)), fun k hk => Or.inl (h4 k hk)⟩
    · have h2' : (s.loose ++ [((n : Int).toNat, b)])[i]? = some y := h2
      rw [List.getElem?_append_right (by omega)] at h1 h2'
      rw [hll] at h1
      match h : i - s.loose.length, h1, h2' with
      | 0, h1, h2' =>
        simp only [List.getElem?_cons_zero, Option.some.injEq] at h1 h2'
        subst h1
        subst h2'
        exact ⟨by simp, hbnew, fun k hk => Or.inr (by simp only [Value.ownBlock, Option.some.injEq] at hk; exact hk.symm)⟩
      | j + 1, h1, h2' => simp at h1
  · intro h
    rcases hnew R h with h | h
    · exact hf.lR h
    · have := hlt hf.str; omega
  · intro h
    rcases hnew A h with h | h
    · exact hf.lA h
    · have := hlt hf.row; omega
  · rintro (h | h)
    · exact hf.dR h
    · have := hlt hf.str; omega
  · rintro (h | h)
    · exact hf.dA h
    · have := hlt hf.row; omega
  · intro k hk hD
    rcases hnew k hk with h | h
    · rcases hD with hD | hD
      · exact hf.dl k h hD
      · have := hlvlt k h; omega
    · rcases hD with hD | hD
      · have := hf.old k hD; omega
      · omega
  · have := a15.size
    have h45s := h45.size
    have hgs := hg.size
    rintro k (h | h)
    · have := hf.old k h; omega
    · omega
  · have := ha.size
    rintro k (h | h | h | h | h)
    · exact Or.inl ((hq k).2 (Or.inl h))
    · exact Or.inl ((hq k).2 (Or.inr (Or.inl h)))
    · rcases hnew k h with h | h
      · exact Or.inl ((hq k).2 (Or.inr (Or.inr (Or.inl h))))
      · right; omega
    · exact Or.inl ((hq k).2 (Or.inr (Or.inr (Or.inr h))))
    · right; omega
  · refine ha.trans a15 fun k _ h => ?_
    rcases h with h | h
    · exact (hq k).2 (Or.inl h)
    · exact (hq k).2 (Or.inr (Or.inr (Or.inl h)))
set_option maxRecDepth 100000 in
set_option maxHeartbeats 8000000 in
theorem rwrite_c (Q : Set_) (w : World) (r : Value) (s : PS) (a : Int) (x : Value) (b : Bs) (hr : RAt Q w r s) (hx : BytesAt w x b) (hxq : b ≠ [] → ∀ k, x.ownBlock = some k → ¬ Q k) (hll : s.loose.length ≤ 100000) :
    Calls Try.prog 26 #[r, .int .i64 a, x] w fun e w' => e = .returned (.int .i64 (writeE s a b)) ∧ ∃ Q', RAt Q' w' r (writeS s a b) ∧ (∀ k, Q' k → Q k ∨ w.heap.size ≤ k) ∧ Aside Q w w' := by
  have hr' := hr
  obtain ⟨R, A, D, vs, lv, ls, rfl, hf, hq⟩ := hr
  obtain ⟨k0, k1, k2, k3, k4⟩ := five_row hf.str
  obtain ⟨spx, cx, rfl, _⟩ := bytes_open hx
  obtain ⟨splv, clv, hlv, _, _⟩ := hf.own.form
  subst hlv
  obtain ⟨N, hN⟩ : ∃ x, s.safe.length = x := ⟨_, rfl⟩
  obtain ⟨M, hM⟩ : ∃ x, vs.length = x := ⟨_, rfl⟩
  obtain ⟨K, hK⟩ : ∃ x, s.loose.length = x := ⟨_, rfl⟩
  obtain ⟨L, hL⟩ : ∃ x, s.left = x := ⟨_, rfl⟩
  obtain ⟨BL, hBL⟩ : ∃ x, b.length = x := ⟨_, rfl⟩
  have HQ := hide hq
  rw [hN] at k0
  rw [hM] at k1
  rw [hK] at k2
  rw [hL] at k3
  rw [hBL]
  cases hd : s.down with
  | true =>
    rw [hd] at k4
    have e1 : writeE s a b = 50 := by unfold writeE; rw [hd]; rfl
    have e2 : writeS s a b = s := by unfold writeS; rw [hd]; rfl
    have Hr := hide hr'
    rw [e1, e2]
    clear hf hq hx hr' hN hM hK hL hBL hd e1 e2 hxq
    go_enter Try.func26, Try.ntmps26
    go_wp2
    go_ret
    exact ⟨rfl, Q, unhide Hr, fun k hk => Or.inl hk, Aside.refl _ _⟩
  | false =>
    rw [hd] at k4
    cases hg : (rightAt s a && decide (b.length = 64)) with
    | false =>
      have e1 : writeE s a b = 51 := by unfold writeE; rw [hd, hg]; rfl
      have e2 : writeS s a b = s := by unfold writeS; rw [hd, hg]; rfl
      have Hr := hide hr'
      rw [e1, e2]
      unfold rightAt at hg
      rw [hN, hBL] at hg
      clear hf hq hx hr' hN hM hK hL hBL hd e1 e2 hxq
      by_cases c1 : a < 0
      · have d1 : decide (a < 0) = true := decide_eq_true c1
        clear hg
        go_enter Try.func26, Try.ntmps26
        go_wp2
        go_ret
        exact ⟨rfl, Q, unhide Hr, fun k hk => Or.inl hk, Aside.refl _ _⟩
      · have d1 : decide (a < 0) = false := decide_eq_false c1
        by_cases c2 : (N : Int) ≤ a
        · have d2 : decide ((N : Int) ≤ a) = true := decide_eq_true c2
          clear hg
          go_enter Try.func26, Try.ntmps26
          go_wp2
          go_ret
          exact ⟨rfl, Q, unhide Hr, fun k hk => Or.inl hk, Aside.refl _ _⟩
        · have d2 : decide ((N : Int) ≤ a) = false := decide_eq_false c2
          have c3 : ¬ BL = 64 := by
            intro e
            rw [decide_eq_true e, decide_eq_true (by omega : 0 ≤ a), decide_eq_true (by omega : a < (N : Int))] at hg
            cases hg
          have d3 : ((BL : Int) != 64) = true := by simp; omega
          clear hg
          go_enter Try.func26, Try.ntmps26
          go_wp2
          go_ret
          exact ⟨rfl, Q, unhide Hr, fun k hk => Or.inl hk, Aside.refl _ _⟩
    | true =>
      have hgo := hg
      simp only [rightAt, Bool.and_eq_true, decide_eq_true_eq] at hgo
      obtain ⟨⟨g1, g2⟩, g3⟩ := hgo
      rw [hN] at g2
      have g4 : BL = 64 := by omega
      have d1 : decide (a < 0) = false := decide_eq_false (by omega)
      have d2 : decide ((N : Int) ≤ a) = false := decide_eq_false (by omega)
      have c1 : ¬ a < 0 := by omega
      have c2 : ¬ (N : Int) ≤ a := by omega
      subst g4
      have d3 : (((64 : Nat) : Int) != 64) = false := by simp
      have hst := rstep_c w R _ _ _ s.left s.down hf.str hf.ok.left hf.ok.most
      have Hst := hide hst
      have HF := hide hf
      have Hd := hide hd
      have Hg := hide hg
      have HX := hide hx
      have HXq := hide hxq
      have HBL := hide hBL
      have HK := hide hK
      have HM := hide hM
      have HN := hide hN
      clear hst hf hx hr' hN hM hK hL hBL hd hg hq hxq
      cases ht : (tickS s).down with
      | true =>
        have e1 : writeE s a b = 50 := by unfold writeE; rw [unhide Hd, unhide Hg, ht]; rfl
        have e2 : writeS s a b = tickS s := by unfold writeS; rw [unhide Hd, unhide Hg, ht]; rfl
        have HT : Hid ((if s.left = 0 then true else s.down) = true) := ht
        rw [e1, e2]
        clear e1 e2 ht
        go_enter Try.func26, Try.ntmps26
        go_wp2_with fail
        refine (unhide Hst).mono ?_
        rintro e w1 ⟨rfl, hs1, hg1⟩
        have hF1 := (unhide HF).head hg1 (tickS s).left (tickS s).down (unhide HF).ok.tick hs1
        have ha1 : Aside Q w w1 := Aside.of_grown hg1 fun k hk => (unhide HQ k).2 (Or.inl (Option.some.inj hk).symm)
        have HA1 := hide ha1
        have HF1 := hide hF1
        have HX1 : Hid (BytesAt w1 (.slice spx 64 cx) b) := by have := (unhide HX).aside ha1 (unhide HXq (fun e => by have := unhide HBL; rw [e] at this; simp at this)); rwa [unhide HBL] at this
        rw [unhide HT]
        clear hg1 hs1 Hst k0 k1 k2 k3 k4
        clear hF1 ha1
        go_wp2
        go_ret
        exact ⟨rfl, Q, ⟨R, A, D, vs, _, ls, rfl, unhide HF1, unhide HQ⟩, fun k hk => Or.inl hk, unhide HA1⟩
      | false =>
        have e1 : writeE s a b = 0 := by unfold writeE; rw [unhide Hd, unhide Hg, ht]; rfl
        have e2 : writeS s a b = ⟨(tickS s).safe, (tickS s).loose ++ [(a.toNat, b)], (tickS s).left, (tickS s).down⟩ := by unfold writeS; rw [unhide Hd, unhide Hg, ht]; rfl
        have HT : Hid ((if s.left = 0 then true else s.down) = false) := ht
        have HOk : Hid (⟨(tickS s).safe, (tickS s).loose ++ [(a.toNat, b)], (tickS s).left, (tickS s).down⟩ : PS).Ok := by
          have := (unhide HF).ok.write a b
          rwa [e2] at this
        rw [e1, e2]
        clear e1 e2 ht
        obtain ⟨n, hn⟩ : ∃ n : Nat, a = (n : Int) := ⟨a.toNat, by omega⟩
        subst hn
        go_enter Try.func26, Try.ntmps26
        go_wp2_with fail
        refine (unhide Hst).mono ?_
        rintro e w1 ⟨rfl, hs1, hg1⟩
        have hF1 := (unhide HF).head hg1 (tickS s).left (tickS s).down (unhide HF).ok.tick hs1
        have ha1 : Aside Q w w1 := Aside.of_grown hg1 fun k hk => (unhide HQ k).2 (Or.inl (Option.some.inj hk).symm)
        have HA1 := hide ha1
        have HF1 := hide hF1
        have HX1 : Hid (BytesAt w1 (.slice spx 64 cx) b) := by have := (unhide HX).aside ha1 (unhide HXq (fun e => by have := unhide HBL; rw [e] at this; simp at this)); rwa [unhide HBL] at this
        rw [unhide HT]
        clear hg1 hs1 Hst k0 k1 k2 k3 k4
        obtain ⟨_, _, q2, _, _⟩ := five_row hF1.str
        rw [unhide HK] at q2
        have z2 := row_frozen hF1.str 2
        have HRlt : Hid (R < w1.heap.size) := (Array.getElem?_eq_some_iff.1 hF1.str).1
        clear hF1 ha1 d1 d2 d3 c1 c2
        go_wp2
        have HE := hide (own_empty_b w1)
        have HQ2 : Hid (∀ w', Below w1.heap.size w1 w' → w'.cell? ⟨R, 2, none⟩ = some (.slice splv K clv) ∧ w'.frozen? ⟨R, 2, none⟩ = false) := fun w' hb => by
          have := (unhide HF1).str
          rw [unhide HK, ← hb.block R (unhide HRlt)] at this
          exact ⟨row_cell this 2 _ rfl, row_frozen this 2⟩
        have HLv : Hid (OwnN 69 2 w1 0 (.slice splv K clv) K (lcells ls)) := by have := (unhide HF1).own; rw [unhide HK] at this; exact this
        obtain ⟨p1, f1⟩ := unhide HQ2 (w1.alloc (.cells #[] 5)) ((Below.refl _ _).alloc (Nat.le_refl _) _)
        go_region_law (first
          | (refine step_append_row (wb := w1) rfl _ _ rfl (.slice (some ⟨w1.heap.size, 0, none⟩) 0 0) (.slice spx 64 cx) [] b (by simp [Act.eval]) ⟨unhide HE, ((Below.refl _ _).alloc (Nat.le_refl _) _).drew⟩ (by simp [Act.eval]) ((unhide HX1).below ((Below.refl _ _).alloc (Nat.le_refl _) _).drew) (by have := unhide HBL; simp; omega) ?_
             intro v2 w2 hr2 hg2
             rw [List.nil_append] at hr2
             obtain ⟨sp2, c2, e2⟩ := hr2.own.form
             rw [unhide HBL] at e2
             subst e2
             obtain ⟨p2, f2⟩ := unhide HQ2 w2 hr2.b
             have Hb3 : Hid (Below w1.heap.size w1 (w2.alloc (.cells #[.int .i64 (n : Int), .slice sp2 64 c2] 69))) := hr2.b.alloc hr2.b.size _
             obtain ⟨p3, f3⟩ := unhide HQ2 _ (unhide Hb3)
             have HR2 := hide hr2
             have HG2 := hide hg2
             clear hr2 hg2)
          | (refine step_append_one Erw rfl _ _ rfl 0 (.slice splv K clv) K (lcells ls) [.int .i64 (n : Int), .slice sp2 64 c2] (by simp [Act.eval]) ((unhide HLv).below (unhide Hb3)) w2.heap.size 0 1 (by simp [Act.eval]) rfl (fun j u hu => by rw [Nat.zero_add, cell_of_row _ _ _ _ 69 (0, 0) (heap_alloc_new w2 _)]; simpa using hu) (by simp [Value.oneCell']) (Nat.zero_le _) (by have := unhide HK; omega) ?_
             intro v4 w4 ho4 hg4 hor4
             obtain ⟨sp4, c4, rfl, _, _⟩ := ho4.form
             have hR4 : w4.heap[R]? = w1.heap[R]? := (hg4.block R (Nat.lt_of_lt_of_le (unhide HRlt) (unhide Hb3).size) (fun e => (unhide HF1).lR (by rw [unhide HK]; exact e.symm))).trans ((unhide Hb3).block R (unhide HRlt))
             have hs4 := (unhide HF1).str
             rw [← hR4, unhide HK] at hs4
             have p4 := row_cell hs4 2 _ rfl
             have f4 := row_frozen hs4 2
             have HS4 := hide hs4
             clear hs4 hR4
             have HO4 := hide ho4
             have HG4 := hide hg4
             have HOr4 := hide hor4
             clear ho4 hg4 hor4))
        all_goals
          have HP := hide (row_put (unhide HS4) 2 (by simp) (.slice sp4 (K + 1) c4))
          have HGP := hide (setCell_grown (w := w4) R 2 (.slice sp4 (K + 1) c4))
          obtain ⟨w5, hw5⟩ : ∃ x, w4.setCell ⟨R, 2, none⟩ (.slice sp4 (K + 1) c4) = x := ⟨_, rfl⟩
          rw [hw5] at HP HGP
          clear p1 f1 p2 f2 p3 f3 p4 f4 q2 z2
          go_wp2
          go_ret
          exact ⟨rfl, rwrite_end (unhide HQ) (unhide HF1) (unhide HK) (unhide HA1) (unhide HR2) (unhide HBL) (unhide HLv) (unhide HO4) (unhide HG4) (unhide HOr4) (unhide HP) (unhide HGP) (unhide HOk)⟩
end Go.Proofs.Ytlmikagmcaicoaa
