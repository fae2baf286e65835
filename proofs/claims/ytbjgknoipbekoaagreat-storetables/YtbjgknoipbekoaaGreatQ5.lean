/-
  The landed plate's Write, walked.
-/
import Derived.Test.YtbjgknoipbekoaaGreatQ4
import Derived.Deep.RegionLaw
import Derived.Deep.WholeRow
namespace Go.Proofs.YtbjgknoipbekoaaGreat
open Go.RowKit
theorem range_head {w : World} {V n : Nat} {b : Bs} (h : w.rangeAt V 0 (wone n b)) : w.cell? ⟨V, 0, none⟩ = some (.int .i64 (n : Int)) := h 0 _ rfl
theorem range_tail {w : World} {V n : Nat} {b : Bs} (h : w.rangeAt V 0 (wone n b)) : w.rangeAt V 1 (b.map bv) := fun j v hv => by
  have := h (j + 1) v (by unfold wone; simpa using hv)
  rwa [show 0 + (j + 1) = 1 + j by omega] at this
theorem range_aside {S : Set_} {a b : World} {V o : Nat} {cs : List Value} (h : a.rangeAt V o cs) (hb : Aside S a b) (hV : ¬ S V) : b.rangeAt V o cs := fun j v hv => cell_aside (h j v hv) hb hV
theorem Aside.of_drew {S : Set_} {a b : World} (h : Aside S a.drew b) : Aside S a b := ⟨h.os, h.tape, h.output, h.size, h.block⟩
theorem range_of_row {w : World} {V : Nat} {cs : List Value} {T : TypeId} (h : w.heap[V]? = some (.cells cs.toArray T (0, 0))) : w.rangeAt V 0 cs := fun j v hv => by rw [Nat.zero_add]; exact row_cell h j v hv
/-- A slice of one write, as an operation. -/
theorem wp_slice_w {o : Oper} {a : Act} {w : World} {K : Act → World → Prop} {Q : Exit → Act → World → Prop} {x : Operand} (ho : o.op = .buildSlice 85 1 #[(0, x)]) (X : Array Value) (hX : X.size = 65) (hx : a.eval x = .agg X)
    (h : K (a.put o.dst (.slice (some ⟨w.heap.size, 0, none⟩) 1 1)) (w.alloc (.cells X 109))) : o.wp Tryz.prog a w K Q := by
  unfold Oper.wp execOp
  simp only [ho, Sem.run_bind, List.map_toArray, List.map_cons, List.map_nil, hx, run_slice_w w X hX, Result.andThen_ok]
  exact h
/-- A write made of its place and its sector. -/
theorem wpList_build_w {ops : Array Oper} {rest : List Oper} {o : Oper} {a : Act} {w : World} {Q : Exit → Act → World → Prop} (hg : o.guard = none) (x y : Operand) (ho : o.op = .build 109 #[(0, x), (1, y)]) (n : Nat) (b : Bs) (hb : b.length = 64) (X Y : Array Value) (hX : (b.map bv).toArray = X) (hY : (wone n b).toArray = Y)
    (hx : a.eval x = .int .i64 (n : Int)) (hy : a.eval y = .agg X) (h : wpList Tryz.prog ops Q rest (a.put o.dst (.agg Y)) w) : wpList Tryz.prog ops Q (o :: rest) a w := by
  subst hX hY
  exact wpList_buildTo hg 109 _ ho _ rfl _ (by simp only [List.map_toArray, List.map_cons, List.map_nil, hx, hy]; exact built_w n b hb) h
/-- What is behind the last call of Write. -/
theorem write_end {S : Set_} {B T M K n c4 cl : Nat} {w w1 w3 w4 w5 w6 : World} {sp4 sl : Option Addr} {s : PS} {b : Bs}
    (hS : ∀ k, S k ↔ (k = B ∨ k = T ∨ k = M ∨ (Value.slice sl K cl).ownBlock = some k)) (hf : PForm B T M w1 (.slice sl K cl) ⟨s.safe, s.loose, (tickS s).left, (tickS s).down⟩) (hK : s.loose.length = K) (ha : Aside S w w1) (h13 : Below w1.heap.size w1 w3)
    (hg : w3.grownBy w4 (Value.slice sl K cl).ownBlock) (hor : (Value.slice sp4 (K + 1) c4).ownBlock = (Value.slice sl K cl).ownBlock ∨ (Value.slice sp4 (K + 1) c4).ownBlock = some w3.heap.size)
    (ho : OwnN 109 65 w4 0 (.slice sp4 (K + 1) c4) (K + 1) (wcells s.loose ++ wone n b)) (hgp : w4.grownBy w5 (some B))
    (hp : w5.heap[B]? = some (.cells ([.int .i64 (s.safe.length : Int), .map (some T), .map (some M), .slice sl K cl, .int .i64 (tickS s).left, .bool (tickS s).down].set 3 (.slice sp4 (K + 1) c4)).toArray 87 (0, 0)))
    (hm : MAt w6 T (upd (fun k => (applyL s.safe s.loose).getD k zeros) n b)) (h56 : Aside (fun j => j = T) w5 w6) (hn : n < s.safe.length)
    (hok : (⟨(tickS s).safe, (tickS s).loose ++ [((n : Int).toNat, b)], (tickS s).left, (tickS s).down⟩ : PS).Ok) :
    ∃ S' R', PAt S' R' w6 (.pointer (some ⟨B, 0, none⟩)) ⟨(tickS s).safe, (tickS s).loose ++ [((n : Int).toNat, b)], (tickS s).left, (tickS s).down⟩ ∧ (∀ k, S' k → S k ∨ w.heap.size ≤ k) ∧ (∀ k, R' k → False) ∧ Aside S w w6 := by
  subst hK
  have a13 : Aside none_ w1 w3 := Aside.of_below h13
  have a34 : Aside (fun k => (Value.slice sl s.loose.length cl).ownBlock = some k) w3 w4 := Aside.of_grown hg fun k hk => hk
  have a45 : Aside (fun k => k = B) w4 w5 := Aside.of_grown hgp fun k hk => (Option.some.inj hk).symm
  have a16 : Aside (fun k => k = B ∨ k = T ∨ (Value.slice sl s.loose.length cl).ownBlock = some k) w1 w6 :=
    (((Aside.of_below (S := fun k => k = B ∨ k = T ∨ (Value.slice sl s.loose.length cl).ownBlock = some k) h13).trans a34 fun i _ h => Or.inr (Or.inr h)).trans a45 fun i _ h => Or.inl h).trans h56 fun i _ h => Or.inr (Or.inl h)
  have hBlt := heap_lt hf.str
  have hTlt := hf.there.lt
  have hMlt := hf.safe.lt
  have hs13 := h13.size
  have hnew : ∀ k, (Value.slice sp4 (s.loose.length + 1) c4).ownBlock = some k → (Value.slice sl s.loose.length cl).ownBlock = some k ∨ k = w3.heap.size := fun k hk => by
    rcases hor with h | h
    · exact Or.inl (h ▸ hk)
    · rw [hk] at h; exact Or.inr (Option.some.inj h)
  have nB : (Value.slice sp4 (s.loose.length + 1) c4).ownBlock ≠ some B := fun h => by
    rcases hnew B h with h | h
    · exact hf.lB h
    · omega
  have nT : (Value.slice sp4 (s.loose.length + 1) c4).ownBlock ≠ some T := fun h => by
    rcases hnew T h with h | h
    · exact hf.lT h
    · omega
  have nM : (Value.slice sp4 (s.loose.length + 1) c4).ownBlock ≠ some M := fun h => by
    rcases hnew M h with h | h
    · exact hf.lM h
    · omega
  refine ⟨fun k => k = B ∨ k = T ∨ k = M ∨ (Value.slice sp4 (s.loose.length + 1) c4).ownBlock = some k, none_, ⟨B, T, M, .slice sp4 (s.loose.length + 1) c4, rfl, ⟨?_, ?_, ?_, ?_, hf.bt, hf.bm, hf.tm, nB, nT, nM, hok⟩, fun k => Iff.rfl, fun k h => h⟩, ?_, fun k h => h, ?_⟩
  · rw [h56.block B (heap_lt hp) hf.bt]
    exact hp
  · refine hm.congr fun k => ?_
    show upd _ n b k = (applyL s.safe (s.loose ++ [((n : Int).toNat, b)])).getD k zeros
    rw [apply_app, apply_one, Int.toNat_natCast]
    unfold upd
    have hl : n < (applyL s.safe s.loose).length := by rw [apply_len]; exact hn
    dsimp only
    rw [List.getD_eq_getElem?_getD, List.getD_eq_getElem?_getD, List.getElem?_set]
    split
    · rename_i e; subst e; rw [if_pos rfl]; rfl
    · rename_i e; rw [if_neg fun h => e h.symm]
  · exact hf.safe.aside a16 fun h => by
      rcases h with h | h | h
      · exact hf.bm h.symm
      · exact hf.tm h.symm
      · exact hf.lM h
  · show OwnN 109 65 w6 0 _ (s.loose ++ [((n : Int).toNat, b)]).length (wcells (s.loose ++ [((n : Int).toNat, b)]))
    rw [wcells_app, List.length_append, Int.toNat_natCast]
    exact (OwnN.aside ho a45 fun k hk e => nB (by rw [hk, e])).aside h56 fun k hk e => nT (by rw [hk, e])
  · have := ha.size
    rintro k (h | h | h | h)
    · exact Or.inl ((hS k).2 (Or.inl h))
    · exact Or.inl ((hS k).2 (Or.inr (Or.inl h)))
    · exact Or.inl ((hS k).2 (Or.inr (Or.inr (Or.inl h))))
    · rcases hnew k h with h | h
      · exact Or.inl ((hS k).2 (Or.inr (Or.inr (Or.inr h))))
      · right; omega
  · refine ha.trans a16 fun k _ h => ?_
    rcases h with h | h | h
    · exact (hS k).2 (Or.inl h)
    · exact (hS k).2 (Or.inr (Or.inl h))
    · exact (hS k).2 (Or.inr (Or.inr (Or.inr h)))
theorem array_at (w : World) (g o c : Nat) : (Instr.arrayAt 107 (.slice (some ⟨g, o, none⟩) 64 c)).run Tryz.prog w = .ok (.pointer (some ⟨g, o, none⟩)) w := by
  simp [Instr.arrayAt, run_underlying Tryz.underlying107, Result.andThen]
set_option maxRecDepth 100000 in
set_option maxHeartbeats 8000000 in
theorem write_c {S R : Set_} {w : World} {p : Value} {s : PS} (a : Int) (x : Value) (b : Bs) (hp : PAt S R w p s) (hx : BytesAt w x b) (hxs : b ≠ [] → ∀ k, x.ownBlock = some k → ¬ S k) (hbl : b.length ≤ 1000000) (hll : s.loose.length ≤ 100000) :
    Calls Tryz.prog 93 #[p, .int .i64 a, x] w fun e w' => e = .returned (.int .i64 (writeE s a b)) ∧ ∃ S' R', PAt S' R' w' p (writeS s a b) ∧ (∀ k, S' k → S k ∨ w.heap.size ≤ k) ∧ (∀ k, R' k → R k ∨ w.heap.size ≤ k) ∧ Aside S w w' := by
  have Hp0 := hide hp
  obtain ⟨B, T, M, lv, rfl, hf, hS, hR⟩ := hp
  obtain ⟨sx, cx, rfl, _, _, hxc⟩ := bytes_open hx
  obtain ⟨sl, cl, rfl, _⟩ := hf.own.form
  obtain ⟨k0, _, _, _, _, k5⟩ := six_row hf.str
  obtain ⟨NS, hNS⟩ : ∃ y, s.safe.length = y := ⟨_, rfl⟩
  obtain ⟨BL, hBL⟩ : ∃ y, b.length = y := ⟨_, rfl⟩
  rw [hNS] at k0
  rw [hBL] at hbl ⊢
  have Hsame : Hid (∃ S' R', PAt S' R' w (.pointer (some ⟨B, 0, none⟩)) s ∧ (∀ k, S' k → S k ∨ w.heap.size ≤ k) ∧ (∀ k, R' k → R k ∨ w.heap.size ≤ k) ∧ Aside S w w) := ⟨S, R, unhide Hp0, fun k hk => Or.inl hk, fun k hk => Or.inl hk, Aside.refl _ _⟩
  clear Hp0
  have Hh := hide (has_c w B NS a k0)
  cases hd : s.down with
  | true =>
    rw [hd] at k5
    have e1 : writeE s a b = 50 := by unfold writeE; rw [hd]; rfl
    have e2 : writeS s a b = s := by unfold writeS; rw [hd]; rfl
    rw [e1, e2]
    clear hf hS hR hx hxc hNS hBL hd e1 e2 hxs Hh
    go_enter Tryz.func93, Tryz.ntmps93
    go_wp2
    go_ret
    exact ⟨rfl, unhide Hsame⟩
  | false =>
    rw [hd] at k5
    have hra : rightAt s a = (decide (0 ≤ a) && decide (a < (NS : Int))) := by unfold rightAt; rw [hNS]
    cases hr : (decide (0 ≤ a) && decide (a < (NS : Int))) with
    | false =>
      have e1 : writeE s a b = 51 := by unfold writeE; rw [hd, hra, hr]; rfl
      have e2 : writeS s a b = s := by unfold writeS; rw [hd, hra, hr]; rfl
      rw [e1, e2]
      rw [hr] at Hh
      clear hf hS hR hx hxc hNS hBL hd e1 e2 hxs hra hr
      go_enter Tryz.func93, Tryz.ntmps93
      go_wp2_with fail
      refine (unhide Hh).mono ?_
      rintro e w1 ⟨rfl, hw⟩
      have := hw.symm
      subst this
      clear Hh
      go_wp2
      go_ret
      exact ⟨rfl, unhide Hsame⟩
    | true =>
      by_cases h64 : BL = 64
      case neg =>
        have e1 : writeE s a b = 51 := by unfold writeE; rw [hd, hra, hr, hBL, decide_eq_false h64]; rfl
        have e2 : writeS s a b = s := by unfold writeS; rw [hd, hra, hr, hBL, decide_eq_false h64]; rfl
        have d3 : ((BL : Int) != 64) = true := by simp; omega
        rw [e1, e2]
        rw [hr] at Hh
        clear hf hS hR hx hxc hNS hBL hd e1 e2 hxs hra hr
        go_enter Tryz.func93, Tryz.ntmps93
        go_wp2_with fail
        refine (unhide Hh).mono ?_
        rintro e w1 ⟨rfl, hw⟩
        have := hw.symm
        subst this
        clear Hh
        go_wp2
        go_ret
        exact ⟨rfl, unhide Hsame⟩
      subst h64
      have d3 : (((64 : Nat) : Int) != 64) = false := by simp
      have hst := pstep_c w B _ _ _ _ s.left s.down hf.str hf.ok.left hf.ok.most
      have eD : downTo s.left s.down = (tickS s).down := rfl
      have eL : leftTo s.left s.down = (tickS s).left := by unfold leftTo; rw [hd]; rfl
      rw [eD, eL] at hst
      have Hst := hide hst
      have hne : b ≠ [] := by intro e; rw [e] at hBL; simp at hBL
      obtain ⟨g, o, rfl, hglt, hgc⟩ := hxc hne
      have hgS : ¬ S g := hxs hne g rfl
      have HX : Hid (w.rangeAt g o (b.map bv)) := fun j v hv => by
        have hj : j < b.length := by have := (List.getElem?_eq_some_iff.1 hv).1; simpa using this
        rw [hgc j hj, ← hv]
        simp [bv, List.getD_eq_getElem?_getD, hj]
      have HF := hide hf
      have HS := hide hS
      have HR := hide hR
      have HgS := hide hgS
      have HBL := hide hBL
      have HK : Hid (s.loose.length ≤ 100000) := hll
      have HNS := hide hNS
      rw [hr] at Hh
      clear hst eD eL hxc hgc hglt hgS hf hS hR hx hxs hll hBL hNS hne Hsame
      cases ht : (tickS s).down with
      | true =>
        have e1 : writeE s a b = 50 := by unfold writeE; rw [hd, hra, hr, unhide HBL, ht]; rfl
        have e2 : writeS s a b = tickS s := by unfold writeS; rw [hd, hra, hr, unhide HBL, ht]; rfl
        rw [e1, e2]
        rw [ht] at Hst
        have HT := hide ht
        clear hd hra hr e1 e2 ht HX HgS
        go_enter Tryz.func93, Tryz.ntmps93
        go_wp2_with fail
        refine (unhide Hh).mono ?_
        rintro e w1 ⟨rfl, hw⟩
        have := hw.symm
        subst this
        clear Hh
        go_wp2_with fail
        refine (unhide Hst).mono ?_
        rintro e w1 ⟨rfl, hs1, hg1⟩
        have hF1 := (unhide HF).head hg1 (tickS s).left (tickS s).down (unhide HF).ok.tick (by rw [unhide HT]; exact hs1)
        have HEnd : Hid (∃ S' R', PAt S' R' w1 (.pointer (some ⟨B, 0, none⟩)) (tickS s) ∧ (∀ k, S' k → S k ∨ w.heap.size ≤ k) ∧ (∀ k, R' k → R k ∨ w.heap.size ≤ k) ∧ Aside S w w1) :=
          ⟨S, R, ⟨B, T, M, _, rfl, hF1, unhide HS, unhide HR⟩, fun k hk => Or.inl hk, fun k hk => Or.inl hk, Aside.of_grown hg1 fun k hk => (unhide HS k).2 (Or.inl (Option.some.inj hk).symm)⟩
        clear hs1 hg1 hF1 Hst HF
        go_wp2
        go_ret
        exact ⟨rfl, unhide HEnd⟩
      | false =>
        have e1 : writeE s a b = 0 := by unfold writeE; rw [hd, hra, hr, unhide HBL, ht]; rfl
        have e2 : writeS s a b = ⟨(tickS s).safe, (tickS s).loose ++ [(a.toNat, b)], (tickS s).left, (tickS s).down⟩ := by unfold writeS; rw [hd, hra, hr, unhide HBL, ht]; rfl
        have HOk : Hid (⟨(tickS s).safe, (tickS s).loose ++ [(a.toNat, b)], (tickS s).left, (tickS s).down⟩ : PS).Ok := by
          have := (unhide HF).ok.write a b
          rwa [e2] at this
        rw [e1, e2]
        rw [ht] at Hst
        have HT := hide ht
        obtain ⟨n, hn⟩ : ∃ n : Nat, a = (n : Int) := ⟨a.toNat, by simp only [Bool.and_eq_true, decide_eq_true_eq] at hr; omega⟩
        subst hn
        have Hn : Hid (n < s.safe.length) := by
          show n < _
          rw [unhide HNS]
          simp only [Bool.and_eq_true, decide_eq_true_eq] at hr
          omega
        clear hd hra hr e1 e2 ht
        go_enter Tryz.func93, Tryz.ntmps93
        go_wp2_with fail
        refine (unhide Hh).mono ?_
        rintro e w1 ⟨rfl, hw⟩
        have := hw.symm
        subst this
        clear Hh
        go_wp2_with fail
        refine (unhide Hst).mono ?_
        rintro e w1 ⟨rfl, hs1, hg1⟩
        have hF1 := (unhide HF).head hg1 (tickS s).left (tickS s).down (unhide HF).ok.tick (by rw [unhide HT]; exact hs1)
        have ha1 : Aside S w w1 := Aside.of_grown hg1 fun k hk => (unhide HS k).2 (Or.inl (Option.some.inj hk).symm)
        have HX1 := hide (range_aside (unhide HX) ha1 (unhide HgS))
        have HA1 := hide ha1
        have HF1 := hide hF1
        obtain ⟨K, hK⟩ : ∃ y, s.loose.length = y := ⟨_, rfl⟩
        rw [hK] at HF1 HS
        have HKK := hide hK
        clear hs1 hg1 hF1 ha1 Hst HF k0 k5 hK HX HgS
        have hzv := (zero_of_info info_w).1
        have hYs : (wone n b).toArray.size = 65 := by simp [wone_len (unhide HBL)]
        have hZs : (wone 0 zeros).toArray.size = 65 := by simp [wone_len zeros_len]
        have HY1 := hide (all_oneCell_toArray (wone_one n b))
        have har := fun w => array_at w g o cx
        obtain ⟨Y, hY⟩ : ∃ y, (wone n b).toArray = y := ⟨_, rfl⟩
        rw [hY] at hYs HY1
        obtain ⟨Z, hZ⟩ : ∃ y, (wone 0 zeros).toArray = y := ⟨_, rfl⟩
        rw [hZ] at hzv hZs
        have HZ1 := hide (heap_alloc_new w1 (.cells Z 109))
        have HW2 : Hid (((w1.alloc (.cells Z 109)).setRow w1.heap.size Y).heap[w1.heap.size]? = some (.cells Y 109 (0, 0)) ∧ Below w1.heap.size w1 ((w1.alloc (.cells Z 109)).setRow w1.heap.size Y)) :=
          ⟨setRow_heap _ _ _ _ _ _ (unhide HZ1), below_setRow ((Below.refl _ _).alloc (Nat.le_refl _) _) (Nat.le_refl _) _⟩
        obtain ⟨X, hX⟩ : ∃ y, (b.map bv).toArray = y := ⟨_, rfl⟩
        have HXX := hide hX
        have HY := hide hY
        have hne : ¬ Z = #[] := by intro e; rw [e] at hZs; simp at hZs
        clear hY hZ hX
        go_wp2_with (first
          | (refine wpList_load_mid rfl 107 _ rfl g o rfl (b.map bv) _ (unhide HX1) Tryz.underlying107 rfl (by rw [List.length_map, unhide HBL]; exact size_sector) ?_
             rw [unhide HXX]
             refine wpList_build_w rfl _ _ rfl n b (unhide HBL) X Y (unhide HXX) (unhide HY) rfl rfl ?_)
          | (refine wpList_store_row rfl 109 _ _ rfl w1.heap.size Y rfl rfl 109 Z (unhide HZ1) (by rw [hYs]; exact size_w) (by rw [hYs, hZs]) (unhide HY1) ?_))
        obtain ⟨w2, hw2⟩ : ∃ x, (w1.alloc (.cells Z 109)).setRow w1.heap.size Y = x := ⟨_, rfl⟩
        rw [hw2] at HW2 ⊢
        obtain ⟨V, hV⟩ : ∃ x, w1.heap.size = x := ⟨_, rfl⟩
        have HV1 := hide hV
        rw [hV] at HW2 ⊢
        have HB2 : Hid (Below w1.heap.size w1 w2) := by show Below _ _ _; rw [hV]; exact (unhide HW2).2
        have HVV := hide (unhide HW2).1
        have HVB : Hid (V ≠ B) := by have := heap_lt (unhide HF1).str; show V ≠ B; omega
        have HVT : Hid (V ≠ T) := by have := (unhide HF1).there.lt; show V ≠ T; omega
        have HVL : Hid (∀ k, (Value.slice sl K cl).ownBlock = some k → k < V) := fun k hk => by have := ((unhide HF1).own.lt k hk).2; omega
        clear hw2 hV HW2 hzv hYs hZs HZ1 HY1 har hne HX1
        have hYs : Y.size = 65 := by rw [← unhide HY]; simp [wone_len (unhide HBL)]
        have HS2 : Hid (∀ w', Below w2.heap.size w2 w' → w'.rangeAt V 0 (wone n b)) := fun w' hb => by
          have h1 := unhide HVV
          rw [← unhide HY, ← hb.block V (heap_lt h1)] at h1
          exact range_of_row h1
        have HF2 : Hid (PForm B T M w2 (.slice sl K cl) ⟨s.safe, s.loose, (tickS s).left, (tickS s).down⟩) := (unhide HF1).aside (S := none_) (Aside.of_below (unhide HB2)) fun k h => h.elim
        have HQ3 : Hid (∀ w', Below w2.heap.size w2 w' → w'.cell? ⟨B, 3, none⟩ = some (.slice sl K cl) ∧ w'.frozen? ⟨B, 3, none⟩ = false) := fun w' hb => by
          have h1 := (unhide HF2).str
          rw [← hb.block B (heap_lt h1)] at h1
          exact ⟨row_cell h1 3 _ rfl, row_frozen h1 3⟩
        have HLv : Hid (OwnN 109 65 w2 0 (.slice sl K cl) K (wcells s.loose)) := by have := (unhide HF2).own; rw [unhide HKK] at this; exact this
        have HG4 : Hid (∀ w3 w4, Below w2.heap.size w2 w3 → w3.grownBy w4 (Value.slice sl K cl).ownBlock → Below w1.heap.size w1 w3 ∧ w4.rangeAt V 0 (wone n b) ∧ w4.cell? ⟨B, 3, none⟩ = some (.slice sl K cl) ∧ w4.frozen? ⟨B, 3, none⟩ = false ∧ w4.heap[B]? = some (.cells [.int .i64 (s.safe.length : Int), .map (some T), .map (some M), .slice sl K cl, .int .i64 (tickS s).left, .bool (tickS s).down].toArray 87 (0, 0)) ∧ MAt w4 T fun k => (applyL s.safe s.loose).getD k zeros) := fun w3 w4 hb hg => by
          have hA : Aside (fun k => (Value.slice sl K cl).ownBlock = some k) w3 w4 := Aside.of_grown hg fun k hk => hk
          have h1 := (unhide HF2).str
          rw [← hb.block B (heap_lt h1)] at h1
          rw [← hA.block B (heap_lt h1) (unhide HF2).lB] at h1
          refine ⟨(unhide HB2).trans (hb.mono (unhide HB2).size), range_aside (unhide HS2 w3 hb) hA (fun h => by have := unhide HVL V h; omega), row_cell h1 3 _ rfl, row_frozen h1 3, h1, ?_⟩
          exact ((unhide HF2).there.below hb).aside hA (unhide HF2).lT
        refine wp_region_held_drew (S := fun w' => w'.rangeAt V 0 (wone n b)) (by kernel_rfl) (unhide HS2 _ (Below.refl _ _).drew) (fun hHeld => ?_)
        refine wpAnyH_take (i := 0) (oi := { dst := some 29, op := Op.move (Operand.tmp 0), type := 26, pos := "plate.go:49", after := #[], guard := none }) (v := ?_) rfl (by kernel_rfl) (by kernel_rfl) (by kernel_rfl) (fun _ _ _ h => h) (Or.inl ⟨by rfl, ?a1⟩) (by assumption) ?_
        case a1 => (intro w_ hSw; (try dsimp only at hSw); go_simp; try with_reducible rfl)
        simp only [Act.put, List.setIfInBounds_toArray, List.set_cons_zero, List.set_cons_succ]
        refine wpAnyH_take (i := 1) (oi := { dst := some 30, op := Op.move (Operand.tmp 0), type := 26, pos := "plate.go:49", after := #[], guard := none }) (v := ?_) rfl (by kernel_rfl) (by kernel_rfl) (by kernel_rfl) (fun _ _ _ h => h) (Or.inl ⟨by rfl, ?a2⟩) (by assumption) ?_
        case a2 => (intro w_ hSw; (try dsimp only at hSw); go_simp; try with_reducible rfl)
        simp only [Act.put, List.setIfInBounds_toArray, List.set_cons_zero, List.set_cons_succ]
        refine wpAnyH_take (i := 2) (oi := { dst := some 31, op := Op.nilCheck (Operand.tmp 30), type := 0, pos := "plate.go:49", after := #[{ on := 1, ground := Ground.data }], guard := none }) (v := ?_) rfl (by kernel_rfl) (by kernel_rfl) (by kernel_rfl) (fun _ _ _ h => h) (Or.inl ⟨by rfl, ?a3⟩) (by assumption) ?_
        case a3 => (intro w_ hSw; (try dsimp only at hSw); go_simp; try with_reducible rfl)
        simp only [Act.put, List.setIfInBounds_toArray, List.set_cons_zero, List.set_cons_succ]
        refine wpAnyH_take (i := 3) (oi := { dst := some 32, op := Op.fieldAddr 87 (Operand.tmp 31) 3, type := 0, pos := "plate.go:49", after := #[{ on := 2, ground := Ground.data }], guard := none }) (v := ?_) rfl (by kernel_rfl) (by kernel_rfl) (by kernel_rfl) (fun _ _ _ h => h) (Or.inl ⟨by rfl, ?a4⟩) (by assumption) ?_
        case a4 => (intro w_ hSw; (try dsimp only at hSw); go_simp; try with_reducible rfl)
        simp only [Act.put, List.setIfInBounds_toArray, List.set_cons_zero, List.set_cons_succ]
        refine wpAnyH_take (i := 5) (oi := { dst := some 34, op := Op.load 109 (Operand.tmp 7), type := 109, pos := "plate.go:49", after := #[], guard := none }) (v := .agg (wone n b).toArray) rfl (by kernel_rfl) (by kernel_rfl) (by kernel_rfl) (fun _ _ _ h => h) (yieldsIf_load_mid (by rfl) 109 _ rfl V 0 rfl (wone n b) _ (fun w_ hSw => hSw) Tryz.underlying109 rfl (by rw [wone_len (unhide HBL)]; exact size_w)) (by assumption) ?_
        simp only [Act.put, List.setIfInBounds_toArray, List.set_cons_zero, List.set_cons_succ]
        rw [unhide HY]
        refine wpAnyH_ready (rs := [4, 6]) (by kernel_rfl) (by simp) ?_
        refine (AllReadyH.cons (o := { dst := some 33, op := Op.load 85 (Operand.tmp 32), type := 85, pos := "plate.go:49", after := #[{ on := 3, ground := Ground.data }], guard := none }) rfl (fun K_ hK_ => ?_) (AllReadyH.cons (o := { dst := some 35, op := Op.buildSlice 85 1 #[(0, Operand.tmp 34)], type := 85, pos := "plate.go:49", after := #[{ on := 5, ground := Ground.data }], guard := none }) rfl (fun K_ hK_ => ?_) AllReadyH.nil))
        have c_ := (unhide HQ3 _ (Below.refl _ _).drew).1
        go_simp
        clear c_
        refine hK_.out _ _ (unhide HS2 _ (Below.refl _ _).drew) (fun hHeld => ?_)
        clear hK_ K_
        refine wpAnyH_ready (rs := [6]) (by kernel_rfl) (by simp) ?_
        refine AllReadyH.cons (o := { dst := some 35, op := Op.buildSlice 85 1 #[(0, Operand.tmp 34)], type := 85, pos := "plate.go:49", after := #[{ on := 5, ground := Ground.data }], guard := none }) rfl (fun K_ hK_ => ?_) AllReadyH.nil
        rw [if_pos (by rfl)]
        refine wp_slice_w rfl Y hYs rfl ?_
        obtain ⟨w3, hw3⟩ : ∃ x, w2.drew.alloc (.cells Y 109) = x := ⟨_, rfl⟩
        have HB3 : Hid (Below w2.heap.size w2 w3) := by show Below _ _ _; rw [← hw3]; exact (Below.refl _ _).drew.alloc (Nat.le_refl _) _
        have HN3 : Hid (w3.heap[w2.heap.size]? = some (.cells Y 109 (0, 0))) := by show _ = _; rw [← hw3]; exact heap_alloc_new w2.drew _
        have HE3 : Hid (w2.drew.heap.size = w2.heap.size) := rfl
        rw [hw3, unhide HE3]
        clear hw3 HE3
        refine hK_.out _ _ (unhide HS2 w3 (unhide HB3)) (fun hHeld => ?_)
        clear hK_ K_
        (try simp only [Act.put, List.setIfInBounds_toArray, List.set_cons_zero, List.set_cons_succ])
        rotate_left
        rw [if_pos (by rfl)]
        refine wp_slice_w rfl Y hYs rfl ?_
        obtain ⟨w3, hw3⟩ : ∃ x, w2.drew.alloc (.cells Y 109) = x := ⟨_, rfl⟩
        have HB3 : Hid (Below w2.heap.size w2 w3) := by show Below _ _ _; rw [← hw3]; exact (Below.refl _ _).drew.alloc (Nat.le_refl _) _
        have HN3 : Hid (w3.heap[w2.heap.size]? = some (.cells Y 109 (0, 0))) := by show _ = _; rw [← hw3]; exact heap_alloc_new w2.drew _
        have HE3 : Hid (w2.drew.heap.size = w2.heap.size) := rfl
        rw [hw3, unhide HE3]
        clear hw3 HE3
        refine hK_.out _ _ (unhide HS2 w3 (unhide HB3)) (fun hHeld => ?_)
        clear hK_ K_
        (try simp only [Act.put, List.setIfInBounds_toArray, List.set_cons_zero, List.set_cons_succ])
        refine wpAnyH_ready (rs := [4]) (by kernel_rfl) (by simp) ?_
        refine AllReadyH.cons (o := { dst := some 33, op := Op.load 85 (Operand.tmp 32), type := 85, pos := "plate.go:49", after := #[{ on := 3, ground := Ground.data }], guard := none }) rfl (fun K_ hK_ => ?_) AllReadyH.nil
        have c_ := (unhide HQ3 _ (unhide HB3)).1
        go_simp
        clear c_
        refine hK_.out _ _ (unhide HS2 w3 (unhide HB3)) (fun hHeld => ?_)
        clear hK_ K_
        all_goals
          refine wpAnyH_ready (rs := [7]) (by kernel_rfl) (by simp) ?_
          refine AllReadyH.cons (o := { dst := some 36, op := Op.call { callee := Callee.builtin Builtin.append, args := #[Operand.tmp 33, Operand.tmp 35], argTypes := #[85, 85] }, type := 85, pos := "plate.go:49", after := #[{ on := 4, ground := Ground.data }, { on := 6, ground := Ground.data }], guard := none }) rfl (fun K_ hK_ => ?_) AllReadyH.nil
          refine step_append_one ElW rfl _ _ rfl 0 (.slice sl K cl) K (wcells s.loose) (wone n b) rfl ((unhide HLv).below (unhide HB3)) w2.heap.size 0 1 rfl (wone_len (unhide HBL)) (fun j u hu => by rw [Nat.zero_add, cell_of_row _ _ _ _ 109 (0, 0) (unhide HN3), ← unhide HY]; simpa using hu) (wone_one n b) (Nat.zero_le _) (by have h1 := unhide HK; have h2 := unhide HKK; omega) ?_
          intro v4 w4 ho4 hg4 hor4
          obtain ⟨sp4, c4, rfl, _, _⟩ := ho4.form
          obtain ⟨hb4, hS4, hc4, hz4, hf4, hm4⟩ := unhide HG4 w3 w4 (unhide HB3) hg4
          have HB4 := hide hb4
          have HS4 := hide hS4
          have HC4 := hide hc4
          have HZ4 := hide hz4
          have HF4 := hide hf4
          have HM4 := hide hm4
          have HGr := hide hg4
          have HO4 := hide ho4
          have HOr4 := hide hor4
          clear ho4 hg4 hor4 hb4 hS4 hc4 hz4 hf4 hm4
          refine hK_.out _ _ (unhide HS4) (fun hHeld => ?_)
          clear hK_ K_
          (try simp only [Act.put, List.setIfInBounds_toArray, List.set_cons_zero, List.set_cons_succ])
          refine wpAnyH_take (i := 8) (oi := { dst := some 37, op := Op.nilCheck (Operand.tmp 29), type := 0, pos := "plate.go:49", after := #[{ on := 0, ground := Ground.data }, { on := 0, ground := Ground.phase }, { on := 1, ground := Ground.phase }, { on := 2, ground := Ground.phase }, { on := 3, ground := Ground.phase }, { on := 4, ground := Ground.phase }, { on := 5, ground := Ground.phase }, { on := 6, ground := Ground.phase }, { on := 7, ground := Ground.phase }], guard := none }) (v := ?_) rfl (by kernel_rfl) (by kernel_rfl) (by kernel_rfl) (fun _ _ _ h => h) (Or.inl ⟨by rfl, ?b1⟩) (by assumption) ?_
          case b1 => (intro w_ hSw; (try dsimp only at hSw); go_simp; try with_reducible rfl)
          simp only [Act.put, List.setIfInBounds_toArray, List.set_cons_zero, List.set_cons_succ]
          refine wpAnyH_take (i := 9) (oi := { dst := some 38, op := Op.fieldAddr 87 (Operand.tmp 37) 3, type := 0, pos := "plate.go:49", after := #[{ on := 8, ground := Ground.data }, { on := 0, ground := Ground.phase }, { on := 1, ground := Ground.phase }, { on := 2, ground := Ground.phase }, { on := 3, ground := Ground.phase }, { on := 4, ground := Ground.phase }, { on := 5, ground := Ground.phase }, { on := 6, ground := Ground.phase }, { on := 7, ground := Ground.phase }], guard := none }) (v := ?_) rfl (by kernel_rfl) (by kernel_rfl) (by kernel_rfl) (fun _ _ _ h => h) (Or.inl ⟨by rfl, ?b2⟩) (by assumption) ?_
          case b2 => (intro w_ hSw; (try dsimp only at hSw); go_simp; try with_reducible rfl)
          simp only [Act.put, List.setIfInBounds_toArray, List.set_cons_zero, List.set_cons_succ]
          refine wpAnyH_ready (rs := [10]) (by kernel_rfl) (by simp) ?_
          refine AllReadyH.cons (o := { dst := none, op := Op.store 85 (Operand.tmp 38) (Operand.tmp 36), type := 0, pos := "plate.go:49", after := #[{ on := 9, ground := Ground.data }, { on := 7, ground := Ground.data }, { on := 7, ground := Ground.chain }, { on := 0, ground := Ground.phase }, { on := 1, ground := Ground.phase }, { on := 2, ground := Ground.phase }, { on := 3, ground := Ground.phase }, { on := 4, ground := Ground.phase }, { on := 5, ground := Ground.phase }, { on := 6, ground := Ground.phase }, { on := 7, ground := Ground.phase }], guard := none }) rfl (fun K_ hK_ => ?_) AllReadyH.nil
          have c_ := unhide HC4
          have z_ := unhide HZ4
          go_simp
          obtain ⟨w5, hw5⟩ : ∃ x, w4.setCell ⟨B, 3, none⟩ (.slice sp4 (K + 1) c4) = x := ⟨_, rfl⟩
          have HG5 : Hid (w4.grownBy w5 (some B)) := by show World.grownBy _ _ _; rw [← hw5]; exact setCell_grown B 3 _
          have HP5 := hide (row_put (unhide HF4) 3 (by simp) (.slice sp4 (K + 1) c4))
          rw [hw5] at HP5 ⊢
          clear c_ z_ hw5
          have HS5 : Hid (w5.rangeAt V 0 (wone n b)) := range_grown (unhide HS4) (unhide HG5) (unhide HVB)
          refine hK_.out _ _ (unhide HS5) (fun hHeld => ?_)
          clear hK_ K_
          (try simp only [Act.put, List.setIfInBounds_toArray, List.set_cons_zero, List.set_cons_succ])
          refine wpAnyH_done (by kernel_rfl) ?_ _
          have HT5 := hide (row_cell (unhide HP5) 1 _ rfl)
          have HBT : Hid (B ≠ T) := (unhide HF1).bt
          have HM5 : Hid (MAt w5.drew T fun k => (applyL s.safe s.loose).getD k zeros) := (unhide HM4).aside (S := fun k => k = B) ((Aside.of_grown (unhide HG5) fun k hk => (Option.some.inj hk).symm).drew) fun e => unhide HBT e.symm
          have HPut := hide fun w hm => put_c w T (fun k => (applyL s.safe s.loose).getD k zeros) hm n b (unhide HBL)
          unfold sv at HPut
          rw [unhide HXX] at HPut
          go_wp2
          refine wp_region_held_drew (S := fun w' => w'.cell? ⟨B, 1, none⟩ = some (.map (some T)) ∧ w'.cell? ⟨V, 0, none⟩ = some (.int .i64 (n : Int)) ∧ w'.rangeAt V 1 (b.map bv)) (by kernel_rfl) (⟨unhide HT5, range_head (unhide HS5), range_tail (unhide HS5)⟩) (fun hHeld => ?_)
          refine wpAnyH_take (i := 0) (oi := { dst := some 39, op := Op.move (Operand.tmp 0), type := 26, pos := "plate.go:50", after := #[], guard := none }) (v := ?_) rfl (by kernel_rfl) (by kernel_rfl) (by kernel_rfl) (fun _ _ _ h => h) (Or.inl ⟨by rfl, ?c1⟩) (by assumption) ?_
          case c1 => (intro w_ hSw; obtain ⟨p1, pn, pv⟩ := hSw; go_simp; try with_reducible rfl)
          simp only [Act.put, List.setIfInBounds_toArray, List.set_cons_zero, List.set_cons_succ]
          refine wpAnyH_take (i := 1) (oi := { dst := some 40, op := Op.nilCheck (Operand.tmp 39), type := 0, pos := "plate.go:50", after := #[{ on := 0, ground := Ground.data }], guard := none }) (v := ?_) rfl (by kernel_rfl) (by kernel_rfl) (by kernel_rfl) (fun _ _ _ h => h) (Or.inl ⟨by rfl, ?c2⟩) (by assumption) ?_
          case c2 => (intro w_ hSw; obtain ⟨p1, pn, pv⟩ := hSw; go_simp; try with_reducible rfl)
          simp only [Act.put, List.setIfInBounds_toArray, List.set_cons_zero, List.set_cons_succ]
          refine wpAnyH_take (i := 2) (oi := { dst := some 41, op := Op.fieldAddr 87 (Operand.tmp 40) 1, type := 0, pos := "plate.go:50", after := #[{ on := 1, ground := Ground.data }], guard := none }) (v := ?_) rfl (by kernel_rfl) (by kernel_rfl) (by kernel_rfl) (fun _ _ _ h => h) (Or.inl ⟨by rfl, ?c3⟩) (by assumption) ?_
          case c3 => (intro w_ hSw; obtain ⟨p1, pn, pv⟩ := hSw; go_simp; try with_reducible rfl)
          simp only [Act.put, List.setIfInBounds_toArray, List.set_cons_zero, List.set_cons_succ]
          refine wpAnyH_take (i := 3) (oi := { dst := some 42, op := Op.load 84 (Operand.tmp 41), type := 84, pos := "plate.go:50", after := #[{ on := 2, ground := Ground.data }], guard := none }) (v := ?_) rfl (by kernel_rfl) (by kernel_rfl) (by kernel_rfl) (fun _ _ _ h => h) (Or.inl ⟨by rfl, ?c4⟩) (by assumption) ?_
          case c4 => (intro w_ hSw; obtain ⟨p1, pn, pv⟩ := hSw; go_simp; try with_reducible rfl)
          simp only [Act.put, List.setIfInBounds_toArray, List.set_cons_zero, List.set_cons_succ]
          refine wpAnyH_take (i := 4) (oi := { dst := some 43, op := Op.fieldAddr 109 (Operand.tmp 7) 0, type := 0, pos := "plate.go:50", after := #[], guard := none }) (v := ?_) rfl (by kernel_rfl) (by kernel_rfl) (by kernel_rfl) (fun _ _ _ h => h) (Or.inl ⟨by rfl, ?c5⟩) (by assumption) ?_
          case c5 => (intro w_ hSw; obtain ⟨p1, pn, pv⟩ := hSw; go_simp; try with_reducible rfl)
          simp only [Act.put, List.setIfInBounds_toArray, List.set_cons_zero, List.set_cons_succ]
          refine wpAnyH_take (i := 5) (oi := { dst := some 44, op := Op.load 3 (Operand.tmp 43), type := 3, pos := "plate.go:50", after := #[{ on := 4, ground := Ground.data }], guard := none }) (v := ?_) rfl (by kernel_rfl) (by kernel_rfl) (by kernel_rfl) (fun _ _ _ h => h) (Or.inl ⟨by rfl, ?c6⟩) (by assumption) ?_
          case c6 => (intro w_ hSw; obtain ⟨p1, pn, pv⟩ := hSw; go_simp; try with_reducible rfl)
          simp only [Act.put, List.setIfInBounds_toArray, List.set_cons_zero, List.set_cons_succ]
          refine wpAnyH_take (i := 6) (oi := { dst := some 45, op := Op.fieldAddr 109 (Operand.tmp 7) 1, type := 0, pos := "plate.go:50", after := #[], guard := none }) (v := ?_) rfl (by kernel_rfl) (by kernel_rfl) (by kernel_rfl) (fun _ _ _ h => h) (Or.inl ⟨by rfl, ?c7⟩) (by assumption) ?_
          case c7 => (intro w_ hSw; obtain ⟨p1, pn, pv⟩ := hSw; go_simp; try with_reducible rfl)
          simp only [Act.put, List.setIfInBounds_toArray, List.set_cons_zero, List.set_cons_succ]
          refine wpAnyH_take (i := 7) (oi := { dst := some 46, op := Op.load 107 (Operand.tmp 45), type := 107, pos := "plate.go:50", after := #[{ on := 6, ground := Ground.data }], guard := none }) (v := .agg (b.map bv).toArray) rfl (by kernel_rfl) (by kernel_rfl) (by kernel_rfl) (fun _ _ _ h => h) (yieldsIf_load_mid (by rfl) 107 _ rfl V 1 rfl (b.map bv) _ (fun w_ hSw => hSw.2.2) Tryz.underlying107 rfl (by rw [List.length_map, unhide HBL]; exact size_sector)) (by assumption) ?_
          simp only [Act.put, List.setIfInBounds_toArray, List.set_cons_zero, List.set_cons_succ]
          rw [unhide HXX]
          refine wpAnyH_ready (rs := [8]) (by kernel_rfl) (by simp) ?_
          refine AllReadyH.cons (o := { dst := some 47, op := Op.call { callee := Callee.value (Operand.func 53), args := #[Operand.tmp 42, Operand.tmp 44, Operand.tmp 46], argTypes := #[84, 3, 107] }, type := 0, pos := "plate.go:50", after := #[{ on := 3, ground := Ground.data }, { on := 5, ground := Ground.data }, { on := 7, ground := Ground.data }], guard := none }) rfl (fun K_ hK_ => ?_) AllReadyH.nil
          go_simp
          go_at_call 53
          refine (unhide HPut w5.drew (unhide HM5)).mono ?_
          rintro e w6 ⟨rfl, hm6, ha6⟩
          have HM6 := hide hm6
          have HA6 : Hid (Aside (fun j => j = T) w5 w6) := Aside.of_drew ha6
          clear hm6 ha6
          go_simp
          refine hK_.out _ _ (⟨cell_aside (unhide HT5) (unhide HA6) (unhide HBT), cell_aside (range_head (unhide HS5)) (unhide HA6) (unhide HVT), range_aside (range_tail (unhide HS5)) (unhide HA6) (unhide HVT)⟩) (fun hHeld => ?_)
          clear hK_ K_
          (try simp only [Act.put, List.setIfInBounds_toArray, List.set_cons_zero, List.set_cons_succ])
          refine wpAnyH_done (by kernel_rfl) ?_ _
          clear HPut HM5 HT5 hHeld
          go_wp2
          go_ret
          obtain ⟨S', R', r1, r2, r3, r4⟩ := write_end (n := n) (b := b) (unhide HS) (unhide HF1) (unhide HKK) (unhide HA1) (unhide HB4) (unhide HGr) (unhide HOr4) (unhide HO4) (unhide HG5) (unhide HP5) (unhide HM6) (unhide HA6) (unhide Hn) (unhide HOk)
          exact ⟨rfl, S', R', r1, r2, fun k h => (r3 k h).elim, r4⟩
end Go.Proofs.YtbjgknoipbekoaaGreat
