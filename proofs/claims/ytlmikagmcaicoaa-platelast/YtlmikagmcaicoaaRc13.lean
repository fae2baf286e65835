/-
  The reference's Read, walked.
-/
import Derived.Test.YtlmikagmcaicoaaRb13
import Derived.Laws.CopyOwn
import Derived.Deep.Cut
namespace Go.Proofs.Ytlmikagmcaicoaa
open Go.RowKit
theorem grown_setRow {w : World} (g : Nat) (cs : Array Value) : w.grownBy (w.setRow g cs) (some g) := ⟨rfl, rfl, rfl, by simp [World.setRow], fun k hk hne => setRow_other w g k cs (fun e => hne (by rw [e]))⟩
/-- A sector's copy into 64 bytes. -/
theorem copy_sec (w : World) (O : Nat) (cur b : Bs) (x : Value) (hr : RowAt 5 w O [] (cur.map bv)) (hc : cur.length = 64) (hx : BytesAt w x b) (hb : b.length = 64) :
    ∃ n W, (Builtin.copy_ #[40, 40] 3 #[.slice (some ⟨O, 0, none⟩) 64 64, x]).run Try.prog w = .ok n W ∧ RowAt 5 W O [] (b.map bv) ∧ w.grownBy W (some O) := by
  have hu5 : Try.prog.underlying 40 = some (.slice 5) := by kernel_rfl
  have hbm : (b.map bv).length = 64 := by rw [List.length_map, hb]
  obtain ⟨sp', c', rfl, h1, h2, h3⟩ := hx
  obtain ⟨bb, o, rfl, hrg⟩ := h3 (by intro e; rw [e] at hbm; simp at hbm)
  have hrow : w.heap[O]? = some (.cells (cur.map bv).toArray 5 (0, 0)) := by
    have := hr
    unfold RowAt at this
    rwa [List.append_nil] at this
  have hrun := run_copy_row (P := Try.prog) w 40 40 3 5 O 0 64 64 ⟨bb, o, none⟩ (b.map bv).length c' (cur.map bv).toArray 5 (b.map bv) hu5 (by kernel_rfl) hrow (by rw [hbm]; rfl) (fun j v hv => by rw [Addr.add_mid]; exact hrg j v hv) (by rw [hbm]; simp [hc]) (one_bytes b)
  refine ⟨_, _, hrun, ?_, grown_setRow _ _⟩
  unfold RowAt
  rw [setRow_heap w O _ _ 5 (0, 0) hrow, List.append_nil, hbm]
  congr 3
  rw [List.take_zero, List.nil_append, Nat.zero_add, List.toList_toArray, List.drop_of_length_le (by rw [List.length_map, hc]; exact Nat.le_refl _), List.append_nil]
theorem copy_nil (w : World) (O : Nat) : (Builtin.copy_ #[40, 40] 3 #[.slice (some ⟨O, 0, none⟩) 64 64, .slice none 0 0]).run Try.prog w = .ok (.int .i64 0) w := run_copy_none (P := Try.prog) w 40 40 3 5 _ _ 64 64 0 0 (by kernel_rfl) (by kernel_rfl) (by simp)
theorem RForm.below {R A : Nat} {D : Set_} {w w' : World} {vs : List Value} {lv : Value} {ls : List (Nat × Value)} {s : PS} (h : RForm R A D w vs lv ls s) (hb : Below w.heap.size w w') : RForm R A D w' vs lv ls s := h.aside (S := none_) (Aside.of_below hb) fun _ hk => hk.elim
/-- A write that isn't safe, in memory. -/
theorem RForm.at {R A : Nat} {D : Set_} {w : World} {vs : List Value} {lv : Value} {ls : List (Nat × Value)} {s : PS} (h : RForm R A D w vs lv ls s) {i : Nat} (hi : i < s.loose.length) : ∃ g c y x, lv = .slice (some ⟨g, 0, none⟩) s.loose.length c ∧ s.loose[i]? = some y ∧ w.cell? ⟨g, i * 2, none⟩ = some (.int .i64 (y.1 : Int)) ∧ w.cell? ⟨g, i * 2 + 1, none⟩ = some x ∧ BytesAt w x y.2 ∧ (∀ k, x.ownBlock = some k → D k) ∧ y.1 < s.safe.length ∧ y.2.length = 64 := by
  obtain ⟨g, c, e, _, _, _, hc⟩ := h.own.at (by omega)
  have h1 : i < ls.length := by have := h.llen; omega
  obtain ⟨h3, h4, h5⟩ := h.lsec i ls[i] s.loose[i] (List.getElem?_eq_getElem h1) (List.getElem?_eq_getElem hi)
  obtain ⟨h6, h7⟩ := lcells_at ls i _ (List.getElem?_eq_getElem h1)
  have q1 := hc _ _ h6
  have q2 := hc _ _ h7
  rw [Nat.zero_add] at q1 q2
  rw [h3] at q1
  obtain ⟨h8, h9⟩ := h.ok.loose s.loose[i] (List.getElem_mem hi)
  exact ⟨g, c, s.loose[i], ls[i].2, e, List.getElem?_eq_getElem hi, q1, q2, h4, h5, h8, h9⟩
theorem RForm.sec {R A : Nat} {D : Set_} {w : World} {vs : List Value} {lv : Value} {ls : List (Nat × Value)} {s : PS} (h : RForm R A D w vs lv ls s) {n : Nat} (hn : n < s.safe.length) : ∃ x b, s.safe[n]? = some b ∧ w.cell? ⟨A, n, none⟩ = some x ∧ SecAt D w x b ∧ b.length = 64 ∧ vs[n]? = some x := by
  have h1 : n < vs.length := by rw [h.len]; exact hn
  exact ⟨vs[n], s.safe[n], List.getElem?_eq_getElem hn, row_cell h.row n _ (List.getElem?_eq_getElem h1), h.secs n _ _ (List.getElem?_eq_getElem h1) (List.getElem?_eq_getElem hn), h.ok.safe _ (List.getElem_mem hn), List.getElem?_eq_getElem h1⟩
theorem apply_at {sf : List Bs} {l : List (Nat × Bs)} {y : Nat × Bs} {i n : Nat} (hy : l[i]? = some y) (hn : n < sf.length) : (applyL sf (l.take (i + 1))).getD n [] = if y.1 = n then y.2 else (applyL sf (l.take i)).getD n [] := by
  rw [List.take_add_one, hy]
  show (applyL sf (l.take i ++ [y])).getD n [] = _
  rw [apply_app, apply_one, List.getD_eq_getElem?_getD, List.getElem?_set]
  split
  · rename_i h
    rw [if_pos (by rw [apply_len]; omega)]
    rfl
  · rw [List.getD_eq_getElem?_getD]
theorem apply_at_len {s : PS} (h : s.Ok) (i : Nat) {n : Nat} (hn : n < s.safe.length) : ((applyL s.safe (s.loose.take i)).getD n []).length = 64 := by
  have hlt : n < (applyL s.safe (s.loose.take i)).length := by rw [apply_len]; exact hn
  rw [List.getD_eq_getElem?_getD, List.getElem?_eq_getElem hlt, Option.getD_some]
  exact apply_all h.safe (fun x hx => (h.loose x (List.mem_of_mem_take hx)).2) _ (List.getElem_mem hlt)
theorem own_of_row {w : World} {O base : Nat} {b : Bs} (h : RowAt 5 w O [] (b.map bv)) (hO : base ≤ O) (hb : b.length = 64) : OwnB w base (.slice (some ⟨O, 0, none⟩) 64 64) b := by
  have hbm : (b.map bv).length = 64 := by rw [List.length_map, hb]
  unfold RowAt at h
  rw [List.append_nil] at h
  refine ⟨by simp, Or.inr ⟨O, 64, (b.map bv).toArray, by rw [hbm], hO, h, by rw [hbm]; exact Nat.le_refl _, by simp [maxLen], by simp [hb], ?_⟩⟩
  rw [List.toList_toArray, hbm, List.take_of_length_le (by rw [hbm]; omega)]
set_option maxRecDepth 100000 in
set_option maxHeartbeats 8000000 in
theorem rread_c (Q : Set_) (w : World) (r : Value) (s : PS) (a : Int) (hr : RAt Q w r s) (hll : s.loose.length ≤ 100000) :
    Calls Try.prog 19 #[r, .int .i64 a] w fun e w' => ∃ v, e = .returned (.tuple #[v, .int .i64 (readE s a)]) ∧ OwnB w' w.heap.size v (readB s a) ∧ Below w.heap.size w w' := by
  obtain ⟨R, A, D, vs, lv, ls, rfl, hf, hq⟩ := hr
  obtain ⟨k0, k1, k2, k3, k4⟩ := five_row hf.str
  obtain ⟨splv, clv, hlv, _, _⟩ := hf.own.form
  subst hlv
  obtain ⟨N, hN⟩ : ∃ x, s.safe.length = x := ⟨_, rfl⟩
  obtain ⟨M, hM⟩ : ∃ x, vs.length = x := ⟨_, rfl⟩
  obtain ⟨K, hK⟩ : ∃ x, s.loose.length = x := ⟨_, rfl⟩
  obtain ⟨L, hL⟩ : ∃ x, s.left = x := ⟨_, rfl⟩
  rw [hN] at k0
  rw [hM] at k1
  rw [hK] at k2
  rw [hL] at k3
  cases hd : s.down with
  | true =>
    rw [hd] at k4
    have e1 : readE s a = 50 := by unfold readE; rw [hd]; rfl
    have e2 : readB s a = [] := by unfold readB; rw [hd]; rfl
    rw [e1, e2]
    clear hf hq hN hM hK hL hd e1 e2
    go_enter Try.func19, Try.ntmps19
    go_wp2
    go_ret2
    exact ⟨_, rfl, ownb_nil _ _, Below.refl _ _⟩
  | false =>
    rw [hd] at k4
    cases hg : rightAt s a with
    | false =>
      have e1 : readE s a = 51 := by unfold readE; rw [hd, hg]; rfl
      have e2 : readB s a = [] := by unfold readB; rw [hd, hg]; rfl
      rw [e1, e2]
      unfold rightAt at hg
      rw [hN] at hg
      clear hf hq hN hM hK hL hd e1 e2
      by_cases c1 : a < 0
      · have d1 : decide (a < 0) = true := decide_eq_true c1
        clear hg
        go_enter Try.func19, Try.ntmps19
        go_wp2
        go_ret2
        exact ⟨_, rfl, ownb_nil _ _, Below.refl _ _⟩
      · have d1 : decide (a < 0) = false := decide_eq_false c1
        have c2 : (N : Int) ≤ a := by
          rw [decide_eq_true (by omega : 0 ≤ a)] at hg
          simp at hg
          exact hg
        have d2 : decide ((N : Int) ≤ a) = true := decide_eq_true c2
        clear hg
        go_enter Try.func19, Try.ntmps19
        go_wp2
        go_ret2
        exact ⟨_, rfl, ownb_nil _ _, Below.refl _ _⟩
    | true =>
      have e1 : readE s a = 0 := by unfold readE; rw [hd, hg]; rfl
      have e2 : readB s a = (applyL s.safe s.loose).getD a.toNat [] := by unfold readB; rw [hd, hg]; rfl
      rw [e1, e2]
      simp only [rightAt, Bool.and_eq_true, decide_eq_true_eq] at hg
      obtain ⟨g1, g2⟩ := hg
      obtain ⟨n, hn⟩ : ∃ n : Nat, a = (n : Int) := ⟨a.toNat, by omega⟩
      subst hn
      rw [Int.toNat_natCast]
      have hns : n < s.safe.length := by omega
      rw [hN] at g2
      have c1 : ¬ (n : Int) < 0 := by omega
      have d1 : decide ((n : Int) < 0) = false := decide_eq_false c1
      have c2 : ¬ (N : Int) ≤ (n : Int) := by omega
      have d2 : decide ((N : Int) ≤ (n : Int)) = false := decide_eq_false c2
      have c3 : n < M := by have := hf.len; omega
      have c3' : (n : Int) < (M : Int) := by omega
      have c4 : (0 : Int) ≤ (n : Int) := by omega
      obtain ⟨W1, hm, hrow, hb⟩ := made_vals Eb rfl w .i64 .i64 64 64 64 rfl rfl (by omega)
      have hf1 := hf.below hb
      obtain ⟨q0, q1, q2, q3, q4⟩ := five_row hf1.str
      rw [hM] at q1
      rw [hK] at q2
      obtain ⟨x0, b0, hb0, hx0, hs0, hl0, _⟩ := hf1.sec hns
      have hcp : ∃ u W2, (Builtin.copy_ #[40, 40] 3 #[.slice (some ⟨w.heap.size, 0, none⟩) 64 64, x0]).run Try.prog W1 = .ok u W2 ∧ RowAt 5 W2 w.heap.size [] (b0.map bv) ∧ Below w.heap.size w W2 := by
        have hz : (List.replicate 64 (Value.int .u8 0)) = zeros.map bv := by unfold zeros; rw [List.map_replicate]; rfl
        rcases hs0 with ⟨rfl, rfl⟩ | ⟨h1, h2, _⟩
        · exact ⟨_, _, copy_nil _ _, by rw [← hz]; exact hrow, hb⟩
        · obtain ⟨u, W2, e, h3, h4⟩ := copy_sec W1 w.heap.size zeros b0 x0 (by rw [← hz]; exact hrow) zeros_len h1 h2
          exact ⟨u, W2, e, h3, hb.grown h4 hb.size (fun k hk => by cases hk; exact Nat.le_refl _)⟩
      obtain ⟨u, W2, hcp, hr2, hb2⟩ := hcp
      have HF : Hid (∀ wr, Below w.heap.size w wr → RForm R A D wr vs (.slice splv s.loose.length clv) ls s) := fun wr h => hf.below h
      have HR2 := hide hr2
      have HB2 := hide hb2
      have HN := hide hns
      have HK := hide hK
      have hKb : K ≤ 100000 := by omega
      have HI : Hid ((applyL s.safe (s.loose.take 0)).getD n [] = b0) := by
        show _ = _
        rw [List.take_zero]
        show s.safe.getD n [] = b0
        rw [List.getD_eq_getElem?_getD, hb0]; rfl
      have HE : Hid ((applyL s.safe (s.loose.take K)).getD n [] = (applyL s.safe s.loose).getD n []) := by
        show _ = _
        rw [List.take_of_length_le (by omega)]
      have hform : ∃ sx nx cx, x0 = .slice sx nx cx := by
        rcases hs0 with ⟨rfl, _⟩ | ⟨h1, _, _⟩
        · exact ⟨_, _, _, rfl⟩
        · obtain ⟨sx, cx, e, _⟩ := bytes_open h1
          exact ⟨_, _, _, e⟩
      obtain ⟨sx, nx, cx, rfl⟩ := hform
      clear hf hf1 hq hrow hb hr2 hb2 hb0 hs0 hl0 hN hM hK hL hd e1 e2 hns
      go_enter Try.func19, Try.ntmps19
      go_wp2
      clear q0 q1 q2 q3 q4 k0 k1 k2 k3 k4 hx0 hcp hm
      go_loopw [7] (fun ii wr => ∃ i : Nat, i ≤ K ∧ ii = .int .i64 (i : Int) ∧ Hid (RowAt 5 wr w.heap.size [] (((applyL s.safe (s.loose.take i)).getD n []).map bv)) ∧ Hid (Below w.heap.size w wr)) (fun ii _ => K - (intOf ii).toNat)
      case atStart => exact ⟨0, by omega, rfl, by show RowAt _ _ _ _ _; rw [unhide HI]; exact unhide HR2, unhide HB2⟩
      case round =>
        obtain ⟨i, hi, rfl, Hr, Hb⟩ := hrel
        have hfr := unhide HF wr (unhide Hb)
        obtain ⟨q0, q1, q2, q3, q4⟩ := five_row hfr.str
        rw [unhide HK] at q2
        by_cases hlt : i < K
        · obtain ⟨g, c, y, x, e, hy, h1, h2, h3, h4, h5, h6⟩ := hfr.at (i := i) (by have := unhide HK; omega)
          simp only [Value.slice.injEq] at e
          obtain ⟨rfl, _, rfl⟩ := e
          have f1 : decide ((i : Int) < (K : Int)) = true := by simp; omega
          have f1n : decide (i < K) = true := by simp; omega
          have j0 : (0 : Int) ≤ (i : Int) := by omega
          have j1 : (i : Int) < (K : Int) := by omega
          obtain ⟨Y, hY⟩ : ∃ z, y.1 = z := ⟨_, rfl⟩
          rw [hY] at h1
          have hap := apply_at hy (unhide HN)
          rw [hY] at hap
          obtain ⟨sx, cx, rfl, _⟩ := bytes_open h3
          rw [h6] at h2 h3
          by_cases hyn : Y = n
          · have v1 : ((Y : Int) == (n : Int)) = true := by simp; omega
            rw [if_pos hyn] at hap
            obtain ⟨u2, W3, hcp, hr3, hg3⟩ := copy_sec wr w.heap.size _ y.2 _ (unhide Hr) (apply_at_len hfr.ok i (unhide HN)) h3 h6
            rw [← hap] at hr3
            have Hr3 := hide hr3
            have Hb3 := hide ((unhide Hb).grown hg3 (unhide Hb).size (fun k hk => by cases hk; exact Nat.le_refl _))
            subst hyn
            clear hfr hap hr3 hg3 hy h3 h4 h5 h6 hY
            go_wp2
            refine ⟨⟨i + 1, by omega, ?_, Hr3, Hb3⟩, ?_⟩
            · simp
            · simp [intOf]; omega
          · have v1 : ((Y : Int) == (n : Int)) = false := by simp; omega
            rw [if_neg hyn] at hap
            have Hr3 : Hid (RowAt 5 wr w.heap.size [] (((applyL s.safe (s.loose.take (i + 1))).getD n []).map bv)) := by show RowAt _ _ _ _ _; rw [hap]; exact unhide Hr
            clear hfr hap hy h3 h4 h5 h6 hY
            go_wp2
            refine ⟨⟨i + 1, by omega, ?_, Hr3, Hb⟩, ?_⟩
            · simp
            · simp [intOf]; omega
        · obtain rfl : i = K := by omega
          have f1 : decide ((i : Int) < (i : Int)) = false := by simp
          rw [unhide HE] at Hr
          have hlen : ((applyL s.safe s.loose).getD n []).length = 64 := by rw [← unhide HE]; exact apply_at_len hfr.ok i (unhide HN)
          have HO := hide (own_of_row (base := w.heap.size) (unhide Hr) (Nat.le_refl _) hlen)
          clear hfr hlen
          go_wp2
          go_ret2
          exact ⟨_, rfl, unhide HO, unhide Hb⟩
end Go.Proofs.Ytlmikagmcaicoaa
