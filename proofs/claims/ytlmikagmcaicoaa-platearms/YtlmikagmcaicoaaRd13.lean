/-
  The reference's Sync and Revive, walked.
-/
import Derived.Test.YtlmikagmcaicoaaRc13
namespace Go.Proofs.Ytlmikagmcaicoaa
open Go.RowKit
/-- A write is put into its sector. -/
theorem RForm.put {R A : Nat} {D : Set_} {w : World} {vs : List Value} {lv : Value} {ls : List (Nat × Value)} {s : PS} (h : RForm R A D w vs lv ls s) {n : Nat} {x : Value} {b : Bs} (hn : n < s.safe.length) (hx : BytesAt w x b) (hb : b.length = 64) (hD : ∀ k, x.ownBlock = some k → D k) :
    RForm R A D (w.setCell ⟨A, n, none⟩ x) (vs.set n x) lv ls ⟨s.safe.set n b, s.loose, s.left, s.down⟩ := by
  have hA : Aside (fun k => k = A) w (w.setCell ⟨A, n, none⟩ x) := (Aside.refl _ _).setCell _ _ (Or.inr rfl)
  have hlt : ∀ {B : Nat} {o : Obj}, w.heap[B]? = some o → B < w.heap.size := fun h => (Array.getElem?_eq_some_iff.1 h).1
  refine ⟨?_, row_put h.row n (by rw [h.len]; exact hn) x, ?_, fun i y c h1 h2 => ?_, h.own.aside hA fun k hk hS => h.lA (by rw [← hS]; exact hk), h.llen, fun i y c h1 h2 => ?_, h.ne, h.lR, h.lA, h.dR, h.dA, h.dl, fun k hk => Nat.lt_of_lt_of_le (h.old k hk) hA.size, ?_⟩
  · rw [hA.block R (hlt h.str) h.ne, List.length_set, List.length_set]; exact h.str
  · rw [List.length_set, List.length_set]; exact h.len
  · have h2' : (s.safe.set n b)[i]? = some c := h2
    by_cases hi : n = i
    · subst hi
      rw [List.getElem?_set_self (by rw [h.len]; exact hn)] at h1
      rw [List.getElem?_set_self hn] at h2'
      simp only [Option.some.injEq] at h1 h2'
      subst h1
      subst h2'
      exact Or.inr ⟨hx.aside hA fun k hk hS => h.dA (by rw [← hS]; exact hD k hk), hb, hD⟩
    · rw [List.getElem?_set_ne hi] at h1 h2'
      exact (h.secs i y c h1 h2').aside hA fun k hk hS => h.dA (by rw [← hS]; exact hk)
  · obtain ⟨e, h3, h4⟩ := h.lsec i y c h1 h2
    exact ⟨e, h3.aside hA fun k hk hS => h.dA (by rw [← hS]; exact h4 k hk), h4⟩
  · refine ⟨by show (s.safe.set n b).length ≤ _; rw [List.length_set]; exact h.ok.few, fun c hc => ?_, fun y hy => ?_, h.ok.left, h.ok.most⟩
    · rcases List.mem_or_eq_of_mem_set hc with h1 | h1
      · exact h.ok.safe c h1
      · subst h1; exact hb
    · show y.1 < (s.safe.set n b).length ∧ _
      rw [List.length_set]; exact h.ok.loose y hy
theorem RForm.drew {R A : Nat} {D : Set_} {w : World} {vs : List Value} {lv : Value} {ls : List (Nat × Value)} {s : PS} (h : RForm R A D w vs lv ls s) : RForm R A D w.drew vs lv ls s := h.below (Below.refl _ _).drew
/-- No write is left. -/
theorem RForm.none {R A : Nat} {D : Set_} {w w' : World} {vs : List Value} {lv : Value} {ls : List (Nat × Value)} {s : PS} (h : RForm R A D w vs lv ls s) (hg : w.grownBy w' (some R)) (L : Int) (d : Bool) (hok : (⟨s.safe, [], L, d⟩ : PS).Ok)
    (hs : w'.heap[R]? = some (.cells [.int .i64 (s.safe.length : Int), .slice (some ⟨A, 0, none⟩) vs.length vs.length, .slice none 0 0, .int .i64 L, .bool d].toArray 37 (0, 0))) : RForm R A D w' vs (.slice none 0 0) [] ⟨s.safe, [], L, d⟩ := by
  have hb : Aside (fun k => k = R) w w' := Aside.of_grown hg fun k hk => (Option.some.inj hk).symm
  have hlt : ∀ {B : Nat} {o : Obj}, w.heap[B]? = some o → B < w.heap.size := fun h => (Array.getElem?_eq_some_iff.1 h).1
  refine ⟨hs, ?_, h.len, fun i x b h1 h2 => (h.secs i x b h1 h2).aside hb fun k hk hS => h.dR (by rw [← hS]; exact hk), ownn_nil _ _ _ _, rfl, fun i x y h1 => by simp at h1, h.ne, by simp [Value.ownBlock], by simp [Value.ownBlock], h.dR, h.dA, fun k hk => by simp [Value.ownBlock] at hk, fun k hk => Nat.lt_of_lt_of_le (h.old k hk) hb.size, hok⟩
  rw [hb.block A (hlt h.row) fun hS => h.ne hS.symm]; exact h.row
theorem apply_next {sf : List Bs} {l : List (Nat × Bs)} {y : Nat × Bs} {i : Nat} (hy : l[i]? = some y) : applyL sf (l.take (i + 1)) = (applyL sf (l.take i)).set y.1 y.2 := by
  rw [List.take_add_one, hy]
  show applyL sf (l.take i ++ [y]) = _
  rw [apply_app, apply_one]
theorem ok_part {s : PS} (h : s.Ok) (i : Nat) {L : Int} {d : Bool} (h1 : -1 ≤ L) (h2 : L ≤ 9223372036854775807) : (⟨applyL s.safe (s.loose.take i), s.loose, L, d⟩ : PS).Ok := by
  refine ⟨?_, apply_all h.safe fun x hx => (h.loose x (List.mem_of_mem_take hx)).2, fun x hx => ?_, h1, h2⟩
  · show (applyL _ _).length ≤ _
    rw [apply_len]; exact h.few
  · show x.1 < (applyL _ _).length ∧ _
    rw [apply_len]; exact h.loose x hx
set_option maxRecDepth 100000 in
set_option maxHeartbeats 8000000 in
theorem rsync_c (Q : Set_) (w : World) (r : Value) (s : PS) (hr : RAt Q w r s) (hll : s.loose.length ≤ 100000) :
    Calls Try.prog 27 #[r] w fun e w' => e = .returned (.int .i64 (syncE s)) ∧ ∃ Q', RAt Q' w' r (syncS s) ∧ (∀ k, Q' k → Q k) ∧ Aside Q w w' := by
  have hr' := hr
  obtain ⟨R, A, D, vs, lv, ls, rfl, hf, hq⟩ := hr
  obtain ⟨k0, k1, k2, k3, k4⟩ := five_row hf.str
  obtain ⟨splv, clv, hlv, _, _⟩ := hf.own.form
  subst hlv
  cases hd : s.down with
  | true =>
    rw [hd] at k4
    have e1 : syncE s = 50 := by unfold syncE; rw [hd]; rfl
    have e2 : syncS s = s := by unfold syncS; rw [hd]; rfl
    have Hr := hide hr'
    rw [e1, e2]
    clear hf hq hr' hd e1 e2
    go_enter Try.func27, Try.ntmps27
    go_wp2
    go_ret
    exact ⟨rfl, Q, unhide Hr, fun k hk => hk, Aside.refl _ _⟩
  | false =>
    rw [hd] at k4
    have hst := rstep_c w R _ _ _ s.left s.down hf.str hf.ok.left hf.ok.most
    have Hst := hide hst
    have HF := hide hf
    have HQ := hide hq
    obtain ⟨K, hK⟩ : ∃ x, s.loose.length = x := ⟨_, rfl⟩
    have HK := hide hK
    have hKb : K ≤ 100000 := by omega
    cases ht : (tickS s).down with
    | true =>
      have e1 : syncE s = 50 := by unfold syncE; rw [hd, ht]; rfl
      have e2 : syncS s = tickS s := by unfold syncS; rw [hd, ht]; rfl
      have HT : Hid ((if s.left = 0 then true else s.down) = true) := ht
      rw [e1, e2]
      clear hst hf hq hr' hd ht e1 e2 hK k0 k1 k2 k3
      go_enter Try.func27, Try.ntmps27
      go_wp2_with fail
      refine (unhide Hst).mono ?_
      rintro e w1 ⟨rfl, hs1, hg1⟩
      have HF1 := hide ((unhide HF).head hg1 (tickS s).left (tickS s).down (unhide HF).ok.tick hs1)
      have HA1 : Hid (Aside Q w w1) := Aside.of_grown hg1 fun k hk => (unhide HQ k).2 (Or.inl (Option.some.inj hk).symm)
      rw [unhide HT]
      clear hs1 hg1 Hst k4
      go_wp2
      go_ret
      exact ⟨rfl, Q, ⟨R, A, D, vs, _, ls, rfl, unhide HF1, unhide HQ⟩, fun k hk => hk, unhide HA1⟩
    | false =>
      have e1 : syncE s = 0 := by unfold syncE; rw [hd, ht]; rfl
      have e2 : syncS s = ⟨applyL s.safe s.loose, [], (tickS s).left, (tickS s).down⟩ := by unfold syncS; rw [hd, ht]; rfl
      have HT : Hid ((if s.left = 0 then true else s.down) = false) := ht
      have HOk : Hid (⟨applyL s.safe s.loose, [], (tickS s).left, (tickS s).down⟩ : PS).Ok := by have := hf.ok.sync; rwa [e2] at this
      rw [e1, e2]
      clear hst hf hq hr' hd ht e1 e2 hK k0 k1 k2 k3
      go_enter Try.func27, Try.ntmps27
      go_wp2_with fail
      refine (unhide Hst).mono ?_
      rintro e w1 ⟨rfl, hs1, hg1⟩
      have HF1 := hide ((unhide HF).head hg1 (tickS s).left (tickS s).down (unhide HF).ok.tick hs1)
      have HA1 : Hid (Aside (fun k => k = R ∨ k = A) w w1) := Aside.of_grown hg1 fun k hk => Or.inl (Option.some.inj hk).symm
      rw [unhide HT]
      clear hs1 hg1 Hst k4
      go_wp2
      go_loopw [3] (fun ii wr => ∃ (i : Nat) (vs' : List Value), i ≤ K ∧ ii = .int .i64 (i : Int) ∧ Hid (RForm R A D wr vs' (.slice splv s.loose.length clv) ls ⟨applyL s.safe (s.loose.take i), s.loose, (tickS s).left, (tickS s).down⟩) ∧ Hid (Aside (fun k => k = R ∨ k = A) w wr)) (fun ii _ => K - (intOf ii).toNat)
      case atStart => exact ⟨0, vs, by omega, rfl, unhide HF1, unhide HA1⟩
      case round =>
        obtain ⟨i, vs', hi, rfl, Hr, Hb⟩ := hrel
        obtain ⟨q0, q1, q2, q3, q4⟩ := five_row (unhide Hr).str
        rw [show (s.loose).length = K from unhide HK] at q2
        obtain ⟨M, hM⟩ : ∃ x, vs'.length = x := ⟨_, rfl⟩
        rw [hM] at q1
        by_cases hlt : i < K
        · obtain ⟨g, c, y, x, e, hy, h1, h2, h3, h4, h5, h6⟩ := (unhide Hr).at (i := i) (by have := unhide HK; simp only; omega)
          simp only [Value.slice.injEq] at e
          obtain ⟨rfl, _, rfl⟩ := e
          have f1 : decide ((i : Int) < (K : Int)) = true := by simp; omega
          have f1n : decide (i < K) = true := by simp; omega
          have j0 : (0 : Int) ≤ (i : Int) := by omega
          have j1 : (i : Int) < (K : Int) := by omega
          obtain ⟨Y, hY⟩ : ∃ z, y.1 = z := ⟨_, rfl⟩
          have Hput := hide ((unhide Hr).put h5 h3 h6 h4)
          rw [hY] at h1 Hput
          have y0 : (0 : Int) ≤ (Y : Int) := by omega
          have y1n : Y < M := by have := (unhide Hr).len; omega
          have y1 : (Y : Int) < (M : Int) := by omega
          have hnx := apply_next (sf := s.safe) hy
          rw [hY] at hnx
          have Hput2 : Hid (RForm R A D (wr.setCell ⟨A, Y, none⟩ x) (vs'.set Y x) (.slice (some ⟨g, 0, none⟩) s.loose.length clv) ls ⟨applyL s.safe (s.loose.take (i + 1)), s.loose, (tickS s).left, (tickS s).down⟩) := by show RForm _ _ _ _ _ _ _ _; rw [hnx]; exact unhide Hput
          have Hb2 := hide ((unhide Hb).setCell ⟨A, Y, none⟩ x (Or.inr (Or.inr rfl)))
          have zA := row_frozen (unhide Hr).row Y
          obtain ⟨xA, _, _, cA, _⟩ := (unhide Hr).sec h5
          rw [hY] at cA
          obtain ⟨sx, cx, rfl, _⟩ := bytes_open h3
          obtain ⟨w2, hw2⟩ : ∃ z, wr.setCell ⟨A, Y, none⟩ (.slice sx y.2.length cx) = z := ⟨_, rfl⟩
          rw [hw2] at Hput2 Hb2
          replace Hput2 := hide (unhide Hput2).drew
          replace Hb2 := hide (unhide Hb2).drew
          rw [h6] at h2 hw2
          clear hnx hy h3 h4 h5 h6 hY Hput Hr Hb hM
          go_wp2
          go_region
          go_wp2
          refine ⟨⟨i + 1, vs'.set Y (.slice sx y.2.length cx), by omega, ?_, Hput2, Hb2⟩, ?_⟩
          · simp
          · simp [intOf]; omega
        · obtain rfl : i = K := by omega
          have f1 : decide ((i : Int) < (i : Int)) = false := by simp
          have hlast : s.loose.take i = s.loose := List.take_of_length_le (by have := unhide HK; omega)
          rw [hlast] at Hr
          have hs1 := row_put (unhide Hr).str 2 (by simp) (.slice none 0 0)
          have hg1 := setCell_grown (w := wr) R 2 (.slice none 0 0)
          have z2 := row_frozen (unhide Hr).str 2
          obtain ⟨w2, hw2⟩ : ∃ z, wr.setCell ⟨R, 2, none⟩ (.slice none 0 0) = z := ⟨_, rfl⟩
          rw [hw2] at hs1 hg1
          have HN := hide ((unhide Hr).none hg1 _ _ (unhide HOk) hs1)
          have HA2 : Hid (Aside (fun k => k = R ∨ k = A) w w2) := (unhide Hb).trans (T := fun k => k = R) (Aside.of_grown hg1 fun k hk => (Option.some.inj hk).symm) fun i _ h => Or.inl h
          clear hs1 hg1 Hr Hb hM hlast
          go_wp2
          go_ret
          refine ⟨rfl, fun k => k = R ∨ k = A ∨ (Value.slice none 0 0).ownBlock = some k ∨ D k, ⟨R, A, D, vs', _, _, rfl, unhide HN, fun k => Iff.rfl⟩, ?_, ?_⟩
          · rintro k (h | h | h | h)
            · exact (unhide HQ k).2 (Or.inl h)
            · exact (unhide HQ k).2 (Or.inr (Or.inl h))
            · simp [Value.ownBlock] at h
            · exact (unhide HQ k).2 (Or.inr (Or.inr (Or.inr h)))
          · refine (unhide HA2).mono fun k _ h => ?_
            rcases h with h | h
            · exact (unhide HQ k).2 (Or.inl h)
            · exact (unhide HQ k).2 (Or.inr (Or.inl h))
theorem kept_next : ∀ {l : List (Nat × Bs)} {ks : List Bool} {i : Nat} {y : Nat × Bs} {k : Bool}, l[i]? = some y → ks[i]? = some k → keptL (l.take (i + 1)) ks = keptL (l.take i) ks ++ (if k then [y] else [])
  | [], ks, i, y, k, h, _ => by simp at h
  | x :: l, [], i, y, k, _, h => by simp at h
  | x :: l, q :: ks, 0, y, k, h1, h2 => by
    simp only [List.getElem?_cons_zero, Option.some.injEq] at h1 h2
    subst h1
    subst h2
    cases q <;> simp [keptL]
  | x :: l, q :: ks, i + 1, y, k, h1, h2 => by
    have ih := kept_next (l := l) (ks := ks) (i := i) (y := y) (k := k) (by simpa using h1) (by simpa using h2)
    rw [List.take_succ_cons, List.take_succ_cons]
    unfold keptL
    cases q <;> simp [ih]
theorem kept_short : ∀ {l : List (Nat × Bs)} {ks : List Bool} {i : Nat}, i = min l.length ks.length → keptL (l.take i) ks = keptL l ks
  | [], ks, i, h => by simp
  | x :: l, [], i, h => by
    cases i with
    | zero => cases l <;> rfl
    | succ i => simp at h
  | x :: l, q :: ks, i, h => by
    cases i with
    | zero => simp at h
    | succ i =>
      have ih := kept_short (l := l) (ks := ks) (i := i) (by simp only [List.length_cons] at h; omega)
      rw [List.take_succ_cons]
      unfold keptL
      rw [ih]
theorem kept_zero (l : List (Nat × Bs)) (ks : List Bool) : keptL (l.take 0) ks = [] := by cases l <;> cases ks <;> rfl
set_option maxRecDepth 100000 in
set_option maxHeartbeats 8000000 in
theorem rrevive_c (Q : Set_) (w : World) (r : Value) (s : PS) (x : Value) (keep : List Bool) (hr : RAt Q w r s) (hx : ValsAt w x (keep.map .bool)) (hxq : keep ≠ [] → ∀ k, x.ownBlock = some k → ¬ Q k) (hll : s.loose.length ≤ 100000) :
    Calls Try.prog 17 #[r, x] w fun e w' => e = .returned (.tuple #[]) ∧ ∃ Q', RAt Q' w' r (reviveS s keep) ∧ (∀ k, Q' k → Q k) ∧ Aside Q w w' := by
  obtain ⟨R, A, D, vs, lv, ls, rfl, hf, hq⟩ := hr
  obtain ⟨splv, clv, hlv, _, _⟩ := hf.own.form
  subst hlv
  obtain ⟨spx, cx, rfl⟩ := hx.form
  obtain ⟨K, hK⟩ : ∃ x, s.loose.length = x := ⟨_, rfl⟩
  obtain ⟨P, hP⟩ : ∃ x, (keep.map Value.bool).length = x := ⟨_, rfl⟩
  have hP2 : keep.length = P := by rw [← hP, List.length_map]
  rw [hP]
  have HQ := hide hq
  have HK := hide hK
  have HP := hide hP2
  have hKb : K ≤ 100000 := by omega
  have HQA : Hid (∀ k, k = R ∨ k = A → Q k) := fun k h => (hq k).2 (h.imp id Or.inl)
  have HX : Hid (∀ wr, Aside (fun k => k = R ∨ k = A) w wr → ValsAt wr (.slice spx P cx) (keep.map .bool)) := fun wr h => by
    have := hx.beside h fun hne k hk hS => hxq (fun e => hne (by rw [e]; rfl)) k hk ((hq k).2 (hS.imp id Or.inl))
    rwa [hP] at this
  have HOk := hide (hf.ok.revive keep)
  have HF := hide hf
  clear hf hq hx hxq hK hP hP2
  go_enter Try.func17, Try.ntmps17
  go_wp2
  go_loopw [4] (fun ii wr => ∃ (i : Nat) (vs' : List Value), i ≤ K ∧ i ≤ P ∧ ii = .int .i64 (i : Int) ∧ Hid (RForm R A D wr vs' (.slice splv s.loose.length clv) ls ⟨applyL s.safe (keptL (s.loose.take i) keep), s.loose, s.left, s.down⟩) ∧ Hid (Aside (fun k => k = R ∨ k = A) w wr)) (fun ii _ => K - (intOf ii).toNat)
  case atStart => exact ⟨0, vs, by omega, by omega, rfl, by show RForm _ _ _ _ _ _ _ _; rw [kept_zero]; exact unhide HF, Aside.refl _ _⟩
  case round =>
    obtain ⟨i, vs', hi, hip, rfl, Hr, Hb⟩ := hrel
    obtain ⟨q0, q1, q2, q3, q4⟩ := five_row (unhide Hr).str
    rw [show (s.loose).length = K from unhide HK] at q2
    obtain ⟨M, hM⟩ : ∃ x, vs'.length = x := ⟨_, rfl⟩
    rw [hM] at q1
    by_cases hlt : i < K ∧ i < P
    · obtain ⟨hlt, hltp⟩ := hlt
      obtain ⟨g, c, y, x, e, hy, h1, h2, h3, h4, h5, h6⟩ := (unhide Hr).at (i := i) (by have := unhide HK; simp only; omega)
      simp only [Value.slice.injEq] at e
      obtain ⟨rfl, _, rfl⟩ := e
      have f1 : decide ((i : Int) < (K : Int)) = true := by simp; omega
      have f1n : decide (i < K) = true := by simp; omega
      have f2 : decide ((i : Int) < (P : Int)) = true := by simp; omega
      have f2n : decide (i < P) = true := by simp; omega
      have j0 : (0 : Int) ≤ (i : Int) := by omega
      have j1 : (i : Int) < (K : Int) := by omega
      have j2 : (i : Int) < (P : Int) := by omega
      have hk1 : i < keep.length := by have := unhide HP; omega
      obtain ⟨bx, ox, _, ex, _, _, hcx⟩ := ValsAt.cell (unhide HX wr (unhide Hb)) (by intro e; have := congrArg List.length e; simp at this; subst this; simp at hk1)
      simp only [Value.slice.injEq] at ex
      obtain ⟨rfl, hPk, rfl⟩ := ex
      clear hPk
      have hcell := hcx i (by rw [List.length_map]; exact hk1)
      obtain ⟨kk, hkk⟩ : ∃ kk, keep[i]? = some kk := ⟨_, List.getElem?_eq_getElem hk1⟩
      rw [List.getD_eq_getElem?_getD, List.getElem?_map, hkk] at hcell
      simp only [Option.map_some, Option.getD_some] at hcell
      have hnx := kept_next hy hkk
      cases kk with
      | false =>
        rw [if_neg (by decide), List.append_nil] at hnx
        rw [← hnx] at Hr
        clear hy h1 h2 h3 h4 h5 h6 hkk hnx hcx hM
        go_wp2
        refine ⟨⟨i + 1, vs', by omega, by omega, ?_, Hr, Hb⟩, ?_⟩
        · simp
        · simp [intOf]; omega
      | true =>
        rw [if_pos rfl] at hnx
        obtain ⟨Y, hY⟩ : ∃ z, y.1 = z := ⟨_, rfl⟩
        have Hput := hide ((unhide Hr).put h5 h3 h6 h4)
        have hnx2 : applyL s.safe (keptL (s.loose.take (i + 1)) keep) = (applyL s.safe (keptL (s.loose.take i) keep)).set y.1 y.2 := by rw [hnx, apply_app, apply_one]
        rw [hY] at h1 Hput hnx2
        have y0 : (0 : Int) ≤ (Y : Int) := by omega
        have y1n : Y < M := by have := (unhide Hr).len; omega
        have y1 : (Y : Int) < (M : Int) := by omega
        have Hput2 : Hid (RForm R A D (wr.setCell ⟨A, Y, none⟩ x) (vs'.set Y x) (.slice (some ⟨g, 0, none⟩) s.loose.length clv) ls ⟨applyL s.safe (keptL (s.loose.take (i + 1)) keep), s.loose, s.left, s.down⟩) := by show RForm _ _ _ _ _ _ _ _; rw [hnx2]; exact unhide Hput
        have Hb2 := hide ((unhide Hb).setCell ⟨A, Y, none⟩ x (Or.inr (Or.inr rfl)))
        have zA := row_frozen (unhide Hr).row Y
        obtain ⟨xA, _, _, cA, _⟩ := (unhide Hr).sec h5
        rw [hY] at cA
        obtain ⟨sx, cx, rfl, _⟩ := bytes_open h3
        obtain ⟨w2, hw2⟩ : ∃ z, wr.setCell ⟨A, Y, none⟩ (.slice sx y.2.length cx) = z := ⟨_, rfl⟩
        rw [hw2] at Hput2 Hb2
        replace Hput2 := hide (unhide Hput2).drew
        replace Hb2 := hide (unhide Hb2).drew
        rw [h6] at h2 hw2
        clear hnx hnx2 hy h3 h4 h5 h6 hY Hput Hr Hb hM hkk hcx
        go_wp2
        go_region
        go_wp2
        refine ⟨⟨i + 1, vs'.set Y (.slice sx y.2.length cx), by omega, by omega, ?_, Hput2, Hb2⟩, ?_⟩
        · simp
        · simp [intOf]; omega
    · have hmin : i = min s.loose.length keep.length := by
        have h1 := unhide HK
        have h2 := unhide HP
        omega
      rw [kept_short hmin] at Hr
      have hs1 := row_put (unhide Hr).str 2 (by simp) (.slice none 0 0)
      have hg1 := setCell_grown (w := wr) R 2 (.slice none 0 0)
      have z2 := row_frozen (unhide Hr).str 2
      obtain ⟨w2, hw2⟩ : ∃ z, wr.setCell ⟨R, 2, none⟩ (.slice none 0 0) = z := ⟨_, rfl⟩
      rw [hw2] at hs1 hg1
      have c3 := row_cell hs1 3 _ rfl
      have z3 := row_frozen hs1 3
      have hs2 := row_put hs1 3 (by simp) (.int .i64 (-1))
      have hg2 := setCell_grown (w := w2) R 3 (.int .i64 (-1))
      obtain ⟨w3, hw3⟩ : ∃ z, w2.setCell ⟨R, 3, none⟩ (.int .i64 (-1)) = z := ⟨_, rfl⟩
      rw [hw3] at hs2 hg2
      have c4 := row_cell hs2 4 _ rfl
      have z4 := row_frozen hs2 4
      have hs3 := row_put hs2 4 (by simp) (.bool false)
      have hg3 := setCell_grown (w := w3) R 4 (.bool false)
      obtain ⟨w4, hw4⟩ : ∃ z, w3.setCell ⟨R, 4, none⟩ (.bool false) = z := ⟨_, rfl⟩
      rw [hw4] at hs3 hg3
      have hg := grown_trans (grown_trans hg1 hg2) hg3
      have HN := hide ((unhide Hr).none hg _ _ (unhide HOk) hs3)
      have HA2 : Hid (Aside (fun k => k = R ∨ k = A) w w4) := (unhide Hb).trans (T := fun k => k = R) (Aside.of_grown hg fun k hk => (Option.some.inj hk).symm) fun i _ h => Or.inl h
      clear hs1 hg1 hs2 hg2 hs3 hg3 hg Hr Hb hM hmin
      have HW : Hid (∃ Q', RAt Q' w4 (.pointer (some ⟨R, 0, none⟩)) (reviveS s keep) ∧ (∀ k, Q' k → Q k) ∧ Aside Q w w4) := by
        refine ⟨fun k => k = R ∨ k = A ∨ (Value.slice none 0 0).ownBlock = some k ∨ D k, ⟨R, A, D, vs', _, _, rfl, unhide HN, fun k => Iff.rfl⟩, ?_, ?_⟩
        · rintro k (h | h | h | h)
          · exact (unhide HQ k).2 (Or.inl h)
          · exact (unhide HQ k).2 (Or.inr (Or.inl h))
          · simp [Value.ownBlock] at h
          · exact (unhide HQ k).2 (Or.inr (Or.inr (Or.inr h)))
        · exact (unhide HA2).mono fun k _ h => unhide HQA k h
      by_cases hlk : i < K
      · have f1 : decide ((i : Int) < (K : Int)) = true := by simp; omega
        have f1n : decide (i < K) = true := by simp; omega
        have f2 : decide ((i : Int) < (P : Int)) = false := by simp; omega
        have f2n : decide (i < P) = false := by simp; omega
        have j1 : (i : Int) < (K : Int) := by omega
        have j2 : ¬ (i : Int) < (P : Int) := by omega
        clear HN HA2
        go_wp2
        (try simp only [Exit.inBlock, Exit.then])
        refine bodyPost_end (results_none rfl _ _ _) rfl ?_
        exact ⟨rfl, unhide HW⟩
      · have f1 : decide ((i : Int) < (K : Int)) = false := by simp; omega
        have f1n : decide (i < K) = false := by simp; omega
        have j1 : ¬ (i : Int) < (K : Int) := by omega
        clear HN HA2
        go_wp2
        (try simp only [Exit.inBlock, Exit.then])
        refine bodyPost_end (results_none rfl _ _ _) rfl ?_
        exact ⟨rfl, unhide HW⟩
end Go.Proofs.Ytlmikagmcaicoaa
