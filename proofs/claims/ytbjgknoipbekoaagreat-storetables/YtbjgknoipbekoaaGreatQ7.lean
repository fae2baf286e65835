/-
  The landed plate's Revive, walked.
-/
import Derived.Test.YtbjgknoipbekoaaGreatQ6
namespace Go.Proofs.YtbjgknoipbekoaaGreat
open Go.RowKit
theorem kept_long : ∀ (l : List (Nat × Bs)) (ks : List Bool) (i : Nat), ks.length ≤ i → keptL (l.take i) ks = keptL l ks
  | [], ks, i, _ => by simp
  | x :: l, [], i, _ => by cases i <;> simp [keptL]
  | x :: l, k :: ks, 0, h => by simp at h
  | x :: l, k :: ks, i + 1, h => by
    have ih := kept_long l ks i (by simpa using h)
    rw [List.take_succ_cons]
    unfold keptL
    rw [ih]
theorem kept_any {l : List (Nat × Bs)} {ks : List Bool} {k : Nat} (h : (l.any fun x => x.1 == k) = false) : ((keptL l ks).any fun x => x.1 == k) = false := by
  rw [List.any_eq_false] at h ⊢
  exact fun x hx => h x (kept_mem hx)
/-- What is safe behind Revive's first loop, at round i. -/
def keptF (s : PS) (keep : List Bool) (i : Nat) : Nat → Bs := fun k => (applyL s.safe (keptL (s.loose.take i) keep)).getD k zeros
theorem kept_put {s : PS} {keep : List Bool} {i : Nat} {y : Nat × Bs} (hy : s.loose[i]? = some y) (hk : keep[i]? = some true) (hn : y.1 < s.safe.length) (k : Nat) : upd (keptF s keep i) y.1 y.2 k = keptF s keep (i + 1) k := by
  unfold keptF upd
  rw [kept_next hy hk, if_pos rfl, apply_app, apply_one]
  have hl : y.1 < (applyL s.safe (keptL (s.loose.take i) keep)).length := by rw [apply_len]; exact hn
  dsimp only
  rw [List.getD_eq_getElem?_getD, List.getD_eq_getElem?_getD, List.getElem?_set]
  by_cases e : y.1 = k
  · subst e; rw [if_pos rfl, if_pos rfl, if_pos hl]; rfl
  · rw [if_neg e, if_neg fun h => e h.symm]
theorem kept_skip {s : PS} {keep : List Bool} {i : Nat} {y : Nat × Bs} (hy : s.loose[i]? = some y) (hk : keep[i]? = some false ∨ keep.length ≤ i) (k : Nat) : keptF s keep i k = keptF s keep (i + 1) k := by
  unfold keptF
  rcases hk with hk | hk
  · rw [kept_next hy hk]; simp
  · rw [kept_long _ _ _ hk, kept_long _ _ _ (by omega)]
theorem kept_all {s : PS} {keep : List Bool} {i : Nat} (h : s.loose.length ≤ i) (k : Nat) : keptF s keep i k = (applyL s.safe (keptL s.loose keep)).getD k zeros := by
  unfold keptF
  rw [List.take_of_length_le h]
/-- What is behind Revive's last store. -/
theorem revive_end {S R : Set_} {B T M : Nat} {w wr w2 : World} {lv : Value} {s : PS} {keep : List Bool} (hS : ∀ k, S k ↔ (k = B ∨ k = T ∨ k = M ∨ lv.ownBlock = some k)) (hf : PForm B T M w lv s)
    (hb : Aside (fun k => k = M ∨ k = T) w wr) (hm : MAt wr M fun k => (applyL s.safe (keptL s.loose keep)).getD k zeros) (ht : MAt wr T (mixF (fun k => (applyL s.safe (keptL s.loose keep)).getD k zeros) (fun k => (applyL s.safe s.loose).getD k zeros) s.loose))
    (hg : wr.grownBy w2 (some B)) (hs : w2.heap[B]? = some (.cells [.int .i64 (s.safe.length : Int), .map (some T), .map (some M), .slice none 0 0, .int .i64 (-1), .bool false].toArray 87 (0, 0))) :
    ∃ S' R', PAt S' R' w2 (.pointer (some ⟨B, 0, none⟩)) (reviveS s keep) ∧ (∀ k, S' k → S k ∨ w.heap.size ≤ k) ∧ (∀ k, R' k → R k ∨ w.heap.size ≤ k) ∧ Aside S w w2 := by
  have hbB : Aside (fun k => k = B) wr w2 := Aside.of_grown hg fun k hk => (Option.some.inj hk).symm
  have ht2 := ht.congr (mix_end fun k hk => (apply_out (kept_any hk)).trans (apply_out hk).symm)
  refine ⟨fun k => k = B ∨ k = T ∨ k = M ∨ (Value.slice none 0 0).ownBlock = some k, none_, ⟨B, T, M, .slice none 0 0, rfl, ⟨?_, ?_, ?_, ownn_nil _ _ _ _, hf.bt, hf.bm, hf.tm, by simp [Value.ownBlock], by simp [Value.ownBlock], by simp [Value.ownBlock], hf.ok.revive keep⟩, fun k => Iff.rfl, fun k h => h⟩, ?_, fun k h => h.elim, ?_⟩
  · show w2.heap[B]? = some (Obj.cells [.int .i64 ((applyL s.safe (keptL s.loose keep)).length : Int), _, _, _, _, _].toArray _ _)
    rw [apply_len]; exact hs
  · exact ht2.aside hbB fun e => hf.bt e.symm
  · exact hm.aside hbB fun e => hf.bm e.symm
  · rintro k (h | h | h | h)
    · exact Or.inl ((hS k).2 (Or.inl h))
    · exact Or.inl ((hS k).2 (Or.inr (Or.inl h)))
    · exact Or.inl ((hS k).2 (Or.inr (Or.inr (Or.inl h))))
    · simp [Value.ownBlock] at h
  · exact (hb.mono fun k _ h => h.elim (fun e => (hS k).2 (Or.inr (Or.inr (Or.inl e)))) fun e => (hS k).2 (Or.inr (Or.inl e))).trans hbB fun k _ h => (hS k).2 (Or.inl h)
set_option maxRecDepth 100000 in
set_option maxHeartbeats 8000000 in
theorem revive_c {S R : Set_} {w : World} {p : Value} {s : PS} (x : Value) (keep : List Bool) (hp : PAt S R w p s) (hx : ValsAt w x (keep.map .bool)) (hxs : keep ≠ [] → ∀ k, x.ownBlock = some k → ¬ S k) (hll : s.loose.length ≤ 100000) :
    Calls Tryz.prog 24 #[p, x] w fun e w' => e = .returned (.tuple #[]) ∧ ∃ S' R', PAt S' R' w' p (reviveS s keep) ∧ (∀ k, S' k → S k ∨ w.heap.size ≤ k) ∧ (∀ k, R' k → R k ∨ w.heap.size ≤ k) ∧ Aside S w w' := by
  obtain ⟨B, T, M, lv, rfl, hf, hS, hR⟩ := hp
  obtain ⟨sl, cl, rfl, _⟩ := hf.own.form
  obtain ⟨spx, cx, rfl⟩ := hx.form
  obtain ⟨P, hP⟩ : ∃ x, (keep.map Value.bool).length = x := ⟨_, rfl⟩
  have hP2 : keep.length = P := by rw [← hP, List.length_map]
  have HP := hide hP2
  rw [hP]
  have HX : Hid (∀ wr, Aside (fun k => k = M) w wr → ValsAt wr (.slice spx P cx) (keep.map .bool)) := fun wr h => by
    have := hx.beside h fun hne k hk hM => hxs (fun e => hne (by rw [e]; rfl)) k hk ((hS k).2 (Or.inr (Or.inr (Or.inl hM))))
    rwa [hP] at this
  have HF := hide hf
  have HS := hide hS
  have HLL := hide hll
  obtain ⟨_, _, _, q3, _, _⟩ := six_row hf.str
  have HM0 : Hid (MAt w M (keptF s keep 0)) := hf.safe.congr fun k => by unfold keptF; rw [kept_zero]; rfl
  obtain ⟨K, hK⟩ : ∃ y, s.loose.length = y := ⟨_, rfl⟩
  rw [hK] at q3
  have HKK := hide hK
  have hK5 : K ≤ 100000 := by omega
  have hzv := (zero_of_info info_w).1
  have hZs : (wone 0 zeros).toArray.size = 65 := by simp [wone_len zeros_len]
  obtain ⟨Z, hZ⟩ : ∃ y, (wone 0 zeros).toArray = y := ⟨_, rfl⟩
  rw [hZ] at hzv hZs
  have hne : ¬ Z = #[] := by intro e; rw [e] at hZs; simp at hZs
  clear hf hS hR hx hxs hP hP2 hK hZ hll
  go_enter Tryz.func24, Tryz.ntmps24
  go_wp2
  go_loopw [13] (fun ii wr => ∃ i : Nat, i ≤ K ∧ ii = .int .i64 (i : Int) ∧ Hid (MAt wr M (keptF s keep i)) ∧ Hid (Aside (fun k => k = M) w wr)) (fun ii _ => K - (intOf ii).toNat)
  case atStart => exact ⟨0, by omega, rfl, HM0, Aside.refl _ _⟩
  case round =>
    obtain ⟨i, hi, rfl, Hm, Hb⟩ := hrel
    clear HM0 q3
    by_cases hlt : i < K
    · have f1 : decide ((i : Int) < (K : Int)) = true := by simp; omega
      have f1n : decide (i < K) = true := by simp; omega
      have j0 : (0 : Int) ≤ (i : Int) := by omega
      have j1 : (i : Int) < (K : Int) := by omega
      obtain ⟨y, hy⟩ : ∃ y, s.loose[i]? = some y := ⟨s.loose[i]'(by have := unhide HKK; omega), List.getElem?_eq_getElem (by have := unhide HKK; omega)⟩
      obtain ⟨g, c, hsl, hglt, hc, hrg, hyl, hys⟩ := (unhide HF).one hy
      simp only [Value.slice.injEq] at hsl
      obtain ⟨rfl, _, rfl⟩ := hsl
      have hgM : g ≠ M := fun e => (unhide HF).lM (by simp [Value.ownBlock, e])
      have HRg := hide (range_aside hrg (unhide Hb) hgM)
      have HSt : Hid (wr.heap[B]? = some (.cells [.int .i64 (s.safe.length : Int), .map (some T), .map (some M), .slice (some ⟨g, 0, none⟩) s.loose.length cl, .int .i64 s.left, .bool s.down].toArray 87 (0, 0))) := ((unhide Hb).block B (heap_lt (unhide HF).str) (unhide HF).bm).trans (unhide HF).str
      have Hy := hide hy
      have Hys := hide hys
      obtain ⟨n, b⟩ := y
      dsimp only at hyl HRg
      have HBL := hide hyl
      have hYs : (wone n b).toArray.size = 65 := by simp [wone_len hyl]
      have HY1 := hide (all_oneCell_toArray (wone_one n b))
      obtain ⟨Y, hY⟩ : ∃ y, (wone n b).toArray = y := ⟨_, rfl⟩
      rw [hY] at hYs HY1
      have HY := hide hY
      have HZ1 := hide (heap_alloc_new wr (.cells Z 109))
      have HW2 : Hid (((wr.alloc (.cells Z 109)).setRow wr.heap.size Y).heap[wr.heap.size]? = some (.cells Y 109 (0, 0)) ∧ Below wr.heap.size wr ((wr.alloc (.cells Z 109)).setRow wr.heap.size Y)) :=
        ⟨setRow_heap _ _ _ _ _ _ (unhide HZ1), below_setRow ((Below.refl _ _).alloc (Nat.le_refl _) _) (Nat.le_refl _) _⟩
      have hKc : K ≤ cl := by have := unhide HKK; omega
      obtain ⟨w2, hw2⟩ : ∃ x, (wr.alloc (.cells Z 109)).setRow wr.heap.size Y = x := ⟨_, rfl⟩
      rw [hw2] at HW2
      have HB2 : Hid (Below wr.heap.size wr w2) := (unhide HW2).2
      have HM2 := hide ((unhide Hm).below (unhide HB2))
      have HA2 : Hid (Aside (fun k => k = M) w w2) := (unhide Hb).trans (T := none_) (Aside.of_below (unhide HB2)) fun k _ h => h.elim
      have Hx2 := hide (unhide HX w2 (unhide HA2))
      clear hy hrg hyl hys hY hglt hc hgM
      by_cases hiP : i < P
      · have f2 : decide ((i : Int) < (P : Int)) = true := by simp; omega
        have f2n : decide (i < P) = true := by simp; omega
        have j2 : (i : Int) < (P : Int) := by omega
        obtain ⟨kk, hkk⟩ : ∃ kk, keep[i]? = some kk := ⟨keep[i]'(by have := unhide HP; omega), List.getElem?_eq_getElem (by have := unhide HP; omega)⟩
        obtain ⟨kb, ko, kc, ek, hkc, _, hkcell⟩ := ValsAt.cell (unhide Hx2) (by intro e; have h1 := congrArg List.length e; rw [List.length_map, unhide HP] at h1; simp at h1; omega)
        simp only [Value.slice.injEq] at ek
        obtain ⟨rfl, hPk, rfl⟩ := ek
        clear hPk
        have hcx : w2.cell? ⟨kb, ko + i, none⟩ = some (.bool kk) := by
          rw [hkcell i (by rw [List.length_map, unhide HP]; exact hiP)]
          simp [List.getD_eq_getElem?_getD, hkk]
        have hPc : P ≤ cx := by rw [List.length_map, unhide HP] at hkc; exact hkc
        have Hkk := hide hkk
        clear hkk hkcell hkc Hx2
        cases kk with
        | false =>
          have HM4 : Hid (MAt w2 M (keptF s keep (i + 1))) := (unhide HM2).congr fun k => kept_skip (unhide Hy) (Or.inl (unhide Hkk)) k
          clear HM2 HSt
          go_wp2_with (first
            | (refine wpList_load_mid rfl 109 _ rfl g (i * 65) rfl (wone n b) _ (unhide HRg) Tryz.underlying109 rfl (by rw [wone_len (unhide HBL)]; exact size_w) ?_
               rw [unhide HY])
            | (refine wpList_store_row rfl 109 _ _ rfl wr.heap.size Y rfl rfl 109 Z (unhide HZ1) (by rw [hYs]; exact size_w) (by rw [hYs, hZs]) (unhide HY1) ?_
               show wpList _ _ _ _ _ ((wr.alloc (.cells Z 109)).setRow wr.heap.size Y)
               rw [hw2]))
          refine ⟨⟨i + 1, by omega, ?_, HM4, HA2⟩, ?_⟩
          · simp
          · simp [intOf]; omega
        | true =>
          have HPut := hide fun w hm => put_c w M (keptF s keep i) hm n b (unhide HBL)
          have Hstep : Hid (∀ w', MAt w' M (upd (keptF s keep i) n b) → MAt w' M (keptF s keep (i + 1))) := fun w' h => h.congr fun k => kept_put (unhide Hy) (unhide Hkk) (unhide Hys) k
          unfold sv at HPut
          obtain ⟨X, hX⟩ : ∃ y, (b.map bv).toArray = y := ⟨_, rfl⟩
          rw [hX] at HPut
          have HXX := hide hX
          have HBM := hide (unhide HF).bm
          clear hX
          go_wp2_with (first
            | (refine wpList_load_mid rfl 109 _ rfl g (i * 65) rfl (wone n b) _ (unhide HRg) Tryz.underlying109 rfl (by rw [wone_len (unhide HBL)]; exact size_w) ?_
               rw [unhide HY])
            | (refine wpList_store_row rfl 109 _ _ rfl wr.heap.size Y rfl rfl 109 Z (unhide HZ1) (by rw [hYs]; exact size_w) (by rw [hYs, hZs]) (unhide HY1) ?_
               show wpList _ _ _ _ _ ((wr.alloc (.cells Z 109)).setRow wr.heap.size Y)
               rw [hw2]))
          obtain ⟨V, hV⟩ : ∃ x, wr.heap.size = x := ⟨_, rfl⟩
          have HVM : Hid (V ≠ M) := by have := (unhide Hm).lt; show V ≠ M; omega
          have HC2 : Hid (w2.cell? ⟨B, 2, none⟩ = some (.map (some M)) ∧ w2.cell? ⟨V, 0, none⟩ = some (.int .i64 (n : Int)) ∧ w2.rangeAt V 1 (b.map bv)) := by
            have h1 := unhide HSt
            rw [← (unhide HB2).block B (heap_lt h1)] at h1
            have h2 := (unhide HW2).1
            rw [← unhide HY, hV] at h2
            exact ⟨row_cell h1 2 _ rfl, range_head (range_of_row h2), range_tail (range_of_row h2)⟩
          rw [hV]
          clear HSt hV hw2 HW2 HZ1 HY1 hYs hZs hzv HRg Hm Hb HB2
          refine wp_region_held_drew (S := fun w' => w'.cell? ⟨B, 2, none⟩ = some (.map (some M)) ∧ w'.cell? ⟨V, 0, none⟩ = some (.int .i64 (n : Int)) ∧ w'.rangeAt V 1 (b.map bv)) (by kernel_rfl) (unhide HC2) (fun hHeld => ?_)
          refine wpAnyH_take (i := 0) (oi := { dst := some 28, op := Op.move (Operand.tmp 0), type := 26, pos := "plate.go:91", after := #[], guard := none }) (v := ?_) rfl (by kernel_rfl) (by kernel_rfl) (by kernel_rfl) (fun _ _ _ h => h) (Or.inl ⟨by rfl, ?c1⟩) (by assumption) ?_
          case c1 => (intro w_ hSw; obtain ⟨p1, pn, pv⟩ := hSw; go_simp; try with_reducible rfl)
          simp only [Act.put, List.setIfInBounds_toArray, List.set_cons_zero, List.set_cons_succ]
          refine wpAnyH_take (i := 1) (oi := { dst := some 29, op := Op.nilCheck (Operand.tmp 28), type := 0, pos := "plate.go:91", after := #[{ on := 0, ground := Ground.data }], guard := none }) (v := ?_) rfl (by kernel_rfl) (by kernel_rfl) (by kernel_rfl) (fun _ _ _ h => h) (Or.inl ⟨by rfl, ?c2⟩) (by assumption) ?_
          case c2 => (intro w_ hSw; obtain ⟨p1, pn, pv⟩ := hSw; go_simp; try with_reducible rfl)
          simp only [Act.put, List.setIfInBounds_toArray, List.set_cons_zero, List.set_cons_succ]
          refine wpAnyH_take (i := 2) (oi := { dst := some 30, op := Op.fieldAddr 87 (Operand.tmp 29) 2, type := 0, pos := "plate.go:91", after := #[{ on := 1, ground := Ground.data }], guard := none }) (v := ?_) rfl (by kernel_rfl) (by kernel_rfl) (by kernel_rfl) (fun _ _ _ h => h) (Or.inl ⟨by rfl, ?c3⟩) (by assumption) ?_
          case c3 => (intro w_ hSw; obtain ⟨p1, pn, pv⟩ := hSw; go_simp; try with_reducible rfl)
          simp only [Act.put, List.setIfInBounds_toArray, List.set_cons_zero, List.set_cons_succ]
          refine wpAnyH_take (i := 3) (oi := { dst := some 31, op := Op.load 84 (Operand.tmp 30), type := 84, pos := "plate.go:91", after := #[{ on := 2, ground := Ground.data }], guard := none }) (v := ?_) rfl (by kernel_rfl) (by kernel_rfl) (by kernel_rfl) (fun _ _ _ h => h) (Or.inl ⟨by rfl, ?c4⟩) (by assumption) ?_
          case c4 => (intro w_ hSw; obtain ⟨p1, pn, pv⟩ := hSw; go_simp; try with_reducible rfl)
          simp only [Act.put, List.setIfInBounds_toArray, List.set_cons_zero, List.set_cons_succ]
          refine wpAnyH_take (i := 4) (oi := { dst := some 32, op := Op.fieldAddr 109 (Operand.tmp 5) 0, type := 0, pos := "plate.go:91", after := #[], guard := none }) (v := ?_) rfl (by kernel_rfl) (by kernel_rfl) (by kernel_rfl) (fun _ _ _ h => h) (Or.inl ⟨by rfl, ?c5⟩) (by assumption) ?_
          case c5 => (intro w_ hSw; obtain ⟨p1, pn, pv⟩ := hSw; go_simp; try with_reducible rfl)
          simp only [Act.put, List.setIfInBounds_toArray, List.set_cons_zero, List.set_cons_succ]
          refine wpAnyH_take (i := 5) (oi := { dst := some 33, op := Op.load 3 (Operand.tmp 32), type := 3, pos := "plate.go:91", after := #[{ on := 4, ground := Ground.data }], guard := none }) (v := ?_) rfl (by kernel_rfl) (by kernel_rfl) (by kernel_rfl) (fun _ _ _ h => h) (Or.inl ⟨by rfl, ?c6⟩) (by assumption) ?_
          case c6 => (intro w_ hSw; obtain ⟨p1, pn, pv⟩ := hSw; go_simp; try with_reducible rfl)
          simp only [Act.put, List.setIfInBounds_toArray, List.set_cons_zero, List.set_cons_succ]
          refine wpAnyH_take (i := 6) (oi := { dst := some 34, op := Op.fieldAddr 109 (Operand.tmp 5) 1, type := 0, pos := "plate.go:91", after := #[], guard := none }) (v := ?_) rfl (by kernel_rfl) (by kernel_rfl) (by kernel_rfl) (fun _ _ _ h => h) (Or.inl ⟨by rfl, ?c7⟩) (by assumption) ?_
          case c7 => (intro w_ hSw; obtain ⟨p1, pn, pv⟩ := hSw; go_simp; try with_reducible rfl)
          simp only [Act.put, List.setIfInBounds_toArray, List.set_cons_zero, List.set_cons_succ]
          refine wpAnyH_take (i := 7) (oi := { dst := some 35, op := Op.load 107 (Operand.tmp 34), type := 107, pos := "plate.go:91", after := #[{ on := 6, ground := Ground.data }], guard := none }) (v := .agg (b.map bv).toArray) rfl (by kernel_rfl) (by kernel_rfl) (by kernel_rfl) (fun _ _ _ h => h) (yieldsIf_load_mid (by rfl) 107 _ rfl V 1 rfl (b.map bv) _ (fun w_ hSw => hSw.2.2) Tryz.underlying107 rfl (by rw [List.length_map, unhide HBL]; exact size_sector)) (by assumption) ?_
          simp only [Act.put, List.setIfInBounds_toArray, List.set_cons_zero, List.set_cons_succ]
          rw [unhide HXX]
          refine wpAnyH_ready (rs := [8]) (by kernel_rfl) (by simp) ?_
          refine AllReadyH.cons (o := { dst := some 36, op := Op.call { callee := Callee.value (Operand.func 53), args := #[Operand.tmp 31, Operand.tmp 33, Operand.tmp 35], argTypes := #[84, 3, 107] }, type := 0, pos := "plate.go:91", after := #[{ on := 3, ground := Ground.data }, { on := 5, ground := Ground.data }, { on := 7, ground := Ground.data }], guard := none }) rfl (fun K_ hK_ => ?_) AllReadyH.nil
          go_simp
          go_at_call 53
          refine (unhide HPut w2.drew (unhide HM2)).mono ?_
          rintro e w3 ⟨rfl, hm3, ha3⟩
          have HM3 := hide hm3
          have ha3' := Aside.of_drew ha3
          have HA3 := hide ((unhide HA2).trans ha3' fun k _ h => h)
          have HC3 : Hid (w3.cell? ⟨B, 2, none⟩ = some (.map (some M)) ∧ w3.cell? ⟨V, 0, none⟩ = some (.int .i64 (n : Int)) ∧ w3.rangeAt V 1 (b.map bv)) := ⟨cell_aside (unhide HC2).1 ha3' (unhide HBM), cell_aside (unhide HC2).2.1 ha3' (unhide HVM), range_aside (unhide HC2).2.2 ha3' (unhide HVM)⟩
          clear hm3 ha3 ha3'
          go_simp
          refine hK_.out _ _ (unhide HC3) (fun hHeld => ?_)
          clear hK_ K_
          (try simp only [Act.put, List.setIfInBounds_toArray, List.set_cons_zero, List.set_cons_succ])
          clear HC3
          refine wpAnyH_done (by kernel_rfl) ?_ _
          have HM4 := hide (unhide Hstep w3 (unhide HM3))
          clear HM3 hHeld HPut HC2 HM2
          go_wp2
          refine ⟨⟨i + 1, by omega, ?_, HM4, HA3⟩, ?_⟩
          · simp
          · simp [intOf]; omega
      · have f2 : decide ((i : Int) < (P : Int)) = false := by simp; omega
        have f2n : decide (i < P) = false := by simp; omega
        have j2 : ¬ (i : Int) < (P : Int) := by omega
        have HM4 : Hid (MAt w2 M (keptF s keep (i + 1))) := (unhide HM2).congr fun k => kept_skip (unhide Hy) (Or.inr (by have := unhide HP; omega)) k
        clear HM2 HSt Hx2
        go_wp2_with (first
          | (refine wpList_load_mid rfl 109 _ rfl g (i * 65) rfl (wone n b) _ (unhide HRg) Tryz.underlying109 rfl (by rw [wone_len (unhide HBL)]; exact size_w) ?_
             rw [unhide HY])
          | (refine wpList_store_row rfl 109 _ _ rfl wr.heap.size Y rfl rfl 109 Z (unhide HZ1) (by rw [hYs]; exact size_w) (by rw [hYs, hZs]) (unhide HY1) ?_
             show wpList _ _ _ _ _ ((wr.alloc (.cells Z 109)).setRow wr.heap.size Y)
             rw [hw2]))
        refine ⟨⟨i + 1, by omega, ?_, HM4, HA2⟩, ?_⟩
        · simp
        · simp [intOf]; omega
    · obtain rfl : i = K := by omega
      have f1 : decide ((i : Int) < (i : Int)) = false := by simp
      have HM1 : Hid (MAt wr M fun k => (applyL s.safe (keptL s.loose keep)).getD k zeros) := (unhide Hm).congr (kept_all (by have := unhide HKK; omega))
      have hstr := ((unhide Hb).block B (heap_lt (unhide HF).str) (unhide HF).bm).trans (unhide HF).str
      have q3 := row_cell hstr 3 _ rfl
      rw [show s.loose.length = i from unhide HKK] at q3
      have HB1 : Hid (Aside (fun k => k = M ∨ k = T) w wr) := (unhide Hb).mono fun k _ h => Or.inl h
      have HT1 : Hid (MAt wr T (mixF (fun k => (applyL s.safe (keptL s.loose keep)).getD k zeros) (fun k => (applyL s.safe s.loose).getD k zeros) (s.loose.take 0))) := ((unhide HF).there.aside (unhide Hb) (unhide HF).tm).congr fun k => rfl
      rename World => wo
      clear hstr Hm Hb HX hi hlt
      go_wp2
      go_loopw [43] (fun ii wr => ∃ j : Nat, j ≤ i ∧ ii = .int .i64 (j : Int) ∧ Hid (MAt wr M fun k => (applyL s.safe (keptL s.loose keep)).getD k zeros) ∧ Hid (MAt wr T (mixF (fun k => (applyL s.safe (keptL s.loose keep)).getD k zeros) (fun k => (applyL s.safe s.loose).getD k zeros) (s.loose.take j))) ∧ Hid (Aside (fun k => k = M ∨ k = T) w wr)) (fun ii _ => i - (intOf ii).toNat)
      case atStart => exact ⟨0, by omega, rfl, HM1, HT1, HB1⟩
      case round =>
        obtain ⟨j, hj, rfl, Hm, Ht, Hb⟩ := hrel
        clear HM1 HT1 HB1 q3
        by_cases hlt : j < i
        · have f1 : decide ((j : Int) < (i : Int)) = true := by simp; omega
          have f1n : decide (j < i) = true := by simp; omega
          have j0 : (0 : Int) ≤ (j : Int) := by omega
          have j1 : (j : Int) < (i : Int) := by omega
          obtain ⟨y, hy⟩ : ∃ y, s.loose[j]? = some y := ⟨s.loose[j]'(by have := unhide HKK; omega), List.getElem?_eq_getElem (by have := unhide HKK; omega)⟩
          obtain ⟨g, c, hsl, hglt, hc, hrg, hyl, hys⟩ := (unhide HF).one hy
          simp only [Value.slice.injEq] at hsl
          obtain ⟨rfl, _, rfl⟩ := hsl
          have hgM : ¬ (g = M ∨ g = T) := by
            rintro (e | e)
            · exact (unhide HF).lM (by simp [Value.ownBlock, e])
            · exact (unhide HF).lT (by simp [Value.ownBlock, e])
          have HRg := hide (range_aside hrg (unhide Hb) hgM)
          have HSt : Hid (wr.heap[B]? = some (.cells [.int .i64 (s.safe.length : Int), .map (some T), .map (some M), .slice (some ⟨g, 0, none⟩) s.loose.length cl, .int .i64 s.left, .bool s.down].toArray 87 (0, 0))) := ((unhide Hb).block B (heap_lt (unhide HF).str) (fun h => h.elim (unhide HF).bm (unhide HF).bt)).trans (unhide HF).str
          have Hstep : Hid (∀ w', MAt w' T (upd (mixF (fun k => (applyL s.safe (keptL s.loose keep)).getD k zeros) (fun k => (applyL s.safe s.loose).getD k zeros) (s.loose.take j)) y.1 ((applyL s.safe (keptL s.loose keep)).getD y.1 zeros)) → MAt w' T (mixF (fun k => (applyL s.safe (keptL s.loose keep)).getD k zeros) (fun k => (applyL s.safe s.loose).getD k zeros) (s.loose.take (j + 1)))) := fun w' h => by
            rw [take_next hy]
            exact h.congr fun k => mix_step (fun k => (applyL s.safe (keptL s.loose keep)).getD k zeros) (fun k => (applyL s.safe s.loose).getD k zeros) _ y k
          obtain ⟨n, b⟩ := y
          dsimp only at hyl Hstep HRg
          have HBL := hide hyl
          have hYs : (wone n b).toArray.size = 65 := by simp [wone_len hyl]
          have HY1 := hide (all_oneCell_toArray (wone_one n b))
          obtain ⟨Y, hY⟩ : ∃ y, (wone n b).toArray = y := ⟨_, rfl⟩
          rw [hY] at hYs HY1
          have HY := hide hY
          have HZ1 := hide (heap_alloc_new wr (.cells Z 109))
          have HW2 : Hid (((wr.alloc (.cells Z 109)).setRow wr.heap.size Y).heap[wr.heap.size]? = some (.cells Y 109 (0, 0)) ∧ Below wr.heap.size wr ((wr.alloc (.cells Z 109)).setRow wr.heap.size Y)) :=
            ⟨setRow_heap _ _ _ _ _ _ (unhide HZ1), below_setRow ((Below.refl _ _).alloc (Nat.le_refl _) _) (Nat.le_refl _) _⟩
          obtain ⟨b2, hb2⟩ : ∃ y, (applyL s.safe (keptL s.loose keep)).getD n zeros = y := ⟨_, rfl⟩
          rw [hb2] at Hstep
          have hb2l : b2.length = 64 := by rw [← hb2]; exact (unhide Hm).len n
          have Hlk : Hid (∀ w', MAt w' M (fun k => (applyL s.safe (keptL s.loose keep)).getD k zeros) → (Instr.lookup 84 (.map (some M)) (.int .i64 (n : Int)) false).run Tryz.prog w' = .ok (.agg (b2.map bv).toArray) w') := fun w' h => by
            have := h.look n
            (try dsimp only at this)
            rw [hb2] at this
            exact this
          have HPut := hide fun w hm => put_c w T (mixF (fun k => (applyL s.safe (keptL s.loose keep)).getD k zeros) (fun k => (applyL s.safe s.loose).getD k zeros) (s.loose.take j)) hm n b2 hb2l
          unfold sv at HPut
          obtain ⟨X, hX⟩ : ∃ y, (b2.map bv).toArray = y := ⟨_, rfl⟩
          rw [hX] at HPut Hlk
          have hKc : i ≤ cl := by have := unhide HKK; omega
          clear hy hrg hyl hys hY hX hb2 hb2l hglt hc hgM
          go_wp2_with (first
            | (refine wpList_load_mid rfl 109 _ rfl g (j * 65) rfl (wone n b) _ (unhide HRg) Tryz.underlying109 rfl (by rw [wone_len (unhide HBL)]; exact size_w) ?_
               rw [unhide HY])
            | (refine wpList_store_row rfl 109 _ _ rfl wr.heap.size Y rfl rfl 109 Z (unhide HZ1) (by rw [hYs]; exact size_w) (by rw [hYs, hZs]) (unhide HY1) ?_))
          obtain ⟨w2, hw2⟩ : ∃ x, (wr.alloc (.cells Z 109)).setRow wr.heap.size Y = x := ⟨_, rfl⟩
          rw [hw2] at HW2 ⊢
          obtain ⟨V, hV⟩ : ∃ x, wr.heap.size = x := ⟨_, rfl⟩
          rw [hV] at HW2 ⊢
          have HB2 : Hid (Below wr.heap.size wr w2) := by show Below _ _ _; rw [hV]; exact (unhide HW2).2
          have HVM : Hid (V ≠ T) := by have := (unhide Ht).lt; show V ≠ T; omega
          have HC2 : Hid (w2.cell? ⟨B, 1, none⟩ = some (.map (some T)) ∧ w2.cell? ⟨V, 0, none⟩ = some (.int .i64 (n : Int)) ∧ w2.cell? ⟨B, 2, none⟩ = some (.map (some M)) ∧ MAt w2 M fun k => (applyL s.safe (keptL s.loose keep)).getD k zeros) := by
            have h1 := unhide HSt
            rw [← (unhide HB2).block B (heap_lt h1)] at h1
            have h2 := (unhide HW2).1
            rw [← unhide HY] at h2
            exact ⟨row_cell h1 1 _ rfl, range_head (range_of_row h2), row_cell h1 2 _ rfl, (unhide Hm).below (unhide HB2)⟩
          have HM2 := hide ((unhide Ht).below (unhide HB2))
          have HA2 : Hid (Aside (fun k => k = M ∨ k = T) w w2) := (unhide Hb).trans (T := none_) (Aside.of_below (unhide HB2)) fun k _ h => h.elim
          have HBM := hide (unhide HF).bt
          have HTM : Hid (M ≠ T) := fun e => (unhide HF).tm e.symm
          clear hw2 hV HW2 HZ1 HY1 hYs hZs hzv HRg HSt Hm Hb Ht HB2
          refine wp_region_held_drew (S := fun w' => w'.cell? ⟨B, 1, none⟩ = some (.map (some T)) ∧ w'.cell? ⟨V, 0, none⟩ = some (.int .i64 (n : Int)) ∧ w'.cell? ⟨B, 2, none⟩ = some (.map (some M)) ∧ MAt w' M (fun k => (applyL s.safe (keptL s.loose keep)).getD k zeros)) (by kernel_rfl) (unhide HC2) (fun hHeld => ?_)
          refine wpAnyH_take (i := 0) (oi := { dst := some 47, op := Op.move (Operand.tmp 0), type := 26, pos := "plate.go:95", after := #[], guard := none }) (v := ?_) rfl (by kernel_rfl) (by kernel_rfl) (by kernel_rfl) (fun _ _ _ h => h) (Or.inl ⟨by rfl, ?r1⟩) (by assumption) ?_
          case r1 => (intro w_ hSw; obtain ⟨p2, pn, p1, pm⟩ := hSw; go_simp; try with_reducible rfl)
          simp only [Act.put, List.setIfInBounds_toArray, List.set_cons_zero, List.set_cons_succ]
          refine wpAnyH_take (i := 1) (oi := { dst := some 48, op := Op.nilCheck (Operand.tmp 47), type := 0, pos := "plate.go:95", after := #[{ on := 0, ground := Ground.data }], guard := none }) (v := ?_) rfl (by kernel_rfl) (by kernel_rfl) (by kernel_rfl) (fun _ _ _ h => h) (Or.inl ⟨by rfl, ?r2⟩) (by assumption) ?_
          case r2 => (intro w_ hSw; obtain ⟨p2, pn, p1, pm⟩ := hSw; go_simp; try with_reducible rfl)
          simp only [Act.put, List.setIfInBounds_toArray, List.set_cons_zero, List.set_cons_succ]
          refine wpAnyH_take (i := 2) (oi := { dst := some 49, op := Op.fieldAddr 87 (Operand.tmp 48) 1, type := 0, pos := "plate.go:95", after := #[{ on := 1, ground := Ground.data }], guard := none }) (v := ?_) rfl (by kernel_rfl) (by kernel_rfl) (by kernel_rfl) (fun _ _ _ h => h) (Or.inl ⟨by rfl, ?r3⟩) (by assumption) ?_
          case r3 => (intro w_ hSw; obtain ⟨p2, pn, p1, pm⟩ := hSw; go_simp; try with_reducible rfl)
          simp only [Act.put, List.setIfInBounds_toArray, List.set_cons_zero, List.set_cons_succ]
          refine wpAnyH_take (i := 3) (oi := { dst := some 50, op := Op.load 84 (Operand.tmp 49), type := 84, pos := "plate.go:95", after := #[{ on := 2, ground := Ground.data }], guard := none }) (v := ?_) rfl (by kernel_rfl) (by kernel_rfl) (by kernel_rfl) (fun _ _ _ h => h) (Or.inl ⟨by rfl, ?r4⟩) (by assumption) ?_
          case r4 => (intro w_ hSw; obtain ⟨p2, pn, p1, pm⟩ := hSw; go_simp; try with_reducible rfl)
          simp only [Act.put, List.setIfInBounds_toArray, List.set_cons_zero, List.set_cons_succ]
          refine wpAnyH_take (i := 4) (oi := { dst := some 51, op := Op.fieldAddr 109 (Operand.tmp 7) 0, type := 0, pos := "plate.go:95", after := #[], guard := none }) (v := ?_) rfl (by kernel_rfl) (by kernel_rfl) (by kernel_rfl) (fun _ _ _ h => h) (Or.inl ⟨by rfl, ?r5⟩) (by assumption) ?_
          case r5 => (intro w_ hSw; obtain ⟨p2, pn, p1, pm⟩ := hSw; go_simp; try with_reducible rfl)
          simp only [Act.put, List.setIfInBounds_toArray, List.set_cons_zero, List.set_cons_succ]
          refine wpAnyH_take (i := 5) (oi := { dst := some 52, op := Op.load 3 (Operand.tmp 51), type := 3, pos := "plate.go:95", after := #[{ on := 4, ground := Ground.data }], guard := none }) (v := ?_) rfl (by kernel_rfl) (by kernel_rfl) (by kernel_rfl) (fun _ _ _ h => h) (Or.inl ⟨by rfl, ?r6⟩) (by assumption) ?_
          case r6 => (intro w_ hSw; obtain ⟨p2, pn, p1, pm⟩ := hSw; go_simp; try with_reducible rfl)
          simp only [Act.put, List.setIfInBounds_toArray, List.set_cons_zero, List.set_cons_succ]
          refine wpAnyH_take (i := 6) (oi := { dst := some 53, op := Op.move (Operand.tmp 0), type := 26, pos := "plate.go:95", after := #[], guard := none }) (v := ?_) rfl (by kernel_rfl) (by kernel_rfl) (by kernel_rfl) (fun _ _ _ h => h) (Or.inl ⟨by rfl, ?r7⟩) (by assumption) ?_
          case r7 => (intro w_ hSw; obtain ⟨p2, pn, p1, pm⟩ := hSw; go_simp; try with_reducible rfl)
          simp only [Act.put, List.setIfInBounds_toArray, List.set_cons_zero, List.set_cons_succ]
          refine wpAnyH_take (i := 7) (oi := { dst := some 54, op := Op.nilCheck (Operand.tmp 53), type := 0, pos := "plate.go:95", after := #[{ on := 6, ground := Ground.data }], guard := none }) (v := ?_) rfl (by kernel_rfl) (by kernel_rfl) (by kernel_rfl) (fun _ _ _ h => h) (Or.inl ⟨by rfl, ?r8⟩) (by assumption) ?_
          case r8 => (intro w_ hSw; obtain ⟨p2, pn, p1, pm⟩ := hSw; go_simp; try with_reducible rfl)
          simp only [Act.put, List.setIfInBounds_toArray, List.set_cons_zero, List.set_cons_succ]
          refine wpAnyH_take (i := 8) (oi := { dst := some 55, op := Op.fieldAddr 87 (Operand.tmp 54) 2, type := 0, pos := "plate.go:95", after := #[{ on := 7, ground := Ground.data }], guard := none }) (v := ?_) rfl (by kernel_rfl) (by kernel_rfl) (by kernel_rfl) (fun _ _ _ h => h) (Or.inl ⟨by rfl, ?r9⟩) (by assumption) ?_
          case r9 => (intro w_ hSw; obtain ⟨p2, pn, p1, pm⟩ := hSw; go_simp; try with_reducible rfl)
          simp only [Act.put, List.setIfInBounds_toArray, List.set_cons_zero, List.set_cons_succ]
          refine wpAnyH_take (i := 9) (oi := { dst := some 56, op := Op.load 84 (Operand.tmp 55), type := 84, pos := "plate.go:95", after := #[{ on := 8, ground := Ground.data }], guard := none }) (v := ?_) rfl (by kernel_rfl) (by kernel_rfl) (by kernel_rfl) (fun _ _ _ h => h) (Or.inl ⟨by rfl, ?r10⟩) (by assumption) ?_
          case r10 => (intro w_ hSw; obtain ⟨p2, pn, p1, pm⟩ := hSw; go_simp; try with_reducible rfl)
          simp only [Act.put, List.setIfInBounds_toArray, List.set_cons_zero, List.set_cons_succ]
          refine wpAnyH_take (i := 10) (oi := { dst := some 57, op := Op.fieldAddr 109 (Operand.tmp 7) 0, type := 0, pos := "plate.go:95", after := #[], guard := none }) (v := ?_) rfl (by kernel_rfl) (by kernel_rfl) (by kernel_rfl) (fun _ _ _ h => h) (Or.inl ⟨by rfl, ?r11⟩) (by assumption) ?_
          case r11 => (intro w_ hSw; obtain ⟨p2, pn, p1, pm⟩ := hSw; go_simp; try with_reducible rfl)
          simp only [Act.put, List.setIfInBounds_toArray, List.set_cons_zero, List.set_cons_succ]
          refine wpAnyH_take (i := 11) (oi := { dst := some 58, op := Op.load 3 (Operand.tmp 57), type := 3, pos := "plate.go:95", after := #[{ on := 10, ground := Ground.data }], guard := none }) (v := ?_) rfl (by kernel_rfl) (by kernel_rfl) (by kernel_rfl) (fun _ _ _ h => h) (Or.inl ⟨by rfl, ?r12⟩) (by assumption) ?_
          case r12 => (intro w_ hSw; obtain ⟨p2, pn, p1, pm⟩ := hSw; go_simp; try with_reducible rfl)
          simp only [Act.put, List.setIfInBounds_toArray, List.set_cons_zero, List.set_cons_succ]
          refine wpAnyH_take (i := 12) (oi := { dst := some 59, op := Op.lookup 84 (Operand.tmp 56) (Operand.tmp 58) false, type := 107, pos := "plate.go:95", after := #[{ on := 9, ground := Ground.data }, { on := 11, ground := Ground.data }], guard := none }) (v := .agg X) rfl (by kernel_rfl) (by kernel_rfl) (by kernel_rfl) (fun _ _ _ h => h) (Or.inl ⟨by rfl, ?r13⟩) (by assumption) ?_
          case r13 => (intro w_ hSw; have hlk := unhide Hlk w_ hSw.2.2.2; go_simp; try with_reducible rfl)
          simp only [Act.put, List.setIfInBounds_toArray, List.set_cons_zero, List.set_cons_succ]
          refine wpAnyH_ready (rs := [13]) (by kernel_rfl) (by simp) ?_
          refine AllReadyH.cons (o := { dst := some 60, op := Op.call { callee := Callee.value (Operand.func 53), args := #[Operand.tmp 50, Operand.tmp 52, Operand.tmp 59], argTypes := #[84, 3, 107] }, type := 0, pos := "plate.go:95", after := #[{ on := 3, ground := Ground.data }, { on := 5, ground := Ground.data }, { on := 12, ground := Ground.data }], guard := none }) rfl (fun K_ hK_ => ?_) AllReadyH.nil
          go_simp
          go_at_call 53
          refine (unhide HPut w2.drew (unhide HM2)).mono ?_
          rintro e w3 ⟨rfl, hm3, ha3⟩
          have HM3 := hide hm3
          have ha3' := Aside.of_drew ha3
          have HA3 := hide ((unhide HA2).trans ha3' fun k _ h => Or.inr h)
          have HC3 : Hid (w3.cell? ⟨B, 1, none⟩ = some (.map (some T)) ∧ w3.cell? ⟨V, 0, none⟩ = some (.int .i64 (n : Int)) ∧ w3.cell? ⟨B, 2, none⟩ = some (.map (some M)) ∧ MAt w3 M (fun k => (applyL s.safe (keptL s.loose keep)).getD k zeros)) := ⟨cell_aside (unhide HC2).1 ha3' (unhide HBM), cell_aside (unhide HC2).2.1 ha3' (unhide HVM), cell_aside (unhide HC2).2.2.1 ha3' (unhide HBM), (unhide HC2).2.2.2.aside ha3' (unhide HTM)⟩
          clear hm3 ha3 ha3'
          go_simp
          refine hK_.out _ _ (unhide HC3) (fun hHeld => ?_)
          clear hK_ K_
          (try simp only [Act.put, List.setIfInBounds_toArray, List.set_cons_zero, List.set_cons_succ])
          refine wpAnyH_done (by kernel_rfl) ?_ _
          have HM4 := hide (unhide Hstep w3 (unhide HM3))
          have HMm := hide (unhide HC3).2.2.2
          clear HM3 hHeld HPut Hlk HC2 HM2 HC3
          go_wp2
          refine ⟨⟨j + 1, by omega, ?_, HMm, HM4, HA3⟩, ?_⟩
          · simp
          · simp [intOf]; omega
        · obtain rfl : j = i := by omega
          have f1 : decide ((j : Int) < (j : Int)) = false := by simp
          rw [← unhide HKK, List.take_length] at Ht
          have hstr := ((unhide Hb).block B (heap_lt (unhide HF).str) (fun h => h.elim (unhide HF).bm (unhide HF).bt)).trans (unhide HF).str
          have c3 := row_cell hstr 3 _ rfl
          have z3 := row_frozen hstr 3
          have hs1 := row_put hstr 3 (by simp) (.slice none 0 0)
          have hg1 := setCell_grown (w := wr) B 3 (.slice none 0 0)
          obtain ⟨w2, hw2⟩ : ∃ z, wr.setCell ⟨B, 3, none⟩ (.slice none 0 0) = z := ⟨_, rfl⟩
          rw [hw2] at hs1 hg1
          have c4 := row_cell hs1 4 _ rfl
          have z4 := row_frozen hs1 4
          have hs2 := row_put hs1 4 (by simp) (.int .i64 (-1))
          have hg2 := setCell_grown (w := w2) B 4 (.int .i64 (-1))
          obtain ⟨w3, hw3⟩ : ∃ z, w2.setCell ⟨B, 4, none⟩ (.int .i64 (-1)) = z := ⟨_, rfl⟩
          rw [hw3] at hs2 hg2
          have c5 := row_cell hs2 5 _ rfl
          have z5 := row_frozen hs2 5
          have hs3 := row_put hs2 5 (by simp) (.bool false)
          have hg3 := setCell_grown (w := w3) B 5 (.bool false)
          obtain ⟨w4, hw4⟩ : ∃ z, w3.setCell ⟨B, 5, none⟩ (.bool false) = z := ⟨_, rfl⟩
          rw [hw4] at hs3 hg3
          have HEnd := hide (revive_end (R := R) (unhide HS) (unhide HF) (unhide Hb) (unhide Hm) (unhide Ht) (grown_trans (grown_trans hg1 hg2) hg3) hs3)
          clear hstr hs1 hs2 hs3 hg1 hg2 hg3 Hm Hb Ht hzv hZs hne
          go_wp2
          (try simp only [Exit.inBlock, Exit.then])
          refine bodyPost_end (results_none rfl _ _ _) rfl ?_
          exact ⟨rfl, unhide HEnd⟩
end Go.Proofs.YtbjgknoipbekoaaGreat
