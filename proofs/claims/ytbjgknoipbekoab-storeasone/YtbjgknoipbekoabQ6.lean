/-
  The landed plate's Sync, walked.
  Nothing here.
  The landed plate keeps the record.
  The walks of the landed addNumber (onto nothing), withLength and head.sector.
-/
import Derived.Test.YtbjgknoipbekoabQ5
import Derived.Test.YtbjgknoipbekoabQ3
namespace Go.Proofs.Ytbjgknoipbekoab
open Go.RowKit
/-- f at the places of l, g elsewhere. -/
def mixF (f g : Nat → Bs) (l : List (Nat × Bs)) : Nat → Bs := fun k => if l.any (fun x => x.1 == k) then f k else g k
theorem mix_nil (f g : Nat → Bs) (k : Nat) : mixF f g [] k = g k := rfl
theorem mix_step (f g : Nat → Bs) (l : List (Nat × Bs)) (x : Nat × Bs) (k : Nat) : upd (mixF f g l) x.1 (f x.1) k = mixF f g (l ++ [x]) k := by
  unfold upd mixF
  rw [List.any_append]
  by_cases h : k = x.1
  · subst h; simp
  · rw [if_neg h]
    have h2 : ([x].any fun y => y.1 == k) = false := by simp; exact fun e => h e.symm
    rw [h2, Bool.or_false]
theorem apply_out : ∀ {l : List (Nat × Bs)} {sf : List Bs} {k : Nat}, (l.any fun x => x.1 == k) = false → (applyL sf l).getD k zeros = sf.getD k zeros
  | [], _, _, _ => rfl
  | x :: l, sf, k, h => by
    simp only [List.any_cons, Bool.or_eq_false_iff] at h
    have h1 : x.1 ≠ k := by simpa using h.1
    have : applyL sf (x :: l) = applyL (sf.set x.1 x.2) l := rfl
    rw [this, apply_out h.2, List.getD_eq_getElem?_getD, List.getD_eq_getElem?_getD, List.getElem?_set_ne h1]
theorem mix_end {f g : Nat → Bs} {l : List (Nat × Bs)} (h : ∀ k, (l.any fun x => x.1 == k) = false → f k = g k) (k : Nat) : mixF f g l k = f k := by
  unfold mixF
  cases hc : (l.any fun x => x.1 == k)
  · simp [h k hc]
  · simp
/-- One of the writes, where it lies. -/
theorem PForm.one {B T M : Nat} {w : World} {lv : Value} {s : PS} (h : PForm B T M w lv s) {i : Nat} {y : Nat × Bs} (hy : s.loose[i]? = some y) : ∃ g c, lv = .slice (some ⟨g, 0, none⟩) s.loose.length c ∧ g < w.heap.size ∧ s.loose.length ≤ c ∧ w.rangeAt g (i * 65) (wone y.1 y.2) ∧ y.2.length = 64 ∧ y.1 < s.safe.length := by
  have hi := (List.getElem?_eq_some_iff.1 hy).1
  obtain ⟨g, c, e, _, hlt, hc, hcells⟩ := h.own.at (by omega)
  have hall : ∀ x ∈ s.loose, x.2.length = 64 := fun x hx => (h.ok.loose x hx).2
  have hy2 := h.ok.loose y (List.mem_of_getElem? hy)
  refine ⟨g, c, e, hlt, hc, fun j v hv => ?_, hy2.2, hy2.1⟩
  have hj : j < 65 := by have := (List.getElem?_eq_some_iff.1 hv).1; rwa [wone_len hy2.2] at this
  have := hcells (i * 65 + j) v (by rw [wcells_at hall hy j hj]; exact hv)
  rwa [Nat.zero_add] at this
theorem take_next {l : List (Nat × Bs)} {i : Nat} {y : Nat × Bs} (h : l[i]? = some y) : l.take (i + 1) = l.take i ++ [y] := by rw [List.take_add_one, h]; rfl
theorem PForm.none {B T M : Nat} {w w' : World} {lv : Value} {s : PS} (h : PForm B T M w lv s) (hb : Aside (fun k => k = B) w w') (sf : List Bs) (hl : sf.length = s.safe.length) (h1 : ∀ k, (applyL s.safe s.loose).getD k zeros = sf.getD k zeros) (h2 : ∀ k, s.safe.getD k zeros = sf.getD k zeros) (L : Int) (d : Bool) (hok : (⟨sf, [], L, d⟩ : PS).Ok)
    (hs : w'.heap[B]? = some (.cells [.int .i64 (s.safe.length : Int), .map (some T), .map (some M), .slice none 0 0, .int .i64 L, .bool d].toArray 47 (0, 0))) : PForm B T M w' (.slice none 0 0) ⟨sf, [], L, d⟩ :=
  ⟨by show w'.heap[B]? = some (Obj.cells [.int .i64 (sf.length : Int), _, _, _, _, _].toArray _ _); rw [hl]; exact hs, (h.there.aside hb fun e => h.bt e.symm).congr h1, (h.safe.aside hb fun e => h.bm e.symm).congr h2, ownn_nil _ _ _ _, h.bt, h.bm, h.tm, by simp [Value.ownBlock], by simp [Value.ownBlock], by simp [Value.ownBlock], hok⟩
/-- What is behind Sync's last store. -/
theorem sync_end {S R : Set_} {B T M : Nat} {w w1 wr : World} {lv : Value} {s : PS} (hS : ∀ k, S k ↔ (k = B ∨ k = T ∨ k = M ∨ lv.ownBlock = some k)) (hf : PForm B T M w1 lv ⟨s.safe, s.loose, (tickS s).left, (tickS s).down⟩) (ha : Aside S w w1)
    (hb : Aside (fun k => k = M) w1 wr) (hm : MAt wr M (mixF (fun k => (applyL s.safe s.loose).getD k zeros) (fun k => s.safe.getD k zeros) s.loose)) (hok : (⟨applyL s.safe s.loose, [], (tickS s).left, (tickS s).down⟩ : PS).Ok) :
    ∃ S' R', PAt S' R' (wr.setCell ⟨B, 3, none⟩ (.slice none 0 0)) (.pointer (some ⟨B, 0, none⟩)) ⟨applyL s.safe s.loose, [], (tickS s).left, (tickS s).down⟩ ∧ (∀ k, S' k → S k ∨ w.heap.size ≤ k) ∧ (∀ k, R' k → R k ∨ w.heap.size ≤ k) ∧ Aside S w (wr.setCell ⟨B, 3, none⟩ (.slice none 0 0)) := by
  have hstr : wr.heap[B]? = _ := (hb.block B (heap_lt hf.str) hf.bm).trans hf.str
  have hthere := hf.there.aside hb hf.tm
  have hput := row_put hstr 3 (by simp) (.slice none 0 0)
  have hg := setCell_grown (w := wr) B 3 (.slice none 0 0)
  have hbB : Aside (fun k => k = B) wr (wr.setCell ⟨B, 3, none⟩ (.slice none 0 0)) := Aside.of_grown hg fun k hk => (Option.some.inj hk).symm
  obtain ⟨w5, hw5⟩ : ∃ x, wr.setCell ⟨B, 3, none⟩ (.slice none 0 0) = x := ⟨_, rfl⟩
  rw [hw5] at hput hbB ⊢
  have hm2 := hm.congr (mix_end fun k hk => apply_out hk)
  refine ⟨fun k => k = B ∨ k = T ∨ k = M ∨ (Value.slice none 0 0).ownBlock = some k, none_, ⟨B, T, M, .slice none 0 0, rfl, ⟨?_, ?_, ?_, ownn_nil _ _ _ _, hf.bt, hf.bm, hf.tm, by simp [Value.ownBlock], by simp [Value.ownBlock], by simp [Value.ownBlock], hok⟩, fun k => Iff.rfl, fun k h => h⟩, ?_, fun k h => h.elim, ?_⟩
  · show w5.heap[B]? = some (Obj.cells [.int .i64 ((applyL s.safe s.loose).length : Int), _, _, _, _, _].toArray _ _)
    rw [apply_len]; exact hput
  · exact hthere.aside hbB fun e => hf.bt e.symm
  · exact hm2.aside hbB fun e => hf.bm e.symm
  · rintro k (h | h | h | h)
    · exact Or.inl ((hS k).2 (Or.inl h))
    · exact Or.inl ((hS k).2 (Or.inr (Or.inl h)))
    · exact Or.inl ((hS k).2 (Or.inr (Or.inr (Or.inl h))))
    · simp [Value.ownBlock] at h
  · exact (ha.trans hb fun k _ h => (hS k).2 (Or.inr (Or.inr (Or.inl h)))).trans hbB fun k _ h => (hS k).2 (Or.inl h)
set_option maxRecDepth 100000 in
set_option maxHeartbeats 8000000 in
theorem sync_c {S R : Set_} {w : World} {p : Value} {s : PS} (hp : PAt S R w p s) (hll : s.loose.length ≤ 100000) :
    Calls Try.prog 56 #[p] w fun e w' => e = .returned (.int .i64 (syncE s)) ∧ ∃ S' R', PAt S' R' w' p (syncS s) ∧ (∀ k, S' k → S k ∨ w.heap.size ≤ k) ∧ (∀ k, R' k → R k ∨ w.heap.size ≤ k) ∧ Aside S w w' := by
  obtain ⟨B, T, M, lv, rfl, hf, hS, hR⟩ := hp
  obtain ⟨sl, cl, rfl, _⟩ := hf.own.form
  have hst := pstep_c w B _ _ _ _ s.left s.down hf.str hf.ok.left hf.ok.most
  have HF := hide hf
  have HS := hide hS
  have HR := hide hR
  have HLL := hide hll
  cases hd : s.down with
  | true =>
    have e1 : syncE s = 50 := by unfold syncE; rw [hd]; rfl
    have e2 : syncS s = s := by unfold syncS; rw [hd]; rfl
    have eD : downTo s.left s.down = true := by unfold downTo; rw [hd]; split <;> rfl
    have eL : leftTo s.left s.down = s.left := by unfold leftTo; rw [hd]; rfl
    rw [eD, eL] at hst
    rw [e1, e2]
    have Hst := hide hst
    have Hd := hide hd
    clear hst eD eL e1 e2 hd hf hS hR hll
    go_enter Try.func56, Try.ntmps56
    go_wp2_with fail
    refine (unhide Hst).mono ?_
    rintro e w1 ⟨rfl, hs1, hg1⟩
    have hF1 := (unhide HF).head hg1 s.left s.down (unhide HF).ok (by rw [unhide Hd]; exact hs1)
    have HEnd : Hid (∃ S' R', PAt S' R' w1 (.pointer (some ⟨B, 0, none⟩)) s ∧ (∀ k, S' k → S k ∨ w.heap.size ≤ k) ∧ (∀ k, R' k → R k ∨ w.heap.size ≤ k) ∧ Aside S w w1) :=
      ⟨S, R, ⟨B, T, M, _, rfl, hF1, unhide HS, unhide HR⟩, fun k hk => Or.inl hk, fun k hk => Or.inl hk, Aside.of_grown hg1 fun k hk => (unhide HS k).2 (Or.inl (Option.some.inj hk).symm)⟩
    clear hs1 hg1 hF1 Hst HF
    go_wp2
    go_ret
    exact ⟨rfl, unhide HEnd⟩
  | false =>
    have eD : downTo s.left s.down = (tickS s).down := rfl
    have eL : leftTo s.left s.down = (tickS s).left := by unfold leftTo; rw [hd]; rfl
    rw [eD, eL] at hst
    cases ht : (tickS s).down with
    | true =>
      have e1 : syncE s = 50 := by unfold syncE; rw [hd, ht]; rfl
      have e2 : syncS s = tickS s := by unfold syncS; rw [hd, ht]; rfl
      rw [e1, e2]
      rw [ht] at hst
      have Hst := hide hst
      have HT := hide ht
      clear hst eD eL e1 e2 hd hf hS hR hll ht
      go_enter Try.func56, Try.ntmps56
      go_wp2_with fail
      refine (unhide Hst).mono ?_
      rintro e w1 ⟨rfl, hs1, hg1⟩
      have hF1 := (unhide HF).head hg1 (tickS s).left (tickS s).down (unhide HF).ok.tick (by rw [unhide HT]; exact hs1)
      have HEnd : Hid (∃ S' R', PAt S' R' w1 (.pointer (some ⟨B, 0, none⟩)) (tickS s) ∧ (∀ k, S' k → S k ∨ w.heap.size ≤ k) ∧ (∀ k, R' k → R k ∨ w.heap.size ≤ k) ∧ Aside S w w1) :=
        ⟨S, R, ⟨B, T, M, _, rfl, hF1, unhide HS, unhide HR⟩, fun k hk => Or.inl hk, fun k hk => Or.inl hk, Aside.of_grown hg1 fun k hk => (unhide HS k).2 (Or.inl (Option.some.inj hk).symm)⟩
      clear hs1 hg1 hF1 Hst HF
      go_wp2
      go_ret
      exact ⟨rfl, unhide HEnd⟩
    | false =>
      have e1 : syncE s = 0 := by unfold syncE; rw [hd, ht]; rfl
      have e2 : syncS s = ⟨applyL s.safe s.loose, [], (tickS s).left, (tickS s).down⟩ := by unfold syncS; rw [hd, ht]; rfl
      have HOk : Hid (⟨applyL s.safe s.loose, [], (tickS s).left, (tickS s).down⟩ : PS).Ok := by
        have := hf.ok.sync
        rwa [e2] at this
      rw [e1, e2]
      rw [ht] at hst
      have Hst := hide hst
      have HT := hide ht
      clear hst eD eL e1 e2 hd hf hS hR hll ht
      go_enter Try.func56, Try.ntmps56
      go_wp2_with fail
      refine (unhide Hst).mono ?_
      rintro e w1 ⟨rfl, hs1, hg1⟩
      have hF1 := (unhide HF).head hg1 (tickS s).left (tickS s).down (unhide HF).ok.tick (by rw [unhide HT]; exact hs1)
      have ha1 : Aside S w w1 := Aside.of_grown hg1 fun k hk => (unhide HS k).2 (Or.inl (Option.some.inj hk).symm)
      obtain ⟨_, _, _, q3, _, _⟩ := six_row hF1.str
      have HA1 := hide ha1
      have HF1 := hide hF1
      have HM0 : Hid (MAt w1 M (mixF (fun k => (applyL s.safe s.loose).getD k zeros) (fun k => s.safe.getD k zeros) (s.loose.take 0))) := hF1.safe.congr fun k => rfl
      obtain ⟨K, hK⟩ : ∃ y, s.loose.length = y := ⟨_, rfl⟩
      rw [hK] at q3
      have HKK := hide hK
      have HK5 : K ≤ 100000 := by have := unhide HLL; omega
      clear hs1 hg1 hF1 ha1 Hst HF hK HT
      have hzv := (zero_of_info info_w).1
      have hZs : (wone 0 zeros).toArray.size = 65 := by simp [wone_len zeros_len]
      obtain ⟨Z, hZ⟩ : ∃ y, (wone 0 zeros).toArray = y := ⟨_, rfl⟩
      rw [hZ] at hzv hZs
      have hne : ¬ Z = #[] := by intro e; rw [e] at hZs; simp at hZs
      clear hZ
      go_wp2
      go_loopw [13] (fun ii wr => ∃ i : Nat, i ≤ K ∧ ii = .int .i64 (i : Int) ∧ Hid (MAt wr M (mixF (fun k => (applyL s.safe s.loose).getD k zeros) (fun k => s.safe.getD k zeros) (s.loose.take i))) ∧ Hid (Aside (fun k => k = M) w1 wr)) (fun ii _ => K - (intOf ii).toNat)
      case atStart => exact ⟨0, by omega, rfl, HM0, Aside.refl _ _⟩
      case round =>
        obtain ⟨i, hi, rfl, Hm, Hb⟩ := hrel
        clear HM0 q3
        by_cases hlt : i < K
        · have f1 : decide ((i : Int) < (K : Int)) = true := by simp; omega
          have f1n : decide (i < K) = true := by simp; omega
          have j0 : (0 : Int) ≤ (i : Int) := by omega
          have j1 : (i : Int) < (K : Int) := by omega
          obtain ⟨y, hy⟩ : ∃ y, s.loose[i]? = some y := ⟨s.loose[i]'(by have := unhide HKK; omega), List.getElem?_eq_getElem (by have := unhide HKK; omega)⟩
          have hFr := (unhide HF1).own
          obtain ⟨g, c, hsl, hglt, hc, hrg, hyl, hys⟩ := (unhide HF1).one hy
          simp only [Value.slice.injEq] at hsl
          obtain ⟨rfl, _, rfl⟩ := hsl
          have hgM : g ≠ M := fun e => (unhide HF1).lM (by simp [Value.ownBlock, e])
          have HRg := hide (range_aside hrg (unhide Hb) hgM)
          have HTh := hide ((unhide HF1).there.aside (unhide Hb) (unhide HF1).tm)
          have HSt : Hid (wr.heap[B]? = some (.cells [.int .i64 (s.safe.length : Int), .map (some T), .map (some M), .slice (some ⟨g, 0, none⟩) s.loose.length cl, .int .i64 (tickS s).left, .bool (tickS s).down].toArray 47 (0, 0))) := ((unhide Hb).block B (heap_lt (unhide HF1).str) (unhide HF1).bm).trans (unhide HF1).str
          have Hstep : Hid (∀ w', MAt w' M (upd (mixF (fun k => (applyL s.safe s.loose).getD k zeros) (fun k => s.safe.getD k zeros) (s.loose.take i)) y.1 ((applyL s.safe s.loose).getD y.1 zeros)) → MAt w' M (mixF (fun k => (applyL s.safe s.loose).getD k zeros) (fun k => s.safe.getD k zeros) (s.loose.take (i + 1)))) := fun w' h => by
            rw [take_next hy]
            exact h.congr fun k => mix_step (fun k => (applyL s.safe s.loose).getD k zeros) (fun k => s.safe.getD k zeros) _ y k
          obtain ⟨n, b⟩ := y
          dsimp only at hyl Hstep HRg
          have HBL := hide hyl
          have hYs : (wone n b).toArray.size = 65 := by simp [wone_len hyl]
          have HY1 := hide (all_oneCell_toArray (wone_one n b))
          obtain ⟨Y, hY⟩ : ∃ y, (wone n b).toArray = y := ⟨_, rfl⟩
          rw [hY] at hYs HY1
          have HY := hide hY
          have HZ1 := hide (heap_alloc_new wr (.cells Z 112))
          have HW2 : Hid (((wr.alloc (.cells Z 112)).setRow wr.heap.size Y).heap[wr.heap.size]? = some (.cells Y 112 (0, 0)) ∧ Below wr.heap.size wr ((wr.alloc (.cells Z 112)).setRow wr.heap.size Y)) :=
            ⟨setRow_heap _ _ _ _ _ _ (unhide HZ1), below_setRow ((Below.refl _ _).alloc (Nat.le_refl _) _) (Nat.le_refl _) _⟩
          obtain ⟨b2, hb2⟩ : ∃ y, (applyL s.safe s.loose).getD n zeros = y := ⟨_, rfl⟩
          rw [hb2] at Hstep
          have hb2l : b2.length = 64 := by rw [← hb2]; exact (unhide HTh).len n
          have Hlk : Hid (∀ w', MAt w' T (fun k => (applyL s.safe s.loose).getD k zeros) → (Instr.lookup 44 (.map (some T)) (.int .i64 (n : Int)) false).run Try.prog w' = .ok (.agg (b2.map bv).toArray) w') := fun w' h => by
            have := h.look n
            (try dsimp only at this)
            rw [hb2] at this
            exact this
          have HPut := hide fun w hm => put_c w M (mixF (fun k => (applyL s.safe s.loose).getD k zeros) (fun k => s.safe.getD k zeros) (s.loose.take i)) hm n b2 hb2l
          unfold sv at HPut
          obtain ⟨X, hX⟩ : ∃ y, (b2.map bv).toArray = y := ⟨_, rfl⟩
          rw [hX] at HPut Hlk
          have hKc : K ≤ cl := by have := unhide HKK; omega
          clear hy hrg hyl hys hY hX hb2 hb2l hFr hglt hc hgM
          go_wp2_with (first
            | (refine wpList_load_mid rfl 112 _ rfl g (i * 65) rfl (wone n b) _ (unhide HRg) Try.underlying112 rfl (by rw [wone_len (unhide HBL)]; exact size_w) ?_
               rw [unhide HY])
            | (refine wpList_store_row rfl 112 _ _ rfl wr.heap.size Y rfl rfl 112 Z (unhide HZ1) (by rw [hYs]; exact size_w) (by rw [hYs, hZs]) (unhide HY1) ?_))
          obtain ⟨w2, hw2⟩ : ∃ x, (wr.alloc (.cells Z 112)).setRow wr.heap.size Y = x := ⟨_, rfl⟩
          rw [hw2] at HW2 ⊢
          obtain ⟨V, hV⟩ : ∃ x, wr.heap.size = x := ⟨_, rfl⟩
          rw [hV] at HW2 ⊢
          have HB2 : Hid (Below wr.heap.size wr w2) := by show Below _ _ _; rw [hV]; exact (unhide HW2).2
          have HVM : Hid (V ≠ M) := by have := (unhide Hm).lt; show V ≠ M; omega
          have HC2 : Hid (w2.cell? ⟨B, 2, none⟩ = some (.map (some M)) ∧ w2.cell? ⟨V, 0, none⟩ = some (.int .i64 (n : Int)) ∧ w2.cell? ⟨B, 1, none⟩ = some (.map (some T)) ∧ MAt w2 T fun k => (applyL s.safe s.loose).getD k zeros) := by
            have h1 := unhide HSt
            rw [← (unhide HB2).block B (heap_lt h1)] at h1
            have h2 := (unhide HW2).1
            rw [← unhide HY] at h2
            exact ⟨row_cell h1 2 _ rfl, range_head (range_of_row h2), row_cell h1 1 _ rfl, (unhide HTh).below (unhide HB2)⟩
          have HM2 := hide ((unhide Hm).below (unhide HB2))
          have HA2 : Hid (Aside (fun k => k = M) w1 w2) := (unhide Hb).trans (T := none_) (Aside.of_below (unhide HB2)) fun k _ h => h.elim
          have HBM := hide (unhide HF1).bm
          have HTM := hide (unhide HF1).tm
          clear hw2 hV HW2 HZ1 HY1 hYs hZs hzv HRg HTh HSt Hm Hb HB2
          refine wp_region_held_drew (S := fun w' => w'.cell? ⟨B, 2, none⟩ = some (.map (some M)) ∧ w'.cell? ⟨V, 0, none⟩ = some (.int .i64 (n : Int)) ∧ w'.cell? ⟨B, 1, none⟩ = some (.map (some T)) ∧ MAt w' T (fun k => (applyL s.safe s.loose).getD k zeros)) (by kernel_rfl) (unhide HC2) (fun hHeld => ?_)
          refine wpAnyH_take (i := 0) (oi := { dst := some 17, op := Op.move (Operand.tmp 0), type := 24, pos := "plate.go:72", after := #[], guard := none }) (v := ?_) rfl (by kernel_rfl) (by kernel_rfl) (by kernel_rfl) (fun _ _ _ h => h) (Or.inl ⟨by rfl, ?r1⟩) (by assumption) ?_
          case r1 => (intro w_ hSw; obtain ⟨p2, pn, p1, pm⟩ := hSw; go_simp; try with_reducible rfl)
          simp only [Act.put, List.setIfInBounds_toArray, List.set_cons_zero, List.set_cons_succ]
          refine wpAnyH_take (i := 1) (oi := { dst := some 18, op := Op.nilCheck (Operand.tmp 17), type := 0, pos := "plate.go:72", after := #[{ on := 0, ground := Ground.data }], guard := none }) (v := ?_) rfl (by kernel_rfl) (by kernel_rfl) (by kernel_rfl) (fun _ _ _ h => h) (Or.inl ⟨by rfl, ?r2⟩) (by assumption) ?_
          case r2 => (intro w_ hSw; obtain ⟨p2, pn, p1, pm⟩ := hSw; go_simp; try with_reducible rfl)
          simp only [Act.put, List.setIfInBounds_toArray, List.set_cons_zero, List.set_cons_succ]
          refine wpAnyH_take (i := 2) (oi := { dst := some 19, op := Op.fieldAddr 47 (Operand.tmp 18) 2, type := 0, pos := "plate.go:72", after := #[{ on := 1, ground := Ground.data }], guard := none }) (v := ?_) rfl (by kernel_rfl) (by kernel_rfl) (by kernel_rfl) (fun _ _ _ h => h) (Or.inl ⟨by rfl, ?r3⟩) (by assumption) ?_
          case r3 => (intro w_ hSw; obtain ⟨p2, pn, p1, pm⟩ := hSw; go_simp; try with_reducible rfl)
          simp only [Act.put, List.setIfInBounds_toArray, List.set_cons_zero, List.set_cons_succ]
          refine wpAnyH_take (i := 3) (oi := { dst := some 20, op := Op.load 44 (Operand.tmp 19), type := 44, pos := "plate.go:72", after := #[{ on := 2, ground := Ground.data }], guard := none }) (v := ?_) rfl (by kernel_rfl) (by kernel_rfl) (by kernel_rfl) (fun _ _ _ h => h) (Or.inl ⟨by rfl, ?r4⟩) (by assumption) ?_
          case r4 => (intro w_ hSw; obtain ⟨p2, pn, p1, pm⟩ := hSw; go_simp; try with_reducible rfl)
          simp only [Act.put, List.setIfInBounds_toArray, List.set_cons_zero, List.set_cons_succ]
          refine wpAnyH_take (i := 4) (oi := { dst := some 21, op := Op.fieldAddr 112 (Operand.tmp 4) 0, type := 0, pos := "plate.go:72", after := #[], guard := none }) (v := ?_) rfl (by kernel_rfl) (by kernel_rfl) (by kernel_rfl) (fun _ _ _ h => h) (Or.inl ⟨by rfl, ?r5⟩) (by assumption) ?_
          case r5 => (intro w_ hSw; obtain ⟨p2, pn, p1, pm⟩ := hSw; go_simp; try with_reducible rfl)
          simp only [Act.put, List.setIfInBounds_toArray, List.set_cons_zero, List.set_cons_succ]
          refine wpAnyH_take (i := 5) (oi := { dst := some 22, op := Op.load 3 (Operand.tmp 21), type := 3, pos := "plate.go:72", after := #[{ on := 4, ground := Ground.data }], guard := none }) (v := ?_) rfl (by kernel_rfl) (by kernel_rfl) (by kernel_rfl) (fun _ _ _ h => h) (Or.inl ⟨by rfl, ?r6⟩) (by assumption) ?_
          case r6 => (intro w_ hSw; obtain ⟨p2, pn, p1, pm⟩ := hSw; go_simp; try with_reducible rfl)
          simp only [Act.put, List.setIfInBounds_toArray, List.set_cons_zero, List.set_cons_succ]
          refine wpAnyH_take (i := 6) (oi := { dst := some 23, op := Op.move (Operand.tmp 0), type := 24, pos := "plate.go:72", after := #[], guard := none }) (v := ?_) rfl (by kernel_rfl) (by kernel_rfl) (by kernel_rfl) (fun _ _ _ h => h) (Or.inl ⟨by rfl, ?r7⟩) (by assumption) ?_
          case r7 => (intro w_ hSw; obtain ⟨p2, pn, p1, pm⟩ := hSw; go_simp; try with_reducible rfl)
          simp only [Act.put, List.setIfInBounds_toArray, List.set_cons_zero, List.set_cons_succ]
          refine wpAnyH_take (i := 7) (oi := { dst := some 24, op := Op.nilCheck (Operand.tmp 23), type := 0, pos := "plate.go:72", after := #[{ on := 6, ground := Ground.data }], guard := none }) (v := ?_) rfl (by kernel_rfl) (by kernel_rfl) (by kernel_rfl) (fun _ _ _ h => h) (Or.inl ⟨by rfl, ?r8⟩) (by assumption) ?_
          case r8 => (intro w_ hSw; obtain ⟨p2, pn, p1, pm⟩ := hSw; go_simp; try with_reducible rfl)
          simp only [Act.put, List.setIfInBounds_toArray, List.set_cons_zero, List.set_cons_succ]
          refine wpAnyH_take (i := 8) (oi := { dst := some 25, op := Op.fieldAddr 47 (Operand.tmp 24) 1, type := 0, pos := "plate.go:72", after := #[{ on := 7, ground := Ground.data }], guard := none }) (v := ?_) rfl (by kernel_rfl) (by kernel_rfl) (by kernel_rfl) (fun _ _ _ h => h) (Or.inl ⟨by rfl, ?r9⟩) (by assumption) ?_
          case r9 => (intro w_ hSw; obtain ⟨p2, pn, p1, pm⟩ := hSw; go_simp; try with_reducible rfl)
          simp only [Act.put, List.setIfInBounds_toArray, List.set_cons_zero, List.set_cons_succ]
          refine wpAnyH_take (i := 9) (oi := { dst := some 26, op := Op.load 44 (Operand.tmp 25), type := 44, pos := "plate.go:72", after := #[{ on := 8, ground := Ground.data }], guard := none }) (v := ?_) rfl (by kernel_rfl) (by kernel_rfl) (by kernel_rfl) (fun _ _ _ h => h) (Or.inl ⟨by rfl, ?r10⟩) (by assumption) ?_
          case r10 => (intro w_ hSw; obtain ⟨p2, pn, p1, pm⟩ := hSw; go_simp; try with_reducible rfl)
          simp only [Act.put, List.setIfInBounds_toArray, List.set_cons_zero, List.set_cons_succ]
          refine wpAnyH_take (i := 10) (oi := { dst := some 27, op := Op.fieldAddr 112 (Operand.tmp 4) 0, type := 0, pos := "plate.go:72", after := #[], guard := none }) (v := ?_) rfl (by kernel_rfl) (by kernel_rfl) (by kernel_rfl) (fun _ _ _ h => h) (Or.inl ⟨by rfl, ?r11⟩) (by assumption) ?_
          case r11 => (intro w_ hSw; obtain ⟨p2, pn, p1, pm⟩ := hSw; go_simp; try with_reducible rfl)
          simp only [Act.put, List.setIfInBounds_toArray, List.set_cons_zero, List.set_cons_succ]
          refine wpAnyH_take (i := 11) (oi := { dst := some 28, op := Op.load 3 (Operand.tmp 27), type := 3, pos := "plate.go:72", after := #[{ on := 10, ground := Ground.data }], guard := none }) (v := ?_) rfl (by kernel_rfl) (by kernel_rfl) (by kernel_rfl) (fun _ _ _ h => h) (Or.inl ⟨by rfl, ?r12⟩) (by assumption) ?_
          case r12 => (intro w_ hSw; obtain ⟨p2, pn, p1, pm⟩ := hSw; go_simp; try with_reducible rfl)
          simp only [Act.put, List.setIfInBounds_toArray, List.set_cons_zero, List.set_cons_succ]
          refine wpAnyH_take (i := 12) (oi := { dst := some 29, op := Op.lookup 44 (Operand.tmp 26) (Operand.tmp 28) false, type := 85, pos := "plate.go:72", after := #[{ on := 9, ground := Ground.data }, { on := 11, ground := Ground.data }], guard := none }) (v := .agg X) rfl (by kernel_rfl) (by kernel_rfl) (by kernel_rfl) (fun _ _ _ h => h) (Or.inl ⟨by rfl, ?r13⟩) (by assumption) ?_
          case r13 => (intro w_ hSw; have hlk := unhide Hlk w_ hSw.2.2.2; go_simp; try with_reducible rfl)
          simp only [Act.put, List.setIfInBounds_toArray, List.set_cons_zero, List.set_cons_succ]
          refine wpAnyH_ready (rs := [13]) (by kernel_rfl) (by simp) ?_
          refine AllReadyH.cons (o := { dst := some 30, op := Op.call { callee := Callee.value (Operand.func 68), args := #[Operand.tmp 20, Operand.tmp 22, Operand.tmp 29], argTypes := #[44, 3, 85] }, type := 0, pos := "plate.go:72", after := #[{ on := 3, ground := Ground.data }, { on := 5, ground := Ground.data }, { on := 12, ground := Ground.data }], guard := none }) rfl (fun K_ hK_ => ?_) AllReadyH.nil
          go_simp
          go_at_call 68
          refine (unhide HPut w2.drew (unhide HM2)).mono ?_
          rintro e w3 ⟨rfl, hm3, ha3⟩
          have HM3 := hide hm3
          have ha3' := Aside.of_drew ha3
          have HA3 := hide ((unhide HA2).trans ha3' fun k _ h => h)
          have HC3 : Hid (w3.cell? ⟨B, 2, none⟩ = some (.map (some M)) ∧ w3.cell? ⟨V, 0, none⟩ = some (.int .i64 (n : Int)) ∧ w3.cell? ⟨B, 1, none⟩ = some (.map (some T)) ∧ MAt w3 T (fun k => (applyL s.safe s.loose).getD k zeros)) := ⟨cell_aside (unhide HC2).1 ha3' (unhide HBM), cell_aside (unhide HC2).2.1 ha3' (unhide HVM), cell_aside (unhide HC2).2.2.1 ha3' (unhide HBM), (unhide HC2).2.2.2.aside ha3' (unhide HTM)⟩
          clear hm3 ha3 ha3'
          go_simp
          refine hK_.out _ _ (unhide HC3) (fun hHeld => ?_)
          clear hK_ K_
          (try simp only [Act.put, List.setIfInBounds_toArray, List.set_cons_zero, List.set_cons_succ])
          refine wpAnyH_done (by kernel_rfl) ?_ _
          have HM4 := hide (unhide Hstep w3 (unhide HM3))
          clear HM3 hHeld HPut Hlk HC2 HM2
          go_wp2
          refine ⟨⟨i + 1, by omega, ?_, HM4, HA3⟩, ?_⟩
          · simp
          · simp [intOf]; omega
        · obtain rfl : i = K := by omega
          have f1 : decide ((i : Int) < (i : Int)) = false := by simp
          rw [← unhide HKK, List.take_length] at Hm
          have HEnd := hide (sync_end (R := R) (unhide HS) (unhide HF1) (unhide HA1) (unhide Hb) (unhide Hm) (unhide HOk))
          have hstr := ((unhide Hb).block B (heap_lt (unhide HF1).str) (unhide HF1).bm).trans (unhide HF1).str
          have c3 := row_cell hstr 3 _ rfl
          have z3 := row_frozen hstr 3
          obtain ⟨w5, hw5⟩ : ∃ x, wr.setCell ⟨B, 3, none⟩ (.slice none 0 0) = x := ⟨_, rfl⟩
          rw [hw5] at HEnd
          clear hstr Hm Hb hzv hZs hne
          go_wp2
          go_ret
          exact ⟨rfl, unhide HEnd⟩
end Go.Proofs.Ytbjgknoipbekoab
namespace Go.Proofs.Ytbjgknoipbekoab
open Go.RowKit
theorem plate_kept : Plate PAt where
  ptr := fun h => by obtain ⟨B, _, _, _, rfl, _⟩ := h; exact ⟨_, rfl⟩
  ok := fun h => by obtain ⟨_, _, _, _, _, hf, _⟩ := h; exact hf.ok
  old := fun h k hk => by
    obtain ⟨B, T, M, lv, _, hf, hS, hR⟩ := h
    rcases hk with hk | hk
    · rcases (hS k).1 hk with rfl | rfl | rfl | h
      · exact heap_lt hf.str
      · exact hf.there.lt
      · exact hf.safe.lt
      · exact (hf.own.lt k h).2
    · exact (hR k hk).elim
  apart := fun h k _ hk => by obtain ⟨_, _, _, _, _, _, _, hR⟩ := h; exact hR k hk
  kept := fun h hb hT => by
    obtain ⟨B, T, M, lv, rfl, hf, hS, hR⟩ := h
    refine ⟨B, T, M, lv, rfl, hf.aside hb fun k hk => ?_, hS, hR⟩
    have h1 := (hT k hk).1
    rw [hS] at h1
    exact ⟨fun e => h1 (Or.inl e), fun e => h1 (Or.inr (Or.inl e)), fun e => h1 (Or.inr (Or.inr (Or.inl e))), fun e => h1 (Or.inr (Or.inr (Or.inr e)))⟩
  new_yes := new_yes
  new_no := new_no
  sectors := sectors_c
  write := fun a x b h hx hxs hbl hll _ _ => write_c a x b h hx hxs hbl hll
  read := fun a h _ _ _ => read_c a h
  sync := sync_c
end Go.Proofs.Ytbjgknoipbekoab
namespace Go.Proofs.Ytbjgknoipbekoab
open Go.RowKit
set_option maxRecDepth 100000 in
set_option maxHeartbeats 2000000 in
theorem addn_own (w : World) (n size : Nat) (hn : n ≤ 4611686018427387904) (hs : size ≤ 8) : GivesB w 66 #[.slice none 0 0, .int .i64 (n : Int), .int .i64 (size : Int)] (bigB n size) := by
  go_enter Try.func66, Try.ntmps66
  go_wp2
  go_loopw [0, 7, 9] (fun bb _ ii wr => ∃ (i c : Nat) (sp : Option Addr), i ≤ size ∧ bb = .slice sp i c ∧ ii = .int .i64 (i : Int) ∧ Hid (Row w wr (.slice sp i c) ((bigB n size).take i))) (fun _ _ ii _ => size - (intOf ii).toNat)
  case atStart => exact ⟨0, 0, none, by omega, rfl, rfl, ownb_nil _ _, Below.refl _ _⟩
  case round =>
    obtain ⟨i, c, sp, hi, rfl, rfl, HR⟩ := hrel
    by_cases hlt : i < size
    · have f1 : decide ((i : Int) < (size : Int)) = true := by simp; omega
      have f1n : decide (i < size) = true := by simp; omega
      obtain ⟨d, hd⟩ : ∃ d, size - 1 - i = d := ⟨_, rfl⟩
      obtain ⟨sh, hsh⟩ : ∃ sh, 8 * d = sh := ⟨_, rfl⟩
      obtain ⟨q, hq⟩ : ∃ q, n / 256 ^ d = q := ⟨_, rfl⟩
      obtain ⟨s1, hs1⟩ : ∃ s1, size - 1 = s1 := ⟨_, rfl⟩
      have e0 : (size : Int) - 1 = (s1 : Int) := by omega
      have e1 : (s1 : Int) - (i : Int) = (d : Int) := by omega
      have e2 : (8 : Int) * (d : Int) = (sh : Int) := by omega
      have hqb : q ≤ 4611686018427387904 := by rw [← hq]; exact Nat.le_trans (Nat.div_le_self _ _) hn
      have e3 : (n : Int) / 2 ^ sh = (q : Int) := by
        rw [← hq, ← pow_sh, hsh]
        simp
      have e4 := byte_of n d q hq
      obtain ⟨x, hx⟩ : ∃ x, UInt8.ofNat (n / 256 ^ d) = x := ⟨_, rfl⟩
      rw [hx] at e4
      have HST := hide (big_step n size i hlt)
      rw [hd, hx] at HST
      have HY := hide (one_byte wr x)
      have HR1 := hide ((unhide HR).lit (.cells #[.int .u8 (x.toNat : Int)] 5))
      have HL : Hid (((bigB n size).take i).length = i) := by show _ = _; rw [List.length_take, big_len]; omega
      have hsh8 : sh ≤ 56 := by omega
      clear hd hsh hq hx hs1 HR
      go_wp2_with (at_builtin; refine wpList_append_row rfl _ _ rfl (.slice sp i c) (.slice (some ⟨wr.heap.size, 0, none⟩) 1 1) ((bigB n size).take i) [x] rfl (unhide HR1) rfl (unhide HY) (by rw [unhide HL]; simp; omega) ?_
                   intro v3 w3 hR3
                   rw [← unhide HST] at hR3
                   obtain ⟨s3, c3, ev3⟩ := hR3.own.form
                   rw [List.length_take, big_len, Nat.min_eq_left hlt] at ev3
                   subst ev3
                   have HR3 := hide hR3
                   clear hR3)
      refine ⟨⟨i + 1, c3, s3, by omega, ?_, ?_, HR3⟩, ?_⟩
      · rfl
      · simp
      · simp [intOf]; omega
    · obtain rfl : i = size := by omega
      have f1 : decide ((i : Int) < (i : Int)) = false := by simp
      have HE : Hid (Row w wr (.slice sp i c) (bigB n i)) := by
        have h := unhide HR
        rw [List.take_of_length_le (by rw [big_len]; omega)] at h
        exact h
      clear HR
      go_wp2
      go_ret
      exact ⟨_, rfl, unhide HE⟩
set_option maxRecDepth 100000 in
set_option maxHeartbeats 2000000 in
theorem wlen_c (w : World) (x : Value) (b : Bs) (hx : BytesAt w x b) (hl : b.length ≤ 65536) : GivesB w 53 #[x] (bigB b.length 4 ++ b) := by
  obtain ⟨sx, cx, rfl, _⟩ := bytes_open hx
  have HX := hide hx
  have HA := hide (addn_own w b.length 4 (by omega) (by omega))
  obtain ⟨N, hN⟩ : ∃ N, b.length = N := ⟨_, rfl⟩
  rw [hN] at HA HX hl ⊢
  have HN := hide hN
  clear hx hN
  go_enter Try.func53, Try.ntmps53
  go_wp2_with fail
  refine (unhide HA).mono ?_
  rintro e w2 ⟨v2, rfl, h2⟩
  obtain ⟨s2, c2, e2⟩ := h2.own.form
  rw [big_len] at e2
  subst e2
  have HR2 := hide h2
  have HX2 := hide ((unhide HX).below h2.b)
  clear h2 HA HX
  go_wp2_with (at_builtin; refine wpList_append_row rfl _ _ rfl (.slice s2 4 c2) (.slice sx N cx) (bigB N 4) b rfl (unhide HR2) rfl (unhide HX2) (by rw [big_len, unhide HN]; omega) ?_
               intro v3 w3 hR3)
  go_ret
  exact ⟨_, rfl, hR3⟩
/-- A head, as a value. -/
def hdV (g o n p l : Nat) : Value := .agg #[.int .i64 (g : Int), .int .i64 (o : Int), .int .i64 (n : Int), .int .i64 (p : Int), .int .i64 (l : Int)]
def hdC (g o n p l : Nat) : List Value := [.int .i64 (g : Int), .int .i64 (o : Int), .int .i64 (n : Int), .int .i64 (p : Int), .int .i64 (l : Int)]
/-- A struct in its block. -/
def AggAt (w : World) (K : Nat) (cs : List Value) : Prop := K < w.heap.size ∧ w.rangeAt K 0 cs
theorem AggAt.below {a b : World} {K : Nat} {cs : List Value} (k : AggAt a K cs) (hb : Below a.heap.size a b) : AggAt b K cs :=
  ⟨Nat.lt_of_lt_of_le k.1 hb.size, fun j v hv => by rw [hb.cell (p := ⟨K, 0 + j, none⟩) k.1]; exact k.2 j v hv⟩
theorem AggAt.aside {S : Set_} {a b : World} {K : Nat} {cs : List Value} (k : AggAt a K cs) (hb : Aside S a b) (hK : ¬ S K) : AggAt b K cs :=
  ⟨Nat.lt_of_lt_of_le k.1 hb.size, fun j v hv => cell_aside (k.2 j v hv) hb hK⟩
theorem AggAt.c {w : World} {K : Nat} {cs : List Value} (k : AggAt w K cs) (j : Nat) (v : Value) (hv : cs[j]? = some v) : w.cell? ⟨K, j, none⟩ = some v := by
  have := k.2 j v hv
  rwa [Nat.zero_add] at this
theorem agg_new (w : World) (cs : List Value) (t : TypeId) : AggAt (w.alloc (.cells cs.toArray t)) w.heap.size cs := by
  refine ⟨by simp, fun j v hv => ?_⟩
  rw [cell_of_row _ _ _ _ t (0, 0) (heap_alloc_new w _), Nat.zero_add]
  simpa using hv
theorem made64 (w : World) : ∃ W, (Instr.makeSlice 30 (.int .i64 0) (.int .i64 64)).run Try.prog w = .ok (.slice (some ⟨w.heap.size, 0, none⟩) 0 64) W ∧ RoomAt W w.heap.size [] ∧ Below w.heap.size w W := by
  obtain ⟨hu, ⟨i, hi, h0, hsz, hby⟩, _, _⟩ := Eb
  have hr := run_make (P := Try.prog) w 30 5 i (.int .u8 0) hu hi h0 .i64 .i64 0 64 (by omega) (by omega) (by rw [hby]; omega) (by omega)
  rw [hsz] at hr
  have e1 : madeCells (Value.int .u8 0).cells (Int.toNat 64 * 1) = (List.replicate 64 (Value.int .u8 0)).toArray := by
    rw [show (Value.int .u8 0).cells = #[Value.int .u8 0] from rfl, show Int.toNat 64 * 1 = 64 from rfl]
    generalize 64 = N
    apply Array.ext
    · simp [madeCells]
    · intro j h1 h2
      simp [madeCells, Nat.mod_one]
  rw [e1, show Int.toNat 0 = 0 from rfl, show Int.toNat 64 = 64 from rfl] at hr
  refine ⟨w.alloc (.cells (List.replicate 64 (.int .u8 0)).toArray 5), hr, ⟨?_, by simp⟩, (Below.refl _ _).alloc (Nat.le_refl _) _⟩
  unfold RowAt
  rw [heap_alloc_new]
  rfl
theorem slice64 (g n : Nat) (w : World) : (Instr.sliceAt 30 (.slice (some ⟨g, 0, none⟩) n 64) none (some (.int .i64 64)) none).run Try.prog w = .ok (.slice (some ⟨g, 0, none⟩) 64 64) w := slice_front (some ⟨g, 0, none⟩) n 64 64 (by omega) w
/-- All of the row, its noughts too. -/
theorem RoomAt.whole {w : World} {g B : Nat} {l : Bs} (h : RoomAt w g l) (hB : B ≤ g) : OwnB w B (.slice (some ⟨g, 0, none⟩) 64 64) (l ++ List.replicate (64 - l.length) 0) := by
  have h2 := h.2
  have hr : RowAt 5 w g [] ((l ++ List.replicate (64 - l.length) 0).map bv) := by
    have h1 := h.1
    unfold RowAt at h1 ⊢
    rw [List.append_nil, List.map_append, List.map_replicate]
    exact h1
  exact hr.own hB 64 64 (by rw [List.length_map, List.length_append, List.length_replicate]; omega) rfl (by simp only [maxLen]; omega)
set_option maxRecDepth 100000 in
set_option maxHeartbeats 4000000 in
theorem wsector_c (w : World) (g o n p l : Nat) (x : Value) (b : Bs) (hx : BytesAt w x b) (hb0 : b ≠ []) (hb : b.length ≤ 48) (hg : g ≤ 4294967296) (ho : o ≤ 4294967296) (hn : n ≤ 4294967296) (hp : p ≤ 4294967296) (hl : l ≤ 4294967296) :
    GivesB w 54 #[hdV g o n p l, x] (headS g o n p l ++ (b ++ List.replicate (48 - b.length) 0)) := by
  obtain ⟨sx, cx, rfl, _⟩ := bytes_open hx
  have hA := agg_new w (hdC g o n p l) 95
  have hbA : Below w.heap.size w (w.alloc (.cells (hdC g o n p l).toArray 95)) := (Below.refl _ _).alloc (Nat.le_refl _) _
  obtain ⟨w1, hw1⟩ : ∃ y, w.alloc (.cells (hdC g o n p l).toArray 95) = y := ⟨_, rfl⟩
  rw [hw1] at hA hbA
  obtain ⟨w2, hmk, hR2, hb2⟩ := made64 w1
  have hw1s : w1.heap.size = w.heap.size + 1 := by rw [← hw1]; simp
  unfold hdC at hw1
  have HA2 := hide (hA.below hb2)
  have HR2 := hide hR2
  have HB2 : Hid (Below w.heap.size w w2) := hbA.trans (hb2.mono hbA.size)
  have HX := hide hx
  have HS1 := hide hw1s
  obtain ⟨G, hG⟩ : ∃ y, w1.heap.size = y := ⟨_, rfl⟩
  rw [hG] at hmk HR2 HS1
  have HBN : Hid (b.length ≤ 48) := hb
  obtain ⟨N, hN⟩ : ∃ N, b.length = N := ⟨_, rfl⟩
  rw [hN] at hb HX ⊢
  have HN := hide hN
  have HB0 := hide hb0
  clear hx hA hbA hR2 hb2 hw1s hG hN hb0
  unfold hdV
  go_enter Try.func54, Try.ntmps54
  have c0 := (unhide HA2).c 0 _ rfl
  have HA3_0 : Hid (Aside (fun k => k = G) w2 w2) := Aside.refl _ _
  have HRm0 : Hid (RoomAt w2 G ([] : Bs)) := HR2
  clear HR2
  have Hc := hide (addn_room w2 G ([] : Bs) 0 g 4 rfl (unhide HRm0) (by omega) (by omega) (by omega))
  simp only [Nat.reduceAdd] at Hc
  go_wp2_with fail
  refine (unhide Hc).mono ?_
  rintro e u0 ⟨rfl, hr_, ha_⟩
  have HRm1 := hide hr_
  have HA3_1 : Hid (Aside (fun k => k = G) w2 u0) := (unhide HA3_0).trans ha_ fun _ _ h => h
  have c1 := ((unhide HA2).aside (unhide HA3_1) (by have := unhide HS1; omega)).c 1 _ rfl
  clear hr_ ha_ Hc c0 HRm0 HA3_0 hmk
  have Hc := hide (addn_room u0 G (([] : Bs) ++ bigB g 4) 4 o 4 (by simp [big_len]) (unhide HRm1) (by omega) (by omega) (by omega))
  simp only [Nat.reduceAdd] at Hc
  go_wp2_with fail
  refine (unhide Hc).mono ?_
  rintro e u1 ⟨rfl, hr_, ha_⟩
  have HRm2 := hide hr_
  have HA3_2 : Hid (Aside (fun k => k = G) w2 u1) := (unhide HA3_1).trans ha_ fun _ _ h => h
  have c2 := ((unhide HA2).aside (unhide HA3_2) (by have := unhide HS1; omega)).c 2 _ rfl
  clear hr_ ha_ Hc c1 HRm1 HA3_1
  have Hc := hide (addn_room u1 G ((([] : Bs) ++ bigB g 4) ++ bigB o 4) 8 n 4 (by simp [big_len]) (unhide HRm2) (by omega) (by omega) (by omega))
  simp only [Nat.reduceAdd] at Hc
  go_wp2_with fail
  refine (unhide Hc).mono ?_
  rintro e u2 ⟨rfl, hr_, ha_⟩
  have HRm3 := hide hr_
  have HA3_3 : Hid (Aside (fun k => k = G) w2 u2) := (unhide HA3_2).trans ha_ fun _ _ h => h
  have c3 := ((unhide HA2).aside (unhide HA3_3) (by have := unhide HS1; omega)).c 3 _ rfl
  clear hr_ ha_ Hc c2 HRm2 HA3_2
  have Hc := hide (addn_room u2 G (((([] : Bs) ++ bigB g 4) ++ bigB o 4) ++ bigB n 4) 12 p 2 (by simp [big_len]) (unhide HRm3) (by omega) (by omega) (by omega))
  simp only [Nat.reduceAdd] at Hc
  go_wp2_with fail
  refine (unhide Hc).mono ?_
  rintro e u3 ⟨rfl, hr_, ha_⟩
  have HRm4 := hide hr_
  have HA3_4 : Hid (Aside (fun k => k = G) w2 u3) := (unhide HA3_3).trans ha_ fun _ _ h => h
  have c4 := ((unhide HA2).aside (unhide HA3_4) (by have := unhide HS1; omega)).c 4 _ rfl
  clear hr_ ha_ Hc c3 HRm3 HA3_3
  have Hc := hide (addn_room u3 G ((((([] : Bs) ++ bigB g 4) ++ bigB o 4) ++ bigB n 4) ++ bigB p 2) 14 l 2 (by simp [big_len]) (unhide HRm4) (by omega) (by omega) (by omega))
  simp only [Nat.reduceAdd] at Hc
  go_wp2_with fail
  refine (unhide Hc).mono ?_
  rintro e u4 ⟨rfl, hr_, ha_⟩
  have HRm5 := hide hr_
  have HA3_5 : Hid (Aside (fun k => k = G) w2 u4) := (unhide HA3_4).trans ha_ fun _ _ h => h
  clear hr_ ha_ Hc c4 HRm4 HA3_4
  have hLen : ((((((([] : Bs) ++ bigB g 4) ++ bigB o 4) ++ bigB n 4) ++ bigB p 2) ++ bigB l 2)).length = 16 := by simp [big_len]
  have HB5 : Hid (Below w.heap.size w u4) := (unhide HB2).trans ((unhide HA3_5).below (unhide HB2).size fun k hk => by have := unhide HS1; omega)
  have HX5 := hide ((unhide HX).below (unhide HB5))
  have hsl := slice64 G
  have HLen := hide hLen
  clear hLen
  go_wp2_with (at_builtin; refine wpList_append_room14 rfl _ _ rfl G 16 (.slice sx N cx) (((((([] : Bs) ++ bigB g 4) ++ bigB o 4) ++ bigB n 4) ++ bigB p 2) ++ bigB l 2) b rfl (unhide HLen) (unhide HRm5) rfl (unhide HX5) (unhide HB0) (by rw [unhide HN]; omega) ?_
               intro w9 hr9 hg9
               rw [unhide HN]
               have HR9 := hide hr9
               have HB9 : Hid (Below w.heap.size w w9) := (unhide HB5).trans ((Aside.of_grown hg9 (S := fun k => k = G) fun k hk => (Option.some.inj hk).symm).below (unhide HB5).size fun k hk => by have := unhide HS1; omega)
               clear hr9 hg9)
  go_ret
  refine ⟨_, rfl, ?_, unhide HB9⟩
  have h := (unhide HR9).whole (B := w.heap.size) (by have := unhide HS1; omega)
  rw [List.length_append, unhide HLen, unhide HN] at h
  have e : (((((([] : Bs) ++ bigB g 4) ++ bigB o 4) ++ bigB n 4) ++ bigB p 2) ++ bigB l 2) ++ b ++ List.replicate (64 - (16 + N)) 0 = headS g o n p l ++ (b ++ List.replicate (48 - N) 0) := by
    unfold headS
    rw [show 64 - (16 + N) = 48 - N by omega]
    simp only [List.append_assoc, List.nil_append]
  rw [e] at h
  exact h
end Go.Proofs.Ytbjgknoipbekoab
