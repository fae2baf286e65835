/-
  The landed plate's Sync, walked.
  The landed plate keeps the record.
  Small words on bytes and numbers (layer 14).
  Parts of slices of bytes: the value that a slice expression gives, and what it holds.
  The walks of the landed wal's small functions: readNumber, partsOf, isSet, and of slices.IndexFunc, ContainsFunc, Clone.
  The walks of slices.IndexFunc, ContainsFunc (of isSet) and Clone, as the landed wal reaches them.
-/
import Derived.Test.YtfpndphfibfdiabQ6
import Derived.Test.YtfpndphfibfdiabQ1
import Derived.Test.YtfpndphfibfdiabQ0
import Derived.Test.YtfpndphfibfdiabQ2
import Derived.BigQuiet
namespace Go.Proofs.Ytfpndphfibfdiab
open Go.RowKit
/-- f at the places of l, g elsewhere. -/
def mixF (f g : Nat → Bs) (l : List (Nat × Bs)) : Nat → Bs := fun k => if l.any (fun x => x.1 == k) then f k else g k
theorem mix_nil (f g : Nat → Bs) (k : Nat) : mixF f g [] k = g k := rfl
theorem mix_step (f g : Nat → Bs) (l : List (Nat × Bs)) (x : Nat × Bs) (k : Nat) : upd (mixF f g l) x.1 (f x.1) k = mixF f g (l ++ [x]) k := by
  unfold upd mixF
  rw [List.any_append]
  by_cases h : k = x.1
  · subst h; simp
  · rw [if_neg h]
    have h2 : ([x].any fun y => y.1 == k) = false := by simp; exact fun e => h e.symm
    rw [h2, Bool.or_false]
theorem apply_out : ∀ {l : List (Nat × Bs)} {sf : List Bs} {k : Nat}, (l.any fun x => x.1 == k) = false → (applyL sf l).getD k zeros = sf.getD k zeros
  | [], _, _, _ => rfl
  | x :: l, sf, k, h => by
    simp only [List.any_cons, Bool.or_eq_false_iff] at h
    have h1 : x.1 ≠ k := by simpa using h.1
    have : applyL sf (x :: l) = applyL (sf.set x.1 x.2) l := rfl
    rw [this, apply_out h.2, List.getD_eq_getElem?_getD, List.getD_eq_getElem?_getD, List.getElem?_set_ne h1]
theorem mix_end {f g : Nat → Bs} {l : List (Nat × Bs)} (h : ∀ k, (l.any fun x => x.1 == k) = false → f k = g k) (k : Nat) : mixF f g l k = f k := by
  unfold mixF
  cases hc : (l.any fun x => x.1 == k)
  · simp [h k hc]
  · simp
/-- One of the writes, where it lies. -/
theorem PForm.one {B T M : Nat} {w : World} {lv : Value} {s : PS} (h : PForm B T M w lv s) {i : Nat} {y : Nat × Bs} (hy : s.loose[i]? = some y) : ∃ g c, lv = .slice (some ⟨g, 0, none⟩) s.loose.length c ∧ g < w.heap.size ∧ s.loose.length ≤ c ∧ w.rangeAt g (i * 65) (wone y.1 y.2) ∧ y.2.length = 64 ∧ y.1 < s.safe.length := by
  have hi := (List.getElem?_eq_some_iff.1 hy).1
  obtain ⟨g, c, e, _, hlt, hc, hcells⟩ := h.own.at (by omega)
  have hall : ∀ x ∈ s.loose, x.2.length = 64 := fun x hx => (h.ok.loose x hx).2
  have hy2 := h.ok.loose y (List.mem_of_getElem? hy)
  refine ⟨g, c, e, hlt, hc, fun j v hv => ?_, hy2.2, hy2.1⟩
  have hj : j < 65 := by have := (List.getElem?_eq_some_iff.1 hv).1; rwa [wone_len hy2.2] at this
  have := hcells (i * 65 + j) v (by rw [wcells_at hall hy j hj]; exact hv)
  rwa [Nat.zero_add] at this
theorem take_next {l : List (Nat × Bs)} {i : Nat} {y : Nat × Bs} (h : l[i]? = some y) : l.take (i + 1) = l.take i ++ [y] := by rw [List.take_add_one, h]; rfl
theorem PForm.none {B T M : Nat} {w w' : World} {lv : Value} {s : PS} (h : PForm B T M w lv s) (hb : Aside (fun k => k = B) w w') (sf : List Bs) (hl : sf.length = s.safe.length) (h1 : ∀ k, (applyL s.safe s.loose).getD k zeros = sf.getD k zeros) (h2 : ∀ k, s.safe.getD k zeros = sf.getD k zeros) (L : Int) (d : Bool) (hok : (⟨sf, [], L, d⟩ : PS).Ok)
    (hs : w'.heap[B]? = some (.cells [.int .i64 (s.safe.length : Int), .map (some T), .map (some M), .slice none 0 0, .int .i64 L, .bool d].toArray 37 (0, 0))) : PForm B T M w' (.slice none 0 0) ⟨sf, [], L, d⟩ :=
  ⟨by show w'.heap[B]? = some (Obj.cells [.int .i64 (sf.length : Int), _, _, _, _, _].toArray _ _); rw [hl]; exact hs, (h.there.aside hb fun e => h.bt e.symm).congr h1, (h.safe.aside hb fun e => h.bm e.symm).congr h2, ownn_nil _ _ _ _, h.bt, h.bm, h.tm, by simp [Value.ownBlock], by simp [Value.ownBlock], by simp [Value.ownBlock], hok⟩
/-- What is behind Sync's last store. -/
theorem sync_end {S R : Set_} {B T M : Nat} {w w1 wr : World} {lv : Value} {s : PS} (hS : ∀ k, S k ↔ (k = B ∨ k = T ∨ k = M ∨ lv.ownBlock = some k)) (hf : PForm B T M w1 lv ⟨s.safe, s.loose, (tickS s).left, (tickS s).down⟩) (ha : Aside S w w1)
    (hb : Aside (fun k => k = M) w1 wr) (hm : MAt wr M (mixF (fun k => (applyL s.safe s.loose).getD k zeros) (fun k => s.safe.getD k zeros) s.loose)) (hok : (⟨applyL s.safe s.loose, [], (tickS s).left, (tickS s).down⟩ : PS).Ok) :
    ∃ S' R', PAt S' R' (wr.setCell ⟨B, 3, none⟩ (.slice none 0 0)) (.pointer (some ⟨B, 0, none⟩)) ⟨applyL s.safe s.loose, [], (tickS s).left, (tickS s).down⟩ ∧ (∀ k, S' k → S k ∨ w.heap.size ≤ k) ∧ (∀ k, R' k → R k ∨ w.heap.size ≤ k) ∧ Aside S w (wr.setCell ⟨B, 3, none⟩ (.slice none 0 0)) := by
  have hstr : wr.heap[B]? = _ := (hb.block B (heap_lt hf.str) hf.bm).trans hf.str
  have hthere := hf.there.aside hb hf.tm
  have hput := row_put hstr 3 (by simp) (.slice none 0 0)
  have hg := setCell_grown (w := wr) B 3 (.slice none 0 0)
  have hbB : Aside (fun k => k = B) wr (wr.setCell ⟨B, 3, none⟩ (.slice none 0 0)) := Aside.of_grown hg fun k hk => (Option.some.inj hk).symm
  obtain ⟨w5, hw5⟩ : ∃ x, wr.setCell ⟨B, 3, none⟩ (.slice none 0 0) = x := ⟨_, rfl⟩
  rw [hw5] at hput hbB ⊢
  have hm2 := hm.congr (mix_end fun k hk => apply_out hk)
  refine ⟨fun k => k = B ∨ k = T ∨ k = M ∨ (Value.slice none 0 0).ownBlock = some k, none_, ⟨B, T, M, .slice none 0 0, rfl, ⟨?_, ?_, ?_, ownn_nil _ _ _ _, hf.bt, hf.bm, hf.tm, by simp [Value.ownBlock], by simp [Value.ownBlock], by simp [Value.ownBlock], hok⟩, fun k => Iff.rfl, fun k h => h⟩, ?_, fun k h => h.elim, ?_⟩
  · show w5.heap[B]? = some (Obj.cells [.int .i64 ((applyL s.safe s.loose).length : Int), _, _, _, _, _].toArray _ _)
    rw [apply_len]; exact hput
  · exact hthere.aside hbB fun e => hf.bt e.symm
  · exact hm2.aside hbB fun e => hf.bm e.symm
  · rintro k (h | h | h | h)
    · exact Or.inl ((hS k).2 (Or.inl h))
    · exact Or.inl ((hS k).2 (Or.inr (Or.inl h)))
    · exact Or.inl ((hS k).2 (Or.inr (Or.inr (Or.inl h))))
    · simp [Value.ownBlock] at h
  · exact (ha.trans hb fun k _ h => (hS k).2 (Or.inr (Or.inr (Or.inl h)))).trans hbB fun k _ h => (hS k).2 (Or.inl h)
set_option maxRecDepth 100000 in
set_option maxHeartbeats 8000000 in
theorem sync_c {S R : Set_} {w : World} {p : Value} {s : PS} (hp : PAt S R w p s) (hll : s.loose.length ≤ 100000) :
    Calls Try.prog 26 #[p] w fun e w' => e = .returned (.int .i64 (syncE s)) ∧ ∃ S' R', PAt S' R' w' p (syncS s) ∧ (∀ k, S' k → S k ∨ w.heap.size ≤ k) ∧ (∀ k, R' k → R k ∨ w.heap.size ≤ k) ∧ Aside S w w' := by
  obtain ⟨B, T, M, lv, rfl, hf, hS, hR⟩ := hp
  obtain ⟨sl, cl, rfl, _⟩ := hf.own.form
  have hst := pstep_c w B _ _ _ _ s.left s.down hf.str hf.ok.left hf.ok.most
  have HF := hide hf
  have HS := hide hS
  have HR := hide hR
  have HLL := hide hll
  cases hd : s.down with
  | true =>
    have e1 : syncE s = 50 := by unfold syncE; rw [hd]; rfl
    have e2 : syncS s = s := by unfold syncS; rw [hd]; rfl
    have eD : downTo s.left s.down = true := by unfold downTo; rw [hd]; split <;> rfl
    have eL : leftTo s.left s.down = s.left := by unfold leftTo; rw [hd]; rfl
    rw [eD, eL] at hst
    rw [e1, e2]
    have Hst := hide hst
    have Hd := hide hd
    clear hst eD eL e1 e2 hd hf hS hR hll
    go_enter Try.func26, Try.ntmps26
    go_wp2_with fail
    refine (unhide Hst).mono ?_
    rintro e w1 ⟨rfl, hs1, hg1⟩
    have hF1 := (unhide HF).head hg1 s.left s.down (unhide HF).ok (by rw [unhide Hd]; exact hs1)
    have HEnd : Hid (∃ S' R', PAt S' R' w1 (.pointer (some ⟨B, 0, none⟩)) s ∧ (∀ k, S' k → S k ∨ w.heap.size ≤ k) ∧ (∀ k, R' k → R k ∨ w.heap.size ≤ k) ∧ Aside S w w1) :=
      ⟨S, R, ⟨B, T, M, _, rfl, hF1, unhide HS, unhide HR⟩, fun k hk => Or.inl hk, fun k hk => Or.inl hk, Aside.of_grown hg1 fun k hk => (unhide HS k).2 (Or.inl (Option.some.inj hk).symm)⟩
    clear hs1 hg1 hF1 Hst HF
    go_wp2
    go_ret
    exact ⟨rfl, unhide HEnd⟩
  | false =>
    have eD : downTo s.left s.down = (tickS s).down := rfl
    have eL : leftTo s.left s.down = (tickS s).left := by unfold leftTo; rw [hd]; rfl
    rw [eD, eL] at hst
    cases ht : (tickS s).down with
    | true =>
      have e1 : syncE s = 50 := by unfold syncE; rw [hd, ht]; rfl
      have e2 : syncS s = tickS s := by unfold syncS; rw [hd, ht]; rfl
      rw [e1, e2]
      rw [ht] at hst
      have Hst := hide hst
      have HT := hide ht
      clear hst eD eL e1 e2 hd hf hS hR hll ht
      go_enter Try.func26, Try.ntmps26
      go_wp2_with fail
      refine (unhide Hst).mono ?_
      rintro e w1 ⟨rfl, hs1, hg1⟩
      have hF1 := (unhide HF).head hg1 (tickS s).left (tickS s).down (unhide HF).ok.tick (by rw [unhide HT]; exact hs1)
      have HEnd : Hid (∃ S' R', PAt S' R' w1 (.pointer (some ⟨B, 0, none⟩)) (tickS s) ∧ (∀ k, S' k → S k ∨ w.heap.size ≤ k) ∧ (∀ k, R' k → R k ∨ w.heap.size ≤ k) ∧ Aside S w w1) :=
        ⟨S, R, ⟨B, T, M, _, rfl, hF1, unhide HS, unhide HR⟩, fun k hk => Or.inl hk, fun k hk => Or.inl hk, Aside.of_grown hg1 fun k hk => (unhide HS k).2 (Or.inl (Option.some.inj hk).symm)⟩
      clear hs1 hg1 hF1 Hst HF
      go_wp2
      go_ret
      exact ⟨rfl, unhide HEnd⟩
    | false =>
      have e1 : syncE s = 0 := by unfold syncE; rw [hd, ht]; rfl
      have e2 : syncS s = ⟨applyL s.safe s.loose, [], (tickS s).left, (tickS s).down⟩ := by unfold syncS; rw [hd, ht]; rfl
      have HOk : Hid (⟨applyL s.safe s.loose, [], (tickS s).left, (tickS s).down⟩ : PS).Ok := by
        have := hf.ok.sync
        rwa [e2] at this
      rw [e1, e2]
      rw [ht] at hst
      have Hst := hide hst
      have HT := hide ht
      clear hst eD eL e1 e2 hd hf hS hR hll ht
      go_enter Try.func26, Try.ntmps26
      go_wp2_with fail
      refine (unhide Hst).mono ?_
      rintro e w1 ⟨rfl, hs1, hg1⟩
      have hF1 := (unhide HF).head hg1 (tickS s).left (tickS s).down (unhide HF).ok.tick (by rw [unhide HT]; exact hs1)
      have ha1 : Aside S w w1 := Aside.of_grown hg1 fun k hk => (unhide HS k).2 (Or.inl (Option.some.inj hk).symm)
      obtain ⟨_, _, _, q3, _, _⟩ := six_row hF1.str
      have HA1 := hide ha1
      have HF1 := hide hF1
      have HM0 : Hid (MAt w1 M (mixF (fun k => (applyL s.safe s.loose).getD k zeros) (fun k => s.safe.getD k zeros) (s.loose.take 0))) := hF1.safe.congr fun k => rfl
      obtain ⟨K, hK⟩ : ∃ y, s.loose.length = y := ⟨_, rfl⟩
      rw [hK] at q3
      have HKK := hide hK
      have HK5 : K ≤ 100000 := by have := unhide HLL; omega
      clear hs1 hg1 hF1 ha1 Hst HF hK HT
      have hzv := (zero_of_info info_w).1
      have hZs : (wone 0 zeros).toArray.size = 65 := by simp [wone_len zeros_len]
      obtain ⟨Z, hZ⟩ : ∃ y, (wone 0 zeros).toArray = y := ⟨_, rfl⟩
      rw [hZ] at hzv hZs
      have hne : ¬ Z = #[] := by intro e; rw [e] at hZs; simp at hZs
      clear hZ
      go_wp2
      go_loopw [13] (fun ii wr => ∃ i : Nat, i ≤ K ∧ ii = .int .i64 (i : Int) ∧ Hid (MAt wr M (mixF (fun k => (applyL s.safe s.loose).getD k zeros) (fun k => s.safe.getD k zeros) (s.loose.take i))) ∧ Hid (Aside (fun k => k = M) w1 wr)) (fun ii _ => K - (intOf ii).toNat)
      case atStart => exact ⟨0, by omega, rfl, HM0, Aside.refl _ _⟩
      case round =>
        obtain ⟨i, hi, rfl, Hm, Hb⟩ := hrel
        clear HM0 q3
        by_cases hlt : i < K
        · have f1 : decide ((i : Int) < (K : Int)) = true := by simp; omega
          have f1n : decide (i < K) = true := by simp; omega
          have j0 : (0 : Int) ≤ (i : Int) := by omega
          have j1 : (i : Int) < (K : Int) := by omega
          obtain ⟨y, hy⟩ : ∃ y, s.loose[i]? = some y := ⟨s.loose[i]'(by have := unhide HKK; omega), List.getElem?_eq_getElem (by have := unhide HKK; omega)⟩
          have hFr := (unhide HF1).own
          obtain ⟨g, c, hsl, hglt, hc, hrg, hyl, hys⟩ := (unhide HF1).one hy
          simp only [Value.slice.injEq] at hsl
          obtain ⟨rfl, _, rfl⟩ := hsl
          have hgM : g ≠ M := fun e => (unhide HF1).lM (by simp [Value.ownBlock, e])
          have HRg := hide (range_aside hrg (unhide Hb) hgM)
          have HTh := hide ((unhide HF1).there.aside (unhide Hb) (unhide HF1).tm)
          have HSt : Hid (wr.heap[B]? = some (.cells [.int .i64 (s.safe.length : Int), .map (some T), .map (some M), .slice (some ⟨g, 0, none⟩) s.loose.length cl, .int .i64 (tickS s).left, .bool (tickS s).down].toArray 37 (0, 0))) := ((unhide Hb).block B (heap_lt (unhide HF1).str) (unhide HF1).bm).trans (unhide HF1).str
          have Hstep : Hid (∀ w', MAt w' M (upd (mixF (fun k => (applyL s.safe s.loose).getD k zeros) (fun k => s.safe.getD k zeros) (s.loose.take i)) y.1 ((applyL s.safe s.loose).getD y.1 zeros)) → MAt w' M (mixF (fun k => (applyL s.safe s.loose).getD k zeros) (fun k => s.safe.getD k zeros) (s.loose.take (i + 1)))) := fun w' h => by
            rw [take_next hy]
            exact h.congr fun k => mix_step (fun k => (applyL s.safe s.loose).getD k zeros) (fun k => s.safe.getD k zeros) _ y k
          obtain ⟨n, b⟩ := y
          dsimp only at hyl Hstep HRg
          have HBL := hide hyl
          have hYs : (wone n b).toArray.size = 65 := by simp [wone_len hyl]
          have HY1 := hide (all_oneCell_toArray (wone_one n b))
          obtain ⟨Y, hY⟩ : ∃ y, (wone n b).toArray = y := ⟨_, rfl⟩
          rw [hY] at hYs HY1
          have HY := hide hY
          have HZ1 := hide (heap_alloc_new wr (.cells Z 71))
          have HW2 : Hid (((wr.alloc (.cells Z 71)).setRow wr.heap.size Y).heap[wr.heap.size]? = some (.cells Y 71 (0, 0)) ∧ Below wr.heap.size wr ((wr.alloc (.cells Z 71)).setRow wr.heap.size Y)) :=
            ⟨setRow_heap _ _ _ _ _ _ (unhide HZ1), below_setRow ((Below.refl _ _).alloc (Nat.le_refl _) _) (Nat.le_refl _) _⟩
          obtain ⟨b2, hb2⟩ : ∃ y, (applyL s.safe s.loose).getD n zeros = y := ⟨_, rfl⟩
          rw [hb2] at Hstep
          have hb2l : b2.length = 64 := by rw [← hb2]; exact (unhide HTh).len n
          have Hlk : Hid (∀ w', MAt w' T (fun k => (applyL s.safe s.loose).getD k zeros) → (Instr.lookup 34 (.map (some T)) (.int .i64 (n : Int)) false).run Try.prog w' = .ok (.agg (b2.map bv).toArray) w') := fun w' h => by
            have := h.look n
            (try dsimp only at this)
            rw [hb2] at this
            exact this
          have HPut := hide fun w hm => put_c w M (mixF (fun k => (applyL s.safe s.loose).getD k zeros) (fun k => s.safe.getD k zeros) (s.loose.take i)) hm n b2 hb2l
          unfold sv at HPut
          obtain ⟨X, hX⟩ : ∃ y, (b2.map bv).toArray = y := ⟨_, rfl⟩
          rw [hX] at HPut Hlk
          have hKc : K ≤ cl := by have := unhide HKK; omega
          clear hy hrg hyl hys hY hX hb2 hb2l hFr hglt hc hgM
          go_wp2_with (first
            | (refine wpList_load_mid rfl 71 _ rfl g (i * 65) rfl (wone n b) _ (unhide HRg) Try.underlying71 rfl (by rw [wone_len (unhide HBL)]; exact size_w) ?_
               rw [unhide HY])
            | (refine wpList_store_row rfl 71 _ _ rfl wr.heap.size Y rfl rfl 71 Z (unhide HZ1) (by rw [hYs]; exact size_w) (by rw [hYs, hZs]) (unhide HY1) ?_))
          obtain ⟨w2, hw2⟩ : ∃ x, (wr.alloc (.cells Z 71)).setRow wr.heap.size Y = x := ⟨_, rfl⟩
          rw [hw2] at HW2 ⊢
          obtain ⟨V, hV⟩ : ∃ x, wr.heap.size = x := ⟨_, rfl⟩
          rw [hV] at HW2 ⊢
          have HB2 : Hid (Below wr.heap.size wr w2) := by show Below _ _ _; rw [hV]; exact (unhide HW2).2
          have HVM : Hid (V ≠ M) := by have := (unhide Hm).lt; show V ≠ M; omega
          have HC2 : Hid (w2.cell? ⟨B, 2, none⟩ = some (.map (some M)) ∧ w2.cell? ⟨V, 0, none⟩ = some (.int .i64 (n : Int)) ∧ w2.cell? ⟨B, 1, none⟩ = some (.map (some T)) ∧ MAt w2 T fun k => (applyL s.safe s.loose).getD k zeros) := by
            have h1 := unhide HSt
            rw [← (unhide HB2).block B (heap_lt h1)] at h1
            have h2 := (unhide HW2).1
            rw [← unhide HY] at h2
            exact ⟨row_cell h1 2 _ rfl, range_head (range_of_row h2), row_cell h1 1 _ rfl, (unhide HTh).below (unhide HB2)⟩
          have HM2 := hide ((unhide Hm).below (unhide HB2))
          have HA2 : Hid (Aside (fun k => k = M) w1 w2) := (unhide Hb).trans (T := none_) (Aside.of_below (unhide HB2)) fun k _ h => h.elim
          have HBM := hide (unhide HF1).bm
          have HTM := hide (unhide HF1).tm
          clear hw2 hV HW2 HZ1 HY1 hYs hZs hzv HRg HTh HSt Hm Hb HB2
          refine wp_region_held_drew (S := fun w' => w'.cell? ⟨B, 2, none⟩ = some (.map (some M)) ∧ w'.cell? ⟨V, 0, none⟩ = some (.int .i64 (n : Int)) ∧ w'.cell? ⟨B, 1, none⟩ = some (.map (some T)) ∧ MAt w' T (fun k => (applyL s.safe s.loose).getD k zeros)) (by kernel_rfl) (unhide HC2) (fun hHeld => ?_)
          refine wpAnyH_take (i := 0) (oi := { dst := some 17, op := Op.move (Operand.tmp 0), type := 23, pos := "plate.go:72", after := #[], guard := none }) (v := ?_) rfl (by kernel_rfl) (by kernel_rfl) (by kernel_rfl) (fun _ _ _ h => h) (Or.inl ⟨by rfl, ?r1⟩) (by assumption) ?_
          case r1 => (intro w_ hSw; obtain ⟨p2, pn, p1, pm⟩ := hSw; go_simp; try with_reducible rfl)
          simp only [Act.put, List.setIfInBounds_toArray, List.set_cons_zero, List.set_cons_succ]
          refine wpAnyH_take (i := 1) (oi := { dst := some 18, op := Op.nilCheck (Operand.tmp 17), type := 0, pos := "plate.go:72", after := #[{ on := 0, ground := Ground.data }], guard := none }) (v := ?_) rfl (by kernel_rfl) (by kernel_rfl) (by kernel_rfl) (fun _ _ _ h => h) (Or.inl ⟨by rfl, ?r2⟩) (by assumption) ?_
          case r2 => (intro w_ hSw; obtain ⟨p2, pn, p1, pm⟩ := hSw; go_simp; try with_reducible rfl)
          simp only [Act.put, List.setIfInBounds_toArray, List.set_cons_zero, List.set_cons_succ]
          refine wpAnyH_take (i := 2) (oi := { dst := some 19, op := Op.fieldAddr 37 (Operand.tmp 18) 2, type := 0, pos := "plate.go:72", after := #[{ on := 1, ground := Ground.data }], guard := none }) (v := ?_) rfl (by kernel_rfl) (by kernel_rfl) (by kernel_rfl) (fun _ _ _ h => h) (Or.inl ⟨by rfl, ?r3⟩) (by assumption) ?_
          case r3 => (intro w_ hSw; obtain ⟨p2, pn, p1, pm⟩ := hSw; go_simp; try with_reducible rfl)
          simp only [Act.put, List.setIfInBounds_toArray, List.set_cons_zero, List.set_cons_succ]
          refine wpAnyH_take (i := 3) (oi := { dst := some 20, op := Op.load 34 (Operand.tmp 19), type := 34, pos := "plate.go:72", after := #[{ on := 2, ground := Ground.data }], guard := none }) (v := ?_) rfl (by kernel_rfl) (by kernel_rfl) (by kernel_rfl) (fun _ _ _ h => h) (Or.inl ⟨by rfl, ?r4⟩) (by assumption) ?_
          case r4 => (intro w_ hSw; obtain ⟨p2, pn, p1, pm⟩ := hSw; go_simp; try with_reducible rfl)
          simp only [Act.put, List.setIfInBounds_toArray, List.set_cons_zero, List.set_cons_succ]
          refine wpAnyH_take (i := 4) (oi := { dst := some 21, op := Op.fieldAddr 71 (Operand.tmp 4) 0, type := 0, pos := "plate.go:72", after := #[], guard := none }) (v := ?_) rfl (by kernel_rfl) (by kernel_rfl) (by kernel_rfl) (fun _ _ _ h => h) (Or.inl ⟨by rfl, ?r5⟩) (by assumption) ?_
          case r5 => (intro w_ hSw; obtain ⟨p2, pn, p1, pm⟩ := hSw; go_simp; try with_reducible rfl)
          simp only [Act.put, List.setIfInBounds_toArray, List.set_cons_zero, List.set_cons_succ]
          refine wpAnyH_take (i := 5) (oi := { dst := some 22, op := Op.load 3 (Operand.tmp 21), type := 3, pos := "plate.go:72", after := #[{ on := 4, ground := Ground.data }], guard := none }) (v := ?_) rfl (by kernel_rfl) (by kernel_rfl) (by kernel_rfl) (fun _ _ _ h => h) (Or.inl ⟨by rfl, ?r6⟩) (by assumption) ?_
          case r6 => (intro w_ hSw; obtain ⟨p2, pn, p1, pm⟩ := hSw; go_simp; try with_reducible rfl)
          simp only [Act.put, List.setIfInBounds_toArray, List.set_cons_zero, List.set_cons_succ]
          refine wpAnyH_take (i := 6) (oi := { dst := some 23, op := Op.move (Operand.tmp 0), type := 23, pos := "plate.go:72", after := #[], guard := none }) (v := ?_) rfl (by kernel_rfl) (by kernel_rfl) (by kernel_rfl) (fun _ _ _ h => h) (Or.inl ⟨by rfl, ?r7⟩) (by assumption) ?_
          case r7 => (intro w_ hSw; obtain ⟨p2, pn, p1, pm⟩ := hSw; go_simp; try with_reducible rfl)
          simp only [Act.put, List.setIfInBounds_toArray, List.set_cons_zero, List.set_cons_succ]
          refine wpAnyH_take (i := 7) (oi := { dst := some 24, op := Op.nilCheck (Operand.tmp 23), type := 0, pos := "plate.go:72", after := #[{ on := 6, ground := Ground.data }], guard := none }) (v := ?_) rfl (by kernel_rfl) (by kernel_rfl) (by kernel_rfl) (fun _ _ _ h => h) (Or.inl ⟨by rfl, ?r8⟩) (by assumption) ?_
          case r8 => (intro w_ hSw; obtain ⟨p2, pn, p1, pm⟩ := hSw; go_simp; try with_reducible rfl)
          simp only [Act.put, List.setIfInBounds_toArray, List.set_cons_zero, List.set_cons_succ]
          refine wpAnyH_take (i := 8) (oi := { dst := some 25, op := Op.fieldAddr 37 (Operand.tmp 24) 1, type := 0, pos := "plate.go:72", after := #[{ on := 7, ground := Ground.data }], guard := none }) (v := ?_) rfl (by kernel_rfl) (by kernel_rfl) (by kernel_rfl) (fun _ _ _ h => h) (Or.inl ⟨by rfl, ?r9⟩) (by assumption) ?_
          case r9 => (intro w_ hSw; obtain ⟨p2, pn, p1, pm⟩ := hSw; go_simp; try with_reducible rfl)
          simp only [Act.put, List.setIfInBounds_toArray, List.set_cons_zero, List.set_cons_succ]
          refine wpAnyH_take (i := 9) (oi := { dst := some 26, op := Op.load 34 (Operand.tmp 25), type := 34, pos := "plate.go:72", after := #[{ on := 8, ground := Ground.data }], guard := none }) (v := ?_) rfl (by kernel_rfl) (by kernel_rfl) (by kernel_rfl) (fun _ _ _ h => h) (Or.inl ⟨by rfl, ?r10⟩) (by assumption) ?_
          case r10 => (intro w_ hSw; obtain ⟨p2, pn, p1, pm⟩ := hSw; go_simp; try with_reducible rfl)
          simp only [Act.put, List.setIfInBounds_toArray, List.set_cons_zero, List.set_cons_succ]
          refine wpAnyH_take (i := 10) (oi := { dst := some 27, op := Op.fieldAddr 71 (Operand.tmp 4) 0, type := 0, pos := "plate.go:72", after := #[], guard := none }) (v := ?_) rfl (by kernel_rfl) (by kernel_rfl) (by kernel_rfl) (fun _ _ _ h => h) (Or.inl ⟨by rfl, ?r11⟩) (by assumption) ?_
          case r11 => (intro w_ hSw; obtain ⟨p2, pn, p1, pm⟩ := hSw; go_simp; try with_reducible rfl)
          simp only [Act.put, List.setIfInBounds_toArray, List.set_cons_zero, List.set_cons_succ]
          refine wpAnyH_take (i := 11) (oi := { dst := some 28, op := Op.load 3 (Operand.tmp 27), type := 3, pos := "plate.go:72", after := #[{ on := 10, ground := Ground.data }], guard := none }) (v := ?_) rfl (by kernel_rfl) (by kernel_rfl) (by kernel_rfl) (fun _ _ _ h => h) (Or.inl ⟨by rfl, ?r12⟩) (by assumption) ?_
          case r12 => (intro w_ hSw; obtain ⟨p2, pn, p1, pm⟩ := hSw; go_simp; try with_reducible rfl)
          simp only [Act.put, List.setIfInBounds_toArray, List.set_cons_zero, List.set_cons_succ]
          refine wpAnyH_take (i := 12) (oi := { dst := some 29, op := Op.lookup 34 (Operand.tmp 26) (Operand.tmp 28) false, type := 65, pos := "plate.go:72", after := #[{ on := 9, ground := Ground.data }, { on := 11, ground := Ground.data }], guard := none }) (v := .agg X) rfl (by kernel_rfl) (by kernel_rfl) (by kernel_rfl) (fun _ _ _ h => h) (Or.inl ⟨by rfl, ?r13⟩) (by assumption) ?_
          case r13 => (intro w_ hSw; have hlk := unhide Hlk w_ hSw.2.2.2; go_simp; try with_reducible rfl)
          simp only [Act.put, List.setIfInBounds_toArray, List.set_cons_zero, List.set_cons_succ]
          refine wpAnyH_ready (rs := [13]) (by kernel_rfl) (by simp) ?_
          refine AllReadyH.cons (o := { dst := some 30, op := Op.call { callee := Callee.value (Operand.func 33), args := #[Operand.tmp 20, Operand.tmp 22, Operand.tmp 29], argTypes := #[34, 3, 65] }, type := 0, pos := "plate.go:72", after := #[{ on := 3, ground := Ground.data }, { on := 5, ground := Ground.data }, { on := 12, ground := Ground.data }], guard := none }) rfl (fun K_ hK_ => ?_) AllReadyH.nil
          go_simp
          go_at_call 33
          refine (unhide HPut w2.drew (unhide HM2)).mono ?_
          rintro e w3 ⟨rfl, hm3, ha3⟩
          have HM3 := hide hm3
          have ha3' := Aside.of_drew ha3
          have HA3 := hide ((unhide HA2).trans ha3' fun k _ h => h)
          have HC3 : Hid (w3.cell? ⟨B, 2, none⟩ = some (.map (some M)) ∧ w3.cell? ⟨V, 0, none⟩ = some (.int .i64 (n : Int)) ∧ w3.cell? ⟨B, 1, none⟩ = some (.map (some T)) ∧ MAt w3 T (fun k => (applyL s.safe s.loose).getD k zeros)) := ⟨cell_aside (unhide HC2).1 ha3' (unhide HBM), cell_aside (unhide HC2).2.1 ha3' (unhide HVM), cell_aside (unhide HC2).2.2.1 ha3' (unhide HBM), (unhide HC2).2.2.2.aside ha3' (unhide HTM)⟩
          clear hm3 ha3 ha3'
          go_simp
          refine hK_.out _ _ (unhide HC3) (fun hHeld => ?_)
          clear hK_ K_
          (try simp only [Act.put, List.setIfInBounds_toArray, List.set_cons_zero, List.set_cons_succ])
          refine wpAnyH_done (by kernel_rfl) ?_ _
          have HM4 := hide (unhide Hstep w3 (unhide HM3))
          clear HM3 hHeld HPut Hlk HC2 HM2
          go_wp2
          refine ⟨⟨i + 1, by omega, ?_, HM4, HA3⟩, ?_⟩
          · simp
          · simp [intOf]; omega
        · obtain rfl : i = K := by omega
          have f1 : decide ((i : Int) < (i : Int)) = false := by simp
          rw [← unhide HKK, List.take_length] at Hm
          have HEnd := hide (sync_end (R := R) (unhide HS) (unhide HF1) (unhide HA1) (unhide Hb) (unhide Hm) (unhide HOk))
          have hstr := ((unhide Hb).block B (heap_lt (unhide HF1).str) (unhide HF1).bm).trans (unhide HF1).str
          have c3 := row_cell hstr 3 _ rfl
          have z3 := row_frozen hstr 3
          obtain ⟨w5, hw5⟩ : ∃ x, wr.setCell ⟨B, 3, none⟩ (.slice none 0 0) = x := ⟨_, rfl⟩
          rw [hw5] at HEnd
          clear hstr Hm Hb hzv hZs hne
          go_wp2
          go_ret
          exact ⟨rfl, unhide HEnd⟩
end Go.Proofs.Ytfpndphfibfdiab
namespace Go.Proofs.Ytfpndphfibfdiab
open Go.RowKit
theorem plate_kept : Plate PAt where
  ptr := fun h => by obtain ⟨B, _, _, _, rfl, _⟩ := h; exact ⟨_, rfl⟩
  ok := fun h => by obtain ⟨_, _, _, _, _, hf, _⟩ := h; exact hf.ok
  old := fun h k hk => by
    obtain ⟨B, T, M, lv, _, hf, hS, hR⟩ := h
    rcases hk with hk | hk
    · rcases (hS k).1 hk with rfl | rfl | rfl | h
      · exact heap_lt hf.str
      · exact hf.there.lt
      · exact hf.safe.lt
      · exact (hf.own.lt k h).2
    · exact (hR k hk).elim
  apart := fun h k _ hk => by obtain ⟨_, _, _, _, _, _, _, hR⟩ := h; exact hR k hk
  kept := fun h hb hT => by
    obtain ⟨B, T, M, lv, rfl, hf, hS, hR⟩ := h
    refine ⟨B, T, M, lv, rfl, hf.aside hb fun k hk => ?_, hS, hR⟩
    have h1 := (hT k hk).1
    rw [hS] at h1
    exact ⟨fun e => h1 (Or.inl e), fun e => h1 (Or.inr (Or.inl e)), fun e => h1 (Or.inr (Or.inr (Or.inl e))), fun e => h1 (Or.inr (Or.inr (Or.inr e)))⟩
  new_yes := new_yes
  new_no := new_no
  sectors := sectors_c
  write := fun a x b h hx hxs hbl hll _ _ => write_c a x b h hx hxs hbl hll
  read := fun a h _ _ _ => read_c a h
  sync := sync_c
end Go.Proofs.Ytfpndphfibfdiab
namespace Go.Proofs.Ytfpndphfibfdiab
open Go.RowKit
theorem bigB_cons : ∀ (n k : Nat), bigB n (k + 1) = UInt8.ofNat (n / 256 ^ k) :: bigB n k
  | n, 0 => by show bigB (n / 256) 0 ++ [UInt8.ofNat n] = [UInt8.ofNat (n / 256 ^ 0)]; simp [bigB]
  | n, k + 1 => by
    have ih := bigB_cons (n / 256) k
    show bigB (n / 256) (k + 1) ++ [UInt8.ofNat n] = UInt8.ofNat (n / 256 ^ (k + 1)) :: (bigB (n / 256) k ++ [UInt8.ofNat n])
    rw [ih, List.cons_append, Nat.div_div_eq_div_mul, Nat.pow_succ, Nat.mul_comm (256 ^ k) 256]
/-- An empty literal. -/
theorem ownb_empty (w : World) : OwnB (w.alloc (.cells #[] 5)) w.heap.size (.slice (some ⟨w.heap.size, 0, none⟩) 0 0) [] := ⟨rfl, Or.inr ⟨w.heap.size, 0, #[], rfl, Nat.le_refl _, heap_alloc_new w _, Nat.le_refl _, Nat.zero_le _, rfl, rfl⟩⟩
theorem num_take {b : Bs} {i : Nat} (hi : i < b.length) : numB (b.take (i + 1)) = 256 * numB (b.take i) + (b.getD i 0).toNat := by
  rw [List.take_add_one, List.getElem?_eq_getElem hi]
  show numB (b.take i ++ [b[i]]) = _
  rw [num_snoc, List.getD_eq_getElem?_getD, List.getElem?_eq_getElem hi]
  rfl
theorem num_small (b : Bs) (i : Nat) (h : b.length ≤ 6) : numB (b.take i) < 281474976710656 := by
  have h1 := num_lt (b.take i)
  have h2 : (b.take i).length ≤ 6 := by rw [List.length_take]; omega
  have h3 : 256 ^ (b.take i).length ≤ 256 ^ 6 := Nat.pow_le_pow_right (by omega) h2
  omega
end Go.Proofs.Ytfpndphfibfdiab
namespace Go.Proofs.Ytfpndphfibfdiab
open Go.RowKit
theorem under_b : Try.prog.underlying 30 = some (.slice (Try.prog.elem 30)) := by kernel_rfl
theorem elem_b : Try.prog.elem 30 = 5 := by kernel_rfl
theorem size5 (w : World) : (Go.sizeOf 5).run Try.prog w = .ok 1 w := by
  obtain ⟨_, ⟨i, hi, _, hsz, _⟩, _, _⟩ := Eb
  simp [Go.sizeOf, typeInfo, hi, hsz]
/-- The front of a slice of bytes. -/
theorem slice_front (sp : Option Addr) (n c k : Nat) (hk : k ≤ c) (w : World) : (Instr.sliceAt 30 (.slice sp n c) none (some (.int .i64 (k : Int))) none).run Try.prog w = .ok (.slice sp k c) w := by
  rw [run_sliceAt_slice w 30 _ _ _ _ under_b, run_slice_h w 30 sp n c under_b .i64 (k : Int) (by omega) (by omega), elem_b, size5, Result.andThen_ok]
  simp only [sliced, Int.toNat_natCast, Nat.sub_zero, Nat.zero_mul]
  split
  · rfl
  · cases sp <;> simp [Addr.add]
def cutAt (sp : Option Addr) (c f : Nat) : Option Addr := if c = f then sp else sp.map (·.add f)
theorem slice_mid (sp : Option Addr) (K c f e : Nat) (hf : f ≤ e) (he : e ≤ c) (w : World) : (Instr.sliceAt 30 (.slice sp K c) (some (.int .i64 (f : Int))) (some (.int .i64 (e : Int))) none).run Try.prog w = .ok (.slice (cutAt sp c f) (e - f) (c - f)) w := by
  rw [run_sliceAt_slice w 30 _ _ _ _ under_b, run_slice_lh w 30 sp K c under_b .i64 .i64 (f : Int) (e : Int) (by omega) (by omega) (by omega), elem_b, size5, Result.andThen_ok]
  simp only [sliced, Int.toNat_natCast, Nat.mul_one]
  rfl
theorem slice_rest (sp : Option Addr) (K c f : Nat) (hf : f ≤ K) (w : World) : (Instr.sliceAt 30 (.slice sp K c) (some (.int .i64 (f : Int))) none none).run Try.prog w = .ok (.slice (cutAt sp c f) (K - f) (c - f)) w := by
  rw [run_sliceAt_slice w 30 _ _ _ _ under_b, run_slice_l w 30 sp K c under_b .i64 (f : Int) (by omega) (by omega), elem_b, size5, Result.andThen_ok]
  simp only [sliced, Int.toNat_natCast, Nat.mul_one]
  rfl
theorem bytes_part {w : World} {sp : Option Addr} {c : Nat} {b : Bs} (h : BytesAt w (.slice sp b.length c) b) (f e : Nat) (hf : f ≤ e) (he : e ≤ b.length) : BytesAt w (.slice (cutAt sp c f) (e - f) (c - f)) ((b.drop f).take (e - f)) := by
  obtain ⟨sp', c', ex, h1, h2, h3⟩ := h
  simp only [Value.slice.injEq] at ex
  obtain ⟨rfl, _, rfl⟩ := ex
  rw [List.length_map] at h1
  have hl : (((b.drop f).take (e - f)).map bv).length = e - f := by rw [List.length_map, List.length_take, List.length_drop]; omega
  refine ⟨_, _, by rw [hl], by omega, fun h => ?_, fun hne => ?_⟩
  · unfold cutAt at h
    split at h
    · omega
    · have : sp = none := by cases sp with
        | none => rfl
        | some a => simp at h
      rw [h2 this]; omega
  · have hpos : 0 < e - f := by
      rcases Nat.eq_zero_or_pos (e - f) with h0 | h0
      · exact absurd (List.eq_nil_of_length_eq_zero (hl.trans h0)) hne
      · exact h0
    obtain ⟨bb, o, rfl, hr⟩ := h3 (by intro e0; have := congrArg List.length e0; rw [List.length_map] at this; simp at this; rw [this] at he; simp at he; omega)
    unfold cutAt
    rw [if_neg (by omega)]
    refine ⟨bb, o + f, by simp [Addr.add_mid], fun j v hv => ?_⟩
    have hj : j < e - f := by have := (List.getElem?_eq_some_iff.1 hv).1; omega
    have := hr (f + j) v (by
      rw [← hv]
      rw [List.getElem?_map, List.getElem?_map, List.getElem?_take, if_pos hj, List.getElem?_drop])
    rwa [← Nat.add_assoc] at this
theorem bytes_rest {w : World} {sp : Option Addr} {c : Nat} {b : Bs} (h : BytesAt w (.slice sp b.length c) b) (f : Nat) (hf : f ≤ b.length) : BytesAt w (.slice (cutAt sp c f) (b.length - f) (c - f)) (b.drop f) := by
  have := bytes_part h f b.length hf (Nat.le_refl _)
  rwa [List.take_of_length_le (by rw [List.length_drop]; omega)] at this
theorem bytes_front {w : World} {sp : Option Addr} {c : Nat} {b : Bs} (h : BytesAt w (.slice sp b.length c) b) (e : Nat) (he : e ≤ b.length) : BytesAt w (.slice sp e c) (b.take e) := by
  obtain ⟨sp', c', ex, h1, h2, h3⟩ := h
  simp only [Value.slice.injEq] at ex
  obtain ⟨rfl, _, rfl⟩ := ex
  rw [List.length_map] at h1
  have hl : ((b.take e).map bv).length = e := by rw [List.length_map, List.length_take]; omega
  refine ⟨sp, c, by rw [hl], by omega, h2, fun hne => ?_⟩
  obtain ⟨bb, o, e2, hr⟩ := h3 (by intro e0; exact hne (by have : b = [] := by simpa using e0
                                                           rw [this]; simp))
  refine ⟨bb, o, e2, fun j v hv => hr j v ?_⟩
  have hj : j < e := by have := (List.getElem?_eq_some_iff.1 hv).1; omega
  rw [← hv, List.getElem?_map, List.getElem?_map, List.getElem?_take, if_pos hj]
end Go.Proofs.Ytfpndphfibfdiab
namespace Go.Proofs.Ytfpndphfibfdiab
open Go.RowKit
theorem below_drewNb {B : Nat} {a w : World} (h : Below B a w) (n : Nat) : Below B a (w.drewN n) := h.trans ⟨rfl, rfl, rfl, Nat.le_refl _, fun _ _ => rfl⟩
theorem ofInt_i64 (a : Nat) (ha : a < 9223372036854775808) : (BitVec.ofInt 64 (a : Int)).toNat = a := by
  rw [BitVec.ofInt_natCast, BitVec.toNat_ofNat]; exact Nat.mod_eq_of_lt (by omega)
theorem i64_or_nat (a b : Nat) (ha : a < 4294967296) (hb : b < 4294967296) : bits .or .i64 (a : Int) (b : Int) = ((a ||| b : Nat) : Int) := by
  have hx : a ||| b < 2 ^ 32 := Nat.or_lt_two_pow (by omega) (by omega)
  show IntKind.i64.wrap ((BitVec.ofInt 64 (a : Int) ||| BitVec.ofInt 64 (b : Int)).toNat : Int) = _
  rw [BitVec.toNat_or, ofInt_i64 a (by omega), ofInt_i64 b (by omega), IntKind.wrap_i64]
  omega
theorem or_byte (m p : Nat) (hp : p < 256) : m * 256 ||| p = 256 * m + p := by
  have := Nat.two_pow_add_eq_or_of_lt (i := 8) (b := p) (by omega) m
  rw [show (2 : Nat) ^ 8 = 256 from rfl] at this
  rw [Nat.mul_comm m 256]
  exact this.symm
theorem num_small4 (b : Bs) (i : Nat) (h : b.length ≤ 4) : numB (b.take i) < 4294967296 := by
  have h1 := num_lt (b.take i)
  have h2 : (b.take i).length ≤ 4 := by rw [List.length_take]; omega
  have h3 : 256 ^ (b.take i).length ≤ 256 ^ 4 := Nat.pow_le_pow_right (by omega) h2
  omega
set_option maxRecDepth 100000 in
set_option maxHeartbeats 1000000 in
theorem wnum_s (w : World) (x : Value) (b : Bs) (hx : BytesAt w x b) (hl : b.length ≤ 4) : Calls Try.prog 28 #[x] w fun e w' => e = .returned (.int .i64 (numB b : Int)) ∧ w' = w := by
  obtain ⟨sp, c, rfl, _, _, hc⟩ := bytes_open hx
  obtain ⟨N, hN⟩ : ∃ N, b.length = N := ⟨_, rfl⟩
  rw [hN] at hc ⊢
  have H1 := hide hc
  have HN := hide hN
  have hN6 : N ≤ 4 := by omega
  have HS := hide (fun i => num_small4 b i hl)
  obtain ⟨ANS, hA⟩ : ∃ y, numB b = y := ⟨_, rfl⟩
  rw [hA]
  have HA := hide hA
  clear hc hx hN hl hA
  go_enter Try.func28, Try.ntmps28
  go_wp2
  go_loopw [3, 5, 8] (fun nn _ ii wr => ∃ i m : Nat, i ≤ N ∧ m < 4294967296 ∧ nn = .int .i64 (m : Int) ∧ ii = .int .i64 (i : Int) ∧ wr.heap = w.heap ∧ Hid (m = numB (b.take i)) ∧ Hid (wr = w)) (fun _ _ ii _ => N - (intOf ii).toNat)
  case atStart => exact ⟨0, 0, by omega, by omega, rfl, rfl, rfl, rfl, rfl⟩
  case round =>
    obtain ⟨i, m, hi, hm, rfl, rfl, hh, Hm, Hb⟩ := hrel
    by_cases hlt : i < N
    · have hnb : b ≠ [] := by intro e; have := unhide HN; rw [e] at this; simp at this; omega
      obtain ⟨bb, oo, rfl, _, hcell⟩ := unhide H1 hnb
      have c1 : wr.cell? ⟨bb, oo + i, none⟩ = some (.int .u8 ((b.getD i 0).toNat : Int)) := by rw [← hcell i hlt]; unfold World.cell?; rw [hh]
      have hnx := num_take (b := b) (i := i) (by have := unhide HN; omega)
      have hsm := unhide HS (i + 1)
      rw [hnx, ← unhide Hm] at hsm
      have hlt256 := (b.getD i 0).toNat_lt
      obtain ⟨p, hp⟩ : ∃ p, (b.getD i 0).toNat = p := ⟨_, rfl⟩
      rw [hp] at c1 hnx hsm hlt256
      obtain ⟨m1, hm1⟩ : ∃ m1, m * 256 = m1 := ⟨_, rfl⟩
      obtain ⟨m2, hm2⟩ : ∃ m2, 256 * m + p = m2 := ⟨_, rfl⟩
      have e1 : (m : Int) * 256 = (m1 : Int) := by omega
      have b1 : m1 < 4294967296 := by omega
      have e2 : bits .or .i64 (m1 : Int) (p : Int) = (m2 : Int) := by
        rw [i64_or_nat m1 p b1 (by omega), ← hm1, or_byte m p hlt256, hm2]
      have b2 : m2 < 4294967296 := by omega
      have Hm2 : Hid (m2 = numB (b.take (i + 1))) := by show _ = _; rw [hnx, ← unhide Hm, hm2]
      have f1 : decide ((i : Int) < (N : Int)) = true := by simp; omega
      have f1n : decide (i < N) = true := by simp; omega
      have j0 : (0 : Int) ≤ (i : Int) := by omega
      have j1 : (i : Int) < (N : Int) := by omega
      clear hnb hcell hnx hsm hp hm1 hm2 Hm
      go_wp2
      refine ⟨⟨i + 1, m2, by omega, b2, ?_, ?_, hh, Hm2, Hb⟩, ?_⟩
      · simp
      · simp
      · simp [intOf]; omega
    · obtain rfl : i = N := by omega
      have f1 : decide ((i : Int) < (i : Int)) = false := by simp
      obtain rfl : m = ANS := by rw [unhide Hm, ← unhide HA, List.take_of_length_le (by have := unhide HN; omega)]
      clear Hm
      go_wp2
      go_ret
      exact ⟨rfl, unhide Hb⟩
/-- A part of a sector, read as a number. -/
theorem quiet_wnum {wr : World} {x : Value} {b : Bs} {k : Nat} (hx : BytesAt wr x b) (hl : b.length ≤ 4) (hk : numB b = k) (n : Nat) : Calls Try.prog 28 #[x] (wr.drewN n) fun e w' => e = .returned (.int .i64 (k : Int)) ∧ ∃ q, w' = (wr.drewN n).drewN q := by
  have h := wnum_s (wr.drewN n) x b (hx.below (below_drewNb (Below.refl _ _) n)) hl
  rw [hk] at h
  exact h.mono fun e w' h => ⟨h.1, 0, h.2⟩
set_option maxRecDepth 100000 in
theorem wparts_s (w : World) (n : Nat) (hn : n ≤ 4294967296) : Calls Try.prog 13 #[.int .i64 (n : Int)] w fun e w' => e = .returned (.int .i64 (needs n : Int)) ∧ w' = w := by
  obtain ⟨q, hq⟩ : ∃ q, needs n = q := ⟨_, rfl⟩
  have hq' : q = (n + 51) / 48 := by rw [← hq]; rfl
  rw [hq]
  obtain ⟨a, ha⟩ : ∃ a, 4 + n + 47 = a := ⟨_, rfl⟩
  obtain ⟨a1, ha1⟩ : ∃ a1, 4 + n = a1 := ⟨_, rfl⟩
  obtain ⟨a2, ha2⟩ : ∃ a2, a1 + 48 = a2 := ⟨_, rfl⟩
  have e1 : (4 : Int) + (n : Int) = (a1 : Int) := by omega
  have e2 : (a1 : Int) + 48 = (a2 : Int) := by omega
  have e3 : (a2 : Int) - 1 = (a : Int) := by omega
  have e4 : (a : Int).tdiv 48 = (q : Int) := by rw [Int.tdiv_eq_ediv_of_nonneg (by omega)]; omega
  have e5 : (a : Int) / 48 = (q : Int) := by omega
  have hab : a ≤ 4294967396 := by omega
  clear hq hq' ha ha1 ha2
  go_enter Try.func13, Try.ntmps13
  go_wp2
  go_ret
  exact ⟨rfl, rfl⟩
set_option maxRecDepth 100000 in
theorem isset_s (w : World) (x : Nat) : Calls Try.prog 35 #[.int .u8 (x : Int)] w fun e w' => e = .returned (.bool (decide (x ≠ 0))) ∧ w' = w := by
  obtain ⟨D, hD⟩ : ∃ D, decide (x ≠ 0) = D := ⟨_, rfl⟩
  have e1 : ((x : Int) != 0) = D := by rw [← hD]; by_cases h : x = 0 <;> simp [h]
  rw [hD]
  clear hD
  go_enter Try.func35, Try.ntmps35
  go_wp2
  go_ret
  exact ⟨rfl, rfl⟩
end Go.Proofs.Ytfpndphfibfdiab
namespace Go.Proofs.Ytfpndphfibfdiab
open Go.RowKit
/-- Is a byte other than nought there? -/
def anySet (b : Bs) : Bool := b.any (· != 0)
theorem any_zeros (n : Nat) : anySet (List.replicate n 0) = false := by
  unfold anySet
  rw [List.any_eq_false]
  intro x hx
  rw [List.eq_of_mem_replicate hx]
  decide
theorem not_any {b : Bs} (h : anySet b = false) : b = List.replicate b.length 0 := by
  unfold anySet at h
  rw [List.any_eq_false] at h
  refine List.eq_replicate_iff.2 ⟨rfl, fun x hx => ?_⟩
  have := h x hx
  simpa using this
theorem any_at {b : Bs} {i : Nat} (h : ∀ j, j < i → b.getD j 0 = 0) (hi : i = b.length) : anySet b = false := by
  unfold anySet
  rw [List.any_eq_false]
  intro x hx
  obtain ⟨j, hj, e⟩ := List.getElem_of_mem hx
  have := h j (by omega)
  rw [List.getD_eq_getElem?_getD, List.getElem?_eq_getElem hj, e] at this
  simpa using this
theorem any_here {b : Bs} {i : Nat} (hi : i < b.length) (h : (b.getD i 0).toNat ≠ 0) : anySet b = true := by
  unfold anySet
  rw [List.any_eq_true]
  refine ⟨b[i], List.getElem_mem hi, ?_⟩
  rw [List.getD_eq_getElem?_getD, List.getElem?_eq_getElem hi] at h
  simp only [Option.getD_some] at h
  simp only [bne_iff_ne, ne_eq]
  intro e
  rw [e] at h
  exact h rfl
set_option maxRecDepth 100000 in
set_option maxHeartbeats 1000000 in
theorem indexf_s (w : World) (x : Value) (b : Bs) (hx : BytesAt w x b) (hl : b.length ≤ 1000000) : Calls Try.prog 36 #[x, .func (.func 35) #[] #[]] w fun e w' => (∃ r : Int, e = .returned (.int .i64 r) ∧ decide (0 ≤ r) = anySet b) ∧ w' = w := by
  obtain ⟨sp, c, rfl, _, _, hc⟩ := bytes_open hx
  obtain ⟨N, hN⟩ : ∃ N, b.length = N := ⟨_, rfl⟩
  rw [hN] at hc hl ⊢
  have H1 := hide hc
  have HN := hide hN
  clear hc hx hN
  go_enter Try.func36, Try.ntmps36
  go_wp2
  go_loopw [5, 8] (fun _ ii wr => ∃ i : Nat, i ≤ N ∧ ii = .int .i64 (i : Int) ∧ wr.heap = w.heap ∧ Hid (∀ j, j < i → b.getD j 0 = 0) ∧ Hid (wr = w)) (fun _ ii _ => N - (intOf ii).toNat)
  case atStart => exact ⟨0, by omega, rfl, rfl, fun j hj => absurd hj (by omega), rfl⟩
  case round =>
    obtain ⟨i, hi, rfl, hh, Hz, Hb⟩ := hrel
    by_cases hlt : i < N
    · have hnb : b ≠ [] := by intro e; have := unhide HN; rw [e] at this; simp at this; omega
      obtain ⟨bb, oo, rfl, _, hcell⟩ := unhide H1 hnb
      have c1 : wr.cell? ⟨bb, oo + i, none⟩ = some (.int .u8 ((b.getD i 0).toNat : Int)) := by rw [← hcell i hlt]; unfold World.cell?; rw [hh]
      obtain ⟨p, hp⟩ : ∃ p, (b.getD i 0).toNat = p := ⟨_, rfl⟩
      rw [hp] at c1
      have f1 : decide ((i : Int) < (N : Int)) = true := by simp; omega
      have f1n : decide (i < N) = true := by simp; omega
      have j0 : (0 : Int) ≤ (i : Int) := by omega
      have j1 : (i : Int) < (N : Int) := by omega
      have Hs := hide (isset_s wr p)
      by_cases hpz : p = 0
      · have d1 : decide (p ≠ 0) = false := by simp [hpz]
        rw [d1] at Hs
        have Hz2 : Hid (∀ j, j < i + 1 → b.getD j 0 = 0) := fun j hj => by
          by_cases hji : j < i
          · exact unhide Hz j hji
          · obtain rfl : j = i := by omega
            exact UInt8.toNat_inj.1 (by rw [hp, hpz]; rfl)
        clear hnb hcell hp Hz d1 hpz
        go_wp2_with fail
        refine (unhide Hs).mono ?_
        rintro e w2 ⟨rfl, hw⟩
        subst hw
        go_wp2
        refine ⟨⟨i + 1, by omega, ?_, hh, Hz2, Hb⟩, ?_⟩
        · simp
        · simp [intOf]; omega
      · have d1 : decide (p ≠ 0) = true := by simp [hpz]
        rw [d1] at Hs
        have HA : Hid (decide ((0 : Int) ≤ (i : Int)) = anySet b) := by
          show _ = _
          rw [any_here (i := i) (by have := unhide HN; omega) (by rw [hp]; exact hpz)]
          simp
        clear hnb hcell hp Hz d1 hpz
        go_wp2_with fail
        refine (unhide Hs).mono ?_
        rintro e w2 ⟨rfl, hw⟩
        subst hw
        go_wp2
        go_ret
        exact ⟨⟨_, rfl, unhide HA⟩, unhide Hb⟩
    · obtain rfl : i = N := by omega
      have f1 : decide ((i : Int) < (i : Int)) = false := by simp
      have HA : Hid (decide ((0 : Int) ≤ -1) = anySet b) := by
        show _ = _
        rw [any_at (unhide Hz) (unhide HN).symm]
        decide
      clear Hz
      go_wp2
      go_ret
      exact ⟨⟨_, rfl, unhide HA⟩, unhide Hb⟩
set_option maxRecDepth 100000 in
theorem contains_s (w : World) (x : Value) (b : Bs) (hx : BytesAt w x b) (hl : b.length ≤ 1000000) : Calls Try.prog 34 #[x, .func (.func 35) #[] #[]] w fun e w' => e = .returned (.bool (anySet b)) ∧ w' = w := by
  have Hi := hide (indexf_s w x b hx hl)
  obtain ⟨D, hD⟩ : ∃ D, anySet b = D := ⟨_, rfl⟩
  rw [hD] at Hi ⊢
  clear hx hl hD
  go_enter Try.func34, Try.ntmps34
  go_wp2_with fail
  refine (unhide Hi).mono ?_
  rintro e w2 ⟨⟨r, rfl, hr⟩, hw⟩
  subst hw
  subst hr
  clear Hi
  go_wp2
  go_ret
  exact ⟨rfl, rfl⟩
theorem free_own {w : World} {B : Nat} {v : Value} {l : Bs} (h : OwnB w B v l) : FreeAt w v l.length := by
  intro g o c m hv j hj
  subst hv
  rcases h.2 with ⟨h0, _⟩ | ⟨g', cap', cur, hv, _, hg, _⟩
  · cases h0
  · simp only [Value.slice.injEq, Option.some.injEq, Addr.mk.injEq] at hv
    obtain ⟨⟨rfl, rfl, _⟩, _, _⟩ := hv
    exact frozen_of_row w _ _ _ 5 hg
set_option maxRecDepth 100000 in
set_option maxHeartbeats 1000000 in
theorem bclone_c (w : World) (x : Value) (b : Bs) (hx : BytesAt w x b) (hl : b.length ≤ 1073741824) : GivesB w 16 #[x] b := by
  obtain ⟨sp, c, rfl, hlc, hn, _⟩ := bytes_open hx
  cases sp with
  | none =>
    have hc0 := hn rfl
    obtain rfl : b = [] := List.eq_nil_of_length_eq_zero (by omega)
    subst hc0
    have heq : ∀ w, (binOp .eql 30 (.slice none 0 0) (.slice none 0 0)).run Try.prog w = .ok (.bool true) w := fun w => by kernel_rfl
    clear hx hn
    go_enter Try.func16, Try.ntmps16
    go_wp2
    go_ret
    exact ⟨_, rfl, ownb_nil _ _, Below.refl _ _⟩
  | some ad =>
    have heq : ∀ w, (binOp .eql 30 (.slice (some ad) b.length c) (.slice none 0 0)).run Try.prog w = .ok (.bool false) w := fun w => by kernel_rfl
    have hbA : Below w.heap.size w (w.alloc (.cells #[] 5)) := (Below.refl _ _).alloc (Nat.le_refl _) _
    have HOA := hide (ownb_empty w)
    have HXA := hide (hx.below hbA)
    have HbA := hide hbA
    have Hs := hide hbA.size
    have Hl1 := hide (show ([] : Bs).length + b.length ≤ 1073741824 by simp; omega)
    obtain ⟨N, hN⟩ : ∃ N, b.length = N := ⟨_, rfl⟩
    rw [hN] at heq HXA ⊢
    clear hx hbA hl hlc hn hN
    go_enter Try.func16, Try.ntmps16
    go_wp2_with (at_builtin; refine wpList_append_bytes rfl _ _ rfl w.heap.size (.slice (some ⟨w.heap.size, 0, none⟩) 0 0) (.slice (some ad) N c) [] b rfl (unhide HOA) rfl (unhide HXA) (unhide Hs) (unhide Hl1) ?_
                 intro v2 w2 hO2 hg2 _
                 rw [List.nil_append] at hO2
                 have hb2 := ownb_below (unhide HOA) hg2 (unhide HbA) (unhide Hs)
                 have HO2 := hide hO2
                 have HB2 := hide hb2
                 clear hO2 hg2 hb2)
    go_ret
    exact ⟨_, rfl, unhide HO2, unhide HB2⟩
end Go.Proofs.Ytfpndphfibfdiab
