/-
  The landed plate's Sync, walked.
  Plain words: what is kept of writes, one after the other.
-/
import Derived.Test.YtbjgknoipbekoaaGreatQ5
import Derived.Test.YtbjgknoipbekoaaGreatQ0
namespace Go.Proofs.YtbjgknoipbekoaaGreat
open Go.RowKit
/-- f at the places of l, g elsewhere. -/
def mixF (f g : Nat → Bs) (l : List (Nat × Bs)) : Nat → Bs := fun k => if l.any (fun x => x.1 == k) then f k else g k
theorem mix_step (f g : Nat → Bs) (l : List (Nat × Bs)) (x : Nat × Bs) (k : Nat) : upd (mixF f g l) x.1 (f x.1) k = mixF f g (l ++ [x]) k := by
  unfold upd mixF
  rw [List.any_append]
  by_cases h : k = x.1
  · subst h; simp
  · rw [if_neg h]
    have h2 : ([x].any fun y => y.1 == k) = false := by simp; exact fun e => h e.symm
    rw [h2, Bool.or_false]
theorem apply_out : ∀ {l : List (Nat × Bs)} {sf : List Bs} {k : Nat}, (l.any fun x => x.1 == k) = false → (applyL sf l).getD k zeros = sf.getD k zeros
  | [], _, _, _ => rfl
  | x :: l, sf, k, h => by
    simp only [List.any_cons, Bool.or_eq_false_iff] at h
    have h1 : x.1 ≠ k := by simpa using h.1
    have : applyL sf (x :: l) = applyL (sf.set x.1 x.2) l := rfl
    rw [this, apply_out h.2, List.getD_eq_getElem?_getD, List.getD_eq_getElem?_getD, List.getElem?_set_ne h1]
theorem mix_end {f g : Nat → Bs} {l : List (Nat × Bs)} (h : ∀ k, (l.any fun x => x.1 == k) = false → f k = g k) (k : Nat) : mixF f g l k = f k := by
  unfold mixF
  cases hc : (l.any fun x => x.1 == k)
  · simp [h k hc]
  · simp
/-- One of the writes, where it lies. -/
theorem PForm.one {B T M : Nat} {w : World} {lv : Value} {s : PS} (h : PForm B T M w lv s) {i : Nat} {y : Nat × Bs} (hy : s.loose[i]? = some y) : ∃ g c, lv = .slice (some ⟨g, 0, none⟩) s.loose.length c ∧ g < w.heap.size ∧ s.loose.length ≤ c ∧ w.rangeAt g (i * 65) (wone y.1 y.2) ∧ y.2.length = 64 ∧ y.1 < s.safe.length := by
  have hi := (List.getElem?_eq_some_iff.1 hy).1
  obtain ⟨g, c, e, _, hlt, hc, hcells⟩ := h.own.at (by omega)
  have hall : ∀ x ∈ s.loose, x.2.length = 64 := fun x hx => (h.ok.loose x hx).2
  have hy2 := h.ok.loose y (List.mem_of_getElem? hy)
  refine ⟨g, c, e, hlt, hc, fun j v hv => ?_, hy2.2, hy2.1⟩
  have hj : j < 65 := by have := (List.getElem?_eq_some_iff.1 hv).1; rwa [wone_len hy2.2] at this
  have := hcells (i * 65 + j) v (by rw [wcells_at hall hy j hj]; exact hv)
  rwa [Nat.zero_add] at this
theorem take_next {l : List (Nat × Bs)} {i : Nat} {y : Nat × Bs} (h : l[i]? = some y) : l.take (i + 1) = l.take i ++ [y] := by rw [List.take_add_one, h]; rfl
theorem PForm.none {B T M : Nat} {w w' : World} {lv : Value} {s : PS} (h : PForm B T M w lv s) (hb : Aside (fun k => k = B) w w') (sf : List Bs) (hl : sf.length = s.safe.length) (h1 : ∀ k, (applyL s.safe s.loose).getD k zeros = sf.getD k zeros) (h2 : ∀ k, s.safe.getD k zeros = sf.getD k zeros) (L : Int) (d : Bool) (hok : (⟨sf, [], L, d⟩ : PS).Ok)
    (hs : w'.heap[B]? = some (.cells [.int .i64 (s.safe.length : Int), .map (some T), .map (some M), .slice none 0 0, .int .i64 L, .bool d].toArray 87 (0, 0))) : PForm B T M w' (.slice none 0 0) ⟨sf, [], L, d⟩ :=
  ⟨by show w'.heap[B]? = some (Obj.cells [.int .i64 (sf.length : Int), _, _, _, _, _].toArray _ _); rw [hl]; exact hs, (h.there.aside hb fun e => h.bt e.symm).congr h1, (h.safe.aside hb fun e => h.bm e.symm).congr h2, ownn_nil _ _ _ _, h.bt, h.bm, h.tm, by simp [Value.ownBlock], by simp [Value.ownBlock], by simp [Value.ownBlock], hok⟩
/-- What is behind Sync's last store. -/
theorem sync_end {S R : Set_} {B T M : Nat} {w w1 wr : World} {lv : Value} {s : PS} (hS : ∀ k, S k ↔ (k = B ∨ k = T ∨ k = M ∨ lv.ownBlock = some k)) (hf : PForm B T M w1 lv ⟨s.safe, s.loose, (tickS s).left, (tickS s).down⟩) (ha : Aside S w w1)
    (hb : Aside (fun k => k = M) w1 wr) (hm : MAt wr M (mixF (fun k => (applyL s.safe s.loose).getD k zeros) (fun k => s.safe.getD k zeros) s.loose)) (hok : (⟨applyL s.safe s.loose, [], (tickS s).left, (tickS s).down⟩ : PS).Ok) :
    ∃ S' R', PAt S' R' (wr.setCell ⟨B, 3, none⟩ (.slice none 0 0)) (.pointer (some ⟨B, 0, none⟩)) ⟨applyL s.safe s.loose, [], (tickS s).left, (tickS s).down⟩ ∧ (∀ k, S' k → S k ∨ w.heap.size ≤ k) ∧ (∀ k, R' k → R k ∨ w.heap.size ≤ k) ∧ Aside S w (wr.setCell ⟨B, 3, none⟩ (.slice none 0 0)) := by
  have hstr : wr.heap[B]? = _ := (hb.block B (heap_lt hf.str) hf.bm).trans hf.str
  have hthere := hf.there.aside hb hf.tm
  have hput := row_put hstr 3 (by simp) (.slice none 0 0)
  have hg := setCell_grown (w := wr) B 3 (.slice none 0 0)
  have hbB : Aside (fun k => k = B) wr (wr.setCell ⟨B, 3, none⟩ (.slice none 0 0)) := Aside.of_grown hg fun k hk => (Option.some.inj hk).symm
  obtain ⟨w5, hw5⟩ : ∃ x, wr.setCell ⟨B, 3, none⟩ (.slice none 0 0) = x := ⟨_, rfl⟩
  rw [hw5] at hput hbB ⊢
  have hm2 := hm.congr (mix_end fun k hk => apply_out hk)
  refine ⟨fun k => k = B ∨ k = T ∨ k = M ∨ (Value.slice none 0 0).ownBlock = some k, none_, ⟨B, T, M, .slice none 0 0, rfl, ⟨?_, ?_, ?_, ownn_nil _ _ _ _, hf.bt, hf.bm, hf.tm, by simp [Value.ownBlock], by simp [Value.ownBlock], by simp [Value.ownBlock], hok⟩, fun k => Iff.rfl, fun k h => h⟩, ?_, fun k h => h.elim, ?_⟩
  · show w5.heap[B]? = some (Obj.cells [.int .i64 ((applyL s.safe s.loose).length : Int), _, _, _, _, _].toArray _ _)
    rw [apply_len]; exact hput
  · exact hthere.aside hbB fun e => hf.bt e.symm
  · exact hm2.aside hbB fun e => hf.bm e.symm
  · rintro k (h | h | h | h)
    · exact Or.inl ((hS k).2 (Or.inl h))
    · exact Or.inl ((hS k).2 (Or.inr (Or.inl h)))
    · exact Or.inl ((hS k).2 (Or.inr (Or.inr (Or.inl h))))
    · simp [Value.ownBlock] at h
  · exact (ha.trans hb fun k _ h => (hS k).2 (Or.inr (Or.inr (Or.inl h)))).trans hbB fun k _ h => (hS k).2 (Or.inl h)
set_option maxRecDepth 100000 in
set_option maxHeartbeats 8000000 in
theorem sync_c {S R : Set_} {w : World} {p : Value} {s : PS} (hp : PAt S R w p s) (hll : s.loose.length ≤ 100000) :
    Calls Tryz.prog 94 #[p] w fun e w' => e = .returned (.int .i64 (syncE s)) ∧ ∃ S' R', PAt S' R' w' p (syncS s) ∧ (∀ k, S' k → S k ∨ w.heap.size ≤ k) ∧ (∀ k, R' k → R k ∨ w.heap.size ≤ k) ∧ Aside S w w' := by
  obtain ⟨B, T, M, lv, rfl, hf, hS, hR⟩ := hp
  obtain ⟨sl, cl, rfl, _⟩ := hf.own.form
  have hst := pstep_c w B _ _ _ _ s.left s.down hf.str hf.ok.left hf.ok.most
  have HF := hide hf
  have HS := hide hS
  have HR := hide hR
  have HLL := hide hll
  cases hd : s.down with
  | true =>
    have e1 : syncE s = 50 := by unfold syncE; rw [hd]; rfl
    have e2 : syncS s = s := by unfold syncS; rw [hd]; rfl
    have eD : downTo s.left s.down = true := by unfold downTo; rw [hd]; split <;> rfl
    have eL : leftTo s.left s.down = s.left := by unfold leftTo; rw [hd]; rfl
    rw [eD, eL] at hst
    rw [e1, e2]
    have Hst := hide hst
    have Hd := hide hd
    clear hst eD eL e1 e2 hd hf hS hR hll
    go_enter Tryz.func94, Tryz.ntmps94
    go_wp2_with fail
    refine (unhide Hst).mono ?_
    rintro e w1 ⟨rfl, hs1, hg1⟩
    have hF1 := (unhide HF).head hg1 s.left s.down (unhide HF).ok (by rw [unhide Hd]; exact hs1)
    have HEnd : Hid (∃ S' R', PAt S' R' w1 (.pointer (some ⟨B, 0, none⟩)) s ∧ (∀ k, S' k → S k ∨ w.heap.size ≤ k) ∧ (∀ k, R' k → R k ∨ w.heap.size ≤ k) ∧ Aside S w w1) :=
      ⟨S, R, ⟨B, T, M, _, rfl, hF1, unhide HS, unhide HR⟩, fun k hk => Or.inl hk, fun k hk => Or.inl hk, Aside.of_grown hg1 fun k hk => (unhide HS k).2 (Or.inl (Option.some.inj hk).symm)⟩
    clear hs1 hg1 hF1 Hst HF
    go_wp2
    go_ret
    exact ⟨rfl, unhide HEnd⟩
  | false =>
    have eD : downTo s.left s.down = (tickS s).down := rfl
    have eL : leftTo s.left s.down = (tickS s).left := by unfold leftTo; rw [hd]; rfl
    rw [eD, eL] at hst
    cases ht : (tickS s).down with
    | true =>
      have e1 : syncE s = 50 := by unfold syncE; rw [hd, ht]; rfl
      have e2 : syncS s = tickS s := by unfold syncS; rw [hd, ht]; rfl
      rw [e1, e2]
      rw [ht] at hst
      have Hst := hide hst
      have HT := hide ht
      clear hst eD eL e1 e2 hd hf hS hR hll ht
      go_enter Tryz.func94, Tryz.ntmps94
      go_wp2_with fail
      refine (unhide Hst).mono ?_
      rintro e w1 ⟨rfl, hs1, hg1⟩
      have hF1 := (unhide HF).head hg1 (tickS s).left (tickS s).down (unhide HF).ok.tick (by rw [unhide HT]; exact hs1)
      have HEnd : Hid (∃ S' R', PAt S' R' w1 (.pointer (some ⟨B, 0, none⟩)) (tickS s) ∧ (∀ k, S' k → S k ∨ w.heap.size ≤ k) ∧ (∀ k, R' k → R k ∨ w.heap.size ≤ k) ∧ Aside S w w1) :=
        ⟨S, R, ⟨B, T, M, _, rfl, hF1, unhide HS, unhide HR⟩, fun k hk => Or.inl hk, fun k hk => Or.inl hk, Aside.of_grown hg1 fun k hk => (unhide HS k).2 (Or.inl (Option.some.inj hk).symm)⟩
      clear hs1 hg1 hF1 Hst HF
      go_wp2
      go_ret
      exact ⟨rfl, unhide HEnd⟩
    | false =>
      have e1 : syncE s = 0 := by unfold syncE; rw [hd, ht]; rfl
      have e2 : syncS s = ⟨applyL s.safe s.loose, [], (tickS s).left, (tickS s).down⟩ := by unfold syncS; rw [hd, ht]; rfl
      have HOk : Hid (⟨applyL s.safe s.loose, [], (tickS s).left, (tickS s).down⟩ : PS).Ok := by
        have := hf.ok.sync
        rwa [e2] at this
      rw [e1, e2]
      rw [ht] at hst
      have Hst := hide hst
      have HT := hide ht
      clear hst eD eL e1 e2 hd hf hS hR hll ht
      go_enter Tryz.func94, Tryz.ntmps94
      go_wp2_with fail
      refine (unhide Hst).mono ?_
      rintro e w1 ⟨rfl, hs1, hg1⟩
      have hF1 := (unhide HF).head hg1 (tickS s).left (tickS s).down (unhide HF).ok.tick (by rw [unhide HT]; exact hs1)
      have ha1 : Aside S w w1 := Aside.of_grown hg1 fun k hk => (unhide HS k).2 (Or.inl (Option.some.inj hk).symm)
      obtain ⟨_, _, _, q3, _, _⟩ := six_row hF1.str
      have HA1 := hide ha1
      have HF1 := hide hF1
      have HM0 : Hid (MAt w1 M (mixF (fun k => (applyL s.safe s.loose).getD k zeros) (fun k => s.safe.getD k zeros) (s.loose.take 0))) := hF1.safe.congr fun k => rfl
      obtain ⟨K, hK⟩ : ∃ y, s.loose.length = y := ⟨_, rfl⟩
      rw [hK] at q3
      have HKK := hide hK
      have HK5 : K ≤ 100000 := by have := unhide HLL; omega
      clear hs1 hg1 hF1 ha1 Hst HF hK HT
      have hzv := (zero_of_info info_w).1
      have hZs : (wone 0 zeros).toArray.size = 65 := by simp [wone_len zeros_len]
      obtain ⟨Z, hZ⟩ : ∃ y, (wone 0 zeros).toArray = y := ⟨_, rfl⟩
      rw [hZ] at hzv hZs
      have hne : ¬ Z = #[] := by intro e; rw [e] at hZs; simp at hZs
      clear hZ
      go_wp2
      go_loopw [13] (fun ii wr => ∃ i : Nat, i ≤ K ∧ ii = .int .i64 (i : Int) ∧ Hid (MAt wr M (mixF (fun k => (applyL s.safe s.loose).getD k zeros) (fun k => s.safe.getD k zeros) (s.loose.take i))) ∧ Hid (Aside (fun k => k = M) w1 wr)) (fun ii _ => K - (intOf ii).toNat)
      case atStart => exact ⟨0, by omega, rfl, HM0, Aside.refl _ _⟩
      case round =>
        obtain ⟨i, hi, rfl, Hm, Hb⟩ := hrel
        clear HM0 q3
        by_cases hlt : i < K
        · have f1 : decide ((i : Int) < (K : Int)) = true := by simp; omega
          have f1n : decide (i < K) = true := by simp; omega
          have j0 : (0 : Int) ≤ (i : Int) := by omega
          have j1 : (i : Int) < (K : Int) := by omega
          obtain ⟨y, hy⟩ : ∃ y, s.loose[i]? = some y := ⟨s.loose[i]'(by have := unhide HKK; omega), List.getElem?_eq_getElem (by have := unhide HKK; omega)⟩
          have hFr := (unhide HF1).own
          obtain ⟨g, c, hsl, hglt, hc, hrg, hyl, hys⟩ := (unhide HF1).one hy
          simp only [Value.slice.injEq] at hsl
          obtain ⟨rfl, _, rfl⟩ := hsl
          have hgM : g ≠ M := fun e => (unhide HF1).lM (by simp [Value.ownBlock, e])
          have HRg := hide (range_aside hrg (unhide Hb) hgM)
          have HTh := hide ((unhide HF1).there.aside (unhide Hb) (unhide HF1).tm)
          have HSt : Hid (wr.heap[B]? = some (.cells [.int .i64 (s.safe.length : Int), .map (some T), .map (some M), .slice (some ⟨g, 0, none⟩) s.loose.length cl, .int .i64 (tickS s).left, .bool (tickS s).down].toArray 87 (0, 0))) := ((unhide Hb).block B (heap_lt (unhide HF1).str) (unhide HF1).bm).trans (unhide HF1).str
          have Hstep : Hid (∀ w', MAt w' M (upd (mixF (fun k => (applyL s.safe s.loose).getD k zeros) (fun k => s.safe.getD k zeros) (s.loose.take i)) y.1 ((applyL s.safe s.loose).getD y.1 zeros)) → MAt w' M (mixF (fun k => (applyL s.safe s.loose).getD k zeros) (fun k => s.safe.getD k zeros) (s.loose.take (i + 1)))) := fun w' h => by
            rw [take_next hy]
            exact h.congr fun k => mix_step (fun k => (applyL s.safe s.loose).getD k zeros) (fun k => s.safe.getD k zeros) _ y k
          obtain ⟨n, b⟩ := y
          dsimp only at hyl Hstep HRg
          have HBL := hide hyl
          have hYs : (wone n b).toArray.size = 65 := by simp [wone_len hyl]
          have HY1 := hide (all_oneCell_toArray (wone_one n b))
          obtain ⟨Y, hY⟩ : ∃ y, (wone n b).toArray = y := ⟨_, rfl⟩
          rw [hY] at hYs HY1
          have HY := hide hY
          have HZ1 := hide (heap_alloc_new wr (.cells Z 109))
          have HW2 : Hid (((wr.alloc (.cells Z 109)).setRow wr.heap.size Y).heap[wr.heap.size]? = some (.cells Y 109 (0, 0)) ∧ Below wr.heap.size wr ((wr.alloc (.cells Z 109)).setRow wr.heap.size Y)) :=
            ⟨setRow_heap _ _ _ _ _ _ (unhide HZ1), below_setRow ((Below.refl _ _).alloc (Nat.le_refl _) _) (Nat.le_refl _) _⟩
          obtain ⟨b2, hb2⟩ : ∃ y, (applyL s.safe s.loose).getD n zeros = y := ⟨_, rfl⟩
          rw [hb2] at Hstep
          have hb2l : b2.length = 64 := by rw [← hb2]; exact (unhide HTh).len n
          have Hlk : Hid (∀ w', MAt w' T (fun k => (applyL s.safe s.loose).getD k zeros) → (Instr.lookup 84 (.map (some T)) (.int .i64 (n : Int)) false).run Tryz.prog w' = .ok (.agg (b2.map bv).toArray) w') := fun w' h => by
            have := h.look n
            (try dsimp only at this)
            rw [hb2] at this
            exact this
          have HPut := hide fun w hm => put_c w M (mixF (fun k => (applyL s.safe s.loose).getD k zeros) (fun k => s.safe.getD k zeros) (s.loose.take i)) hm n b2 hb2l
          unfold sv at HPut
          obtain ⟨X, hX⟩ : ∃ y, (b2.map bv).toArray = y := ⟨_, rfl⟩
          rw [hX] at HPut Hlk
          have hKc : K ≤ cl := by have := unhide HKK; omega
          clear hy hrg hyl hys hY hX hb2 hb2l hFr hglt hc hgM
          go_wp2_with (first
            | (refine wpList_load_mid rfl 109 _ rfl g (i * 65) rfl (wone n b) _ (unhide HRg) Tryz.underlying109 rfl (by rw [wone_len (unhide HBL)]; exact size_w) ?_
               rw [unhide HY])
            | (refine wpList_store_row rfl 109 _ _ rfl wr.heap.size Y rfl rfl 109 Z (unhide HZ1) (by rw [hYs]; exact size_w) (by rw [hYs, hZs]) (unhide HY1) ?_))
          obtain ⟨w2, hw2⟩ : ∃ x, (wr.alloc (.cells Z 109)).setRow wr.heap.size Y = x := ⟨_, rfl⟩
          rw [hw2] at HW2 ⊢
          obtain ⟨V, hV⟩ : ∃ x, wr.heap.size = x := ⟨_, rfl⟩
          rw [hV] at HW2 ⊢
          have HB2 : Hid (Below wr.heap.size wr w2) := by show Below _ _ _; rw [hV]; exact (unhide HW2).2
          have HVM : Hid (V ≠ M) := by have := (unhide Hm).lt; show V ≠ M; omega
          have HC2 : Hid (w2.cell? ⟨B, 2, none⟩ = some (.map (some M)) ∧ w2.cell? ⟨V, 0, none⟩ = some (.int .i64 (n : Int)) ∧ w2.cell? ⟨B, 1, none⟩ = some (.map (some T)) ∧ MAt w2 T fun k => (applyL s.safe s.loose).getD k zeros) := by
            have h1 := unhide HSt
            rw [← (unhide HB2).block B (heap_lt h1)] at h1
            have h2 := (unhide HW2).1
            rw [← unhide HY] at h2
            exact ⟨row_cell h1 2 _ rfl, range_head (range_of_row h2), row_cell h1 1 _ rfl, (unhide HTh).below (unhide HB2)⟩
          have HM2 := hide ((unhide Hm).below (unhide HB2))
          have HA2 : Hid (Aside (fun k => k = M) w1 w2) := (unhide Hb).trans (T := none_) (Aside.of_below (unhide HB2)) fun k _ h => h.elim
          have HBM := hide (unhide HF1).bm
          have HTM := hide (unhide HF1).tm
          clear hw2 hV HW2 HZ1 HY1 hYs hZs hzv HRg HTh HSt Hm Hb HB2
          refine wp_region_held_drew (S := fun w' => w'.cell? ⟨B, 2, none⟩ = some (.map (some M)) ∧ w'.cell? ⟨V, 0, none⟩ = some (.int .i64 (n : Int)) ∧ w'.cell? ⟨B, 1, none⟩ = some (.map (some T)) ∧ MAt w' T (fun k => (applyL s.safe s.loose).getD k zeros)) (by kernel_rfl) (unhide HC2) (fun hHeld => ?_)
          refine wpAnyH_take (i := 0) (oi := { dst := some 17, op := Op.move (Operand.tmp 0), type := 26, pos := "plate.go:72", after := #[], guard := none }) (v := ?_) rfl (by kernel_rfl) (by kernel_rfl) (by kernel_rfl) (fun _ _ _ h => h) (Or.inl ⟨by rfl, ?r1⟩) (by assumption) ?_
          case r1 => (intro w_ hSw; obtain ⟨p2, pn, p1, pm⟩ := hSw; go_simp; try with_reducible rfl)
          simp only [Act.put, List.setIfInBounds_toArray, List.set_cons_zero, List.set_cons_succ]
          refine wpAnyH_take (i := 1) (oi := { dst := some 18, op := Op.nilCheck (Operand.tmp 17), type := 0, pos := "plate.go:72", after := #[{ on := 0, ground := Ground.data }], guard := none }) (v := ?_) rfl (by kernel_rfl) (by kernel_rfl) (by kernel_rfl) (fun _ _ _ h => h) (Or.inl ⟨by rfl, ?r2⟩) (by assumption) ?_
          case r2 => (intro w_ hSw; obtain ⟨p2, pn, p1, pm⟩ := hSw; go_simp; try with_reducible rfl)
          simp only [Act.put, List.setIfInBounds_toArray, List.set_cons_zero, List.set_cons_succ]
          refine wpAnyH_take (i := 2) (oi := { dst := some 19, op := Op.fieldAddr 87 (Operand.tmp 18) 2, type := 0, pos := "plate.go:72", after := #[{ on := 1, ground := Ground.data }], guard := none }) (v := ?_) rfl (by kernel_rfl) (by kernel_rfl) (by kernel_rfl) (fun _ _ _ h => h) (Or.inl ⟨by rfl, ?r3⟩) (by assumption) ?_
          case r3 => (intro w_ hSw; obtain ⟨p2, pn, p1, pm⟩ := hSw; go_simp; try with_reducible rfl)
          simp only [Act.put, List.setIfInBounds_toArray, List.set_cons_zero, List.set_cons_succ]
          refine wpAnyH_take (i := 3) (oi := { dst := some 20, op := Op.load 84 (Operand.tmp 19), type := 84, pos := "plate.go:72", after := #[{ on := 2, ground := Ground.data }], guard := none }) (v := ?_) rfl (by kernel_rfl) (by kernel_rfl) (by kernel_rfl) (fun _ _ _ h => h) (Or.inl ⟨by rfl, ?r4⟩) (by assumption) ?_
          case r4 => (intro w_ hSw; obtain ⟨p2, pn, p1, pm⟩ := hSw; go_simp; try with_reducible rfl)
          simp only [Act.put, List.setIfInBounds_toArray, List.set_cons_zero, List.set_cons_succ]
          refine wpAnyH_take (i := 4) (oi := { dst := some 21, op := Op.fieldAddr 109 (Operand.tmp 4) 0, type := 0, pos := "plate.go:72", after := #[], guard := none }) (v := ?_) rfl (by kernel_rfl) (by kernel_rfl) (by kernel_rfl) (fun _ _ _ h => h) (Or.inl ⟨by rfl, ?r5⟩) (by assumption) ?_
          case r5 => (intro w_ hSw; obtain ⟨p2, pn, p1, pm⟩ := hSw; go_simp; try with_reducible rfl)
          simp only [Act.put, List.setIfInBounds_toArray, List.set_cons_zero, List.set_cons_succ]
          refine wpAnyH_take (i := 5) (oi := { dst := some 22, op := Op.load 3 (Operand.tmp 21), type := 3, pos := "plate.go:72", after := #[{ on := 4, ground := Ground.data }], guard := none }) (v := ?_) rfl (by kernel_rfl) (by kernel_rfl) (by kernel_rfl) (fun _ _ _ h => h) (Or.inl ⟨by rfl, ?r6⟩) (by assumption) ?_
          case r6 => (intro w_ hSw; obtain ⟨p2, pn, p1, pm⟩ := hSw; go_simp; try with_reducible rfl)
          simp only [Act.put, List.setIfInBounds_toArray, List.set_cons_zero, List.set_cons_succ]
          refine wpAnyH_take (i := 6) (oi := { dst := some 23, op := Op.move (Operand.tmp 0), type := 26, pos := "plate.go:72", after := #[], guard := none }) (v := ?_) rfl (by kernel_rfl) (by kernel_rfl) (by kernel_rfl) (fun _ _ _ h => h) (Or.inl ⟨by rfl, ?r7⟩) (by assumption) ?_
          case r7 => (intro w_ hSw; obtain ⟨p2, pn, p1, pm⟩ := hSw; go_simp; try with_reducible rfl)
          simp only [Act.put, List.setIfInBounds_toArray, List.set_cons_zero, List.set_cons_succ]
          refine wpAnyH_take (i := 7) (oi := { dst := some 24, op := Op.nilCheck (Operand.tmp 23), type := 0, pos := "plate.go:72", after := #[{ on := 6, ground := Ground.data }], guard := none }) (v := ?_) rfl (by kernel_rfl) (by kernel_rfl) (by kernel_rfl) (fun _ _ _ h => h) (Or.inl ⟨by rfl, ?r8⟩) (by assumption) ?_
          case r8 => (intro w_ hSw; obtain ⟨p2, pn, p1, pm⟩ := hSw; go_simp; try with_reducible rfl)
          simp only [Act.put, List.setIfInBounds_toArray, List.set_cons_zero, List.set_cons_succ]
          refine wpAnyH_take (i := 8) (oi := { dst := some 25, op := Op.fieldAddr 87 (Operand.tmp 24) 1, type := 0, pos := "plate.go:72", after := #[{ on := 7, ground := Ground.data }], guard := none }) (v := ?_) rfl (by kernel_rfl) (by kernel_rfl) (by kernel_rfl) (fun _ _ _ h => h) (Or.inl ⟨by rfl, ?r9⟩) (by assumption) ?_
          case r9 => (intro w_ hSw; obtain ⟨p2, pn, p1, pm⟩ := hSw; go_simp; try with_reducible rfl)
          simp only [Act.put, List.setIfInBounds_toArray, List.set_cons_zero, List.set_cons_succ]
          refine wpAnyH_take (i := 9) (oi := { dst := some 26, op := Op.load 84 (Operand.tmp 25), type := 84, pos := "plate.go:72", after := #[{ on := 8, ground := Ground.data }], guard := none }) (v := ?_) rfl (by kernel_rfl) (by kernel_rfl) (by kernel_rfl) (fun _ _ _ h => h) (Or.inl ⟨by rfl, ?r10⟩) (by assumption) ?_
          case r10 => (intro w_ hSw; obtain ⟨p2, pn, p1, pm⟩ := hSw; go_simp; try with_reducible rfl)
          simp only [Act.put, List.setIfInBounds_toArray, List.set_cons_zero, List.set_cons_succ]
          refine wpAnyH_take (i := 10) (oi := { dst := some 27, op := Op.fieldAddr 109 (Operand.tmp 4) 0, type := 0, pos := "plate.go:72", after := #[], guard := none }) (v := ?_) rfl (by kernel_rfl) (by kernel_rfl) (by kernel_rfl) (fun _ _ _ h => h) (Or.inl ⟨by rfl, ?r11⟩) (by assumption) ?_
          case r11 => (intro w_ hSw; obtain ⟨p2, pn, p1, pm⟩ := hSw; go_simp; try with_reducible rfl)
          simp only [Act.put, List.setIfInBounds_toArray, List.set_cons_zero, List.set_cons_succ]
          refine wpAnyH_take (i := 11) (oi := { dst := some 28, op := Op.load 3 (Operand.tmp 27), type := 3, pos := "plate.go:72", after := #[{ on := 10, ground := Ground.data }], guard := none }) (v := ?_) rfl (by kernel_rfl) (by kernel_rfl) (by kernel_rfl) (fun _ _ _ h => h) (Or.inl ⟨by rfl, ?r12⟩) (by assumption) ?_
          case r12 => (intro w_ hSw; obtain ⟨p2, pn, p1, pm⟩ := hSw; go_simp; try with_reducible rfl)
          simp only [Act.put, List.setIfInBounds_toArray, List.set_cons_zero, List.set_cons_succ]
          refine wpAnyH_take (i := 12) (oi := { dst := some 29, op := Op.lookup 84 (Operand.tmp 26) (Operand.tmp 28) false, type := 107, pos := "plate.go:72", after := #[{ on := 9, ground := Ground.data }, { on := 11, ground := Ground.data }], guard := none }) (v := .agg X) rfl (by kernel_rfl) (by kernel_rfl) (by kernel_rfl) (fun _ _ _ h => h) (Or.inl ⟨by rfl, ?r13⟩) (by assumption) ?_
          case r13 => (intro w_ hSw; have hlk := unhide Hlk w_ hSw.2.2.2; go_simp; try with_reducible rfl)
          simp only [Act.put, List.setIfInBounds_toArray, List.set_cons_zero, List.set_cons_succ]
          refine wpAnyH_ready (rs := [13]) (by kernel_rfl) (by simp) ?_
          refine AllReadyH.cons (o := { dst := some 30, op := Op.call { callee := Callee.value (Operand.func 53), args := #[Operand.tmp 20, Operand.tmp 22, Operand.tmp 29], argTypes := #[84, 3, 107] }, type := 0, pos := "plate.go:72", after := #[{ on := 3, ground := Ground.data }, { on := 5, ground := Ground.data }, { on := 12, ground := Ground.data }], guard := none }) rfl (fun K_ hK_ => ?_) AllReadyH.nil
          go_simp
          go_at_call 53
          refine (unhide HPut w2.drew (unhide HM2)).mono ?_
          rintro e w3 ⟨rfl, hm3, ha3⟩
          have HM3 := hide hm3
          have ha3' := Aside.of_drew ha3
          have HA3 := hide ((unhide HA2).trans ha3' fun k _ h => h)
          have HC3 : Hid (w3.cell? ⟨B, 2, none⟩ = some (.map (some M)) ∧ w3.cell? ⟨V, 0, none⟩ = some (.int .i64 (n : Int)) ∧ w3.cell? ⟨B, 1, none⟩ = some (.map (some T)) ∧ MAt w3 T (fun k => (applyL s.safe s.loose).getD k zeros)) := ⟨cell_aside (unhide HC2).1 ha3' (unhide HBM), cell_aside (unhide HC2).2.1 ha3' (unhide HVM), cell_aside (unhide HC2).2.2.1 ha3' (unhide HBM), (unhide HC2).2.2.2.aside ha3' (unhide HTM)⟩
          clear hm3 ha3 ha3'
          go_simp
          refine hK_.out _ _ (unhide HC3) (fun hHeld => ?_)
          clear hK_ K_
          (try simp only [Act.put, List.setIfInBounds_toArray, List.set_cons_zero, List.set_cons_succ])
          refine wpAnyH_done (by kernel_rfl) ?_ _
          have HM4 := hide (unhide Hstep w3 (unhide HM3))
          clear HM3 hHeld HPut Hlk HC2 HM2
          go_wp2
          refine ⟨⟨i + 1, by omega, ?_, HM4, HA3⟩, ?_⟩
          · simp
          · simp [intOf]; omega
        · obtain rfl : i = K := by omega
          have f1 : decide ((i : Int) < (i : Int)) = false := by simp
          rw [← unhide HKK, List.take_length] at Hm
          have HEnd := hide (sync_end (R := R) (unhide HS) (unhide HF1) (unhide HA1) (unhide Hb) (unhide Hm) (unhide HOk))
          have hstr := ((unhide Hb).block B (heap_lt (unhide HF1).str) (unhide HF1).bm).trans (unhide HF1).str
          have c3 := row_cell hstr 3 _ rfl
          have z3 := row_frozen hstr 3
          obtain ⟨w5, hw5⟩ : ∃ x, wr.setCell ⟨B, 3, none⟩ (.slice none 0 0) = x := ⟨_, rfl⟩
          rw [hw5] at HEnd
          clear hstr Hm Hb hzv hZs hne
          go_wp2
          go_ret
          exact ⟨rfl, unhide HEnd⟩
end Go.Proofs.YtbjgknoipbekoaaGreat
namespace Go.Proofs.YtbjgknoipbekoaaGreat
theorem kept_next : ∀ {l : List (Nat × Bs)} {ks : List Bool} {i : Nat} {y : Nat × Bs} {k : Bool}, l[i]? = some y → ks[i]? = some k → keptL (l.take (i + 1)) ks = keptL (l.take i) ks ++ (if k then [y] else [])
  | [], ks, i, y, k, h, _ => by simp at h
  | x :: l, [], i, y, k, _, h => by simp at h
  | x :: l, q :: ks, 0, y, k, h1, h2 => by
    simp only [List.getElem?_cons_zero, Option.some.injEq] at h1 h2
    subst h1
    subst h2
    cases q <;> simp [keptL]
  | x :: l, q :: ks, i + 1, y, k, h1, h2 => by
    have ih := kept_next (l := l) (ks := ks) (i := i) (y := y) (k := k) (by simpa using h1) (by simpa using h2)
    rw [List.take_succ_cons, List.take_succ_cons]
    unfold keptL
    cases q <;> simp [ih]
theorem kept_short : ∀ {l : List (Nat × Bs)} {ks : List Bool} {i : Nat}, i = min l.length ks.length → keptL (l.take i) ks = keptL l ks
  | [], ks, i, h => by simp
  | x :: l, [], i, h => by
    cases i with
    | zero => cases l <;> rfl
    | succ i => simp at h
  | x :: l, q :: ks, i, h => by
    cases i with
    | zero => simp at h
    | succ i =>
      have ih := kept_short (l := l) (ks := ks) (i := i) (by simp only [List.length_cons] at h; omega)
      rw [List.take_succ_cons]
      unfold keptL
      rw [ih]
theorem kept_zero (l : List (Nat × Bs)) (ks : List Bool) : keptL (l.take 0) ks = [] := by cases l <;> cases ks <;> rfl
end Go.Proofs.YtbjgknoipbekoaaGreat
