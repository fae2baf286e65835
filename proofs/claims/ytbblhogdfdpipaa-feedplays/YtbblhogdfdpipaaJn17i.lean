/-
  Join of the landed feed (i).
-/
import Derived.Test.YtbblhogdfdpipaaMe17i
namespace Go.Proofs.Ytbblhogdfdpipaa
open Go.Conc Go.RowKit Go.MapKept
set_option maxRecDepth 100000 in
theorem joini_no {X : Set_} {w : World} {p : Value} {R : Rs Int} (h : FeedAt KI X w p R) (n : Int) (hn : ¬ (1 ≤ n ∧ n ≤ 256)) : Calls Try.prog 8 #[p, .int .i64 n] w fun e w' => e = .returned (.int .i64 (joinN R n)) ∧ Turned KI X w w' p (joinR R n) := by
  have e1 : joinN R n = 0 := by unfold joinN; rw [if_neg hn]
  have e2 : joinR R n = R := by unfold joinR; rw [if_neg hn]
  rw [e1, e2]
  have H := hide h.same
  clear e1 e2 h
  by_cases h1 : n < 1
  · clear hn
    go_enter Try.func8, Try.ntmps8
    go_wp2
    go_ret
    exact ⟨rfl, unhide H⟩
  · have h2 : 256 < n := by omega
    clear hn
    go_enter Try.func8, Try.ntmps8
    go_wp2
    go_ret
    exact ⟨rfl, unhide H⟩
theorem joinupi {X : Set_} {w w1 w3 : World} {P bm : Nat} {Q C : Nat → Nat} {R : Rs Int} {n : Nat} (h1 : 1 ≤ n) (h2 : n ≤ 256) (h : FeedC KI X w P bm Q C R) (A1 : Aside (fun k => k = P ∨ k = bm) w w1) (hs1 : w1.heap.size = w.heap.size)
    (row1 : RowAt KI.tf w1 P [] [.map (some bm), .int .i64 ((R.length : Int) + 1)]) (hm1 : IMAt w1 bm (fun k => (rd R k).map fun _ => pt (Q k.toNat)) (live R)) (hw3 : w3 = (w1.drew.alloc (.chan n #[] false 0 0 false)).alloc (.cells #[.chan (some w1.drew.heap.size), .int .i64 0] 57)) :
    w3.cell? ⟨P, 0, none⟩ = some (.map (some bm)) ∧ w3.cell? ⟨P, 1, none⟩ = some (.int .i64 ((R.length : Int) + 1)) ∧ ∃ w4, (Instr.mapUpdate 46 (.map (some bm)) (.int .i64 ((R.length : Int) + 1)) (pt (w1.heap.size + 1))).run Try.prog w3 = .ok () w4 ∧
      w4.cell? ⟨P, 0, none⟩ = some (.map (some bm)) ∧ w4.cell? ⟨P, 1, none⟩ = some (.int .i64 ((R.length : Int) + 1)) ∧ Turned KI X w w4 (pt P) (R ++ [some ⟨n, 0, []⟩]) := by
  have hd : w1.drew.heap.size = w.heap.size := hs1
  have hd2 : (w1.drew.alloc (.chan n #[] false 0 0 false)).heap.size = w.heap.size + 1 := by rw [World.size_alloc, hd]
  have hs3 : w3.heap.size = w.heap.size + 2 := by rw [hw3, World.size_alloc, hd2]
  have b13 : Below w1.heap.size w1 w3 := by
    rw [hw3]
    exact ((((Below.refl _ _).drew).alloc (Nat.le_refl _) _).alloc (by rw [hd2, ← hs1]; exact Nat.le_succ _) _)
  have row3 := row1.below b13
  have hc3 : w3.heap[w.heap.size]? = some (.chan n #[] false 0 0 false) := by
    rw [hw3, (heap_alloc _ _).2 _ (by rw [hd2]; omega), ← hd]
    exact (heap_alloc w1.drew _).1
  have hq3 : RowAt KI.tb w3 (w.heap.size + 1) [] [.chan (some w.heap.size), .int .i64 ((0 : Nat) : Int)] := by
    have := heap_alloc_new (w1.drew.alloc (.chan n #[] false 0 0 false)) (.cells #[.chan (some w1.drew.heap.size), .int .i64 0] 57)
    rw [hd2, hd] at this
    unfold RowAt
    rw [hw3, hd]
    exact this
  have hm3 : IMAt w3 bm (fun k => (rd R k).map fun _ => pt (Q k.toNat)) (live R) := hm1.aside (S := none_) (Aside.of_below b13) fun h => h
  obtain ⟨w4, hup, hm4, hg4, hs4⟩ := hm3.update mapT_i ((R.length : Int) + 1) (pt (w.heap.size + 1)) (by rw [rd_out (by omega)]; rfl)
  have a4 := grown_aside hg4
  have row4 : RowAt KI.tf w4 P [] [.map (some bm), .int .i64 ((R.length : Int) + 1)] := by
    unfold RowAt
    rw [a4.block P row3.lt h.pm]; exact row3
  have A4 : Aside (fun k => k = P ∨ k = bm) w w4 := by
    refine (A1.trans (Aside.of_below (S := fun k => k = P ∨ k = bm) b13) fun _ _ h => h).trans (a4.mono (T := fun k => k = P ∨ k = bm) fun k _ e => Or.inr e) fun _ _ h => h
  have hbl := h.old bm h.xm
  have hq4 : RowAt KI.tb w4 (w.heap.size + 1) [] [.chan (some w.heap.size), .int .i64 ((0 : Nat) : Int)] := by
    unfold RowAt
    rw [a4.block _ hq3.lt (show ¬ w.heap.size + 1 = bm by omega)]; exact hq3
  have hc4 : w4.heap[w.heap.size]? = some (.chan n #[] false 0 0 false) := by
    rw [a4.block _ (by omega) (show ¬ w.heap.size = bm by omega)]; exact hc3
  refine ⟨row3.cell 0 (by simp), row3.cell 1 (by simp), w4, ?_, row4.cell 0 (by simp), row4.cell 1 (by simp), ?_⟩
  · rw [hs1]; exact hup
  · have hJ := h.joined nomap_i (b := ⟨n, 0, []⟩) (q := w.heap.size + 1) (c := w.heap.size) A4 row4 hm4 (by omega) (Nat.le_refl _) ⟨hq4, ⟨#[], 0, 0, hc4, trivial⟩, Nat.zero_le _, h1, h2, Or.inr (by omega), Or.inr (by omega)⟩
    refine ⟨_, ⟨P, bm, _, _, rfl, hJ⟩, A4.mono fun k _ hk => ?_, fun k hk => ?_⟩
    · rcases hk with rfl | rfl
      · exact h.xp
      · exact h.xm
    · rcases hk with hk | hk
      · exact Or.inl hk
      · exact Or.inr hk.1
set_option maxRecDepth 100000 in
theorem joini_yes {X : Set_} {w : World} {p : Value} {R : Rs Int} (h : FeedAt KI X w p R) (n : Nat) (h1 : 1 ≤ n) (h2 : n ≤ 256) (hl : R.length ≤ 1000000) : Calls Try.prog 8 #[p, .int .i64 (n : Int)] w fun e w' => e = .returned (.int .i64 ((R.length : Int) + 1)) ∧ Turned KI X w w' p (R ++ [some ⟨n, 0, []⟩]) := by
  obtain ⟨P, bm, Q, C, rfl, h⟩ := h
  obtain ⟨L, hL⟩ : ∃ y, R.length = y := ⟨_, rfl⟩
  have k0 := h.f0
  have k1 := h.f1
  have f1 : w.frozen? ⟨P, 1, none⟩ = false := h.blk.frozen 1
  have row1 := h.blk.set 1 (by simp) (.int .i64 ((R.length : Int) + 1))
  obtain ⟨w1, hw1⟩ : ∃ y, w.setCell ⟨P, 1, none⟩ (.int .i64 ((L : Int) + 1)) = y := ⟨_, rfl⟩
  rw [hL] at k1 row1 hl
  rw [hw1] at row1
  have hs1 : w1.heap.size = w.heap.size := by rw [← hw1, World.size_setCell]
  have A1 : Aside (fun k => k = P ∨ k = bm) w w1 := hw1 ▸ (Aside.refl _ _).setCell _ _ (Or.inr (Or.inl rfl))
  have m0 : w1.cell? ⟨P, 0, none⟩ = some (.map (some bm)) := row1.cell 0 (by simp)
  have m1 : w1.cell? ⟨P, 1, none⟩ = some (.int .i64 ((L : Int) + 1)) := row1.cell 1 (by simp)
  have hm1 : IMAt w1 bm (fun k => (rd R k).map fun _ => pt (Q k.toNat)) (live R) := by
    refine h.map.aside (S := fun k => k = P) ?_ h.pm.symm
    rw [← hw1]; exact (Aside.refl _ _).setCell _ _ (Or.inr rfl)
  have hwr : IntKind.wrap .i64 ((L : Int) + 1) = (L : Int) + 1 := wrap_small _ (by omega) (by omega)
  have HH := hide h
  have HM := hide hm1
  have HA := hide A1
  have HR := hide row1
  have HL := hide hL
  have HS := hide hs1
  have hx1 : ¬ ((n : Int) < 1) := by omega
  have hx2 : ¬ ((256 : Int) < (n : Int)) := by omega
  rw [hL]
  clear h hm1 A1 row1 hL hs1
  go_enter Try.func8, Try.ntmps8
  simp only [pt]
  go_wp2
  go_region_held3 (fun w'' => w''.cell? ⟨P, 0, none⟩ = some (.map (some bm)) ∧ w''.cell? ⟨P, 1, none⟩ = some (.int .i64 ((L : Int) + 1))) (go_keep)
    ((go_at_call 20; refine (nbi_c _ n h2).mono ?_; rintro e w3 ⟨rfl, hw3⟩; have HJ := joinupi h1 h2 (unhide HH) (unhide HA) (unhide HS) (by rw [unhide HL]; exact unhide HR) (unhide HM) hw3; rw [unhide HL] at HJ; obtain ⟨n0, n1, w4, hup, q0, q1, HT⟩ := HJ; have HT := hide HT; clear hw3; simp only [pt] at hup ⊢))
  clear n0 n1 hup m0 m1
  go_wp2
  go_ret
  exact ⟨rfl, unhide HT⟩
theorem joini_c {X : Set_} {w : World} {p : Value} {R : Rs Int} (h : FeedAt KI X w p R) (n : Int) (hl : R.length ≤ 1000000) : Calls Try.prog 8 #[p, .int .i64 n] w fun e w' => e = .returned (.int .i64 (joinN R n)) ∧ Turned KI X w w' p (joinR R n) := by
  by_cases hn : 1 ≤ n ∧ n ≤ 256
  · have e1 : joinN R n = (R.length : Int) + 1 := by unfold joinN; rw [if_pos hn]
    have e2 : joinR R n = R ++ [some ⟨n.toNat, 0, []⟩] := by unfold joinR; rw [if_pos hn]
    have e3 : ((n.toNat : Nat) : Int) = n := by omega
    rw [e1, e2]
    have := joini_yes h n.toNat (by omega) (by omega) hl
    rw [e3] at this
    exact this
  · exact joini_no h n hn
end Go.Proofs.Ytbblhogdfdpipaa
