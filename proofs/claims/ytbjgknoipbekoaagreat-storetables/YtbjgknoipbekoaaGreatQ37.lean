/-
  The walk of the landed store's Open.
  The walk of the landed store's Commit; the landed store keeps the record.
-/
import Derived.Test.YtbjgknoipbekoaaGreatQ36
namespace Go.Proofs.YtbjgknoipbekoaaGreat
open Go.RowKit
theorem open_on {h g T : Nat} {s : PS} {rs : List (Bs × Nat)} {ps : List (Bs × Bs)} (H : StOn h g T s rs ps) (hT : T + 1 < 4294967296) : openS s h = (0, some ⟨h, g, openL s (fromG h g) h g, ps, false⟩, s) := by
  have hcon : contentS s = s.safe := by unfold contentS; rw [H.rest.loose]; rfl
  have hm : topM s = g := by unfold topM; rw [hcon]; exact H.marks
  have hg := H.g0
  obtain ⟨o1, o2⟩ := H.open_ hT
  unfold openS
  rw [hm, if_neg (by omega), o2, if_neg H.ne, H.lead]
theorem open_bare {h T : Nat} {s : PS} (H : Bare h 0 T s) : openS s h = ((beginR s h 1 (wrL (allP []))).2.1, if (beginR s h 1 (wrL (allP []))).2.1 = 0 then some ⟨h, 1, (beginR s h 1 (wrL (allP []))).2.2, [], false⟩ else none, (beginR s h 1 (wrL (allP []))).1) := by
  have hcon : contentS s = s.safe := by unfold contentS; rw [H.rest.loose]; rfl
  have hm : topM s = 0 := by unfold topM; rw [hcon]; exact H.marks
  unfold openS
  rw [if_pos hm]
theorem content_64 {s : PS} (hok : s.Ok) (hl : s.loose = []) {i : Nat} (hi : i < s.safe.length) : ((contentS s).getD i []).length = 64 := by
  have hcon : contentS s = s.safe := by unfold contentS; rw [hl]; rfl
  rw [hcon, List.getD_eq_getElem?_getD, List.getElem?_eq_getElem hi]
  exact hok.safe _ (List.getElem_mem hi)
theorem cells_new5 (w : World) (cs : List Value) (t : TypeId) : RowAt t (w.alloc (.cells cs.toArray t)) w.heap.size [] cs := by
  unfold RowAt
  rw [List.append_nil]
  exact (MapKept.heap_alloc w _).1
section
variable {PAt : Set_ → Set_ → World → Value → PS → Prop} {LAt : Set_ → Set_ → World → Value → Value → LS → Prop} (HP : Plate PAt) (HW : Wal PAt LAt)
variable {w : World} {S R : Set_} {p : Value} {s : PS}
include HP HW in
set_option maxRecDepth 100000 in
set_option maxHeartbeats 4000000 in
theorem sopen_on {h g T : Nat} {rs : List (Bs × Nat)} {ps : List (Bs × Bs)} (hp : PAt S R w p s) (H : StOn h g T s rs ps) (hT : T + 1 < 4294967296) (hh : h = (s.safe.length - 2) / 2) :
    Calls Tryz.prog 10 #[p] w fun e w' => ∃ A, e = .returned (.tuple #[.pointer (some ⟨A, 0, none⟩), .int .i64 0]) ∧ ∃ S2 R2, SAt LAt S2 R2 w' (.pointer (some ⟨A, 0, none⟩)) p ⟨h, g, openL s (fromG h g) h g, ps, false⟩ ∧ PAt S R w' p s ∧ (∀ k, S2 k ∨ R2 k → w.heap.size ≤ k) ∧ Below w.heap.size w w' := by
  obtain ⟨pa, epa⟩ := HP.ptr hp
  subst epa
  have hfew := (HP.ok hp).few
  have hfit := H.fit
  have hh1 := H.h1
  have hg0 := H.g0
  have hg1 := H.g1
  have Hgr := hide (sgreater_c HP hp (by omega) H.rest.down (by rw [H.rest.loose]; simp) (fun i hi => content_64 H.rest.ok H.rest.loose (by omega)) (by rw [top_on H]; omega))
  rw [top_on H] at Hgr
  have Hre : Hid (∀ w' A, Below w.heap.size w w' → RowAt 94 w' A [] [.pointer (some pa), .int .i64 (g : Int), .pointer none, .map none, .bool false] → w.heap.size ≤ A → Calls Tryz.prog 42 #[.pointer (some ⟨A, 0, none⟩)] w' fun e w2 => e = .returned (.int .i64 0) ∧ ∃ la B V S2 R2, ResP LAt w' w2 A (.pointer (some pa)) g (openL s (fromG h g) h g) ps la B V S2 R2) := fun w' A hb hA _ => sresume_c HP HW (HP.kept hp (T := none_) (Aside.of_below hb) fun _ hk => hk.elim) hA H hT hh
  have d0 : ((g : Int) == 0) = false := by simp; omega
  have d0d : decide ((g : Int) = 0) = false := by simp; omega
  have d0n : decide (g = 0) = false := by simp; omega
  have HPp := hide hp
  have HSo := hide H.sorted
  have HRi := hide H.right
  have HSz := hide H.size.2
  have HSg : Hid (g < 2147483648) := hg1
  obtain ⟨L, hL⟩ : ∃ y, openL s (fromG h g) h g = y := ⟨_, rfl⟩
  rw [hL] at Hre ⊢
  clear hp H hT hh hfew hfit hh1 hg0 hg1 hL
  go_enter Tryz.func10, Tryz.ntmps10
  go_upto_region 4 with (first
    | (go_at_call 40; refine (unhide Hgr).mono ?_; rintro e w1 ⟨rfl, hb1⟩; have HB1 := hide hb1; clear hb1))
  obtain ⟨W2, hW2⟩ : ∃ y, w1.alloc (.cells #[.pointer (some pa), .int .i64 (g : Int), .pointer none, .map none, .bool false] 94) = y := ⟨_, rfl⟩
  have HA2 : Hid (RowAt 94 W2 w1.heap.size [] [.pointer (some pa), .int .i64 (g : Int), .pointer none, .map none, .bool false]) := by rw [← hW2]; exact cells_new5 w1 [.pointer (some pa), .int .i64 (g : Int), .pointer none, .map none, .bool false] 94
  have HB2 : Hid (Below w1.heap.size w1 W2) := by rw [← hW2]; exact (Below.refl _ _).alloc (Nat.le_refl _) _
  have HS2 : Hid (W2.heap.size = w1.heap.size + 1) := by rw [← hW2]; show _ = _; simp
  go_wp2_with (first
    | (go_at_call 42; refine (unhide Hre _ _ ((unhide HB1).trans ((unhide HB2).mono (unhide HB1).size)) (unhide HA2) (unhide HB1).size).mono ?_; rintro e w3 ⟨rfl, la, B, V, S2, R2, hres⟩; have HR3 := hide hres; clear hres))
  go_ret2
  have hr := unhide HR3
  have hb1 := (unhide HB1).size
  have hs2 := unhide HS2
  have hold := HP.old (unhide HPp)
  have hb3 : Below w.heap.size w w3 := ((unhide HB1).trans ((unhide HB2).mono (unhide HB1).size)).trans (Aside.below hr.a (by omega) fun k hk => by omega)
  have hB := hr.b
  refine ⟨w1.heap.size, rfl, fun k => k = w1.heap.size ∨ k = B ∨ S2 k, fun k => (V k ∧ k < w3.heap.size) ∨ R2 k, ⟨w1.heap.size, B, fun k => V k ∧ k < w3.heap.size, .pointer (some la), S2, R2, rfl, ⟨hr.row, hr.map.cut, hr.log, unhide HSo, Nat.le_trans (unhide HSz) (by decide), unhide HRi, fun k hk => hk.2, by omega, ⟨fun h => by have := hr.v _ h.1; omega, fun h => by have := hr.v _ h.1; omega⟩, ⟨fun h => by have := hr.s2 _ (Or.inl h); omega, fun h => by have := hr.s2 _ (Or.inl h); omega⟩, ⟨fun h => by have := hr.s2 _ (Or.inr h); omega, fun h => by have := hr.s2 _ (Or.inr h); omega⟩, fun k h1 h2 => by have := hr.s2 _ (Or.inl h1); have := hr.v _ h2.1; omega, unhide HSg⟩, fun k => Iff.rfl, fun k => Iff.rfl⟩, HP.kept (unhide HPp) (T := none_) (Aside.of_below hb3) fun _ hk => hk.elim, fun k hk => ?_, hb3⟩
  rcases hk with (rfl | rfl | hk) | (hk | hk)
  · exact hb1
  · omega
  · have := hr.s2 _ (Or.inl hk); omega
  · have := hr.v _ hk.1; omega
  · have := hr.s2 _ (Or.inr hk); omega
include HP HW in
set_option maxRecDepth 100000 in
set_option maxHeartbeats 4000000 in
theorem sopen_bare {h T : Nat} (hp : PAt S R w p s) (H : Bare h 0 T s) (hT : T + 1 < 4294967296) (hh : h = (s.safe.length - 2) / 2) :
    Calls Tryz.prog 10 #[p] w fun e w' => ∃ v, e = .returned (.tuple #[v, .int .i64 (beginR s h 1 (wrL (allP []))).2.1]) ∧ ((v = .pointer none ∧ (beginR s h 1 (wrL (allP []))).2.1 = 50 ∧ ∃ S' R', Run PAt w S R w' p S' R' (beginR s h 1 (wrL (allP []))).1) ∨ ((beginR s h 1 (wrL (allP []))).2.1 = 0 ∧ ∃ S' R' S2 R2, Run PAt w S R w' p S' R' (beginR s h 1 (wrL (allP []))).1 ∧ SAt LAt S2 R2 w' v p ⟨h, 1, (beginR s h 1 (wrL (allP []))).2.2, [], false⟩ ∧ (∀ k, S2 k → S k ∨ w.heap.size ≤ k) ∧ (∀ k, R2 k → w.heap.size ≤ k) ∧ (∀ k, S2 k → ¬ S' k ∧ ¬ R' k) ∧ (∀ k, S' k → ¬ R2 k))) := by
  obtain ⟨pa, epa⟩ := HP.ptr hp
  subst epa
  have hfew := (HP.ok hp).few
  have hfit := H.fit
  have hh1 := H.h1
  have Hgr := hide (sgreater_c HP hp (by omega) H.rest.down (by rw [H.rest.loose]; simp) (fun i hi => content_64 H.rest.ok H.rest.loose (by omega)) (by rw [top_bare H]; omega))
  rw [top_bare H] at Hgr
  have hold := HP.old hp
  have hnf : ¬ FullN 0 h (wrL (allP [])) := by
    unfold FullN
    have h0 : (wrL (allP [])).length = 0 := rfl
    rw [h0]
    unfold needs
    omega
  have Hbe : Hid (∀ w' A B, Below w.heap.size w w' → w.heap.size ≤ A → A < B → RowAt 94 w' A [] [.pointer (some pa), .int .i64 ((0 : Nat) : Int), .pointer none, .map none, .bool false] → SMAt none_ w' B (getP []) → Calls Tryz.prog 41 #[.pointer (some ⟨A, 0, none⟩), .map (some B)] w' fun e w2 => BegPost PAt LAt w' w2 S R A B none_ (.pointer (some pa)) (.pointer none) (.map none) 0 h false s [] e) := fun w' A B hb hA hAB hrow hm => sbegin_c HP HW (HP.kept hp (T := none_) (Aside.of_below hb) fun _ hk => hk.elim) hrow ⟨fun h => by have := hold A (Or.inl h); omega, fun h => by have := hold A (Or.inr h); omega⟩ hm (by omega) (fun h => h.elim) (fun h => by have := hold B (Or.inl h); omega) (fun _ _ h => h.elim) (fun _ h => h.elim) List.Pairwise.nil (fun x hx => by cases hx) (by simp) (by show (0 : Nat) ≤ _; omega) (by omega) hh (by omega) (fun _ => H.beg hT hh)
  have HPp := hide hp
  have HNF := hide hnf
  have HOl := hide hold
  obtain ⟨BR, hBR⟩ : ∃ y, beginR s h 1 (wrL (allP [])) = y := ⟨_, rfl⟩
  have HBR : Hid (beginR s h (0 + 1) (wrL (allP [])) = BR) := hBR
  rw [hBR]
  clear hp H hT hh hfew hfit hh1 hold hnf hBR
  go_enter Tryz.func10, Tryz.ntmps10
  go_upto_region 4 with (first
    | (go_at_call 40; refine (unhide Hgr).mono ?_; rintro e w1 ⟨rfl, hb1⟩; have HB1 := hide hb1; clear hb1))
  obtain ⟨W2, hW2⟩ : ∃ y, w1.alloc (.cells #[.pointer (some pa), .int .i64 0, .pointer none, .map none, .bool false] 94) = y := ⟨_, rfl⟩
  have hA2 : RowAt 94 W2 w1.heap.size [] [.pointer (some pa), .int .i64 ((0 : Nat) : Int), .pointer none, .map none, .bool false] := by rw [← hW2]; exact cells_new5 w1 [.pointer (some pa), .int .i64 0, .pointer none, .map none, .bool false] 94
  have hb2 : Below w1.heap.size w1 W2 := by rw [← hW2]; exact (Below.refl _ _).alloc (Nat.le_refl _) _
  have hs2 : W2.heap.size = w1.heap.size + 1 := by rw [← hW2]; simp
  obtain ⟨W3, hW3⟩ : ∃ y, W2.alloc (.map #[] 0) = y := ⟨_, rfl⟩
  have hmm := run_makeMap (P := Tryz.prog) 92 W2
  rw [hW3] at hmm
  have HM3 : Hid (SMAt none_ W3 W2.heap.size (getP [])) := by rw [← hW3]; exact (SMAt.made _ W2).congr fun k => rfl
  have hb3 : Below W2.heap.size W2 W3 := by rw [← hW3]; exact (Below.refl _ _).alloc (Nat.le_refl _) _
  have HA3 := hide (RowAt.below hA2 hb3)
  have HB3 : Hid (Below w.heap.size w W3) := ((unhide HB1).trans (hb2.mono (unhide HB1).size)).trans (hb3.mono (by have := (unhide HB1).size; omega))
  have HS2 := hide hs2
  have HW1 := hide (unhide HB1).size
  clear hA2 hb2 hs2 hW3 hb3
  go_upto_region 8 with (first
    | (go_at_call 41; refine (unhide Hbe _ _ _ (unhide HB3) (unhide HW1) (by have := unhide HS2; omega) (unhide HA3) (unhide HM3)).mono ?_
       rintro e w4 hpost
       rcases hpost with ⟨hf, _⟩ | ⟨_, he, rfl, la, S', R', S2, R2, hq⟩ | ⟨_, he, rfl, S', R', hq⟩
       · exact absurd hf (unhide HNF)
       all_goals (have HE := hide he; have HQ := hide hq; clear he hq)))
  · clear hmm
    go_wp2
    go_ret2
    obtain ⟨q1, q2, q3, q4, q5, q6, q7, q8⟩ := unhide HQ
    have hE := unhide HE
    rw [unhide HBR] at q1 q2 hE
    have h1 := unhide HW1
    have h2 := unhide HS2
    have hsz := (unhide HB3).size
    have hge : ∀ k, S k → k < w.heap.size := fun k hk => unhide HOl k (Or.inl hk)
    refine ⟨.pointer (some ⟨w1.heap.size, 0, none⟩), by rw [hE]; rfl, Or.inr ⟨hE, S', R', fun k => k = w1.heap.size ∨ k = W2.heap.size ∨ S2 k, fun k => (none_ k ∧ k < w4.heap.size) ∨ R2 k, ⟨q1.p, fun k hk => ?_, fun k hk => ?_, ?_⟩, ⟨w1.heap.size, W2.heap.size, fun k => none_ k ∧ k < w4.heap.size, .pointer (some la), S2, R2, rfl, ⟨q7, q8.cut, q2, List.Pairwise.nil, by simp, (fun x hx => (by cases hx)), fun k hk => hk.2, by omega, ⟨fun h => h.1.elim, fun h => h.1.elim⟩, ⟨fun h => ?_, fun h => ?_⟩, ⟨fun h => ?_, fun h => ?_⟩, fun k _ h2 => h2.1.elim, by show (1 : Nat) < _; omega⟩, fun k => Iff.rfl, fun k => Iff.rfl⟩, fun k hk => ?_, fun k hk => ?_, fun k hk => ?_, fun k h1 hk => ?_⟩⟩
    · rcases q1.s k hk with h | h
      · exact Or.inl h
      · exact Or.inr (by omega)
    · rcases q1.r k hk with h | h
      · exact Or.inl h
      · exact Or.inr (by omega)
    · exact (Aside.of_below (unhide HB3)).trans (T := fun k => S k ∨ k = w1.heap.size) q1.a fun i hi hk => by
        rcases hk with hk | hk
        · exact hk
        · omega
    · rcases q3 _ h with h | h
      · have := hge _ h; omega
      · have h9 := (unhide HM3).lt; omega
    · rcases q3 _ h with h | h
      · have := hge _ h; omega
      · have := q8.lt; have h9 := (unhide HM3).lt; omega
    · have := q4 _ h; have h9 := (unhide HM3).lt; omega
    · have := q4 _ h; have h9 := (unhide HM3).lt; omega
    · rcases hk with rfl | rfl | hk
      · exact Or.inr (by omega)
      · exact Or.inr (by omega)
      · rcases q3 _ hk with h | h
        · exact Or.inl h
        · exact Or.inr (by omega)
    · rcases hk with hk | hk
      · exact hk.1.elim
      · have := q4 _ hk; omega
    · have hnew : ∀ j, w.heap.size ≤ j → j < W3.heap.size → ¬ S' j ∧ ¬ R' j := fun j hj1 hj2 => by
        constructor
        · intro h
          rcases q1.s j h with h | h
          · have := hge j h; omega
          · omega
        · intro h
          rcases q1.r j h with h | h
          · have := unhide HOl j (Or.inr h); omega
          · omega
      rcases hk with rfl | rfl | hk
      · exact hnew _ (by omega) (by have h9 := (unhide HM3).lt; omega)
      · exact hnew _ (by omega) (by have h9 := (unhide HM3).lt; omega)
      · exact q5 k hk
    · rcases hk with hk | hk
      · exact hk.1.elim
      · exact q6 k h1 hk
  · clear hmm
    go_wp2
    go_ret2
    obtain ⟨q1, _⟩ := unhide HQ
    have hE := unhide HE
    rw [unhide HBR] at q1 hE
    have h1 := unhide HW1
    have hsz := (unhide HB3).size
    refine ⟨.pointer none, by rw [hE]; rfl, Or.inl ⟨rfl, hE, S', R', ⟨q1.p, fun k hk => ?_, fun k hk => ?_, ?_⟩⟩⟩
    · rcases q1.s k hk with h | h
      · exact Or.inl h
      · exact Or.inr (by omega)
    · rcases q1.r k hk with h | h
      · exact Or.inl h
      · exact Or.inr (by omega)
    · exact (Aside.of_below (unhide HB3)).trans (T := fun k => S k ∨ k = w1.heap.size) q1.a fun i hi hk => by
        rcases hk with hk | hk
        · exact hk
        · omega
include HP HW in
theorem sopen_c (h T : Nat) (ps : List (Bs × Bs)) (hp : PAt S R w p s) (H : AtRest h T s ps) (hT : T + 1 < 4294967296) (hh : h = (s.safe.length - 2) / 2) :
    Calls Tryz.prog 10 #[p] w fun e w' => ∃ v, e = .returned (.tuple #[v, .int .i64 (openS s h).1]) ∧ ∃ S' R' S2 R2, PAt S' R' w' p (openS s h).2.2 ∧ (∀ k, S' k → S k ∨ w.heap.size ≤ k) ∧ (∀ k, R' k → R k ∨ w.heap.size ≤ k) ∧ Aside S w w' ∧ (∀ G, (openS s h).2.1 = some G → SAt LAt S2 R2 w' v p G) ∧ ((openS s h).2.1 = none → v = .pointer none) ∧ (∀ k, S2 k → S k ∨ w.heap.size ≤ k) ∧ (∀ k, R2 k → w.heap.size ≤ k) ∧ (∀ k, S2 k → ¬ S' k ∧ ¬ R' k) ∧ (∀ k, S' k → ¬ R2 k) := by
  have hold := HP.old hp
  rcases H with ⟨g, rs, H⟩ | ⟨rfl, H⟩
  · rw [open_on H hT]
    refine (sopen_on HP HW hp H hT hh).mono ?_
    rintro e w' ⟨A, rfl, S2, R2, h1, h2, h3, h4⟩
    refine ⟨_, rfl, S, R, S2, R2, h2, fun k hk => Or.inl hk, fun k hk => Or.inl hk, Aside.of_below h4, fun G hG => ?_, fun h => (by cases h), fun k hk => Or.inr (h3 k (Or.inl hk)), fun k hk => h3 k (Or.inr hk), fun k hk => ⟨fun h => ?_, fun h => ?_⟩, fun k h hk => ?_⟩
    · simp only [Option.some.injEq] at hG
      rw [← hG]
      exact h1
    · have := h3 k (Or.inl hk); have := hold k (Or.inl h); omega
    · have := h3 k (Or.inl hk); have := hold k (Or.inr h); omega
    · have := h3 k (Or.inr hk); have := hold k (Or.inl h); omega
  · rw [open_bare H]
    refine (sopen_bare HP HW hp H hT hh).mono ?_
    rintro e w' ⟨v, rfl, hv⟩
    rcases hv with ⟨rfl, hE, S', R', hr⟩ | ⟨hE, S', R', S2, R2, hr, h1, h2, h3, h4, h5⟩
    · exact ⟨_, rfl, S', R', none_, none_, hr.p, hr.s, hr.r, hr.a, fun G hG => (by simp only [hE] at hG; cases hG), fun _ => rfl, fun _ h => h.elim, fun _ h => h.elim, fun _ h => h.elim, fun _ _ h => h.elim⟩
    · refine ⟨v, rfl, S', R', S2, R2, hr.p, hr.s, hr.r, hr.a, fun G hG => ?_, fun h => ?_, h2, h3, h4, h5⟩
      · simp only [hE, if_true, Option.some.injEq] at hG
        rw [← hG]
        exact h1
      · simp only [hE, if_true] at h
        cases h
end
end Go.Proofs.YtbjgknoipbekoaaGreat
namespace Go.Proofs.YtbjgknoipbekoaaGreat
open Go.RowKit
theorem ins_len (c : Ch) : ∀ (put : Bool) (ps : List (Bs × Bs)), (insP c put ps).length ≤ ps.length + 1 ∧ (put = true → (insP c put ps).length ≤ ps.length)
  | true, [] => by simp [insP]
  | false, [] => by simp [insP]
  | put, x :: ps => by
    have h1 := ins_len c true ps
    have h2 := ins_len c false ps
    have hA : (if x.1 = c.key then [] else [x] : List (Bs × Bs)).length ≤ 1 := by split <;> simp
    unfold insP
    rw [List.length_append, List.length_append, List.length_cons]
    cases put
    · cases hl : lessB x.1 c.key
      · rw [if_pos ⟨rfl, rfl⟩]
        simp only [Bool.not_false, Bool.false_or, List.length_singleton]
        have := h1.2 rfl
        refine ⟨by omega, fun h => (by cases h)⟩
      · rw [if_neg (fun h => by cases h.2)]
        simp only [Bool.not_true, Bool.false_or, List.length_nil]
        refine ⟨by omega, fun h => (by cases h)⟩
    · rw [if_neg (fun h => by cases h.1)]
      simp only [Bool.true_or, List.length_nil]
      have := h1.2 rfl
      exact ⟨by omega, fun _ => by omega⟩
theorem with_len : ∀ (l : List Ch) (ps : List (Bs × Bs)), (withP ps l).length ≤ ps.length + l.length
  | [], ps => by rw [with_nil]; simp
  | c :: l, ps => by
    rw [with_cons, List.length_cons]
    have h1 := with_len l (insP c c.gone ps)
    have h2 := (ins_len c c.gone ps).1
    omega
/-- What a Commit does to the memory. -/
def ComPost (PAt : Set_ → Set_ → World → Value → PS → Prop) (LAt : Set_ → Set_ → World → Value → Value → LS → Prop) (S R S2 R2 : Set_) (w w' : World) (t p : Value) (G' : SS) (s' : PS) : Prop :=
  ∃ S' R' S2' R2', PAt S' R' w' p s' ∧ SAt LAt S2' R2' w' t p G' ∧ (∀ k, S' k ∨ S2' k → (S k ∨ S2 k) ∨ w.heap.size ≤ k) ∧ (∀ k, R' k → R k ∨ w.heap.size ≤ k) ∧ (∀ k, R2' k → R2 k ∨ w.heap.size ≤ k) ∧ (∀ k, S2' k → ¬ S' k ∧ ¬ R' k) ∧ (∀ k, S' k → ¬ R2' k) ∧ Aside (fun k => S k ∨ S2 k) w w'
section
variable {PAt : Set_ → Set_ → World → Value → PS → Prop} {LAt : Set_ → Set_ → World → Value → Value → LS → Prop} (HP : Plate PAt) (HW : Wal PAt LAt)
variable {w : World} {S R S2 R2 : Set_} {t p : Value} {s : PS} {G : SS}
include HP HW in
/-- Nothing was done. -/
theorem com_none (hp : PAt S R w p s) (ht : SAt LAt S2 R2 w t p G) (h1 : ∀ k, S2 k → ¬ S k ∧ ¬ R k) (h2 : ∀ k, S k → ¬ R2 k) {w' : World} (hb : Below w.heap.size w w') : ComPost PAt LAt S R S2 R2 w w' t p G s :=
  ⟨S, R, S2, R2, HP.kept hp (T := none_) (Aside.of_below hb) fun _ hk => hk.elim, sat_kept HW ht (T := none_) (Aside.of_below hb) fun _ hk => hk.elim, fun _ hk => Or.inl hk, fun _ hk => Or.inl hk, fun _ hk => Or.inl hk, h1, h2, Aside.of_below hb⟩
include HP HW in
set_option maxRecDepth 100000 in
set_option maxHeartbeats 4000000 in
theorem scommit_no (K : Set_) (x : Value) (l : List Ch) (hp : PAt S R w p s) (ht : SAt LAt S2 R2 w t p G) (h1 : ∀ k, S2 k → ¬ S k ∧ ¬ R k) (h2 : ∀ k, S k → ¬ R2 k) (hx : ChsAt K w x l) (hl : l.length ≤ 1000) (hno : G.closed = true ∨ ¬ RightL l ∨ l = []) :
    Calls Tryz.prog 14 #[t, x] w fun e w' => e = .returned (.int .i64 (commitS G s l).1) ∧ ComPost PAt LAt S R S2 R2 w w' t p (commitS G s l).2.1 (commitS G s l).2.2 := by
  have HCN : Hid (∀ w', Below w.heap.size w w' → ComPost PAt LAt S R S2 R2 w w' t p G s) := fun w' hb => com_none HP HW hp ht h1 h2 hb
  obtain ⟨A, B, V, lv, SL, RL, rfl, hf, _, _⟩ := ht
  obtain ⟨_, _, _, _, k4⟩ := srow5 hf.str
  obtain ⟨sx, cx, rfl, _⟩ := hx.form
  have Hg := hide (sgood_c K w _ l hx (by omega))
  obtain ⟨n, hn⟩ : ∃ n, l.length = n := ⟨_, rfl⟩
  cases hcl : G.closed
  · rw [hcl] at k4
    by_cases hR : RightL l
    · have hnil : l = [] := by
        rcases hno with h | h | h
        · rw [hcl] at h; cases h
        · exact absurd hR h
        · exact h
      subst hnil
      have hc : commitS G s [] = (0, G, s) := by
        unfold commitS
        rw [hcl, if_neg (by decide), if_neg (fun h => h hR), if_pos rfl]
      rw [hc]
      rw [decide_eq_true hR] at Hg
      clear hp hf hx hl hno hn hcl hR hc h1 h2
      go_enter Tryz.func14, Tryz.ntmps14
      go_wp2_with (go_at_call 45; refine (unhide Hg).mono ?_; rintro e w1 ⟨rfl, hb1⟩; have HB1 := hide hb1; clear hb1)
      go_ret
      exact ⟨rfl, unhide HCN _ (unhide HB1)⟩
    · have hc : commitS G s l = (30, G, s) := by
        unfold commitS
        rw [hcl, if_neg (by decide), if_pos hR]
      rw [hc]
      rw [decide_eq_false hR] at Hg
      rw [hn] at Hg ⊢
      clear hp hf hx hl hno hn hcl hR hc h1 h2
      go_enter Tryz.func14, Tryz.ntmps14
      go_wp2_with (go_at_call 45; refine (unhide Hg).mono ?_; rintro e w1 ⟨rfl, hb1⟩; have HB1 := hide hb1; clear hb1)
      go_ret
      exact ⟨rfl, unhide HCN _ (unhide HB1)⟩
  · rw [hcl] at k4
    have hc : commitS G s l = (61, G, s) := by
      unfold commitS
      rw [hcl, if_pos rfl]
    rw [hc]
    clear hp hf hx hl hno hn hcl hc h1 h2 Hg
    go_enter Tryz.func14, Tryz.ntmps14
    go_wp2
    go_ret
    exact ⟨rfl, unhide HCN _ (Below.refl _ _)⟩
include HP HW in
set_option maxRecDepth 100000 in
set_option maxHeartbeats 4000000 in
theorem scommit_fits (K : Set_) (x : Value) (l : List Ch) (T : Nat) (hp : PAt S R w p s) (ht : SAt LAt S2 R2 w t p G) (h1 : ∀ k, S2 k → ¬ S k ∧ ¬ R k) (h2 : ∀ k, S k → ¬ R2 k) (hx : ChsAt K w x l) (hK : ∀ k, K k → ¬ S k ∧ ¬ S2 k) (hl : l.length ≤ 1000) (hcl : G.closed = false) (hL : Live G.half G.gen T s G.log G.pairs) (hR : RightL l) (hne : l ≠ []) (hF : FitsL G.log (wrL l)) :
    Calls Tryz.prog 14 #[t, x] w fun e w' => e = .returned (.int .i64 (commitS G s l).1) ∧ ComPost PAt LAt S R S2 R2 w w' t p (commitS G s l).2.1 (commitS G s l).2.2 := by
  obtain ⟨A, B, V, lv, SL, RL, rfl, hf, hS2, hR2⟩ := ht
  obtain ⟨la, ela⟩ := HW.ptr hf.log
  subst ela
  obtain ⟨k0, k1, k2, k3, k4⟩ := srow5 hf.str
  have HXs := hide hx
  have hfits := hF
  obtain ⟨hf1, hf2⟩ := hF
  have husd : usedR G.log.rs ≤ G.log.size := by omega
  have hsize : G.log.size ≤ 16384 := by have := hL.li.fit; have := hL.li.ok.few; omega
  have hroom : (((wrL l).length : Nat) : Int) ≤ roomL G.log := (fits_room husd).1 hfits
  have hrb : roomL G.log ≤ 65536 := by unfold roomL; split <;> omega
  have hc : commitS G s l = (appendE G.log s (wrL l), if appendE G.log s (wrL l) = 0 then ⟨G.half, G.gen, appendL G.log s (wrL l), withP G.pairs l, false⟩ else ⟨G.half, G.gen, appendL G.log s (wrL l), G.pairs, true⟩, appendP G.log s (wrL l)) := by
    unfold commitS
    rw [hcl, if_neg (by decide), if_neg (fun h => h hR), if_neg hne, if_pos hfits]
  rw [hc]
  have hres := append_res hL.li hL.shut hf1 hf2
  have HSto := hide hf
  have Hg := hide (sgood_c K w x l hx (by omega))
  rw [decide_eq_true hR] at Hg
  have hwl := wrL_le hR
  have Hin : Hid (∀ w', Below w.heap.size w w' → GivesB w' 46 #[x] (wrL l)) := fun w' hb => sinb_c K w' x l (hx.below hb) hR (by omega) (by omega)
  have HRo : Hid (∀ w', Below w.heap.size w w' → Calls Tryz.prog 47 #[.pointer (some la)] w' fun e w2 => e = .returned (.int .i64 (roomL G.log)) ∧ Below w'.heap.size w' w2) := fun w' hb => HW.room (HW.kept hf.log (T := none_) (Aside.of_below hb) fun _ hk => hk.elim) husd hsize
  have hSLp : ∀ k, SL k → ¬ S k ∧ ¬ R k := fun k hk => h1 k ((hS2 k).2 (Or.inr (Or.inr hk)))
  have hSRL : ∀ k, S k → ¬ RL k := fun k hk hr => h2 k hk ((hR2 k).2 (Or.inr hr))
  have HAp : Hid (∀ w0 w' v, Below w.heap.size w w0 → Row w0 w' v (wrL l) → Calls Tryz.prog 50 #[.pointer (some la), v] w' fun e w2 => e = .returned (.int .i64 (appendE G.log s (wrL l))) ∧ ∃ S' R' SL' RL', PAt S' R' w2 p (appendP G.log s (wrL l)) ∧ LAt SL' RL' w2 (.pointer (some la)) p (appendL G.log s (wrL l)) ∧ (∀ k, S' k ∨ SL' k → (S k ∨ SL k) ∨ w'.heap.size ≤ k) ∧ (∀ k, R' k → R k ∨ w'.heap.size ≤ k) ∧ (∀ k, RL' k → RL k ∨ w'.heap.size ≤ k) ∧ (∀ k, SL' k → ¬ S' k ∧ ¬ R' k) ∧ (∀ k, S' k → ¬ RL' k) ∧ Aside (fun k => S k ∨ SL k) w' w2) := fun w0 w' v hb0 hrow => by
    have hb : Below w.heap.size w w' := hb0.trans (hrow.b.mono hb0.size)
    refine HW.append v (wrL l) (HP.kept hp (T := none_) (Aside.of_below hb) fun _ hk => hk.elim) (HW.kept hf.log (T := none_) (Aside.of_below hb) fun _ hk => hk.elim) hSLp hSRL hrow.bytes (fun _ k hk => ?_) (by omega) fun _ => hL.li
    have h3 := (World.ownsRow.lt hrow.own k hk).1
    have h4 := hb0.size
    exact ⟨fun h => by have := HP.old hp k (Or.inl h); omega, fun h => by have := HW.old hf.log k (Or.inl h); omega⟩
  obtain ⟨sx, cx, rfl, _⟩ := hx.form
  obtain ⟨n, hn⟩ : ∃ n, l.length = n := ⟨_, rfl⟩
  have hn0 : n ≠ 0 := fun e => hne (List.eq_nil_of_length_eq_zero (by omega))
  have d0 : ((n : Int) == 0) = false := by simp; omega
  have d0d : decide ((n : Int) = 0) = false := by simp; omega
  have d0n : decide (n = 0) = false := by simp; omega
  rw [hn] at Hg Hin HXs ⊢
  obtain ⟨rm, hrm⟩ : ∃ rm : Int, roomL G.log = rm := ⟨_, rfl⟩
  rw [hrm] at HRo hroom hrb
  obtain ⟨rec, hrec⟩ : ∃ y, wrL l = y := ⟨_, rfl⟩
  obtain ⟨RN, hRN⟩ : ∃ y, rec.length = y := ⟨_, rfl⟩
  rw [hrec, hRN] at hroom
  have HRN := hide hRN
  have d1 : decide (rm < (RN : Int)) = false := by simp; omega
  rw [hrec] at Hin HAp hres ⊢
  have hlow : -1 ≤ rm := by omega
  have HPO := hide (HP.old hp)
  have HLO := hide (HW.old hf.log)
  have HK := hide hK
  have HS2 := hide hS2
  have HR2 := hide hR2
  have Hh1 := hide h1
  have Hh2 := hide h2
  have HRr := hide hR
  have HLn : Hid (l.length ≤ 1000) := hl
  have HSz := hide hL.on.size.2
  rw [hcl] at k4
  rcases hres with ⟨a0, _⟩ | a50
  · rw [a0] at HAp ⊢
    simp only [if_true]
    clear hp hf hx hK hl hL hR hne hfits hf1 hf2 husd hsize hrm hc hwl hSLp hSRL hn hn0 hrec hRN h1 h2 a0 hS2 hR2
    go_enter Tryz.func14, Tryz.ntmps14
    go_upto_region 8 with (first
      | (go_at_call 45; refine (unhide Hg).mono ?_; rintro e w1 ⟨rfl, hb1⟩; have HB1 := hide hb1; clear hb1)
      | (go_at_call 46; refine (unhide Hin _ (unhide HB1)).mono ?_; rintro e w2 ⟨v2, rfl, hr2⟩; obtain ⟨s2, c2, e2⟩ := hr2.own.form; rw [unhide HRN] at e2; subst e2; have HR2' := hide hr2; have HB2 := hide ((unhide HB1).trans (hr2.b.mono (unhide HB1).size)); clear hr2))
    have q2 := cell_aside (S := none_) k2 (Aside.of_below (unhide HB2)) (fun h => h)
    go_upto_region 12 with (first
      | (go_at_call 47; refine (unhide HRo _ (unhide HB2)).mono ?_; rintro e w3 ⟨rfl, hb3⟩; have HB3 := hide hb3; clear hb3))
    have q2' := cell_aside (S := none_) q2 (Aside.of_below (unhide HB3)) (fun h => h)
    clear q2
    go_upto_region 16 with (first
      | (go_at_call 50; refine (unhide HAp _ _ _ (unhide HB1) ((unhide HR2').call (unhide HB3))).mono ?_
         rintro e w4 ⟨rfl, S', R', SL', RL', q⟩
         have HQ := hide q
         clear q))
    have hbw3 : Below w.heap.size w w3 := (unhide HB2).trans ((unhide HB3).mono (unhide HB2).size)
    have hAs4 : Aside (fun k => S k ∨ SL k) w w4 := (Aside.of_below hbw3).trans (unhide HQ).2.2.2.2.2.2.2 fun i _ h => h
    have hfm := unhide HSto
    have hnA : ¬ (S A ∨ SL A) := fun h => h.elim (fun h => (unhide Hh1 A ((unhide HS2 A).2 (Or.inl rfl))).1 h) hfm.sa.1
    have hnB : ¬ (S B ∨ SL B) := fun h => h.elim (fun h => (unhide Hh1 B ((unhide HS2 B).2 (Or.inr (Or.inl rfl)))).1 h) hfm.sa.2
    have hnV : ∀ k, S k ∨ SL k → ¬ V k := fun k hk hV => hk.elim (fun h => unhide Hh2 k h ((unhide HR2 k).2 (Or.inl hV))) (fun h => hfm.sv k h hV)
    have hA4 := row_aside hfm.str hAs4 hnA
    have k3' := (srow5 hA4).2.2.2.1
    have hM4 := hfm.map.aside hAs4 hnB hnV
    have hC4 := (unhide HXs).aside hAs4 fun k hk hKk => hk.elim (unhide HK k hKk).1 fun h => (unhide HK k hKk).2 ((unhide HS2 k).2 (Or.inr (Or.inr h)))
    have Hdo := hide (pdo_c hM4 hC4 (by have := unhide HLn; omega) (fun k hk e => (unhide HK k hk).2 ((unhide HS2 k).2 (Or.inr (Or.inl e)))) hfm.va.2 fun c hc hg => by have := (unhide HRr c hc).2.2 hg; omega)
    have HA4 := hide hA4
    have HAs4 := hide hAs4
    have HbW3 := hide hbw3
    clear hA4 hM4 hC4 hbw3 hAs4 k0 k1 k2 k3 k4 q2' hfm hnA hnB hnV
    go_wp2_with (first
      | (go_at_call 49; refine (unhide Hdo).mono ?_; rintro e w5 ⟨rfl, hm5, ha5⟩; have HM5 := hide hm5; have HA5 := hide ha5; clear hm5 ha5))
    go_ret
    refine ⟨rfl, ?_⟩
    obtain ⟨q1, q2, q3, q4, q5, q6, q7, q8⟩ := unhide HQ
    have hfm := unhide HSto
    have ha5 := unhide HA5
    have hm5 := unhide HM5
    have hsz := (unhide HbW3).size
    have hsz4 := (unhide HAs4).size
    have hPB : ∀ k, k = B → ¬ S' k ∧ ¬ R' k := fun k hk => by
      subst hk
      have hBl := hfm.map.lt
      constructor
      · intro h
        rcases q3 _ (Or.inl h) with (h | h) | h
        · exact (unhide Hh1 _ ((unhide HS2 _).2 (Or.inr (Or.inl rfl)))).1 h
        · exact hfm.sa.2 h
        · omega
      · intro h
        rcases q4 _ h with h | h
        · exact (unhide Hh1 _ ((unhide HS2 _).2 (Or.inr (Or.inl rfl)))).2 h
        · omega
    have hPA : ¬ S' A ∧ ¬ R' A := by
      have hAl := hfm.str.lt
      constructor
      · intro h
        rcases q3 _ (Or.inl h) with (h | h) | h
        · exact (unhide Hh1 _ ((unhide HS2 _).2 (Or.inl rfl))).1 h
        · exact hfm.sa.1 h
        · omega
      · intro h
        rcases q4 _ h with h | h
        · exact (unhide Hh1 _ ((unhide HS2 _).2 (Or.inl rfl))).2 h
        · omega
    have hLB : (¬ SL' A ∧ ¬ SL' B) ∧ ¬ RL' A ∧ ¬ RL' B := by
      have hAl := hfm.str.lt
      have hBl := hfm.map.lt
      refine ⟨⟨fun h => ?_, fun h => ?_⟩, fun h => ?_, fun h => ?_⟩
      · rcases q3 _ (Or.inr h) with (h | h) | h
        · exact (unhide Hh1 _ ((unhide HS2 _).2 (Or.inl rfl))).1 h
        · exact hfm.sa.1 h
        · omega
      · rcases q3 _ (Or.inr h) with (h | h) | h
        · exact (unhide Hh1 _ ((unhide HS2 _).2 (Or.inr (Or.inl rfl)))).1 h
        · exact hfm.sa.2 h
        · omega
      · rcases q5 _ h with h | h
        · exact hfm.ra.1 h
        · omega
      · rcases q5 _ h with h | h
        · exact hfm.ra.2 h
        · omega
    have hge4 : ∀ k, S' k ∨ SL' k → k < w4.heap.size := fun k hk => hk.elim (fun h => HP.old q1 k (Or.inl h)) fun h => HW.old q2 k (Or.inl h)
    have hV' : ∀ k, S' k ∨ SL' k → ¬ (V k ∨ w4.heap.size ≤ k) := fun k hk hv => by
      have h4 := hge4 k hk
      rcases hv with hv | hv
      · rcases q3 k hk with (h | h) | h
        · exact unhide Hh2 k h ((unhide HR2 k).2 (Or.inl hv))
        · exact hfm.sv k h hv
        · have := hfm.vlt k hv; omega
      · omega
    refine ⟨S', R', fun k => k = A ∨ k = B ∨ SL' k, fun k => ((V k ∨ w4.heap.size ≤ k) ∧ k < w5.heap.size) ∨ RL' k, HP.kept q1 ha5 hPB, ⟨A, B, fun k => (V k ∨ w4.heap.size ≤ k) ∧ k < w5.heap.size, .pointer (some la), SL', RL', rfl, ⟨?_, (hm5.congr fun k => do_with hfm.sorted l k).cut, HW.kept q2 ha5 fun k hk => hk ▸ ⟨hLB.1.2, hLB.2.2⟩, with_sorted _ _ hfm.sorted, ?_, with_right (unhide HRr) hfm.right, fun k hk => hk.2, hfm.ab, ⟨fun h => ?_, fun h => ?_⟩, hLB.1, hLB.2, fun k h1 h2 => hV' k (Or.inr h1) h2.1, hfm.gen⟩, fun k => Iff.rfl, fun k => Iff.rfl⟩, fun k hk => ?_, fun k hk => ?_, fun k hk => ?_, fun k hk => ?_, fun k h1 hk => ?_, ?_⟩
    · have := row_aside (unhide HA4) ha5 hfm.ab
      rw [hcl] at this
      exact this
    · have h3 := with_len l G.pairs
      have h4 := unhide HSz
      have h5 := unhide HLn
      show (withP G.pairs l).length ≤ _
      omega
    · rcases h.1 with h | h
      · exact hfm.va.1 h
      · have := hfm.str.lt; omega
    · rcases h.1 with h | h
      · exact hfm.va.2 h
      · have := hfm.map.lt; omega
    · rcases hk with hk | rfl | rfl | hk
      · rcases q3 k (Or.inl hk) with (h | h) | h
        · exact Or.inl (Or.inl h)
        · exact Or.inl (Or.inr ((unhide HS2 k).2 (Or.inr (Or.inr h))))
        · exact Or.inr (by omega)
      · exact Or.inl (Or.inr ((unhide HS2 _).2 (Or.inl rfl)))
      · exact Or.inl (Or.inr ((unhide HS2 _).2 (Or.inr (Or.inl rfl))))
      · rcases q3 k (Or.inr hk) with (h | h) | h
        · exact Or.inl (Or.inl h)
        · exact Or.inl (Or.inr ((unhide HS2 k).2 (Or.inr (Or.inr h))))
        · exact Or.inr (by omega)
    · rcases q4 k hk with h | h
      · exact Or.inl h
      · exact Or.inr (by omega)
    · rcases hk with ⟨hk | hk, _⟩ | hk
      · exact Or.inl ((unhide HR2 k).2 (Or.inl hk))
      · exact Or.inr (by omega)
      · rcases q5 k hk with h | h
        · exact Or.inl ((unhide HR2 k).2 (Or.inr h))
        · exact Or.inr (by omega)
    · rcases hk with rfl | rfl | hk
      · exact hPA
      · exact hPB _ rfl
      · exact q6 k hk
    · rcases hk with hk | hk
      · exact hV' k (Or.inl h1) hk.1
      · exact q7 k h1 hk
    · refine ((unhide HAs4).mono fun k _ h => h.elim Or.inl fun h => Or.inr ((unhide HS2 k).2 (Or.inr (Or.inr h)))).trans (T := fun k => k = B) ha5 fun i _ h => Or.inr ((unhide HS2 i).2 (Or.inr (Or.inl h)))
  · rw [a50] at HAp ⊢
    rw [if_neg (by decide)]
    clear hp hf hx hK hl hL hR hne hfits hf1 hf2 husd hsize hrm hc hwl hSLp hSRL hn hn0 hrec hRN h1 h2 a50 hS2 hR2
    go_enter Tryz.func14, Tryz.ntmps14
    go_upto_region 8 with (first
      | (go_at_call 45; refine (unhide Hg).mono ?_; rintro e w1 ⟨rfl, hb1⟩; have HB1 := hide hb1; clear hb1)
      | (go_at_call 46; refine (unhide Hin _ (unhide HB1)).mono ?_; rintro e w2 ⟨v2, rfl, hr2⟩; obtain ⟨s2, c2, e2⟩ := hr2.own.form; rw [unhide HRN] at e2; subst e2; have HR2' := hide hr2; have HB2 := hide ((unhide HB1).trans (hr2.b.mono (unhide HB1).size)); clear hr2))
    have q2 := cell_aside (S := none_) k2 (Aside.of_below (unhide HB2)) (fun h => h)
    go_upto_region 12 with (first
      | (go_at_call 47; refine (unhide HRo _ (unhide HB2)).mono ?_; rintro e w3 ⟨rfl, hb3⟩; have HB3 := hide hb3; clear hb3))
    have q2' := cell_aside (S := none_) q2 (Aside.of_below (unhide HB3)) (fun h => h)
    clear q2
    go_upto_region 14 with (first
      | (go_at_call 50; refine (unhide HAp _ _ _ (unhide HB1) ((unhide HR2').call (unhide HB3))).mono ?_
         rintro e w4 ⟨rfl, S', R', SL', RL', q⟩
         have HQ := hide q
         clear q))
    have hbw3 : Below w.heap.size w w3 := (unhide HB2).trans ((unhide HB3).mono (unhide HB2).size)
    have hAs4 : Aside (fun k => S k ∨ SL k) w w4 := (Aside.of_below hbw3).trans (unhide HQ).2.2.2.2.2.2.2 fun i _ h => h
    have hfm := unhide HSto
    have hnA : ¬ (S A ∨ SL A) := fun h => h.elim (fun h => (unhide Hh1 A ((unhide HS2 A).2 (Or.inl rfl))).1 h) hfm.sa.1
    have hnB : ¬ (S B ∨ SL B) := fun h => h.elim (fun h => (unhide Hh1 B ((unhide HS2 B).2 (Or.inr (Or.inl rfl)))).1 h) hfm.sa.2
    have hnV : ∀ k, S k ∨ SL k → ¬ V k := fun k hk hV => hk.elim (fun h => unhide Hh2 k h ((unhide HR2 k).2 (Or.inl hV))) (fun h => hfm.sv k h hV)
    have hA4 := row_aside hfm.str hAs4 hnA
    have HM4 := hide (hfm.map.aside hAs4 hnB hnV)
    have c4 := (srow5 hA4).2.2.2.2
    have z4 := hA4.frozen 4
    obtain ⟨W5, hW5⟩ : ∃ y, w4.setCell ⟨A, 4, none⟩ (.bool true) = y := ⟨_, rfl⟩
    have HA5r : Hid (RowAt 94 W5 A [] (sCells p G.gen (.pointer (some la)) B true)) := by rw [← hW5]; exact hA4.set 4 (by simp [sCells]) _
    have HA5 : Hid (Aside (fun k => k = A) w4 W5) := by
      rw [← hW5]
      exact Aside.of_grown (setCell_grown A 4 _) fun k e => (Option.some.inj e).symm
    have HAs4 := hide hAs4
    have HbW3 := hide hbw3
    clear hA4 hbw3 hAs4 k0 k1 k2 k3 k4 q2' hfm hnA hnB hnV
    go_wp2
    go_ret
    refine ⟨rfl, ?_⟩
    obtain ⟨q1, q2, q3, q4, q5, q6, q7, q8⟩ := unhide HQ
    have hfm := unhide HSto
    have ha5 := unhide HA5
    have hsz := (unhide HbW3).size
    have hsz4 := (unhide HAs4).size
    have hsz5 := ha5.size
    have hPA : ∀ k, k = A → ¬ S' k ∧ ¬ R' k := fun k hk => by
      subst hk
      have hAl := hfm.str.lt
      constructor
      · intro h
        rcases q3 _ (Or.inl h) with (h | h) | h
        · exact (unhide Hh1 _ ((unhide HS2 _).2 (Or.inl rfl))).1 h
        · exact hfm.sa.1 h
        · omega
      · intro h
        rcases q4 _ h with h | h
        · exact (unhide Hh1 _ ((unhide HS2 _).2 (Or.inl rfl))).2 h
        · omega
    have hPB : ¬ S' B ∧ ¬ R' B := by
      have hBl := hfm.map.lt
      constructor
      · intro h
        rcases q3 _ (Or.inl h) with (h | h) | h
        · exact (unhide Hh1 _ ((unhide HS2 _).2 (Or.inr (Or.inl rfl)))).1 h
        · exact hfm.sa.2 h
        · omega
      · intro h
        rcases q4 _ h with h | h
        · exact (unhide Hh1 _ ((unhide HS2 _).2 (Or.inr (Or.inl rfl)))).2 h
        · omega
    have hLB : (¬ SL' A ∧ ¬ SL' B) ∧ ¬ RL' A ∧ ¬ RL' B := by
      have hAl := hfm.str.lt
      have hBl := hfm.map.lt
      refine ⟨⟨fun h => ?_, fun h => ?_⟩, fun h => ?_, fun h => ?_⟩
      · rcases q3 _ (Or.inr h) with (h | h) | h
        · exact (unhide Hh1 _ ((unhide HS2 _).2 (Or.inl rfl))).1 h
        · exact hfm.sa.1 h
        · omega
      · rcases q3 _ (Or.inr h) with (h | h) | h
        · exact (unhide Hh1 _ ((unhide HS2 _).2 (Or.inr (Or.inl rfl)))).1 h
        · exact hfm.sa.2 h
        · omega
      · rcases q5 _ h with h | h
        · exact hfm.ra.1 h
        · omega
      · rcases q5 _ h with h | h
        · exact hfm.ra.2 h
        · omega
    have hV' : ∀ k, S' k ∨ SL' k → ¬ V k := fun k hk hv => by
      rcases q3 k hk with (h | h) | h
      · exact unhide Hh2 k h ((unhide HR2 k).2 (Or.inl hv))
      · exact hfm.sv k h hv
      · have := hfm.vlt k hv; omega
    refine ⟨S', R', fun k => k = A ∨ k = B ∨ SL' k, fun k => V k ∨ RL' k, HP.kept q1 ha5 hPA, ⟨A, B, V, .pointer (some la), SL', RL', rfl, ⟨unhide HA5r, (unhide HM4).aside ha5 (fun e => hfm.ab e.symm) fun k hk => hk ▸ hfm.va.1, HW.kept q2 ha5 fun k hk => hk ▸ ⟨hLB.1.1, hLB.2.1⟩, hfm.sorted, hfm.few, hfm.right, fun k hk => by have := hfm.vlt k hk; omega, hfm.ab, hfm.va, hLB.1, hLB.2, fun k h1 h2 => hV' k (Or.inr h1) h2, hfm.gen⟩, fun k => Iff.rfl, fun k => Iff.rfl⟩, fun k hk => ?_, fun k hk => ?_, fun k hk => ?_, fun k hk => ?_, fun k h1 hk => ?_, ?_⟩
    · rcases hk with hk | rfl | rfl | hk
      · rcases q3 k (Or.inl hk) with (h | h) | h
        · exact Or.inl (Or.inl h)
        · exact Or.inl (Or.inr ((unhide HS2 k).2 (Or.inr (Or.inr h))))
        · exact Or.inr (by omega)
      · exact Or.inl (Or.inr ((unhide HS2 _).2 (Or.inl rfl)))
      · exact Or.inl (Or.inr ((unhide HS2 _).2 (Or.inr (Or.inl rfl))))
      · rcases q3 k (Or.inr hk) with (h | h) | h
        · exact Or.inl (Or.inl h)
        · exact Or.inl (Or.inr ((unhide HS2 k).2 (Or.inr (Or.inr h))))
        · exact Or.inr (by omega)
    · rcases q4 k hk with h | h
      · exact Or.inl h
      · exact Or.inr (by omega)
    · rcases hk with hk | hk
      · exact Or.inl ((unhide HR2 k).2 (Or.inl hk))
      · rcases q5 k hk with h | h
        · exact Or.inl ((unhide HR2 k).2 (Or.inr h))
        · exact Or.inr (by omega)
    · rcases hk with rfl | rfl | hk
      · exact hPA _ rfl
      · exact hPB
      · exact q6 k hk
    · rcases hk with hk | hk
      · exact hV' k (Or.inl h1) hk
      · exact q7 k h1 hk
    · refine ((unhide HAs4).mono fun k _ h => h.elim Or.inl fun h => Or.inr ((unhide HS2 k).2 (Or.inr (Or.inr h)))).trans (T := fun k => k = A) ha5 fun i _ h => Or.inr ((unhide HS2 i).2 (Or.inl h))
end
end Go.Proofs.YtbjgknoipbekoaaGreat
