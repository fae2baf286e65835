/-
  The walk of the landed store's begin.
  Plain words on beginnings and marks; the walk of the landed store's resume.
-/
import Derived.Test.YtbjgknoipbekoaaGreatQ35
import Derived.Deep.RegionHeld3
namespace Go.Proofs.YtbjgknoipbekoaaGreat
open Go.RowKit
/-- A plate behind calls that wrote a store's block A too. -/
structure RunA (PAt : Set_ → Set_ → World → Value → PS → Prop) (w : World) (S R : Set_) (A : Nat) (w' : World) (p : Value) (S' R' : Set_) (s' : PS) : Prop where
  p : PAt S' R' w' p s'
  s : ∀ k, S' k → S k ∨ w.heap.size ≤ k
  r : ∀ k, R' k → R k ∨ w.heap.size ≤ k
  a : Aside (fun k => S k ∨ k = A) w w'
/-- No next generation with these pairs. -/
def FullN (gen h : Nat) (first : Bs) : Prop := 2147483647 < gen + 1 ∨ 65536 < first.length ∨ h < needs first.length
instance (gen h : Nat) (first : Bs) : Decidable (FullN gen h first) := by unfold FullN; exact inferInstance
/-- What begin does. -/
def BegPost (PAt : Set_ → Set_ → World → Value → PS → Prop) (LAt : Set_ → Set_ → World → Value → Value → LS → Prop) (w w' : World) (S R : Set_) (A B : Nat) (V : Set_) (p lv mv : Value) (gen h : Nat) (cl : Bool) (s : PS) (qs : List (Bs × Bs)) (e : Ending) : Prop :=
  (FullN gen h (wrL (allP qs)) ∧ e = .returned (.int .i64 52) ∧ Below w.heap.size w w') ∨
  (¬ FullN gen h (wrL (allP qs)) ∧ (beginR s h (gen + 1) (wrL (allP qs))).2.1 = 0 ∧ e = .returned (.int .i64 0) ∧ ∃ la S' R' S2 R2, RunA PAt w S R A w' p S' R' (beginR s h (gen + 1) (wrL (allP qs))).1 ∧ LAt S2 R2 w' (.pointer (some la)) p (beginR s h (gen + 1) (wrL (allP qs))).2.2 ∧ (∀ k, S2 k → S k ∨ w.heap.size ≤ k) ∧ (∀ k, R2 k → w.heap.size ≤ k) ∧ (∀ k, S2 k → ¬ S' k ∧ ¬ R' k) ∧ (∀ k, S' k → ¬ R2 k) ∧ RowAt 94 w' A [] (sCells p (gen + 1) (.pointer (some la)) B cl) ∧ SMAt V w' B (getP qs)) ∨
  (¬ FullN gen h (wrL (allP qs)) ∧ (beginR s h (gen + 1) (wrL (allP qs))).2.1 = 50 ∧ e = .returned (.int .i64 50) ∧ ∃ S' R', RunA PAt w S R A w' p S' R' (beginR s h (gen + 1) (wrL (allP qs))).1 ∧ RowAt 94 w' A [] [p, .int .i64 (gen : Int), lv, mv, .bool true])
theorem row_aside {e : TypeId} {w w' : World} {A : Nat} {rest cs : List Value} {T : Set_} (h : RowAt e w A rest cs) (hb : Aside T w w') (hA : ¬ T A) : RowAt e w' A rest cs := by unfold RowAt; rw [hb.block A h.lt hA]; exact h
section
variable {PAt : Set_ → Set_ → World → Value → PS → Prop} {LAt : Set_ → Set_ → World → Value → Value → LS → Prop} (HP : Plate PAt) (HW : Wal PAt LAt)
variable {w : World} {S R : Set_} {p lv mv : Value} {s : PS}
include HP HW in
set_option maxRecDepth 100000 in
set_option maxHeartbeats 4000000 in
theorem sbegin_c {A B : Nat} {V : Set_} {gen h : Nat} {cl : Bool} {qs : List (Bs × Bs)} (hp : PAt S R w p s) (hA : RowAt 94 w A [] [p, .int .i64 (gen : Int), lv, mv, .bool cl]) (hSA : ¬ S A ∧ ¬ R A) (hm : SMAt V w B (getP qs)) (hAB : A ≠ B) (hVA : ¬ V A) (hSB : ¬ S B) (hSV : ∀ k, S k → ¬ V k) (hV : ∀ k, V k → k < w.heap.size) (hs : SortedP qs) (hr : RightP qs) (hl : qs.length ≤ 100000) (hz : (wrL (allP qs)).length ≤ 90000000) (hg : gen < 2147483648) (hh : h = (s.safe.length - 2) / 2) (h4 : 4 ≤ s.safe.length) (hB : ¬ FullN gen h (wrL (allP qs)) → BegS s h (gen + 1)) :
    Calls Tryz.prog 41 #[.pointer (some ⟨A, 0, none⟩), .map (some B)] w fun e w' => BegPost PAt LAt w w' S R A B V p lv mv gen h cl s qs e := by
  obtain ⟨pa, epa⟩ := HP.ptr hp
  subst epa
  have hold := HP.old hp
  have hBl := hm.lt
  have HM := hide hm
  have HA := hide hA
  have HPp := hide hp
  have Hch := hide (pchanges_c hm hV hs (by omega))
  have Hin : Hid (∀ w' x, ChsAt (fun k => V k ∨ w.heap.size ≤ k) w' x (allP qs) → GivesB w' 46 #[x] (wrL (allP qs))) := fun w' x hx => sinb_c _ w' x (allP qs) hx (all_right hr) (by unfold allP; rw [List.length_map]; exact hl) hz
  obtain ⟨first, hfirst⟩ : ∃ y, wrL (allP qs) = y := ⟨_, rfl⟩
  rw [hfirst] at Hin hz hB
  have HFI := hide hfirst
  have e1 : (gen : Int) + 1 = ((gen + 1 : Nat) : Int) := by omega
  obtain ⟨g1, hg1⟩ : ∃ y, gen + 1 = y := ⟨_, rfl⟩
  rw [hg1] at e1 hB
  have HG1 := hide hg1
  have hg1b : g1 ≤ 2147483648 := by omega
  have k0 : w.cell? ⟨A, 0, none⟩ = some (.pointer (some pa)) := hA.cell 0 (by simp)
  have k1 : w.cell? ⟨A, 1, none⟩ = some (.int .i64 (gen : Int)) := hA.cell 1 (by simp)
  by_cases hM : 2147483647 < g1
  · have d1 : decide ((2147483647 : Int) < (g1 : Int)) = true := by simp; omega
    have d1n : decide (2147483647 < g1) = true := by simp; omega
    have HF : Hid (FullN gen h (wrL (allP qs))) := Or.inl (by omega)
    clear hp hA hm hfirst hg1 hB hs hr hl hV hh h4 hold hSV
    go_enter Tryz.func41, Tryz.ntmps41
    go_wp2_with (first
      | (go_at_call 63; refine (unhide Hch).mono ?_; rintro e w1 ⟨v1, rfl, hc1, hb1⟩; have HC1 := hide hc1; have HB1 := hide hb1; obtain ⟨s1, c1, e1', _⟩ := hc1.form; subst e1'; clear hc1 hb1)
      | (go_at_call 46; refine (unhide Hin _ _ (unhide HC1)).mono ?_; rintro e w2 ⟨v2, rfl, hr2⟩; have HR2 := hide hr2; obtain ⟨s2, c2, e2⟩ := hr2.own.form; subst e2; clear hr2))
    go_ret
    exact Or.inl ⟨unhide HF, rfl, (unhide HB1).trans ((unhide HR2).b.mono (unhide HB1).size)⟩
  · have d1 : decide ((2147483647 : Int) < (g1 : Int)) = false := by simp; omega
    have d1n : decide (2147483647 < g1) = false := by simp; omega
    have hRp := Run.refl hp
    have Hro : Hid (∀ w', Below w.heap.size w w' → Calls Tryz.prog 64 #[.pointer (some pa)] w' fun e w2 => e = .returned (.int .i64 (min (48 * (h : Int) - 4) 65536)) ∧ Below w'.heap.size w' w2) := fun w' hb => by
      have := sroom_c HP (hRp.below HP hb).p h4
      rw [← hh] at this
      exact this
    have hfew := (HP.ok hp).few
    have h1 : 1 ≤ h := by omega
    obtain ⟨rm, hrm⟩ : ∃ rm : Nat, min (48 * h - 4) 65536 = rm := ⟨_, rfl⟩
    have hrm' : min (48 * (h : Int) - 4) 65536 = (rm : Int) := by omega
    rw [hrm'] at Hro
    obtain ⟨FN, hFN⟩ : ∃ y, first.length = y := ⟨_, rfl⟩
    have HFN := hide hFN
    have hneed : needs first.length = (FN + 51) / 48 := by rw [hFN]; rfl
    have hrmb : rm ≤ 65536 := by omega
    by_cases hF : rm < FN
    · have d2 : decide ((rm : Int) < (FN : Int)) = true := by simp; omega
      have d2n : decide (rm < FN) = true := by simp; omega
      have HF : Hid (FullN gen h (wrL (allP qs))) := by
        show _ ∨ _
        rw [hfirst, hFN]
        unfold needs
        omega
      clear hp hA hm hfirst hg1 hB hs hr hl hV hh h4 hold hSV hRp hrm hrm' hFN hneed
      go_enter Tryz.func41, Tryz.ntmps41
      go_upto_region 3 with (first
        | (go_at_call 63; refine (unhide Hch).mono ?_; rintro e w1 ⟨v1, rfl, hc1, hb1⟩; have HC1 := hide hc1; have HB1 := hide hb1; obtain ⟨s1, c1, e1', _⟩ := hc1.form; subst e1'; clear hc1 hb1)
        | (go_at_call 46; refine (unhide Hin _ _ (unhide HC1)).mono ?_; rintro e w2 ⟨v2, rfl, hr2⟩; have HB2 := hide ((unhide HB1).trans (hr2.b.mono (unhide HB1).size)); obtain ⟨s2, c2, e2⟩ := hr2.own.form; rw [unhide HFN] at e2; subst e2; clear hr2))
      have q0 := cell_aside (S := none_) k0 (Aside.of_below (unhide HB2)) (fun h => h)
      clear k0 k1
      go_wp2_with (first
        | (go_at_call 64; refine (unhide Hro _ (unhide HB2)).mono ?_; rintro e w3 ⟨rfl, hb3⟩; have HB3 := hide ((unhide HB2).trans (hb3.mono (unhide HB2).size)); clear hb3))
      go_ret
      exact Or.inl ⟨unhide HF, rfl, unhide HB3⟩
    · have d2 : decide ((rm : Int) < (FN : Int)) = false := by simp; omega
      have d2n : decide (rm < FN) = false := by simp; omega
      have hnF : ¬ FullN gen h first := by
        unfold FullN
        rw [hFN]
        unfold needs
        omega
      have HNF : Hid (¬ FullN gen h (wrL (allP qs))) := by show ¬ _; rw [hfirst]; exact hnF
      have hBS := hB hnF
      have Hbl : Hid (∀ w0 w' v, Below w.heap.size w w0 → w.heap.size ≤ w0.heap.size → Row w0 w' v first → Calls Tryz.prog 65 #[.pointer (some pa), .int .i64 (g1 : Int), v] w' fun e w2 => ∃ u, e = .returned (.tuple #[u, .int .i64 (beginR s h g1 first).2.1]) ∧ (((beginR s h g1 first).2.1 = 0 ∧ (∃ a, u = .pointer (some a)) ∧ ∃ S' R' S2 R2, RunL PAt LAt w S R w2 (.pointer (some pa)) u S' R' S2 R2 (beginR s h g1 first).1 (beginR s h g1 first).2.2) ∨ ((beginR s h g1 first).2.1 = 50 ∧ u = .pointer none ∧ ∃ S' R', Run PAt w S R w2 (.pointer (some pa)) S' R' (beginR s h g1 first).1))) := fun w0 w' v hb0 hsz0 hrow => by
        have hb : Below w.heap.size w w' := hb0.trans (hrow.b.mono hb0.size)
        have hr0 := hRp.below HP hb
        refine (sbeginlog_c HP HW hr0.p hBS hrow.bytes (fun _ k hk hS => ?_) (by rw [hFN]; omega) (by rw [hneed]; omega)).mono ?_
        · have := (World.ownsRow.lt hrow.own k hk).1
          have := HP.old hp k (Or.inl hS)
          omega
        · rintro e w2 ⟨u, rfl, hu⟩
          refine ⟨u, rfl, ?_⟩
          rcases hu with ⟨h0, ha, S', R', S2, R2, hrl⟩ | ⟨h5, hu, S', R', hrl⟩
          · refine Or.inl ⟨h0, ha, S', R', S2, R2, ⟨hr0.call hrl.run.p hrl.run.s hrl.run.r hrl.run.a, hrl.lg, fun k hk => ?_, fun k hk => ?_, hrl.sepP, hrl.sepL⟩⟩
            · rcases hrl.s2 k hk with h | h
              · exact Or.inl h
              · exact Or.inr (Nat.le_trans hb.size h)
            · exact Nat.le_trans hb.size (hrl.r2 k hk)
          · exact Or.inr ⟨h5, hu, S', R', hr0.call hrl.p hrl.s hrl.r hrl.a⟩
      have hE : (beginR s h g1 first).2.1 = 0 ∨ (beginR s h g1 first).2.1 = 50 := by
        have hcl : clearR s h g1 = safeR s (fromG h g1) zeros := rfl
        have hfr := from_le h g1
        unfold beginR
        rcases safe_res (a := fromG h g1) (b := zeros) hBS.down (by omega) zeros_len with ⟨c0, c1, c2, c3⟩ | c5
        · rw [← hcl] at c0 c1 c2 c3
          rw [if_pos c0]
          obtain ⟨hli, hrs⟩ := hBS.li c0
          rcases append_res (b := first) hli rfl (by rw [hFN]; omega) (by rw [hrs, hneed]; show 0 + _ ≤ h; omega) with ⟨a0, a1, a2, a3⟩ | a5
          · rw [if_pos a0]
            have hst : (openL (clearR s h g1).1 (fromG h g1) h g1).start = fromG h g1 := rfl
            have hsz : (openL (clearR s h g1).1 (fromG h g1) h g1).size = h := rfl
            rw [hst, hsz] at a3
            rcases safe_res (a := g1 % 2) (b := markB g1) a1 (by omega) (mark_len g1) with ⟨m0, _⟩ | m5
            · exact Or.inl m0
            · exact Or.inr m5
          · rw [if_neg (by rw [a5]; decide)]
            exact Or.inr a5
        · rw [← hcl] at c5
          rw [if_neg (by rw [c5]; decide)]
          exact Or.inr c5
      obtain ⟨BR, hBR⟩ : ∃ y, beginR s h g1 first = y := ⟨_, rfl⟩
      have HBR : Hid (beginR s h (gen + 1) (wrL (allP qs)) = BR) := by show _ = _; rw [hfirst, hg1]; exact hBR
      rw [hBR] at Hbl hE
      have HSA := hide hSA
      have HSB := hide hSB
      have HSV := hide hSV
      have HAB := hide hAB
      have HVA := hide hVA
      have HAl := hide hA.lt
      clear hp hA hm hfirst hg1 hB hs hr hl hV hh h4 hold hSV hRp hrm hrm' hFN hneed hnF hBS hBR hSA hSB hAB hVA
      rcases hE with hE | hE
      · rw [hE] at Hbl
        have HE := hide hE
        go_enter Tryz.func41, Tryz.ntmps41
        go_upto_region 3 with (first
          | (go_at_call 63; refine (unhide Hch).mono ?_; rintro e w1 ⟨v1, rfl, hc1, hb1⟩; have HC1 := hide hc1; have HB1 := hide hb1; obtain ⟨s1, c1, e1', _⟩ := hc1.form; subst e1'; clear hc1 hb1)
          | (go_at_call 46; refine (unhide Hin _ _ (unhide HC1)).mono ?_; rintro e w2 ⟨v2, rfl, hr2⟩; have HB2 := hide ((unhide HB1).trans (hr2.b.mono (unhide HB1).size)); obtain ⟨s2, c2, e2⟩ := hr2.own.form; rw [unhide HFN] at e2; subst e2; have HR2 := hide hr2; clear hr2))
        have q0 := cell_aside (S := none_) k0 (Aside.of_below (unhide HB2)) (fun h => h)
        clear k0 k1
        go_upto_region 5 with (first
          | (go_at_call 64; refine (unhide Hro _ (unhide HB2)).mono ?_; rintro e w3 ⟨rfl, hb3⟩; have HB3 := hide hb3; clear hb3))
        have q3 := cell_aside (S := none_) q0 (Aside.of_below (unhide HB3)) (fun h => h)
        clear q0
        go_upto_region 9 with (first
          | (go_at_call 65; refine (unhide Hbl _ _ _ (unhide HB1) (unhide HB1).size ((unhide HR2).call (unhide HB3))).mono ?_
             rintro e w4 ⟨u, rfl, hu⟩
             rcases hu with ⟨_, ⟨la, rfl⟩, S4, R4, S5, R5, hrl⟩ | ⟨h5, _⟩
             rotate_left
             · exact absurd h5 (by decide)
             have HRL := hide hrl
             clear hrl))
        have hA4 := row_aside (unhide HA) (unhide HRL).run.a (unhide HSA).1
        have c1 := hA4.cell 1 (by simp)
        have z1 := hA4.frozen 1
        obtain ⟨W5, hW5⟩ : ∃ y, w4.setCell ⟨A, 1, none⟩ (.int .i64 (g1 : Int)) = y := ⟨_, rfl⟩
        have hA5 : RowAt 94 W5 A [] [.pointer (some pa), .int .i64 (g1 : Int), lv, mv, .bool cl] := by rw [← hW5]; exact hA4.set 1 (by simp) _
        have c2' := hA5.cell 2 (by simp)
        have z2 := hA5.frozen 2
        obtain ⟨W6, hW6⟩ : ∃ y, W5.setCell ⟨A, 2, none⟩ (.pointer (some la)) = y := ⟨_, rfl⟩
        have hA6 : RowAt 94 W6 A [] [.pointer (some pa), .int .i64 (g1 : Int), .pointer (some la), mv, .bool cl] := by rw [← hW6]; exact hA5.set 2 (by simp) _
        have c3' := hA6.cell 3 (by simp)
        have z3 := hA6.frozen 3
        obtain ⟨W7, hW7⟩ : ∃ y, W6.setCell ⟨A, 3, none⟩ (.map (some B)) = y := ⟨_, rfl⟩
        have HA7 : Hid (RowAt 94 W7 A [] [.pointer (some pa), .int .i64 (g1 : Int), .pointer (some la), .map (some B), .bool cl]) := by rw [← hW7]; exact hA6.set 3 (by simp) _
        have HAs : Hid (Aside (fun k => k = A) w4 W7) := by
          rw [← hW7, ← hW6, ← hW5]
          exact ((Aside.of_grown (setCell_grown A 1 _) (S := fun k => k = A) fun k e => (Option.some.inj e).symm).trans (T := fun k => k = A) (Aside.of_grown (setCell_grown A 2 _) fun k e => (Option.some.inj e).symm) fun _ _ h => h).trans (T := fun k => k = A) (Aside.of_grown (setCell_grown A 3 _) fun k e => (Option.some.inj e).symm) fun _ _ h => h
        simp only [List.getD_cons_succ, List.getD_cons_zero] at c1 c2' c3'
        clear hA4 hA5 hA6
        go_wp2
        go_ret
        have hA0 : A < w.heap.size := unhide HAl
        have hrl := unhide HRL
        have hns : ∀ k, k = A → ¬ S4 k ∧ ¬ R4 k := fun k hk => by
          subst hk
          constructor
          · intro h
            rcases hrl.run.s _ h with h | h
            · exact (unhide HSA).1 h
            · omega
          · intro h
            rcases hrl.run.r _ h with h | h
            · exact (unhide HSA).2 h
            · omega
        have hnl : ∀ k, k = A → ¬ S5 k ∧ ¬ R5 k := fun k hk => by
          subst hk
          constructor
          · intro h
            rcases hrl.s2 _ h with h | h
            · exact (unhide HSA).1 h
            · omega
          · intro h
            have := hrl.r2 _ h
            omega
        refine Or.inr (Or.inl ⟨unhide HNF, by rw [unhide HBR]; exact unhide HE, rfl, la, S4, R4, S5, R5, ⟨?_, hrl.run.s, hrl.run.r, ?_⟩, ?_, hrl.s2, hrl.r2, hrl.sepP, hrl.sepL, ?_, ?_⟩)
        · rw [unhide HBR]; exact HP.kept hrl.run.p (unhide HAs) hns
        · exact (hrl.run.a.mono fun _ _ h => Or.inl h).trans (T := fun k => k = A) (unhide HAs) fun _ _ h => Or.inr h
        · rw [unhide HBR]; exact HW.kept hrl.lg (unhide HAs) hnl
        · have := unhide HA7
          unfold sCells
          rw [unhide HG1]
          exact this
        · exact ((unhide HM).aside hrl.run.a (unhide HSB) (unhide HSV)).aside (unhide HAs) (fun e => unhide HAB e.symm) fun k hk => hk ▸ unhide HVA
      · rw [hE] at Hbl
        have HE := hide hE
        go_enter Tryz.func41, Tryz.ntmps41
        go_upto_region 3 with (first
          | (go_at_call 63; refine (unhide Hch).mono ?_; rintro e w1 ⟨v1, rfl, hc1, hb1⟩; have HC1 := hide hc1; have HB1 := hide hb1; obtain ⟨s1, c1, e1', _⟩ := hc1.form; subst e1'; clear hc1 hb1)
          | (go_at_call 46; refine (unhide Hin _ _ (unhide HC1)).mono ?_; rintro e w2 ⟨v2, rfl, hr2⟩; have HB2 := hide ((unhide HB1).trans (hr2.b.mono (unhide HB1).size)); obtain ⟨s2, c2, e2⟩ := hr2.own.form; rw [unhide HFN] at e2; subst e2; have HR2 := hide hr2; clear hr2))
        have q0 := cell_aside (S := none_) k0 (Aside.of_below (unhide HB2)) (fun h => h)
        clear k0 k1
        go_upto_region 5 with (first
          | (go_at_call 64; refine (unhide Hro _ (unhide HB2)).mono ?_; rintro e w3 ⟨rfl, hb3⟩; have HB3 := hide hb3; clear hb3))
        have q3 := cell_aside (S := none_) q0 (Aside.of_below (unhide HB3)) (fun h => h)
        clear q0
        go_upto_region 7 with (first
          | (go_at_call 65; refine (unhide Hbl _ _ _ (unhide HB1) (unhide HB1).size ((unhide HR2).call (unhide HB3))).mono ?_
             rintro e w4 ⟨u, rfl, hu⟩
             rcases hu with ⟨h5, _⟩ | ⟨_, rfl, S4, R4, hrl⟩
             · exact absurd h5 (by decide)
             have HRL := hide hrl
             clear hrl))
        have hA4 := row_aside (unhide HA) (unhide HRL).a (unhide HSA).1
        have c4 := hA4.cell 4 (by simp)
        have z4 := hA4.frozen 4
        obtain ⟨W5, hW5⟩ : ∃ y, w4.setCell ⟨A, 4, none⟩ (.bool true) = y := ⟨_, rfl⟩
        have HA5 : Hid (RowAt 94 W5 A [] [.pointer (some pa), .int .i64 (gen : Int), lv, mv, .bool true]) := by rw [← hW5]; exact hA4.set 4 (by simp) _
        have HAs : Hid (Aside (fun k => k = A) w4 W5) := by
          rw [← hW5]
          exact Aside.of_grown (setCell_grown A 4 _) fun k e => (Option.some.inj e).symm
        simp only [List.getD_cons_succ, List.getD_cons_zero] at c4
        clear hA4
        go_wp2
        go_ret
        have hA0 : A < w.heap.size := unhide HAl
        have hrl := unhide HRL
        have hns : ∀ k, k = A → ¬ S4 k ∧ ¬ R4 k := fun k hk => by
          subst hk
          constructor
          · intro h
            rcases hrl.s _ h with h | h
            · exact (unhide HSA).1 h
            · omega
          · intro h
            rcases hrl.r _ h with h | h
            · exact (unhide HSA).2 h
            · omega
        refine Or.inr (Or.inr ⟨unhide HNF, by rw [unhide HBR]; exact unhide HE, rfl, S4, R4, ⟨?_, hrl.s, hrl.r, ?_⟩, unhide HA5⟩)
        · rw [unhide HBR]; exact HP.kept hrl.p (unhide HAs) hns
        · exact (hrl.a.mono fun _ _ h => Or.inl h).trans (T := fun k => k = A) (unhide HAs) fun _ _ h => Or.inr h
end
end Go.Proofs.YtbjgknoipbekoaaGreat
namespace Go.Proofs.YtbjgknoipbekoaaGreat
open Go.RowKit
theorem dec_two (l : Int) (h : l < 0 ∨ 2 ≤ l) : decL (decL l) = if l < 0 then l else l - 2 := by unfold decL; split <;> split <;> (try split) <;> omega
theorem StOn.beg {h g T : Nat} {s : PS} {rs : List (Bs × Nat)} {ps : List (Bs × Bs)} (H : StOn h g T s rs ps) (hg : g + 1 < 2147483648) (hT : T + 1 < 4294967296) (hh : h = (s.safe.length - 2) / 2) : BegS s h (g + 1) := by
  have hfit := H.fit
  have h1 := H.h1
  have hlo := H.rest.ok.left
  have hmo := H.rest.ok.most
  refine ⟨H.rest.down, H.rest.loose, h1, hh, by omega, by omega, hg, fun h0 => ?_⟩
  by_cases hlf : s.left < 0 ∨ 2 ≤ s.left
  · have hc := clear_done H hlf
    have hd1 := dec_two s.left hlf
    rw [hc]
    obtain ⟨o1, o2, o3, o4, o5, o6, o7⟩ := open_cleared (s2 := ⟨s.safe.set (fromG h (g + 1)) zeros, [], decL (decL s.left), false⟩) H hg hT (set_ok H.rest.ok zeros_len (by rw [hd1]; split <;> omega) (by rw [hd1]; split <;> omega)) rfl rfl rfl
    exact ⟨o7, o4⟩
  · have hf := from_le h (g + 1)
    have h5 := (one_cut (a := fromG h (g + 1)) (b := zeros) H.rest.down H.rest.loose (by omega) zeros_len (by omega) []).1
    exact absurd (h0.symm.trans h5) (by decide)
theorem Bare.beg {h T : Nat} {s : PS} (H : Bare h 0 T s) (hT : T + 1 < 4294967296) (hh : h = (s.safe.length - 2) / 2) : BegS s h 1 := by
  have hfit := H.fit
  have h1 := H.h1
  have hlo := H.rest.ok.left
  have hmo := H.rest.ok.most
  refine ⟨H.rest.down, H.rest.loose, h1, hh, by omega, by omega, by omega, fun h0 => ?_⟩
  by_cases hlf : s.left < 0 ∨ 2 ≤ s.left
  · have hc : clearR s h 1 = _ := bare_clear H hlf
    have hd1 := dec_two s.left hlf
    rw [hc]
    obtain ⟨o1, o2, o3, o4, o5, o6, o7⟩ := bare_open (s2 := ⟨s.safe.set (fromG h (0 + 1)) zeros, [], decL (decL s.left), false⟩) H (by omega) hT (set_ok H.rest.ok zeros_len (by rw [hd1]; split <;> omega) (by rw [hd1]; split <;> omega)) rfl rfl rfl
    exact ⟨o7, o4⟩
  · have h5 := (bare_clearcut H (by omega) []).1
    exact absurd (h0.symm.trans h5) (by decide)
theorem top_on {h g T : Nat} {s : PS} {rs : List (Bs × Nat)} {ps : List (Bs × Bs)} (H : StOn h g T s rs ps) : topU s 2 = g := by
  have hcon : contentS s = s.safe := by unfold contentS; rw [H.rest.loose]; rfl
  have h0 := H.g0
  have e1 := rmk_eq H.mark H.g0 H.g1
  have e2 := Nat.lt_of_le_of_lt (rmk_le (s.safe.getD ((g + 1) % 2) []) ((g + 1) % 2)) H.other
  unfold topU topU topU
  rw [hcon]
  rcases Nat.mod_two_eq_zero_or_one g with h2 | h2
  · rw [h2] at e1
    rw [show (g + 1) % 2 = 1 by omega] at e2
    omega
  · rw [h2] at e1
    rw [show (g + 1) % 2 = 0 by omega] at e2
    omega
theorem top_bare {h T : Nat} {s : PS} (H : Bare h 0 T s) : topU s 2 = 0 := by
  have hcon : contentS s = s.safe := by unfold contentS; rw [H.rest.loose]; rfl
  have e1 := rmk_le (s.safe.getD 0 []) 0
  have e2 := rmk_le (s.safe.getD 1 []) 1
  have m1 : marksG (s.safe.getD 0 []) = 0 := H.mark
  have m2 : marksG (s.safe.getD 1 []) = 0 := H.other
  unfold topU topU topU
  rw [hcon]
  omega
theorem lead_at {rs : List (Bs × Nat)} {qs ps : List (Bs × Bs)} {i : Nat} {x : Bs × Nat} (hx : rs[i]? = some x) (h : leadP qs (rs.drop i) = some ps) : ∃ l, chsOf x.1 = some l ∧ leadP (withP qs l) (rs.drop (i + 1)) = some ps := by
  have hi := (List.getElem?_eq_some_iff.1 hx).1
  have hd : rs.drop i = x :: rs.drop (i + 1) := by
    rw [List.drop_eq_getElem_cons hi]
    congr 1
    exact (List.getElem?_eq_some_iff.1 hx).2
  rw [hd] at h
  unfold leadP at h
  cases hc : chsOf x.1 with
  | none => rw [hc] at h; cases h
  | some l => rw [hc] at h; exact ⟨l, rfl, h⟩
theorem wr_mem {l : List Ch} {c : Ch} (h : c ∈ l) : (wr1 c).length ≤ (wrL l).length := by
  induction l with
  | nil => cases h
  | cons y l ih =>
    rw [wrL_cons, List.length_append]
    rcases List.mem_cons.1 h with rfl | h
    · omega
    · have := ih h
      omega
theorem chs_val {b : Bs} {l : List Ch} (h : chsOf b = some l) : (∀ c ∈ l, c.gone = false → c.val.length ≤ b.length) ∧ l.length ≤ b.length := by
  have h1 := rdL_size _ _ _ h
  refine ⟨fun c hc hg => ?_, ?_⟩
  · have h2 := wr_mem hc
    rw [size_set c hg] at h2
    omega
  · have := wrL_len l
    omega
/-- What resume does. -/
structure ResP (LAt : Set_ → Set_ → World → Value → Value → LS → Prop) (w w' : World) (A : Nat) (p : Value) (gen : Nat) (L : LS) (ps : List (Bs × Bs)) (la : Addr) (B : Nat) (V S2 R2 : Set_) : Prop where
  row : RowAt 94 w' A [] (sCells p gen (.pointer (some la)) B false)
  map : SMAt V w' B (getP ps)
  log : LAt S2 R2 w' (.pointer (some la)) p L
  b : w.heap.size ≤ B
  v : ∀ k, V k → B < k
  s2 : ∀ k, S2 k ∨ R2 k → w.heap.size ≤ k ∧ k < B
  a : Aside (fun k => k = A) w w'
section
variable {PAt : Set_ → Set_ → World → Value → PS → Prop} {LAt : Set_ → Set_ → World → Value → Value → LS → Prop} (HP : Plate PAt) (HW : Wal PAt LAt)
variable {w : World} {S R : Set_} {p : Value} {s : PS}
include HP HW in
set_option maxRecDepth 100000 in
set_option maxHeartbeats 4000000 in
theorem sresume_c {A h g T : Nat} {rs : List (Bs × Nat)} {ps : List (Bs × Bs)} {lv mv : Value} (hp : PAt S R w p s) (hA : RowAt 94 w A [] [p, .int .i64 (g : Int), lv, mv, .bool false]) (H : StOn h g T s rs ps) (hT : T + 1 < 4294967296) (hh : h = (s.safe.length - 2) / 2) :
    Calls Tryz.prog 42 #[.pointer (some ⟨A, 0, none⟩)] w fun e w' => e = .returned (.int .i64 0) ∧ ∃ la B V S2 R2, ResP LAt w w' A p g (openL s (fromG h g) h g) ps la B V S2 R2 := by
  obtain ⟨pa, epa⟩ := HP.ptr hp
  subst epa
  have hfew := (HP.ok hp).few
  have hfit := H.fit
  have hh1 := H.h1
  have hg0 := H.g0
  have hg1 := H.g1
  obtain ⟨o1, o2⟩ := H.open_ hT
  have hrs := H.rest.few
  have hbig := stands_big H.rest.st
  have hne := H.ne
  have hlead := H.lead
  have hAl := hA.lt
  obtain ⟨L, hL⟩ : ∃ y, openL s (fromG h g) h g = y := ⟨_, rfl⟩
  rw [hL] at o2 ⊢
  have HO : Hid (∀ w', Below w.heap.size w w' → Calls Tryz.prog 66 #[.pointer (some pa), .int .i64 (g : Int)] w' fun e w2 => ∃ l, e = .returned (.tuple #[.pointer (some l), .int .i64 0]) ∧ ∃ S2 R2, LAt S2 R2 w2 (.pointer (some l)) (.pointer (some pa)) L ∧ (∀ k, S2 k ∨ R2 k → w'.heap.size ≤ k) ∧ Below w'.heap.size w' w2) := fun w' hb => by
    refine (sopenlog_c HP HW (HP.kept hp (T := none_) (Aside.of_below hb) fun _ hk => hk.elim) (by omega) g hg0 hg1 (h := h) hh H.rest.down (by rw [H.rest.loose]; simp)).mono ?_
    rintro e w2 ⟨l, rfl, S2, R2, q1, q2, q3⟩
    rw [hL] at q1
    obtain ⟨la, rfl⟩ := HW.ptr q1
    exact ⟨la, rfl, S2, R2, q1, q2, q3⟩
  have HRc : Hid (∀ w' l S2 R2, LAt S2 R2 w' (.pointer (some l)) (.pointer (some pa)) L → Calls Tryz.prog 67 #[.pointer (some l)] w' fun e w2 => ∃ v vs, e = .returned v ∧ ListsAt w'.heap.size w2 v vs (rs.map (·.1)) ∧ Below w'.heap.size w' w2) := fun w' l S2 R2 hl => by
    have := HW.records hl (by rw [o2]; omega) (by rw [o2]; exact hbig)
    rw [o2] at this
    exact this
  obtain ⟨n, hn⟩ : ∃ n, rs.length = n := ⟨_, rfl⟩
  have hn0 : 1 ≤ n := by rw [← hn]; exact Nat.pos_of_ne_zero fun e => hne (List.eq_nil_of_length_eq_zero e)
  have HN := hide hn
  have HBig := hide hbig
  have HLd := hide hlead
  have k0 : w.cell? ⟨A, 0, none⟩ = some (.pointer (some pa)) := hA.cell 0 (by simp)
  have k1 : w.cell? ⟨A, 1, none⟩ = some (.int .i64 (g : Int)) := hA.cell 1 (by simp)
  have HK0 := hide k0
  have HK1 := hide k1
  have HAr := hide hA
  have HAl := hide hAl
  have hnb : n ≤ 100000 := by omega
  have d0 : ((n : Int) == 0) = false := by simp; omega
  have d0d : decide ((n : Int) = 0) = false := by simp; omega
  have d0n : decide (n = 0) = false := by simp; omega
  clear hp hA H hT hh hfew hfit hh1 hg0 hg1 o1 o2 hrs hbig hne hlead hL hn hAl
  go_enter Tryz.func42, Tryz.ntmps42
  go_wp2
  go_region_held3 (fun w' => w'.cell? ⟨A, 0, none⟩ = some (.pointer (some pa)) ∧ w'.cell? ⟨A, 1, none⟩ = some (.int .i64 (g : Int))) (go_keep)
    ((first
      | (go_at_call 66; refine (unhide HO _ (Below.refl w.heap.size w).drew).mono ?_; rintro e w1 ⟨l1, rfl, S2, R2, hl1, hn1, hb1⟩; have HL1 := hide hl1; have HN1 := hide hn1; have HB1 := hide ((Below.refl w.heap.size w).drew.trans hb1); have q0 := cell_aside (S := none_) (unhide HK0) (Aside.of_below (unhide HB1)) (fun h => h); have q1 := cell_aside (S := none_) (unhide HK1) (Aside.of_below (unhide HB1)) (fun h => h); clear hl1 hn1 hb1)))
  clear q0 q1 k0 k1
  go_upto_region 7 with (first
    | (go_at_call 67; refine (unhide HRc _ _ _ _ (unhide HL1)).mono ?_
       rintro e w2 ⟨v2, vs, rfl, hv2, hb2⟩
       obtain ⟨s2, c2, e2⟩ := hv2.row.form
       rw [hv2.len, List.length_map, unhide HN] at e2
       subst e2
       have HV2 := hide hv2
       have HB2 := hide hb2
       clear hv2 hb2))
  obtain ⟨W3, hW3⟩ : ∃ y, w2.alloc (.map #[] 0) = y := ⟨_, rfl⟩
  have HM3 : Hid (SMAt (fun k => w2.heap.size < k) W3 w2.heap.size (getP [])) := by
    rw [← hW3]
    exact (SMAt.made _ w2).congr fun k => rfl
  have HB3 : Hid (Below w2.heap.size w2 W3) := by rw [← hW3]; exact (Below.refl _ _).alloc (Nat.le_refl _) _
  have HSz3 : Hid (W3.heap.size = w2.heap.size + 1) := by rw [← hW3]; show _ = _; simp
  have hmm := run_makeMap (P := Tryz.prog) 92 w2
  rw [hW3] at hmm
  clear hW3
  go_wp2
  clear hmm
  go_loopw [34] (fun ii wr => ∃ (i : Nat) (qs : List (Bs × Bs)), i ≤ n ∧ ii = .int .i64 (i : Int) ∧ Hid (SMAt (fun k => w2.heap.size < k) wr w2.heap.size (getP qs)) ∧ Hid (SortedP qs) ∧ Hid (leadP qs (rs.drop i) = some ps) ∧ Hid (Aside (fun k => k = w2.heap.size) W3 wr)) (fun ii _ => n - (intOf ii).toNat)
  case atStart => exact ⟨0, [], by omega, rfl, unhide HM3, List.Pairwise.nil, unhide HLd, Aside.refl _ _⟩
  case round =>
    obtain ⟨i, qs, hi, rfl, HM, HSo, HLe, HAs⟩ := hrel
    by_cases hlt : i < n
    · obtain ⟨x, hx⟩ : ∃ x, rs[i]? = some x := ⟨_, List.getElem?_eq_getElem (by have := unhide HN; omega)⟩
      obtain ⟨lc, hch, hle⟩ := lead_at hx (unhide HLe)
      have f1 : decide ((i : Int) < (n : Int)) = true := by simp; omega
      have f1n : decide (i < n) = true := by simp; omega
      have j0 : (0 : Int) ≤ (i : Int) := by omega
      have j1 : (i : Int) < (n : Int) := by omega
      have hvl : vs.length = n := by rw [(unhide HV2).len, List.length_map]; exact unhide HN
      obtain ⟨gk, ok, ck, ek, hck, hgl, hcell⟩ := ValsAt.cell (unhide HV2).row (by intro e; rw [e] at hvl; simp at hvl; omega)
      rw [hvl] at ek hcell
      simp only [Value.slice.injEq] at ek
      obtain ⟨es2, _, ec2⟩ := ek
      obtain ⟨u, hu⟩ : ∃ u, vs[i]? = some u := ⟨_, List.getElem?_eq_getElem (by omega)⟩
      have hrx : (rs.map (·.1))[i]? = some x.1 := by rw [List.getElem?_map, hx]; rfl
      obtain ⟨hu1, hu2, _⟩ := (unhide HV2).each i u x.1 hu hrx
      have hsz3 := unhide HSz3
      have hAsz := (unhide HAs).size
      have k0 : wr.cell? ⟨gk, ok + i, none⟩ = some u := by
        have h1 : w2.cell? ⟨gk, ok + i, none⟩ = some u := by rw [hcell i hlt, List.getD_eq_getElem?_getD, hu]; rfl
        have h2 := cell_aside (S := none_) h1 (Aside.of_below (unhide HB3)) (fun h => h)
        exact cell_aside h2 (unhide HAs) (by intro e; omega)
      have hEl : ElS (fun k => k < w2.heap.size) wr u x.1 := ⟨((hu1.below (unhide HB3)).beside (unhide HAs) fun hne k hk e => by have := ValsAt.old hu1 (by simpa using hne) k hk; omega), fun hne k hk => ValsAt.old hu1 (by simpa using hne) k hk⟩
      have hxl := unhide HBig x (List.mem_of_getElem? hx)
      obtain ⟨su, cu, eu, _⟩ := bytes_open hu1
      obtain ⟨UN, hUN⟩ : ∃ y, x.1.length = y := ⟨_, rfl⟩
      rw [hUN] at eu
      subst eu
      have Hrd := hide (sreadch_c hEl (by omega) fun k hk => by omega)
      rw [hch] at Hrd
      have HBl : Hid (w2.heap.size < wr.heap.size) := (unhide HM).lt
      obtain ⟨hcv, hcl⟩ := chs_val hch
      have HCv : Hid (∀ c ∈ lc, c.gone = false → c.val.length ≤ 1000000) := fun c hc hg => by have := hcv c hc hg; omega
      have HCl : Hid (lc.length ≤ 1000000) := by show _ ≤ _; omega
      have HLe2 := hide hle
      subst es2
      clear hx hch hle hvl hcell hu hrx hu1 hu2 hEl hxl hUN hsz3 hAsz ec2 hck hgl hcv hcl HLe
      go_wp2_with (first
        | (go_at_call 68; refine (unhide Hrd).mono ?_
           rintro e w5 ⟨v5, rfl, hc5, hb5⟩
           have hc5' := hc5 lc rfl
           obtain ⟨s5, c5, e5, _⟩ := hc5'.form
           subst e5
           have HC5 := hide hc5'
           have HM5 := hide ((unhide HM).below hb5)
           have HA5 : Hid (Aside (fun k => k = w2.heap.size) W3 w5) := (unhide HAs).trans (T := none_) (Aside.of_below hb5) fun _ _ h => h.elim
           have HS5 := hide hb5.size
           simp only [Option.isSome_some]
           clear hc5 hc5' hb5)
        | (go_at_call 49; refine (pdo_c (unhide HM5) (unhide HC5) (unhide HCl) (fun k hk => by have := unhide HBl; omega) (by omega) (unhide HCv)).mono ?_
           rintro e w6 ⟨rfl, hM6, hA6⟩
           have HM6 : Hid (SMAt (fun k => w2.heap.size < k) w6 w2.heap.size (getP (withP qs lc))) := (hM6.congr fun k => do_with (unhide HSo) lc k).mono fun k hk => by have := unhide HBl; have := unhide HS5; omega
           have HA6 : Hid (Aside (fun k => k = w2.heap.size) W3 w6) := (unhide HA5).trans (T := fun k => k = w2.heap.size) hA6 fun _ _ h => h
           clear hM6 hA6))
      refine ⟨⟨i + 1, withP qs lc, by omega, ?_, HM6, ?_, HLe2, HA6⟩, ?_⟩
      · simp
      · exact with_sorted _ _ (unhide HSo)
      · simp [intOf]; omega
    · obtain rfl : i = n := by omega
      have f1 : decide ((i : Int) < (i : Int)) = false := by simp
      have HEq : Hid (qs = ps) := by
        have h := unhide HLe
        rw [List.drop_of_length_le (by have := unhide HN; omega)] at h
        exact Option.some.inj h
      have hbW : Below w.heap.size w w2 := (unhide HB1).trans ((unhide HB2).mono (unhide HB1).size)
      have hAW : Aside (fun k => w.heap.size ≤ k) w wr := ((Aside.of_below hbW).trans (T := none_) (Aside.of_below (unhide HB3)) fun _ _ h => h.elim).trans (unhide HAs) fun i hi hk => by have := hbW.size; omega
      have hA4 := row_aside (unhide HAr) hAW (by have := unhide HAl; omega)
      have c2 := hA4.cell 2 (by simp)
      have z2 := hA4.frozen 2
      obtain ⟨W5, hW5⟩ : ∃ y, wr.setCell ⟨A, 2, none⟩ (.pointer (some l1)) = y := ⟨_, rfl⟩
      have hA5 : RowAt 94 W5 A [] [.pointer (some pa), .int .i64 (g : Int), .pointer (some l1), mv, .bool false] := by rw [← hW5]; exact hA4.set 2 (by simp) _
      have c3' := hA5.cell 3 (by simp)
      have z3 := hA5.frozen 3
      obtain ⟨W6, hW6⟩ : ∃ y, W5.setCell ⟨A, 3, none⟩ (.map (some w2.heap.size)) = y := ⟨_, rfl⟩
      have HA6 : Hid (RowAt 94 W6 A [] [.pointer (some pa), .int .i64 (g : Int), .pointer (some l1), .map (some w2.heap.size), .bool false]) := by rw [← hW6]; exact hA5.set 3 (by simp) _
      have HAs6 : Hid (Aside (fun k => k = A) wr W6) := by
        rw [← hW6, ← hW5]
        exact (Aside.of_grown (setCell_grown A 2 _) (S := fun k => k = A) fun k e => (Option.some.inj e).symm).trans (T := fun k => k = A) (Aside.of_grown (setCell_grown A 3 _) fun k e => (Option.some.inj e).symm) fun _ _ h => h
      have HBW := hide hbW
      simp only [List.getD_cons_succ, List.getD_cons_zero] at c2 c3'
      clear hA4 hA5 hbW hAW
      go_wp2
      go_ret
      have hA0 := unhide HAl
      have hbW := unhide HBW
      have hwsz := hbW.size
      have hb1 := (unhide HB1).size
      have hb2 := (unhide HB2).size
      refine ⟨rfl, l1, w2.heap.size, fun k => w2.heap.size < k, S2, R2, ⟨unhide HA6, ?_, ?_, hwsz, fun k hk => hk, fun k hk => ?_, ?_⟩⟩
      · rw [← unhide HEq]
        exact (unhide HM).aside (unhide HAs6) (by omega) fun k hk => by omega
      · have hl := unhide HL1
        have ho := HW.old hl
        have h2 := HW.kept hl (T := none_) (Aside.of_below (unhide HB2)) fun _ hk => hk.elim
        have h3 := HW.kept h2 (T := none_) (Aside.of_below (unhide HB3)) fun _ hk => hk.elim
        have h4 := HW.kept h3 (unhide HAs) fun k hk => ⟨fun h => by have := ho k (Or.inl h); omega, fun h => by have := ho k (Or.inr h); omega⟩
        refine HW.kept h4 (unhide HAs6) fun k hk => ⟨fun h => ?_, fun h => ?_⟩
        · have h9 : w.heap.size ≤ k := unhide HN1 k (Or.inl h); omega
        · have h9 : w.heap.size ≤ k := unhide HN1 k (Or.inr h); omega
      · have h1 : w.heap.size ≤ k := unhide HN1 k hk
        have h2 := HW.old (unhide HL1) k hk
        omega
      · refine ((Aside.of_below hbW).trans (T := none_) (Aside.of_below (unhide HB3)) fun _ _ h => h.elim).trans (T := fun k => k = w2.heap.size ∨ k = A) (((unhide HAs).mono fun _ _ h => Or.inl h).trans (T := fun k => k = A) (unhide HAs6) fun _ _ h => Or.inr h) fun i hi hk => ?_
        omega
end
end Go.Proofs.YtbjgknoipbekoaaGreat
