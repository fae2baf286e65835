/-
  The reference's Commit, walked.
-/
import Derived.Test.YtbjgknoipbekoaaGreatQ30
namespace Go.Proofs.YtbjgknoipbekoaaGreat
open Go.RowKit
theorem results_ct {fn : Func} {p u : Tmp} {ty : TypeId} (h : fn.results = #[.cell p ty, .tmp u]) (tmps : Array Value) (w : World) (g : Nat) (cs : Array Value)
    (hp : tmps.getD p undef = .pointer (some ⟨g, 0, none⟩)) (hl : (loadVar ty ⟨g, 0, none⟩).run Tryz.prog w = .ok (.agg cs) w) :
    (results fn tmps).run Tryz.prog w = .ok (.tuple #[.agg cs, tmps.getD u undef]) w := by
  have hp' : tmps[p]?.getD undef = .pointer (some ⟨g, 0, none⟩) := by simpa using hp
  simp [results, h, hp', asAddr, hl]
/-- A row of a store's cells. -/
def R4 (w : World) (A : Nat) (a b c d : Value) : Prop := w.heap[A]? = some (.cells [a, b, c, d].toArray 34 (0, 0))
theorem R4.below {w w' : World} {A : Nat} {a b c d : Value} (h : R4 w A a b c d) (hb : Below w.heap.size w w') : R4 w' A a b c d := (hb.block A (lt_of_row h)).trans h
theorem R4.cells {w : World} {A : Nat} {a b c d : Value} (h : R4 w A a b c d) : w.cell? ⟨A, 0, none⟩ = some a ∧ w.cell? ⟨A, 1, none⟩ = some b ∧ w.cell? ⟨A, 2, none⟩ = some c ∧ w.cell? ⟨A, 3, none⟩ = some d := ⟨row_cell h 0 _ rfl, row_cell h 1 _ rfl, row_cell h 2 _ rfl, row_cell h 3 _ rfl⟩
theorem R4.frozen {w : World} {A : Nat} {a b c d : Value} (h : R4 w A a b c d) : w.frozen? ⟨A, 0, none⟩ = false ∧ w.frozen? ⟨A, 1, none⟩ = false ∧ w.frozen? ⟨A, 2, none⟩ = false ∧ w.frozen? ⟨A, 3, none⟩ = false := ⟨row_frozen h 0, row_frozen h 1, row_frozen h 2, row_frozen h 3⟩
theorem R4.other {w : World} {A V k : Nat} {v a b c d : Value} (h : R4 w A a b c d) (hV : A ≠ V) : R4 (w.setCell ⟨V, k, none⟩ v) A a b c d := ((set_aside w V k v).block A (lt_of_row h) hV).trans h
theorem R4.set3 {w : World} {A : Nat} {v a b c d : Value} (h : R4 w A a b c d) : R4 (w.setCell ⟨A, 3, none⟩ v) A a b c v := row_put h 3 (by simp) v
theorem R4.set2 {w : World} {A : Nat} {v a b c d : Value} (h : R4 w A a b c d) : R4 (w.setCell ⟨A, 2, none⟩ v) A a b v d := row_put h 2 (by simp) v
theorem R4.set1 {w : World} {A : Nat} {v a b c d : Value} (h : R4 w A a b c d) : R4 (w.setCell ⟨A, 1, none⟩ v) A a v c d := row_put h 1 (by simp) v
theorem R4.put {w : World} {A : Nat} {a b c d a' b' c' d' : Value} (h : R4 w A a b c d) : R4 (put4 w A a' b' c' d') A a' b' c' d' := put4_row h
/-- What the reference's Commit leaves. -/
def ComV (K : Set_) (w w' : World) (r : RS × Int) (e : Ending) : Prop := ∃ v, e = .returned (.tuple #[.agg #[.int .i64 (r.1.half : Int), .int .i64 (r.1.gen : Int), .int .i64 (r.1.used : Int), v], .int .i64 r.2]) ∧ PrsAt (fun k => (K k ∨ w.heap.size ≤ k) ∧ k < w'.heap.size) w' v r.1.pairs ∧ Below w.heap.size w w'
theorem com_end {K Kx : Set_} {w W : World} {A4 : Nat} {za zb zc zd qv : Value} {qs : List (Bs × Bs)} {a b c : Nat} (hr : R4 W A4 za zb zc zd) (hp : PrsAt Kx W qv qs) (hx : ∀ k, Kx k → (K k ∨ w.heap.size ≤ k) ∧ k ≠ A4) (hb : Below w.heap.size w W) (h4 : w.heap.size ≤ A4) :
    R4 (put4 W A4 (.int .i64 (a : Int)) (.int .i64 (b : Int)) (.int .i64 (c : Int)) qv) A4 (.int .i64 (a : Int)) (.int .i64 (b : Int)) (.int .i64 (c : Int)) qv ∧
    PrsAt (fun k => (K k ∨ w.heap.size ≤ k) ∧ k < (put4 W A4 (.int .i64 (a : Int)) (.int .i64 (b : Int)) (.int .i64 (c : Int)) qv).heap.size) (put4 W A4 (.int .i64 (a : Int)) (.int .i64 (b : Int)) (.int .i64 (c : Int)) qv) qv qs ∧
    Below w.heap.size w (put4 W A4 (.int .i64 (a : Int)) (.int .i64 (b : Int)) (.int .i64 (c : Int)) qv) :=
  ⟨hr.put, (hp.aside (put4_aside W A4 _ _ _ _) fun k hk h => (hx k h).2 hk).mono fun k hk h => ⟨(hx k h).1, hk⟩, hb.trans ((put4_aside W A4 _ _ _ _).below hb.size fun k hk => by have h1 : k = A4 := hk; omega)⟩
set_option maxRecDepth 100000 in
set_option maxHeartbeats 8000000 in
theorem rcommit_c {K : Set_} {w : World} {rv y : Value} {ps : List (Bs × Bs)} {l : List Ch} {h g u : Nat} (hp : PrsAt K w rv ps) (hc : ChsAt K w y l) (hr : RightP ps) (hn : ps.length ≤ 70000) (hl : l.length ≤ 1000) (hk : ∀ c ∈ l, c.key.length ≤ 1099511627776) (hh : h ≤ 1000000) (hg : g ≤ 4611686018427387904) (hu : u ≤ 1000000) :
    Calls Tryz.prog 12 #[.agg #[.int .i64 (h : Int), .int .i64 (g : Int), .int .i64 (u : Int), rv], y] w fun e w' => ComV K w w' (refC ⟨h, g, u, ps⟩ l) e := by
  obtain ⟨sp, cp, rfl, _⟩ := hp.form
  obtain ⟨sy, cy, rfl, _⟩ := hc.form
  obtain ⟨NP, hNP⟩ : ∃ y, ps.length = y := ⟨_, rfl⟩
  obtain ⟨N, hN⟩ : ∃ y, l.length = y := ⟨_, rfl⟩
  rw [hNP] at hp hn ⊢
  rw [hN] at hc hl ⊢
  obtain ⟨w1, hw1⟩ : ∃ y, w.alloc (.cells #[.int .i64 (h : Int), .int .i64 (g : Int), .int .i64 (u : Int), .slice sp NP cp] 34) = y := ⟨_, rfl⟩
  obtain ⟨w2, hw2⟩ : ∃ y, w1.alloc (.cells #[.int .i64 0, .int .i64 0, .int .i64 0, .slice none 0 0] 34) = y := ⟨_, rfl⟩
  have hb1 : Below w.heap.size w w1 := by rw [← hw1]; exact (Below.refl _ _).alloc (Nat.le_refl _) _
  have hb2 : Below w1.heap.size w1 w2 := by rw [← hw2]; exact (Below.refl _ _).alloc (Nat.le_refl _) _
  have HA2 : Hid (R4 w2 w.heap.size (.int .i64 (h : Int)) (.int .i64 (g : Int)) (.int .i64 (u : Int)) (.slice sp NP cp)) := R4.below (by unfold R4; rw [← hw1]; exact (MapKept.heap_alloc w _).1) hb2
  have HA4 : Hid (R4 w2 w1.heap.size (.int .i64 0) (.int .i64 0) (.int .i64 0) (.slice none 0 0)) := by show R4 _ _ _ _ _ _; unfold R4; rw [← hw2]; exact (MapKept.heap_alloc w1 _).1
  have HAl : Hid (w.heap.size < w1.heap.size) := lt_of_row (by rw [← hw1]; exact (MapKept.heap_alloc w _).1)
  have HB2 := hide (hb1.trans (hb2.mono hb1.size))
  have HP2 : Hid (PrsAt (fun k => K k ∧ k < w.heap.size) w2 (.slice sp NP cp) ps) := (hp.mono fun k hk h => ⟨h, hk⟩).below (unhide HB2)
  have HC2 : Hid (ChsAt (fun k => K k ∧ k < w.heap.size) w2 (.slice sy N cy) l) := (hc.mono fun k hk h => ⟨h, hk⟩).below (unhide HB2)
  have HPr := hide hr
  have HNP := hide hNP
  have HN := hide hN
  have HK := hide hk
  clear hp hc hr hNP hN hk hb1 hb2
  go_enter Tryz.func12, Tryz.ntmps12
  go_upto_region 1 with fail
  obtain ⟨A2, hA2⟩ : ∃ y, w.heap.size = y := ⟨_, rfl⟩
  obtain ⟨A4, hA4⟩ : ∃ y, w1.heap.size = y := ⟨_, rfl⟩
  rw [hA2] at HA2
  rw [hA4] at HA4
  rw [hA2, hA4] at HAl
  have HW2 := hide hA2
  rw [hA2, hA4]
  clear hA2 hA4 hw1 hw2
  have Hri := hide (rright_c (unhide HC2) (by have := unhide HN; omega))
  by_cases hR : RightL l
  · rw [decide_eq_true hR] at Hri
    have HRL := hide hR
    clear hR
    go_upto_region 3 with (first
      | (go_at_call 43; refine (unhide Hri).mono ?_; rintro e w3 ⟨rfl, b3⟩
         have HA2' := hide ((unhide HA2).below b3)
         have HA4' := hide ((unhide HA4).below b3)
         have HP3 := hide ((unhide HP2).below b3)
         have HC3 := hide ((unhide HC2).below b3)
         have HB3 := hide ((unhide HB2).trans (b3.mono (unhide HB2).size))
         clear b3))
    clear Hri HA2 HA4 HP2 HC2 HB2
    by_cases hz : l = []
    · have HE : Hid (refC ⟨h, g, u, ps⟩ l = (⟨h, g, u, ps⟩, 0)) := by
        show _ = _
        unfold refC
        rw [if_neg (fun h => h (unhide HRL)), if_pos hz]
      have hN0 : N = 0 := by rw [← unhide HN, hz]; rfl
      clear hz
      subst hN0
      go_upto_region 4 with fail
      obtain ⟨r0, r1, r2, r3⟩ := (unhide HA2').cells
      obtain ⟨z0, z1, z2, z3⟩ := (unhide HA4').frozen
      obtain ⟨x0, x1, x2, x3⟩ := (unhide HA4').cells
      go_wp2
      obtain ⟨e1, e2, e3⟩ := com_end (a := h) (b := g) (c := u) (unhide HA4') (unhide HP3) (fun k h => ⟨Or.inl h.1, by have := h.2; have := unhide HAl; have := unhide HW2; omega⟩) (unhide HB3) (by have := unhide HAl; have := unhide HW2; omega)
      unfold put4 at e1 e2 e3
      refine bodyPost_ret (results_ct Tryz.results12 _ _ A4 _ rfl (rs_load e1)) rfl ?_
      show ComV _ _ _ _ _
      rw [unhide HE]
      exact ⟨_, rfl, e2, e3⟩
    have hN0 : N ≠ 0 := fun e => hz (List.eq_nil_of_length_eq_zero (by rw [unhide HN]; exact e))
    have d0 : ((N : Int) == 0) = false := by simp; omega
    obtain ⟨WB, hWB⟩ : ∃ y, wrL l = y := ⟨_, rfl⟩
    obtain ⟨QP, hQP⟩ : ∃ y, withP ps l = y := ⟨_, rfl⟩
    obtain ⟨FB, hFB⟩ : ∃ y, wrL (allP QP) = y := ⟨_, rfl⟩
    obtain ⟨BN_, hBN⟩ : ∃ y, WB.length = y := ⟨_, rfl⟩
    obtain ⟨FN_, hFN⟩ : ∃ y, FB.length = y := ⟨_, rfl⟩
    obtain ⟨nb, hnb⟩ : ∃ y, needs BN_ = y := ⟨_, rfl⟩
    obtain ⟨nf, hnf⟩ : ∃ y, needs FN_ = y := ⟨_, rfl⟩
    have HREF : Hid (refC ⟨h, g, u, ps⟩ l = if BN_ ≤ 65536 ∧ u + nb ≤ h then (⟨h, g, u + nb, QP⟩, 0) else if 65536 < FN_ ∨ h < nf then (⟨h, g, u, ps⟩, 52) else (⟨h, g + 1, nf, QP⟩, 0)) := by
      show _ = _
      unfold refC
      rw [if_neg (fun h => h (unhide HRL)), if_neg hz]
      simp only [hWB, hQP, hFB, hBN, hFN, hnb, hnf]
    have hQl : QP.length ≤ 71000 := by rw [← hQP]; have := with_few l ps; have := unhide HNP; have := unhide HN; omega
    have hQr : RightP QP := by rw [← hQP]; exact with_right (unhide HRL) (unhide HPr)
    have hBb : BN_ ≤ 90000000 := by have := wrL_le (unhide HRL); rw [hWB, hBN, unhide HN] at this; omega
    have hFb : FN_ ≤ 900000000 := by have h1 := wrL_le (all_right hQr); have h2 : (allP QP).length = QP.length := List.length_map _; rw [hFB, hFN, h2] at h1; omega
    have hnb2 : nb ≤ 2000000 := by rw [← hnb]; unfold needs; omega
    have hnf2 : nf ≤ 20000000 := by rw [← hnf]; unfold needs; omega
    have HQL := hide hQl
    have HQR := hide hQr
    -- next := s; its pairs
    obtain ⟨r0, r1, r2, r3⟩ := (unhide HA2').cells
    obtain ⟨w4, hw4⟩ : ∃ y, w3.alloc (.cells #[.int .i64 (h : Int), .int .i64 (g : Int), .int .i64 (u : Int), .slice sp NP cp] 34) = y := ⟨_, rfl⟩
    have hb4 : Below w3.heap.size w3 w4 := by rw [← hw4]; exact (Below.refl _ _).alloc (Nat.le_refl _) _
    have HA6 : Hid (R4 w4 w3.heap.size (.int .i64 (h : Int)) (.int .i64 (g : Int)) (.int .i64 (u : Int)) (.slice sp NP cp)) := by show R4 _ _ _ _ _ _; unfold R4; rw [← hw4]; exact (MapKept.heap_alloc w3 _).1
    have HA24 := hide ((unhide HA2').below hb4)
    have HA44 := hide ((unhide HA4').below hb4)
    have HP4 := hide ((unhide HP3).below hb4)
    have HC4 := hide ((unhide HC3).below hb4)
    have HB4 := hide ((unhide HB3).trans (hb4.mono (unhide HB3).size))
    have HA6l : Hid (A4 < w3.heap.size) := lt_of_row (unhide HA4')
    clear hb4
    go_upto_region 6 with fail
    obtain ⟨A6, hA6⟩ : ∃ y, w3.heap.size = y := ⟨_, rfl⟩
    rw [hA6] at HA6 HA6l ⊢
    clear hA6 hw4 r0 r1 r2 r3 HA2' HA4' HP3 HC3 HB3
    obtain ⟨r0, r1, r2, r3⟩ := (unhide HA24).cells
    have Hwi := hide (rwith_c (unhide HP4) (unhide HC4) (by have := unhide HNP; have := unhide HN; omega) (keys_right (unhide HPr)) (unhide HK))
    rw [hQP] at Hwi
    go_upto_region 7 with (first
      | (go_at_call 25; refine (unhide Hwi).mono ?_; rintro e w5 ⟨v5, rfl, hq5, b5⟩
         obtain ⟨s5, c5, e5, _⟩ := id hq5.form
         obtain ⟨NQ, hNQ⟩ : ∃ y, QP.length = y := ⟨_, rfl⟩
         rw [hNQ] at e5
         subst e5
         have HNQ := hide hNQ
         have HQ5 : Hid (PrsAt (fun k => (K k ∧ k < w.heap.size) ∨ w4.heap.size ≤ k) w5 (.slice s5 NQ c5) QP) := hq5.mono fun k _ h => h.1
         have HA25 := hide ((unhide HA24).below b5)
         have HA45 := hide ((unhide HA44).below b5)
         have HA65 := hide ((unhide HA6).below b5)
         have HC5 := hide ((unhide HC4).below b5)
         have HP5 := hide ((unhide HP4).below b5)
         have HB5 := hide ((unhide HB4).trans (b5.mono (unhide HB4).size))
         have fz := (unhide HA65).frozen.2.2.2
         have x3 := (unhide HA65).cells.2.2.2
         clear hq5 b5 hNQ))
    have HA6w : Hid (A6 < w4.heap.size) := lt_of_row (unhide HA6)
    have hne6 : A4 ≠ A6 := by have := unhide HA6l; omega
    have hne2 : A2 ≠ A6 := by have := unhide HA6l; have := unhide HAl; omega
    have a6 := set_aside w5 A6 3 (.slice s5 NQ c5)
    have HA66 := hide ((unhide HA65).set3 (v := .slice s5 NQ c5))
    have HA46 := hide ((unhide HA45).other (k := 3) (v := .slice s5 NQ c5) hne6)
    have HA26 := hide ((unhide HA25).other (k := 3) (v := .slice s5 NQ c5) hne2)
    have HC6 := hide ((unhide HC5).aside a6 fun k hk h => by have h1 : k = A6 := hk; have := h.2; have := unhide HAl; have := unhide HA6l; have := unhide HW2; omega)
    have HP6 := hide ((unhide HP5).aside a6 fun k hk h => by have h1 : k = A6 := hk; have := h.2; have := unhide HAl; have := unhide HA6l; have := unhide HW2; omega)
    have HQ6 := hide ((unhide HQ5).aside a6 fun k hk h => by have h1 : k = A6 := hk; have h2 := unhide HAl; have h3 := unhide HA6l; have h4 := unhide HW2; have h5 := unhide HA6w; rcases h with h | h; have := h.2; omega; omega)
    have HB6 := hide ((unhide HB5).trans (a6.below (unhide HB5).size fun k hk => by have h1 : k = A6 := hk; have h2 := unhide HAl; have h3 := unhide HA6l; have h4 := unhide HW2; omega))
    obtain ⟨W6, hW6⟩ : ∃ y, w5.setCell ⟨A6, 3, none⟩ (.slice s5 NQ c5) = y := ⟨_, rfl⟩
    rw [hW6] at HA66 HA46 HA26 HC6 HP6 HQ6 HB6 ⊢
    clear hW6 a6 fz x3 r0 r1 r2 r3 HA24 HA44 HA6 HP4 HC4 HB4 Hwi HA25 HA45 HA65 HC5 HP5 HQ5 HB5
    have Hwr := hide (rwriteb_c (unhide HC6) (unhide HRL) (by have := unhide HN; omega))
    rw [hWB] at Hwr
    have Hne := hide (fun w' => needs_c w' BN_ (by omega))
    rw [hnb] at Hne
    go_upto_region 9 with (first
      | (go_at_call 26; refine (unhide Hwr).mono ?_; rintro e w7 ⟨v7, rfl, ho7, b7⟩
         obtain ⟨s7, c7, e7⟩ := ho7.form
         rw [hBN] at e7
         subst e7
         have HA27 := hide ((unhide HA26).below b7)
         have HA47 := hide ((unhide HA46).below b7)
         have HA67 := hide ((unhide HA66).below b7)
         have HP7 := hide ((unhide HP6).below b7)
         have HQ7 := hide ((unhide HQ6).below b7)
         have HB7 := hide ((unhide HB6).trans (b7.mono (unhide HB6).size))
         clear ho7 b7)
      | (go_at_call 44; refine (unhide Hne _).mono ?_; rintro e w8 ⟨rfl, hw8⟩; have hw8' := hw8.symm; subst hw8'))
    clear HA26 HA46 HA66 HP6 HQ6 HB6 HC6 Hwr Hne
    obtain ⟨r0, r1, r2, r3⟩ := (unhide HA27).cells
    obtain ⟨q0, q1, q2, q3⟩ := (unhide HA67).cells
    by_cases hfit : BN_ ≤ 65536 ∧ u + nb ≤ h
    · have HE : Hid (refC ⟨h, g, u, ps⟩ l = (⟨h, g, u + nb, QP⟩, 0)) := by show _ = _; rw [unhide HREF, if_pos hfit]
      obtain ⟨S, hS⟩ : ∃ y, u + nb = y := ⟨_, rfl⟩
      rw [hS] at HE hfit
      have e1 : (u : Int) + (nb : Int) = (S : Int) := by omega
      have d1 : decide ((BN_ : Int) ≤ 65536) = true := by simp; omega
      have d1n : decide (BN_ ≤ 65536) = true := by simp; omega
      have d2 : decide ((S : Int) ≤ (h : Int)) = true := by simp; omega
      have d2n : decide (S ≤ h) = true := by simp; omega
      have hSb : S ≤ 4000000 := by omega
      have fz := (unhide HA67).frozen.2.2.1
      clear hfit hS
      go_upto_region 11 with fail
      have a8 := set_aside w7 A6 2 (.int .i64 (S : Int))
      have HA68 := hide ((unhide HA67).set2 (v := .int .i64 (S : Int)))
      have HA48 := hide ((unhide HA47).other (k := 2) (v := .int .i64 (S : Int)) hne6)
      have HQ8 := hide ((unhide HQ7).aside a8 fun k hk h => by have h1 : k = A6 := hk; have h2 := unhide HAl; have h3 := unhide HA6l; have h4 := unhide HW2; have h5 := unhide HA6w; rcases h with h | h; have := h.2; omega; omega)
      have HB8 := hide ((unhide HB7).trans (a8.below (unhide HB7).size fun k hk => by have h1 : k = A6 := hk; have h2 := unhide HAl; have h3 := unhide HA6l; have h4 := unhide HW2; omega))
      obtain ⟨W8, hW8⟩ : ∃ y, w7.setCell ⟨A6, 2, none⟩ (.int .i64 (S : Int)) = y := ⟨_, rfl⟩
      rw [hW8] at HA68 HA48 HQ8 HB8 ⊢
      clear hW8 a8 fz r0 r1 r2 r3 q0 q1 q2 q3 HA27 HA47 HA67 HP7 HQ7 HB7
      obtain ⟨r0, r1, r2, r3⟩ := (unhide HA68).cells
      obtain ⟨z0, z1, z2, z3⟩ := (unhide HA48).frozen
      obtain ⟨x0, x1, x2, x3⟩ := (unhide HA48).cells
      go_wp2
      obtain ⟨e1, e2, e3⟩ := com_end (a := h) (b := g) (c := S) (unhide HA48) (unhide HQ8) (fun k h => by have h2 := unhide HAl; have h3 := unhide HA6l; have h4 := unhide HW2; have h5 := unhide HA6w; exact ⟨h.elim (fun h => Or.inl h.1) (fun h => Or.inr (by omega)), by rcases h with h | h; have := h.2; omega; omega⟩) (unhide HB8) (by have := unhide HAl; have := unhide HW2; omega)
      unfold put4 at e1 e2 e3
      refine bodyPost_ret (results_ct Tryz.results12 _ _ A4 _ rfl (rs_load e1)) rfl ?_
      show ComV _ _ _ _ _
      rw [unhide HE]
      exact ⟨_, rfl, e2, e3⟩
    · by_cases hB : BN_ ≤ 65536
      · obtain ⟨S, hS⟩ : ∃ y, u + nb = y := ⟨_, rfl⟩
        have hS2 : h < S := by omega
        have e1 : (u : Int) + (nb : Int) = (S : Int) := by omega
        have d1 : decide ((BN_ : Int) ≤ 65536) = true := by simp; omega
        have d1n : decide (BN_ ≤ 65536) = true := by simp; omega
        have d2 : decide ((S : Int) ≤ (h : Int)) = false := by simp; omega
        have d2n : decide (S ≤ h) = false := by simp; omega
        have hSb : S ≤ 4000000 := by omega
        clear hS
        go_upto_region 12 with fail
        have HE2 : Hid (refC ⟨h, g, u, ps⟩ l = if 65536 < FN_ ∨ h < nf then (⟨h, g, u, ps⟩, 52) else (⟨h, g + 1, nf, QP⟩, 0)) := by show _ = _; rw [unhide HREF, if_neg hfit]
        have Hal := hide (fun w' (hb : Below w7.heap.size w7 w') => rall_c ((unhide HQ7).below hb) (by have := unhide HQL; omega))
        have Hnf := hide (fun w' => needs_c w' FN_ (by omega))
        rw [hnf] at Hnf
        go_upto_region 13 with (first
          | (go_at_call 27; refine (unhide Hal _ (Below.refl _ _)).mono ?_; rintro e w9 ⟨v9, rfl, hc9, b9⟩
             have Hwr := hide (rwriteb_c hc9 (all_right (unhide HQR)) (by have h2 : (allP QP).length = QP.length := List.length_map _; rw [h2]; have := unhide HQL; omega))
             rw [hFB] at Hwr
             obtain ⟨s9, c9, e9, _⟩ := id hc9.form
             obtain ⟨N9, hN9⟩ : ∃ y, (allP QP).length = y := ⟨_, rfl⟩
             rw [hN9] at e9
             subst e9
             have HB9 := hide b9
             clear hc9 b9 hN9)
          | (go_at_call 26; refine (unhide Hwr).mono ?_; rintro e w10 ⟨v10, rfl, ho10, b10⟩
             obtain ⟨s10, c10, e10⟩ := ho10.form
             rw [hFN] at e10
             subst e10
             have HB10 := hide ((unhide HB9).trans (b10.mono (unhide HB9).size))
             clear ho10 b10))
        have HA2a := hide ((unhide HA27).below (unhide HB10))
        have HA4a := hide ((unhide HA47).below (unhide HB10))
        have HA6a := hide ((unhide HA67).below (unhide HB10))
        have HPa := hide ((unhide HP7).below (unhide HB10))
        have HQa := hide ((unhide HQ7).below (unhide HB10))
        have HBa := hide ((unhide HB7).trans ((unhide HB10).mono (unhide HB7).size))
        clear r0 r1 r2 r3 q0 q1 q2 q3 HA27 HA47 HA67 HP7 HQ7 HB7 HB10 HB9 Hwr Hal
        obtain ⟨r0, r1, r2, r3⟩ := (unhide HA2a).cells
        go_upto_region 14 with (first
          | (go_at_call 44; refine (unhide Hnf _).mono ?_; rintro e w11 ⟨rfl, hw11⟩; have hw11' := hw11.symm; subst hw11'))
        clear Hnf
        by_cases hbig : 65536 < FN_
        · have HE : Hid (refC ⟨h, g, u, ps⟩ l = (⟨h, g, u, ps⟩, 52)) := by show _ = _; rw [unhide HE2, if_pos (Or.inl hbig)]
          have d5 : decide ((65536 : Int) < (FN_ : Int)) = true := by simp; omega
          have d5n : decide (65536 < FN_) = true := by simp; omega
          obtain ⟨z0, z1, z2, z3⟩ := (unhide HA4a).frozen
          obtain ⟨x0, x1, x2, x3⟩ := (unhide HA4a).cells
          go_wp2
          obtain ⟨e1, e2, e3⟩ := com_end (a := h) (b := g) (c := u) (unhide HA4a) (unhide HPa) (fun k h => ⟨Or.inl h.1, by have := h.2; have := unhide HAl; have := unhide HW2; omega⟩) (unhide HBa) (by have := unhide HAl; have := unhide HW2; omega)
          unfold put4 at e1 e2 e3
          refine bodyPost_ret (results_ct Tryz.results12 _ _ A4 _ rfl (rs_load e1)) rfl ?_
          show ComV _ _ _ _ _
          rw [unhide HE]
          exact ⟨_, rfl, e2, e3⟩
        have d5 : decide ((65536 : Int) < (FN_ : Int)) = false := by simp; omega
        have d5n : decide (65536 < FN_) = false := by simp; omega
        by_cases hfl : h < nf
        · have HE : Hid (refC ⟨h, g, u, ps⟩ l = (⟨h, g, u, ps⟩, 52)) := by show _ = _; rw [unhide HE2, if_pos (Or.inr hfl)]
          have d6 : decide ((h : Int) < (nf : Int)) = true := by simp; omega
          have d6n : decide (h < nf) = true := by simp; omega
          obtain ⟨z0, z1, z2, z3⟩ := (unhide HA4a).frozen
          obtain ⟨x0, x1, x2, x3⟩ := (unhide HA4a).cells
          go_wp2
          obtain ⟨e1, e2, e3⟩ := com_end (a := h) (b := g) (c := u) (unhide HA4a) (unhide HPa) (fun k h => ⟨Or.inl h.1, by have := h.2; have := unhide HAl; have := unhide HW2; omega⟩) (unhide HBa) (by have := unhide HAl; have := unhide HW2; omega)
          unfold put4 at e1 e2 e3
          refine bodyPost_ret (results_ct Tryz.results12 _ _ A4 _ rfl (rs_load e1)) rfl ?_
          show ComV _ _ _ _ _
          rw [unhide HE]
          exact ⟨_, rfl, e2, e3⟩
        have d6 : decide ((h : Int) < (nf : Int)) = false := by simp; omega
        have d6n : decide (h < nf) = false := by simp; omega
        have HE : Hid (refC ⟨h, g, u, ps⟩ l = (⟨h, g + 1, nf, QP⟩, 0)) := by show _ = _; rw [unhide HE2, if_neg (by omega)]
        obtain ⟨g1, hg1⟩ : ∃ y, g + 1 = y := ⟨_, rfl⟩
        rw [hg1] at HE
        have e5 : (g : Int) + 1 = (g1 : Int) := by omega
        have hg1b : g1 ≤ 4611686018427387905 := by omega
        clear hg1 hbig hfl HE2 HREF
        have q1 := (unhide HA6a).cells.2.1
        have fz1 := (unhide HA6a).frozen.2.1
        go_upto_region 17 with fail
        have a8 := set_aside w10 A6 1 (.int .i64 (g1 : Int))
        have HA68 := hide ((unhide HA6a).set1 (v := .int .i64 (g1 : Int)))
        have HA48 := hide ((unhide HA4a).other (k := 1) (v := .int .i64 (g1 : Int)) hne6)
        have HQ8 := hide ((unhide HQa).aside a8 fun k hk h => by have h1 : k = A6 := hk; have h2 := unhide HAl; have h3 := unhide HA6l; have h4 := unhide HW2; have h5 := unhide HA6w; rcases h with h | h; have := h.2; omega; omega)
        have HB8 := hide ((unhide HBa).trans (a8.below (unhide HBa).size fun k hk => by have h1 : k = A6 := hk; have h2 := unhide HAl; have h3 := unhide HA6l; have h4 := unhide HW2; omega))
        obtain ⟨W8, hW8⟩ : ∃ y, w10.setCell ⟨A6, 1, none⟩ (.int .i64 (g1 : Int)) = y := ⟨_, rfl⟩
        rw [hW8] at HA68 HA48 HQ8 HB8 ⊢
        clear hW8 a8 fz1 q1 r0 r1 r2 r3 HA2a HA4a HA6a HPa HQa HBa
        have fz2 := (unhide HA68).frozen.2.2.1
        have q2 := (unhide HA68).cells.2.2.1
        go_upto_region 18 with fail
        have a9 := set_aside W8 A6 2 (.int .i64 (nf : Int))
        have HA69 := hide ((unhide HA68).set2 (v := .int .i64 (nf : Int)))
        have HA49 := hide ((unhide HA48).other (k := 2) (v := .int .i64 (nf : Int)) hne6)
        have HQ9 := hide ((unhide HQ8).aside a9 fun k hk h => by have h1 : k = A6 := hk; have h2 := unhide HAl; have h3 := unhide HA6l; have h4 := unhide HW2; have h5 := unhide HA6w; rcases h with h | h; have := h.2; omega; omega)
        have HB9 := hide ((unhide HB8).trans (a9.below (unhide HB8).size fun k hk => by have h1 : k = A6 := hk; have h2 := unhide HAl; have h3 := unhide HA6l; have h4 := unhide HW2; omega))
        obtain ⟨W9, hW9⟩ : ∃ y, W8.setCell ⟨A6, 2, none⟩ (.int .i64 (nf : Int)) = y := ⟨_, rfl⟩
        rw [hW9] at HA69 HA49 HQ9 HB9 ⊢
        clear hW9 a9 fz2 q2 HA68 HA48 HQ8 HB8
        obtain ⟨r0, r1, r2, r3⟩ := (unhide HA69).cells
        obtain ⟨z0, z1, z2, z3⟩ := (unhide HA49).frozen
        obtain ⟨x0, x1, x2, x3⟩ := (unhide HA49).cells
        go_wp2
        obtain ⟨e1, e2, e3⟩ := com_end (a := h) (b := g1) (c := nf) (unhide HA49) (unhide HQ9) (fun k h => by have h2 := unhide HAl; have h3 := unhide HA6l; have h4 := unhide HW2; have h5 := unhide HA6w; exact ⟨h.elim (fun h => Or.inl h.1) (fun h => Or.inr (by omega)), by rcases h with h | h; have := h.2; omega; omega⟩) (unhide HB9) (by have := unhide HAl; have := unhide HW2; omega)
        unfold put4 at e1 e2 e3
        refine bodyPost_ret (results_ct Tryz.results12 _ _ A4 _ rfl (rs_load e1)) rfl ?_
        show ComV _ _ _ _ _
        rw [unhide HE]
        exact ⟨_, rfl, e2, e3⟩
      · have d1 : decide ((BN_ : Int) ≤ 65536) = false := by simp; omega
        have d1n : decide (BN_ ≤ 65536) = false := by simp; omega
        go_upto_region 12 with fail
        have HE2 : Hid (refC ⟨h, g, u, ps⟩ l = if 65536 < FN_ ∨ h < nf then (⟨h, g, u, ps⟩, 52) else (⟨h, g + 1, nf, QP⟩, 0)) := by show _ = _; rw [unhide HREF, if_neg hfit]
        have Hal := hide (fun w' (hb : Below w7.heap.size w7 w') => rall_c ((unhide HQ7).below hb) (by have := unhide HQL; omega))
        have Hnf := hide (fun w' => needs_c w' FN_ (by omega))
        rw [hnf] at Hnf
        go_upto_region 13 with (first
          | (go_at_call 27; refine (unhide Hal _ (Below.refl _ _)).mono ?_; rintro e w9 ⟨v9, rfl, hc9, b9⟩
             have Hwr := hide (rwriteb_c hc9 (all_right (unhide HQR)) (by have h2 : (allP QP).length = QP.length := List.length_map _; rw [h2]; have := unhide HQL; omega))
             rw [hFB] at Hwr
             obtain ⟨s9, c9, e9, _⟩ := id hc9.form
             obtain ⟨N9, hN9⟩ : ∃ y, (allP QP).length = y := ⟨_, rfl⟩
             rw [hN9] at e9
             subst e9
             have HB9 := hide b9
             clear hc9 b9 hN9)
          | (go_at_call 26; refine (unhide Hwr).mono ?_; rintro e w10 ⟨v10, rfl, ho10, b10⟩
             obtain ⟨s10, c10, e10⟩ := ho10.form
             rw [hFN] at e10
             subst e10
             have HB10 := hide ((unhide HB9).trans (b10.mono (unhide HB9).size))
             clear ho10 b10))
        have HA2a := hide ((unhide HA27).below (unhide HB10))
        have HA4a := hide ((unhide HA47).below (unhide HB10))
        have HA6a := hide ((unhide HA67).below (unhide HB10))
        have HPa := hide ((unhide HP7).below (unhide HB10))
        have HQa := hide ((unhide HQ7).below (unhide HB10))
        have HBa := hide ((unhide HB7).trans ((unhide HB10).mono (unhide HB7).size))
        clear r0 r1 r2 r3 q0 q1 q2 q3 HA27 HA47 HA67 HP7 HQ7 HB7 HB10 HB9 Hwr Hal
        obtain ⟨r0, r1, r2, r3⟩ := (unhide HA2a).cells
        go_upto_region 14 with (first
          | (go_at_call 44; refine (unhide Hnf _).mono ?_; rintro e w11 ⟨rfl, hw11⟩; have hw11' := hw11.symm; subst hw11'))
        clear Hnf
        by_cases hbig : 65536 < FN_
        · have HE : Hid (refC ⟨h, g, u, ps⟩ l = (⟨h, g, u, ps⟩, 52)) := by show _ = _; rw [unhide HE2, if_pos (Or.inl hbig)]
          have d5 : decide ((65536 : Int) < (FN_ : Int)) = true := by simp; omega
          have d5n : decide (65536 < FN_) = true := by simp; omega
          obtain ⟨z0, z1, z2, z3⟩ := (unhide HA4a).frozen
          obtain ⟨x0, x1, x2, x3⟩ := (unhide HA4a).cells
          go_wp2
          obtain ⟨e1, e2, e3⟩ := com_end (a := h) (b := g) (c := u) (unhide HA4a) (unhide HPa) (fun k h => ⟨Or.inl h.1, by have := h.2; have := unhide HAl; have := unhide HW2; omega⟩) (unhide HBa) (by have := unhide HAl; have := unhide HW2; omega)
          unfold put4 at e1 e2 e3
          refine bodyPost_ret (results_ct Tryz.results12 _ _ A4 _ rfl (rs_load e1)) rfl ?_
          show ComV _ _ _ _ _
          rw [unhide HE]
          exact ⟨_, rfl, e2, e3⟩
        have d5 : decide ((65536 : Int) < (FN_ : Int)) = false := by simp; omega
        have d5n : decide (65536 < FN_) = false := by simp; omega
        by_cases hfl : h < nf
        · have HE : Hid (refC ⟨h, g, u, ps⟩ l = (⟨h, g, u, ps⟩, 52)) := by show _ = _; rw [unhide HE2, if_pos (Or.inr hfl)]
          have d6 : decide ((h : Int) < (nf : Int)) = true := by simp; omega
          have d6n : decide (h < nf) = true := by simp; omega
          obtain ⟨z0, z1, z2, z3⟩ := (unhide HA4a).frozen
          obtain ⟨x0, x1, x2, x3⟩ := (unhide HA4a).cells
          go_wp2
          obtain ⟨e1, e2, e3⟩ := com_end (a := h) (b := g) (c := u) (unhide HA4a) (unhide HPa) (fun k h => ⟨Or.inl h.1, by have := h.2; have := unhide HAl; have := unhide HW2; omega⟩) (unhide HBa) (by have := unhide HAl; have := unhide HW2; omega)
          unfold put4 at e1 e2 e3
          refine bodyPost_ret (results_ct Tryz.results12 _ _ A4 _ rfl (rs_load e1)) rfl ?_
          show ComV _ _ _ _ _
          rw [unhide HE]
          exact ⟨_, rfl, e2, e3⟩
        have d6 : decide ((h : Int) < (nf : Int)) = false := by simp; omega
        have d6n : decide (h < nf) = false := by simp; omega
        have HE : Hid (refC ⟨h, g, u, ps⟩ l = (⟨h, g + 1, nf, QP⟩, 0)) := by show _ = _; rw [unhide HE2, if_neg (by omega)]
        obtain ⟨g1, hg1⟩ : ∃ y, g + 1 = y := ⟨_, rfl⟩
        rw [hg1] at HE
        have e5 : (g : Int) + 1 = (g1 : Int) := by omega
        have hg1b : g1 ≤ 4611686018427387905 := by omega
        clear hg1 hbig hfl HE2 HREF
        have q1 := (unhide HA6a).cells.2.1
        have fz1 := (unhide HA6a).frozen.2.1
        go_upto_region 17 with fail
        have a8 := set_aside w10 A6 1 (.int .i64 (g1 : Int))
        have HA68 := hide ((unhide HA6a).set1 (v := .int .i64 (g1 : Int)))
        have HA48 := hide ((unhide HA4a).other (k := 1) (v := .int .i64 (g1 : Int)) hne6)
        have HQ8 := hide ((unhide HQa).aside a8 fun k hk h => by have h1 : k = A6 := hk; have h2 := unhide HAl; have h3 := unhide HA6l; have h4 := unhide HW2; have h5 := unhide HA6w; rcases h with h | h; have := h.2; omega; omega)
        have HB8 := hide ((unhide HBa).trans (a8.below (unhide HBa).size fun k hk => by have h1 : k = A6 := hk; have h2 := unhide HAl; have h3 := unhide HA6l; have h4 := unhide HW2; omega))
        obtain ⟨W8, hW8⟩ : ∃ y, w10.setCell ⟨A6, 1, none⟩ (.int .i64 (g1 : Int)) = y := ⟨_, rfl⟩
        rw [hW8] at HA68 HA48 HQ8 HB8 ⊢
        clear hW8 a8 fz1 q1 r0 r1 r2 r3 HA2a HA4a HA6a HPa HQa HBa
        have fz2 := (unhide HA68).frozen.2.2.1
        have q2 := (unhide HA68).cells.2.2.1
        go_upto_region 18 with fail
        have a9 := set_aside W8 A6 2 (.int .i64 (nf : Int))
        have HA69 := hide ((unhide HA68).set2 (v := .int .i64 (nf : Int)))
        have HA49 := hide ((unhide HA48).other (k := 2) (v := .int .i64 (nf : Int)) hne6)
        have HQ9 := hide ((unhide HQ8).aside a9 fun k hk h => by have h1 : k = A6 := hk; have h2 := unhide HAl; have h3 := unhide HA6l; have h4 := unhide HW2; have h5 := unhide HA6w; rcases h with h | h; have := h.2; omega; omega)
        have HB9 := hide ((unhide HB8).trans (a9.below (unhide HB8).size fun k hk => by have h1 : k = A6 := hk; have h2 := unhide HAl; have h3 := unhide HA6l; have h4 := unhide HW2; omega))
        obtain ⟨W9, hW9⟩ : ∃ y, W8.setCell ⟨A6, 2, none⟩ (.int .i64 (nf : Int)) = y := ⟨_, rfl⟩
        rw [hW9] at HA69 HA49 HQ9 HB9 ⊢
        clear hW9 a9 fz2 q2 HA68 HA48 HQ8 HB8
        obtain ⟨r0, r1, r2, r3⟩ := (unhide HA69).cells
        obtain ⟨z0, z1, z2, z3⟩ := (unhide HA49).frozen
        obtain ⟨x0, x1, x2, x3⟩ := (unhide HA49).cells
        go_wp2
        obtain ⟨e1, e2, e3⟩ := com_end (a := h) (b := g1) (c := nf) (unhide HA49) (unhide HQ9) (fun k h => by have h2 := unhide HAl; have h3 := unhide HA6l; have h4 := unhide HW2; have h5 := unhide HA6w; exact ⟨h.elim (fun h => Or.inl h.1) (fun h => Or.inr (by omega)), by rcases h with h | h; have := h.2; omega; omega⟩) (unhide HB9) (by have := unhide HAl; have := unhide HW2; omega)
        unfold put4 at e1 e2 e3
        refine bodyPost_ret (results_ct Tryz.results12 _ _ A4 _ rfl (rs_load e1)) rfl ?_
        show ComV _ _ _ _ _
        rw [unhide HE]
        exact ⟨_, rfl, e2, e3⟩
  · rw [decide_eq_false hR] at Hri
    have HE : Hid (refC ⟨h, g, u, ps⟩ l = (⟨h, g, u, ps⟩, 30)) := ref_not hR _
    clear hR
    go_upto_region 2 with (first
      | (go_at_call 43; refine (unhide Hri).mono ?_; rintro e w3 ⟨rfl, b3⟩
         have HA2' := hide ((unhide HA2).below b3)
         have HA4' := hide ((unhide HA4).below b3)
         have HP3 := hide ((unhide HP2).below b3)
         have HB3 := hide ((unhide HB2).trans (b3.mono (unhide HB2).size))
         clear b3))
    clear Hri HA2 HA4 HP2 HC2 HB2
    obtain ⟨r0, r1, r2, r3⟩ := (unhide HA2').cells
    obtain ⟨z0, z1, z2, z3⟩ := (unhide HA4').frozen
    obtain ⟨x0, x1, x2, x3⟩ := (unhide HA4').cells
    go_wp2
    obtain ⟨e1, e2, e3⟩ := com_end (a := h) (b := g) (c := u) (unhide HA4') (unhide HP3) (fun k h => ⟨Or.inl h.1, by have := h.2; have := unhide HAl; have := unhide HW2; omega⟩) (unhide HB3) (by have := unhide HAl; have := unhide HW2; omega)
    unfold put4 at e1 e2 e3
    refine bodyPost_ret (results_ct Tryz.results12 _ _ A4 _ rfl (rs_load e1)) rfl ?_
    show ComV _ _ _ _ _
    rw [unhide HE]
    exact ⟨_, rfl, e2, e3⟩
end Go.Proofs.YtbjgknoipbekoaaGreat
