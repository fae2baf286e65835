/-
  The walk of the landed store's Commit where a generation begins; the landed store keeps the record.
-/
import Derived.Test.YtbjgknoipbekoaaGreatQ37
namespace Go.Proofs.YtbjgknoipbekoaaGreat
open Go.RowKit
section
variable {PAt : Set_ → Set_ → World → Value → PS → Prop} {LAt : Set_ → Set_ → World → Value → Value → LS → Prop} (HP : Plate PAt) (HW : Wal PAt LAt)
variable {w : World} {S R S2 R2 : Set_} {t p : Value} {s : PS} {G : SS}
include HP HW in
set_option maxRecDepth 100000 in
set_option maxHeartbeats 4000000 in
theorem scommit_next (K : Set_) (x : Value) (l : List Ch) (T : Nat) (hp : PAt S R w p s) (ht : SAt LAt S2 R2 w t p G) (h1 : ∀ k, S2 k → ¬ S k ∧ ¬ R k) (h2 : ∀ k, S k → ¬ R2 k) (hx : ChsAt K w x l) (hl : l.length ≤ 1000) (hh : G.half = (s.safe.length - 2) / 2) (hcl : G.closed = false) (hL : Live G.half G.gen T s G.log G.pairs) (hT : T + 1 < 4294967296) (hR : RightL l) (hne : l ≠ []) (hF : ¬ FitsL G.log (wrL l)) :
    Calls Tryz.prog 14 #[t, x] w fun e w' => e = .returned (.int .i64 (commitS G s l).1) ∧ ComPost PAt LAt S R S2 R2 w w' t p (commitS G s l).2.1 (commitS G s l).2.2 := by
  have HCN : Hid (∀ w', Below w.heap.size w w' → ComPost PAt LAt S R S2 R2 w w' t p G s) := fun w' hb => com_none HP HW hp ht h1 h2 hb
  obtain ⟨A, B, V, lv, SL, RL, rfl, hf, hS2, hR2⟩ := ht
  obtain ⟨la, ela⟩ := HW.ptr hf.log
  subst ela
  obtain ⟨pa, epa⟩ := HP.ptr hp
  obtain ⟨k0, k1, k2, k3, k4⟩ := srow5 hf.str
  have hon := hL.on
  have hfit := hon.fit
  have hh1 := hon.h1
  have hfew := hon.rest.ok.few
  have husd : usedR G.log.rs ≤ G.log.size := by rw [hL.size]; exact hon.rest.few.1
  have hsize : G.log.size ≤ 16384 := by rw [hL.size]; omega
  have hroom : ¬ (((wrL l).length : Nat) : Int) ≤ roomL G.log := fun h => hF ((fits_room husd).2 h)
  have hrb : roomL G.log ≤ 65536 ∧ -1 ≤ roomL G.log := by unfold roomL; split <;> omega
  have hwl := wrL_le hR
  have hql := with_len l G.pairs
  have hqs := with_size l G.pairs
  have hsz := hon.size
  have hqz : (wrL (allP (withP G.pairs l))).length ≤ 90000000 := by
    have : sizeP (withP G.pairs l) = (wrL (allP (withP G.pairs l))).length := rfl
    omega
  have HSto := hide hf
  have Hg := hide (sgood_c K w x l hx (by omega))
  rw [decide_eq_true hR] at Hg
  have Hin : Hid (∀ w', Below w.heap.size w w' → GivesB w' 46 #[x] (wrL l)) := fun w' hb => sinb_c K w' x l (hx.below hb) hR (by omega) (by omega)
  have HRo : Hid (∀ w', Below w.heap.size w w' → Calls Tryz.prog 47 #[.pointer (some la)] w' fun e w2 => e = .returned (.int .i64 (roomL G.log)) ∧ Below w'.heap.size w' w2) := fun w' hb => HW.room (HW.kept hf.log (T := none_) (Aside.of_below hb) fun _ hk => hk.elim) husd hsize
  have HCl : Hid (∀ w', Below w.heap.size w w' → Calls Tryz.prog 48 #[.map (some B)] w' fun e w2 => e = .returned (.map (some w'.heap.size)) ∧ SMAt V w2 w'.heap.size (getP G.pairs) ∧ Below w'.heap.size w' w2 ∧ w'.heap.size < w2.heap.size) := fun w' hb => pclone_c (hf.map.below hb)
  have HDo : Hid (∀ w' B2, Below w.heap.size w w' → SMAt V w' B2 (getP G.pairs) → w.heap.size ≤ B2 → Calls Tryz.prog 49 #[.map (some B2), x] w' fun e w2 => e = .returned (.tuple #[]) ∧ SMAt (fun k => V k ∨ w'.heap.size ≤ k) w2 B2 (getP (withP G.pairs l)) ∧ Aside (fun k => k = B2) w' w2) := fun w' B2 hb hm hB2 => by
    refine (pdo_c hm ((hx.mono (K' := fun k => K k ∧ k < w.heap.size) fun k hk hKk => ⟨hKk, hk⟩).below hb) (by omega) (fun k hk => by omega) (fun h => by have := hf.vlt _ h; omega) fun c hc hg => by have := (hR c hc).2.2 hg; omega).mono ?_
    rintro e w2 ⟨rfl, h3, h4⟩
    exact ⟨rfl, h3.congr fun k => do_with hf.sorted l k, h4⟩
  have hSV : ∀ k, S k → ¬ V k := fun k hk hV => h2 k hk ((hR2 k).2 (Or.inl hV))
  have hSA : ¬ S A ∧ ¬ R A := h1 A ((hS2 A).2 (Or.inl rfl))
  have hSB : ¬ S B ∧ ¬ R B := h1 B ((hS2 B).2 (Or.inr (Or.inl rfl)))
  have hPO := HP.old hp
  have HBe : Hid (∀ w4 w' B2, Below w.heap.size w w4 → Below w.heap.size w w' → w.heap.size ≤ B2 → SMAt (fun k => V k ∨ w4.heap.size ≤ k) w' B2 (getP (withP G.pairs l)) → Calls Tryz.prog 41 #[.pointer (some ⟨A, 0, none⟩), .map (some B2)] w' fun e w2 => BegPost PAt LAt w' w2 S R A B2 (fun k => (V k ∨ w4.heap.size ≤ k) ∧ k < w'.heap.size) p (.pointer (some la)) (.map (some B)) G.gen G.half false s (withP G.pairs l) e) := fun w4 w' B2 hb4 hb hB2 hm => by
    have hAl := hf.str.lt
    have hs4 := hb4.size
    refine sbegin_c HP HW (HP.kept hp (T := none_) (Aside.of_below hb) fun _ hk => hk.elim) (by have := RowAt.below hf.str hb; rw [hcl] at this; exact this) hSA hm.cut (by omega) (fun h => ?_) (fun h => by have := hPO B2 (Or.inl h); omega) (fun k hk h => ?_) (fun k hk => hk.2) (with_sorted _ _ hf.sorted) (with_right hR hf.right) (by omega) hqz hf.gen hh (by omega) (fun hnf => hon.beg ?_ hT hh)
    · rcases h.1 with h | h
      · exact hf.va.1 h
      · omega
    · rcases h.1 with h | h
      · exact hSV k hk h
      · have := hPO k (Or.inl hk); omega
    · unfold FullN at hnf
      omega
  obtain ⟨sx, cx, rfl, _⟩ := hx.form
  obtain ⟨n, hn⟩ : ∃ n, l.length = n := ⟨_, rfl⟩
  have hn0 : n ≠ 0 := fun e => hne (List.eq_nil_of_length_eq_zero (by omega))
  have d0 : ((n : Int) == 0) = false := by simp; omega
  have d0d : decide ((n : Int) = 0) = false := by simp; omega
  have d0n : decide (n = 0) = false := by simp; omega
  have hgen := hf.gen
  have hc : commitS G s l = if FullS G (wrL (allP (withP G.pairs l))) then (52, G, s) else ((beginR s G.half (G.gen + 1) (wrL (allP (withP G.pairs l)))).2.1, if (beginR s G.half (G.gen + 1) (wrL (allP (withP G.pairs l)))).2.1 = 0 then ⟨G.half, G.gen + 1, (beginR s G.half (G.gen + 1) (wrL (allP (withP G.pairs l)))).2.2, withP G.pairs l, false⟩ else ⟨G.half, G.gen, G.log, G.pairs, true⟩, (beginR s G.half (G.gen + 1) (wrL (allP (withP G.pairs l)))).1) := by
    unfold commitS
    rw [hcl, if_neg (by decide), if_neg (fun h => h hR), if_neg hne, if_neg hF]
  have hFN : FullN G.gen G.half (wrL (allP (withP G.pairs l))) ↔ FullS G (wrL (allP (withP G.pairs l))) := by
    unfold FullN FullS
    omega
  have HC := hide hc
  have HFN := hide hFN
  rw [hn] at Hg Hin HDo ⊢
  obtain ⟨rm, hrm⟩ : ∃ rm : Int, roomL G.log = rm := ⟨_, rfl⟩
  rw [hrm] at HRo hroom hrb
  obtain ⟨rec, hrec⟩ : ∃ y, wrL l = y := ⟨_, rfl⟩
  obtain ⟨RN, hRN⟩ : ∃ y, rec.length = y := ⟨_, rfl⟩
  rw [hrec, hRN] at hroom
  have HRN := hide hRN
  have d1 : decide (rm < (RN : Int)) = true := by simp; omega
  rw [hrec] at Hin
  have hrb1 := hrb.1
  have hrb2 := hrb.2
  have Hh1 := hide h1
  have Hh2 := hide h2
  have HS2 := hide hS2
  have HR2 := hide hR2
  have HRr := hide hR
  have HQL : Hid ((withP G.pairs l).length ≤ 100000) := by show _ ≤ _; omega
  have HCL := hide hcl
  have HPO := hide hPO
  have HLO := hide (HW.old hf.log)
  have HSV := hide hSV
  have HSA := hide hSA
  have HSB := hide hSB
  have HTS := hide (with_sorted l G.pairs hf.sorted)
  have HGN : Hid (¬ FullN G.gen G.half (wrL (allP (withP G.pairs l))) → G.gen + 1 < 2147483648) := fun h => by unfold FullN at h; omega
  rw [hcl] at k4
  clear hp hf hx hl hL hT hR hne hF hon hfit hh1 hfew husd hsize hwl hql hqs hsz hqz hn hn0 hrec hRN h1 h2 hS2 hR2 hc hFN hrm hh hSV hSA hSB hPO hgen hrb hcl epa
  go_enter Tryz.func14, Tryz.ntmps14
  go_upto_region 8 with (first
    | (go_at_call 45; refine (unhide Hg).mono ?_; rintro e w1 ⟨rfl, hb1⟩; have HB1 := hide hb1; clear hb1)
    | (go_at_call 46; refine (unhide Hin _ (unhide HB1)).mono ?_; rintro e w2 ⟨v2, rfl, hr2⟩; obtain ⟨s2, c2, e2⟩ := hr2.own.form; rw [unhide HRN] at e2; subst e2; have HB2 := hide ((unhide HB1).trans (hr2.b.mono (unhide HB1).size)); clear hr2))
  have q2 := cell_aside (S := none_) k2 (Aside.of_below (unhide HB2)) (fun h => h)
  go_upto_region 9 with (first
    | (go_at_call 47; refine (unhide HRo _ (unhide HB2)).mono ?_; rintro e w3 ⟨rfl, hb3⟩; have HB3 := hide ((unhide HB2).trans (hb3.mono (unhide HB2).size)); clear hb3))
  have q3 := cell_aside (S := none_) k3 (Aside.of_below (unhide HB3)) (fun h => h)
  clear q2 k0 k1 k2 k3 k4
  go_wp2_with (first
    | (go_at_call 48; refine (unhide HCl _ (unhide HB3)).mono ?_; rintro e w4 ⟨rfl, hm4, hb4, hlt4⟩; have HM4 := hide hm4; have HB4 := hide ((unhide HB3).trans (hb4.mono (unhide HB3).size)); have HL4 := hide hlt4; clear hm4 hb4 hlt4)
    | (go_at_call 49; refine (unhide HDo _ _ (unhide HB4) (unhide HM4) (unhide HB3).size).mono ?_; rintro e w5 ⟨rfl, hm5, ha5⟩; have HM5 := hide hm5; have HB5 := hide ((unhide HB4).trans (Aside.below ha5 (unhide HB4).size fun k hk => by have := (unhide HB3).size; omega)); clear hm5 ha5)
    | (go_at_call 41; refine (unhide HBe w4 w5 _ (unhide HB4) (unhide HB5) (unhide HB3).size (unhide HM5)).mono ?_; rintro e w6 hpost; have HPo := hide hpost; obtain ⟨E, hE⟩ : ∃ E, e = .returned (.int .i64 E) := by
         rcases hpost with ⟨_, rfl, _⟩ | ⟨_, _, rfl, _⟩ | ⟨_, _, rfl, _⟩
         · exact ⟨_, rfl⟩
         · exact ⟨_, rfl⟩
         · exact ⟨_, rfl⟩
       subst hE; clear hpost))
  go_ret
  have hb5 := unhide HB5
  have hs3 := (unhide HB3).size
  have hs5 := hb5.size
  have hl4 := unhide HL4
  have hB2l := (unhide HM5).lt
  have hfm := unhide HSto
  have hAl := hfm.str.lt
  have hBl := hfm.map.lt
  rw [unhide HC]
  rcases unhide HPo with ⟨hf1, he, hb6⟩ | ⟨hf1, hE0, he, la', S', R', SL', RL', q1, q2, q4, q5, q6, q7, q8, q9⟩ | ⟨hf1, hE0, he, S', R', q1, q2⟩
  · rw [if_pos ((unhide HFN).1 hf1)]
    refine ⟨he, unhide HCN _ (hb5.trans (hb6.mono hb5.size))⟩
  · rw [if_neg (fun h => hf1 ((unhide HFN).2 h)), hE0]
    refine ⟨he, ?_⟩
    simp only [if_true]
    have hnew : ∀ j, w.heap.size ≤ j → j < w5.heap.size → ¬ S' j ∧ ¬ R' j ∧ ¬ SL' j ∧ ¬ RL' j := fun j hj1 hj2 => by
      refine ⟨fun h => ?_, fun h => ?_, fun h => ?_, fun h => ?_⟩
      · rcases q1.s j h with h | h
        · have := unhide HPO j (Or.inl h); omega
        · omega
      · rcases q1.r j h with h | h
        · have := unhide HPO j (Or.inr h); omega
        · omega
      · rcases q4 j h with h | h
        · have := unhide HPO j (Or.inl h); omega
        · omega
      · have := q5 j h; omega
    have hA' : ¬ S' A ∧ ¬ R' A ∧ ¬ SL' A ∧ ¬ RL' A := by
      refine ⟨fun h => ?_, fun h => ?_, fun h => ?_, fun h => ?_⟩
      · rcases q1.s A h with h | h
        · exact (unhide HSA).1 h
        · omega
      · rcases q1.r A h with h | h
        · exact (unhide HSA).2 h
        · omega
      · rcases q4 A h with h | h
        · exact (unhide HSA).1 h
        · omega
      · have := q5 A h; omega
    have hB' := hnew w3.heap.size hs3 (by omega)
    have hs6 := q1.a.size
    have hVd : ∀ k, S k ∨ w5.heap.size ≤ k → ¬ ((V k ∨ w4.heap.size ≤ k) ∧ k < w5.heap.size) := fun k hk h => by
      rcases hk with hk | hk
      · rcases h.1 with h3 | h3
        · exact unhide HSV k hk h3
        · have := unhide HPO k (Or.inl hk); have := (unhide HB4).size; omega
      · omega
    refine ⟨S', R', fun k => k = A ∨ k = w3.heap.size ∨ SL' k, fun k => ((V k ∨ w4.heap.size ≤ k) ∧ k < w5.heap.size) ∨ RL' k, q1.p, ⟨A, w3.heap.size, fun k => (V k ∨ w4.heap.size ≤ k) ∧ k < w5.heap.size, .pointer (some la'), SL', RL', rfl, ⟨q8, q9, q2, unhide HTS, unhide HQL, with_right (unhide HRr) hfm.right, fun k hk => by omega, by omega, ⟨fun h => ?_, fun h => ?_⟩, ⟨hA'.2.2.1, hB'.2.2.1⟩, ⟨hA'.2.2.2, hB'.2.2.2⟩, fun k hk => hVd k (q4 k hk), unhide HGN hf1⟩, fun k => Iff.rfl, fun k => Iff.rfl⟩, fun k hk => ?_, fun k hk => ?_, fun k hk => ?_, fun k hk => ?_, fun k hk h => ?_, ?_⟩
    · rcases h.1 with h | h
      · exact hfm.va.1 h
      · have := (unhide HB4).size; omega
    · rcases h.1 with h | h
      · have := hfm.vlt _ h; omega
      · omega
    · rcases hk with hk | rfl | rfl | hk
      · rcases q1.s k hk with h | h
        · exact Or.inl (Or.inl h)
        · exact Or.inr (by omega)
      · exact Or.inl (Or.inr ((unhide HS2 _).2 (Or.inl rfl)))
      · exact Or.inr hs3
      · rcases q4 k hk with h | h
        · exact Or.inl (Or.inl h)
        · exact Or.inr (by omega)
    · rcases q1.r k hk with h | h
      · exact Or.inl h
      · exact Or.inr (by omega)
    · rcases hk with ⟨hk | hk, _⟩ | hk
      · exact Or.inl ((unhide HR2 k).2 (Or.inl hk))
      · exact Or.inr (by have := (unhide HB4).size; omega)
      · have := q5 k hk; exact Or.inr (by omega)
    · rcases hk with rfl | rfl | hk
      · exact ⟨hA'.1, hA'.2.1⟩
      · exact ⟨hB'.1, hB'.2.1⟩
      · exact q6 k hk
    · rcases h with h | h
      · exact hVd k (q1.s k hk) h
      · exact q7 k hk h
    · exact (Aside.of_below hb5).trans (T := fun k => S k ∨ k = A) q1.a fun i _ h => h.elim Or.inl fun h => Or.inr ((unhide HS2 i).2 (Or.inl h))
  · rw [if_neg (fun h => hf1 ((unhide HFN).2 h)), hE0]
    refine ⟨he, ?_⟩
    rw [if_neg (by decide)]
    have hs6 := q1.a.size
    have hnS : ∀ k, k < w.heap.size → ¬ S k → ¬ S' k := fun k hk h h' => by
      rcases q1.s k h' with h3 | h3
      · exact h h3
      · omega
    have hnR : ∀ k, k < w.heap.size → ¬ R k → ¬ R' k := fun k hk h h' => by
      rcases q1.r k h' with h3 | h3
      · exact h h3
      · omega
    have hnV : ∀ k, S k ∨ k = A → ¬ V k := fun k hk hV => hk.elim (fun h => unhide HSV k h hV) fun h => hfm.va.1 (h ▸ hV)
    have hm6 : SMAt V w6 B (getP G.pairs) := (hfm.map.below hb5).aside q1.a (fun h => h.elim (unhide HSB).1 fun h => hfm.ab h.symm) hnV
    have hl6 : LAt SL RL w6 (.pointer (some la)) p G.log := HW.kept (HW.kept hfm.log (T := none_) (Aside.of_below hb5) fun _ hk => hk.elim) q1.a fun k hk => by
      rcases hk with hk | rfl
      · exact ⟨fun h => (unhide Hh1 k ((unhide HS2 k).2 (Or.inr (Or.inr h)))).1 hk, fun h => unhide Hh2 k hk ((unhide HR2 k).2 (Or.inr h))⟩
      · exact ⟨hfm.sa.1, hfm.ra.1⟩
    refine ⟨S', R', fun k => k = A ∨ k = B ∨ SL k, fun k => V k ∨ RL k, q1.p, ⟨A, B, V, .pointer (some la), SL, RL, rfl, ⟨q2, hm6, hl6, hfm.sorted, hfm.few, hfm.right, fun k hk => by have := hfm.vlt k hk; omega, hfm.ab, hfm.va, hfm.sa, hfm.ra, hfm.sv, hfm.gen⟩, fun k => Iff.rfl, fun k => Iff.rfl⟩, fun k hk => ?_, fun k hk => ?_, fun k hk => Or.inl ((unhide HR2 k).2 hk), fun k hk => ?_, fun k hk h => ?_, ?_⟩
    · rcases hk with hk | hk
      · rcases q1.s k hk with h | h
        · exact Or.inl (Or.inl h)
        · exact Or.inr (by omega)
      · exact Or.inl (Or.inr ((unhide HS2 k).2 hk))
    · rcases q1.r k hk with h | h
      · exact Or.inl h
      · exact Or.inr (by omega)
    · have hk2 := unhide Hh1 k ((unhide HS2 k).2 hk)
      have hkl : k < w.heap.size := by
        rcases hk with rfl | rfl | hk
        · exact hAl
        · exact hBl
        · exact unhide HLO k (Or.inl hk)
      exact ⟨hnS k hkl hk2.1, hnR k hkl hk2.2⟩
    · have hkl : k < w.heap.size := by
        rcases h with h | h
        · exact hfm.vlt k h
        · exact unhide HLO k (Or.inr h)
      rcases q1.s k hk with h3 | h3
      · exact unhide Hh2 k h3 ((unhide HR2 k).2 h)
      · omega
    · exact (Aside.of_below hb5).trans (T := fun k => S k ∨ k = A) q1.a fun i _ h => h.elim Or.inl fun h => Or.inr ((unhide HS2 i).2 (Or.inl h))
include HP HW in
theorem scommit_c (K : Set_) (x : Value) (l : List Ch) (T : Nat) (hp : PAt S R w p s) (ht : SAt LAt S2 R2 w t p G) (h1 : ∀ k, S2 k → ¬ S k ∧ ¬ R k) (h2 : ∀ k, S k → ¬ R2 k) (hx : ChsAt K w x l) (hK : ∀ k, K k → ¬ S k ∧ ¬ S2 k) (hl : l.length ≤ 1000) (hh : G.half = (s.safe.length - 2) / 2) (hL : G.closed = false → Live G.half G.gen T s G.log G.pairs ∧ T + 1 < 4294967296) :
    Calls Tryz.prog 14 #[t, x] w fun e w' => e = .returned (.int .i64 (commitS G s l).1) ∧ ComPost PAt LAt S R S2 R2 w w' t p (commitS G s l).2.1 (commitS G s l).2.2 := by
  by_cases hcl : G.closed = true
  · exact scommit_no HP HW K x l hp ht h1 h2 hx hl (Or.inl hcl)
  · have hcl' : G.closed = false := by cases h : G.closed with | true => exact absurd h hcl | false => rfl
    obtain ⟨hL1, hT⟩ := hL hcl'
    by_cases hR : RightL l
    · by_cases hne : l = []
      · exact scommit_no HP HW K x l hp ht h1 h2 hx hl (Or.inr (Or.inr hne))
      · by_cases hF : FitsL G.log (wrL l)
        · exact scommit_fits HP HW K x l T hp ht h1 h2 hx hK hl hcl' hL1 hR hne hF
        · exact scommit_next HP HW K x l T hp ht h1 h2 hx hl hh hcl' hL1 hT hR hne hF
    · exact scommit_no HP HW K x l hp ht h1 h2 hx hl (Or.inr (Or.inl hR))
/-- THE LANDED STORE KEEPS THE RECORD. -/
theorem store_kept (HP : Plate PAt) (HW : Wal PAt LAt) : Store PAt (SAt LAt) where
  ptr := sat_ptr
  old := sat_old HW
  kept := sat_kept HW
  get := fun x k h hx _ => sget_c x k h hx
  keys := fun x pre h hx _ => skeys_c x pre h hx
  gen := sgen_c
  open_ := fun h T ps hp H hT hh => sopen_c HP HW h T ps hp H hT hh
  commit := fun K x l T hp ht h1 h2 hx hK hl hh hL => scommit_c HP HW K x l T hp ht h1 h2 hx hK hl hh hL
end
end Go.Proofs.YtbjgknoipbekoaaGreat
