/-
  The walks of Join and of the statement RoundJoins: it returns true; nothing that was there has turned.
-/
import Derived.Test.YthciafobknaipabSameB
namespace Go.Proofs.Ythciafobknaipab
open Go.RowKit
theorem bvals_append (a b : List Nat) : bvals (a ++ b) = bvals a ++ bvals b := by simp [bvals]
theorem ivals_append (a b : List Int) : ivals (a ++ b) = ivals a ++ ivals b := by simp [ivals]
theorem one_bvals (l : List Nat) : ∀ u ∈ bvals l, u.oneCell' = true := fun u hu => by obtain ⟨x, _, rfl⟩ := List.mem_map.1 hu; rfl
set_option maxRecDepth 100000 in
set_option maxHeartbeats 2000000 in
theorem join_any (w : World) (x y : Value) (a b : List Nat) (hx : ValsAt w x (bvals a)) (hy : ValsAt w y (bvals b)) (ha : a.length ≤ 100000) (hb : b.length ≤ 100000) :
    Calls Try.prog 9 #[x, y] w fun e w' => ∃ v, e = .returned v ∧ OwnV 5 w' w.heap.size v (bvals (a ++ b)) ∧ Below w.heap.size w w' := by
  have HY := hide hy
  have hbA : Below w.heap.size w (w.alloc (.cells #[] 5)) := (Below.refl _ _).alloc (Nat.le_refl _) _
  have HOA : Hid (OwnV 5 (w.alloc (.cells #[] 5)) w.heap.size (.slice (some ⟨w.heap.size, 0, none⟩) 0 0) []) := ⟨rfl, Or.inr ⟨w.heap.size, 0, #[], rfl, Nat.le_refl _, heap_alloc_new w _, Nat.le_refl _, Nat.zero_le _, rfl, rfl⟩⟩
  have HXA := hide (hx.below hbA)
  have HYA := hide (hy.below hbA)
  have HbA := hide hbA
  have Hs := hide hbA.size
  have Hl1 := hide (show ([] : List Value).length + (bvals a).length ≤ 1073741824 by rw [len_bvals]; simp; omega)
  have Hl2 := hide (show (bvals a).length + (bvals b).length ≤ 1073741824 by rw [len_bvals, len_bvals]; omega)
  obtain ⟨sx, cx, rfl⟩ := hx.form
  obtain ⟨sy, cy, rfl⟩ := hy.form
  clear hx hy hbA
  go_enter Try.func9, Try.ntmps9
  go_wp2_with (first
    | (at_builtin; refine wpList_append_vals Eb rfl _ _ rfl w.heap.size (.slice (some ⟨w.heap.size, 0, none⟩) 0 0) (.slice sx (bvals a).length cx) [] (bvals a) rfl (unhide HOA) rfl (unhide HXA) (one_bvals a) (unhide Hs) (unhide Hl1) ?_
       intro v2 w2 hO2 hg2 _
       rw [List.nil_append] at hO2
       have hb2 := own_below (unhide HOA) hg2 (unhide HbA) (unhide Hs)
       have HO2 := hide hO2
       have HB2 := hide hb2
       have HY2 := hide ((unhide HY).below hb2)
       have Hs2 := hide hb2.size
       clear hO2 hg2 hb2)
    | (at_builtin; refine wpList_append_vals Eb rfl _ _ rfl w.heap.size v2 (.slice sy (bvals b).length cy) (bvals a) (bvals b) rfl (unhide HO2) rfl (unhide HY2) (one_bvals b) (unhide Hs2) (unhide Hl2) ?_
       intro v3 w3 hO3 hg3 _
       rw [← bvals_append] at hO3
       have HO3 := hide hO3
       have HB3 := hide (own_below (unhide HO2) hg3 (unhide HB2) (unhide Hs2))
       clear hO3 hg3))
  go_ret
  exact ⟨_, rfl, unhide HO3, unhide HB3⟩
/-- JOINS -/
theorem fits_append {n : Nat} {a b : List Int} : Fits n (a ++ b) ↔ Fits n a ∧ Fits n b := by
  unfold Fits
  constructor
  · intro h; exact ⟨fun x hx => h x (by simp [hx]), fun x hx => h x (by simp [hx])⟩
  · rintro ⟨h1, h2⟩ x hx
    rcases List.mem_append.1 hx with h | h
    · exact h1 x h
    · exact h2 x h
theorem nats_append (a b : List Int) : nats (a ++ b) = nats a ++ nats b := by simp [nats]
theorem nats_lt {l : List Int} {n : Nat} (hf : Fits n l) : ∀ x ∈ nats l, x < 2 ^ n := fun x hx => by
  obtain ⟨y, hy, rfl⟩ := List.mem_map.1 hx
  have := hf y hy
  have h2 : ((2 ^ n : Nat) : Int) = 2 ^ n := by simp
  omega
theorem len_pack (n : Nat) (l : List Nat) : (packN n l).length = (l.length * n + 7) / 8 := length_digs _ _ _
theorem pack_small {n : Nat} {l : List Int} (hl : l.length ≤ 400) (hn : n ≤ 24) : (packN n (nats l)).length ≤ 2000 := by
  rw [len_pack, show (nats l).length = l.length by simp [nats]]
  have := Nat.mul_le_mul hl hn
  omega
/-- What Pack answers, whichever. -/
def PackAnswer (w : World) (n : Nat) (l : List Int) (e : Ending) (w' : World) : Prop :=
  (Fits n l ∧ ∃ v, e = .returned (.tuple #[v, .bool true]) ∧ OwnV 5 w' w.heap.size v (bvals (packN n (nats l))) ∧ Below w.heap.size w w') ∨ (¬ Fits n l ∧ ∃ v, e = .returned (.tuple #[v, .bool false]) ∧ ValsAt w' v [] ∧ Below w.heap.size w w')
theorem pack_either {R : World → Prop} (C : Round R) (w : World) (hR : R w) (x : Value) (l : List Int) (n : Nat) (hx : ValsAt w x (ivals l)) (hl : l.length ≤ 1000) (n1 : 1 ≤ n) (n24 : n ≤ 24) :
    Calls Try.prog 7 #[x, .int .i64 (n : Int)] w fun e w' => PackAnswer w n l e w' := by
  by_cases hf : Fits n l
  · exact (C.pack w x l n hR hx hl n1 n24 hf).mono fun e w' h => Or.inl ⟨hf, h⟩
  · exact (C.noPack w x l (n : Int) hR hx hl (fun h => hf (by have := h.2.2; rwa [Int.toNat_natCast] at this))).mono fun e w' h => Or.inr ⟨hf, h⟩
set_option maxRecDepth 100000 in
set_option maxHeartbeats 4000000 in
theorem joins_main {R : World → Prop} (C : Round R) (w : World) (hR : R w) (xa xb : Value) (a b : List Int) (ha : ValsAt w xa (ivals a)) (hb : ValsAt w xb (ivals b)) (la : a.length ≤ 400) (lb : b.length ≤ 400) (n : Nat) (n1 : 1 ≤ n) (n24 : n ≤ 24) (h8 : a.length * n % 8 = 0) :
    Calls Try.prog 4 #[xa, xb, .int .i64 (n : Int)] w fun e w' => e = .returned (.bool true) ∧ Below w.heap.size w w' := by
  have HC := hide C
  have HR := hide hR
  have HA := hide ha
  have HB := hide hb
  obtain ⟨spa, ca, rfl⟩ := ha.form
  obtain ⟨spb, cb, rfl⟩ := hb.form
  rw [len_ivals] at HA ⊢
  rw [len_ivals] at HB ⊢
  have d1 : decide (400 < (a.length : Int)) = false := by simp; omega
  have d1' : decide (400 < a.length) = false := by simp; omega
  have d2 : decide (400 < (b.length : Int)) = false := by simp; omega
  have d2' : decide (400 < b.length) = false := by simp; omega
  have d3 : decide ((n : Int) < 1) = false := by simp; omega
  have d3' : decide (n < 1) = false := by simp; omega
  have d4 : decide (24 < (n : Int)) = false := by simp; omega
  have d4' : decide (24 < n) = false := by simp; omega
  have hm : (a.length : Int) * (n : Int) = ((a.length * n : Nat) : Int) := by simp
  have hmb : a.length * n ≤ 9600 := Nat.mul_le_mul la n24
  have hwr : IntKind.i64.wrap ((a.length : Int) * (n : Int)) = (a.length : Int) * (n : Int) := IntWalk.i64_in _ (by rw [hm]; omega)
  have t1 : ((a.length : Int) * (n : Int)).tmod 8 = 0 := by rw [hm, Int.tmod_eq_emod_of_nonneg (by omega)]; omega
  clear C hR ha hb hm hmb
  go_enter Try.func4, Try.ntmps4
  go_wp2_with fail
  refine (anchor_any (unhide HC) w (unhide HR)).mono ?_
  rintro e w1 ⟨rfl, hb1⟩
  have HR1 := hide ((unhide HC).below _ _ (unhide HR) hb1)
  have HA1 := hide ((unhide HA).below hb1)
  have HB1 := hide ((unhide HB).below hb1)
  have HW1 := hide hb1
  clear hb1 HR HA HB
  go_wp2_with fail
  refine (pack_either (unhide HC) w1 (unhide HR1) _ a n (unhide HA1) (by omega) n1 n24).mono ?_
  clear d1 d1' d2 d2' d3 d3' d4 d4' hwr t1
  rintro e w2 (⟨hf2, v2, rfl, hO2, hb2⟩ | ⟨hf2, v2, rfl, hO2, hb2⟩)
  · have HR2 := hide ((unhide HC).below _ _ (unhide HR1) hb2)
    have HA2 := hide ((unhide HA1).below hb2)
    have HB2 := hide ((unhide HB1).below hb2)
    have HW2 := hide ((unhide HW1).trans (hb2.mono (unhide HW1).size))
    have HF2 := hide hf2
    have HO2 := hide hO2
    clear hO2 hb2 hf2 HR1 HA1 HB1 HW1
    go_wp2_with fail
    refine (pack_either (unhide HC) w2 (unhide HR2) _ b n (unhide HB2) (by omega) n1 n24).mono ?_
    rintro e w3 (⟨hf3, v3, rfl, hO3, hb3⟩ | ⟨hf3, v3, rfl, hO3, hb3⟩)
    · have HR3 := hide ((unhide HC).below _ _ (unhide HR2) hb3)
      have HA3 := hide ((unhide HA2).below hb3)
      have HB3 := hide ((unhide HB2).below hb3)
      have HW3 := hide ((unhide HW2).trans (hb3.mono (unhide HW2).size))
      have HO2' := hide ((unhide HO2).below hb3)
      have HF3 := hide hf3
      have HO3 := hide hO3
      clear hO3 hb3 hf3 HR2 HA2 HB2 HW2 HO2
      have hbA : Below w3.heap.size w3 (w3.alloc (.cells #[] 3)) := (Below.refl _ _).alloc (Nat.le_refl _) _
      have HOA : Hid (OwnV 3 (w3.alloc (.cells #[] 3)) w3.heap.size (.slice (some ⟨w3.heap.size, 0, none⟩) 0 0) []) := ⟨rfl, Or.inr ⟨w3.heap.size, 0, #[], rfl, Nat.le_refl _, heap_alloc_new w3 _, Nat.le_refl _, Nat.zero_le _, rfl, rfl⟩⟩
      have HXA := hide ((unhide HA3).below hbA)
      have HbA := hide hbA
      have Hs := hide hbA.size
      have Hl1 := hide (show ([] : List Value).length + (ivals a).length ≤ 1073741824 by rw [len_ivals]; simp; omega)
      have Hl2 := hide (show (ivals a).length + (ivals b).length ≤ 1073741824 by rw [len_ivals, len_ivals]; omega)
      clear hbA
      go_wp2_with (first
        | (at_builtin; refine wpList_append_vals Ei rfl _ _ rfl w3.heap.size (.slice (some ⟨w3.heap.size, 0, none⟩) 0 0) (.slice spa a.length ca) [] (ivals a) rfl (unhide HOA) rfl (unhide HXA) (one_ivals a) (unhide Hs) (unhide Hl1) ?_
           intro v4 w4 hO4 hg4 _
           rw [List.nil_append] at hO4
           have hb4 := own_below (unhide HOA) hg4 (unhide HbA) (unhide Hs)
           have HO4 := hide hO4
           have Hb4 := hide hb4
           have HY4 := hide ((unhide HB3).below hb4)
           have Hs4 := hide hb4.size
           clear hO4 hg4 hb4)
        | (at_builtin; refine wpList_append_vals Ei rfl _ _ rfl w3.heap.size v4 (.slice spb b.length cb) (ivals a) (ivals b) rfl (unhide HO4) rfl (unhide HY4) (one_ivals b) (unhide Hs4) (unhide Hl2) ?_
           intro v5 w5 hO5 hg5 _
           rw [← ivals_append] at hO5
           have hb5 := own_below (unhide HO4) hg5 (unhide Hb4) (unhide Hs4)
           have HO5 := hide hO5
           have HW5 := hide ((unhide HW3).trans (hb5.mono (unhide HW3).size))
           have HR5 := hide ((unhide HC).below _ _ (unhide HR3) hb5)
           have HO25 := hide ((unhide HO2').below hb5)
           have HO35 := hide ((unhide HO3).below hb5)
           clear hO5 hg5 hb5)
        | fail)
      clear HOA HXA HbA Hs Hl1 Hl2 HO4 Hb4 HY4 Hs4 HR3 HA3 HB3 HW3 HO2' HO3
      refine (pack_either (unhide HC) w5 (unhide HR5) _ (a ++ b) n (unhide HO5).vals (by rw [List.length_append]; omega) n1 n24).mono ?_
      rintro e w6 (⟨_, v6, rfl, hO6, hb6⟩ | ⟨hf6, _⟩)
      · rw [nats_append, pack_join (nats_lt (unhide HF2)) (by rw [show (nats a).length = a.length by simp [nats]]; exact h8)] at hO6
        have HO6 := hide hO6
        have HW6 := hide ((unhide HW5).trans (hb6.mono (unhide HW5).size))
        have HO26 := hide ((unhide HO25).below hb6)
        have HO36 := hide ((unhide HO35).below hb6)
        clear hO6 hb6 HO25 HO35 HW5 HR5 HO5
        go_wp2_with fail
        refine (join_any w6 _ _ _ _ (unhide HO26).vals (unhide HO36).vals (by have := pack_small la n24; omega) (by have := pack_small lb n24; omega)).mono ?_
        rintro e w7 ⟨v7, rfl, hO7, hb7⟩
        have HO67 := hide ((unhide HO6).below hb7)
        have HW7 := hide ((unhide HW6).trans (hb7.mono (unhide HW6).size))
        have HO7 := hide hO7
        clear hO7 hb7 HO6 HW6 HO26 HO36
        go_wp2_with fail
        refine (bsame_eq w7 _ _ _ (unhide HO67).vals (unhide HO7).vals (by have := pack_small la n24; have := pack_small lb n24; rw [List.length_append]; omega)).mono ?_
        rintro e w8 ⟨rfl, hb8⟩
        have HW8 := hide ((unhide HW7).trans (hb8.mono (unhide HW7).size))
        clear hb8
        go_wp2
        go_ret
        exact ⟨rfl, unhide HW8⟩
      · exact absurd (fits_append.2 ⟨unhide HF2, unhide HF3⟩) hf6
    · have HR3 := hide ((unhide HC).below _ _ (unhide HR2) hb3)
      have HA3 := hide ((unhide HA2).below hb3)
      have HB3 := hide ((unhide HB2).below hb3)
      have HW3 := hide ((unhide HW2).trans (hb3.mono (unhide HW2).size))
      have HO2' := hide ((unhide HO2).below hb3)
      have HF3 := hide hf3
      have HO3 := hide hO3
      clear hO3 hb3 hf3 HR2 HA2 HB2 HW2 HO2
      have hbA : Below w3.heap.size w3 (w3.alloc (.cells #[] 3)) := (Below.refl _ _).alloc (Nat.le_refl _) _
      have HOA : Hid (OwnV 3 (w3.alloc (.cells #[] 3)) w3.heap.size (.slice (some ⟨w3.heap.size, 0, none⟩) 0 0) []) := ⟨rfl, Or.inr ⟨w3.heap.size, 0, #[], rfl, Nat.le_refl _, heap_alloc_new w3 _, Nat.le_refl _, Nat.zero_le _, rfl, rfl⟩⟩
      have HXA := hide ((unhide HA3).below hbA)
      have HbA := hide hbA
      have Hs := hide hbA.size
      have Hl1 := hide (show ([] : List Value).length + (ivals a).length ≤ 1073741824 by rw [len_ivals]; simp; omega)
      have Hl2 := hide (show (ivals a).length + (ivals b).length ≤ 1073741824 by rw [len_ivals, len_ivals]; omega)
      clear hbA
      go_wp2_with (first
        | (at_builtin; refine wpList_append_vals Ei rfl _ _ rfl w3.heap.size (.slice (some ⟨w3.heap.size, 0, none⟩) 0 0) (.slice spa a.length ca) [] (ivals a) rfl (unhide HOA) rfl (unhide HXA) (one_ivals a) (unhide Hs) (unhide Hl1) ?_
           intro v4 w4 hO4 hg4 _
           rw [List.nil_append] at hO4
           have hb4 := own_below (unhide HOA) hg4 (unhide HbA) (unhide Hs)
           have HO4 := hide hO4
           have Hb4 := hide hb4
           have HY4 := hide ((unhide HB3).below hb4)
           have Hs4 := hide hb4.size
           clear hO4 hg4 hb4)
        | (at_builtin; refine wpList_append_vals Ei rfl _ _ rfl w3.heap.size v4 (.slice spb b.length cb) (ivals a) (ivals b) rfl (unhide HO4) rfl (unhide HY4) (one_ivals b) (unhide Hs4) (unhide Hl2) ?_
           intro v5 w5 hO5 hg5 _
           rw [← ivals_append] at hO5
           have hb5 := own_below (unhide HO4) hg5 (unhide Hb4) (unhide Hs4)
           have HO5 := hide hO5
           have HW5 := hide ((unhide HW3).trans (hb5.mono (unhide HW3).size))
           have HR5 := hide ((unhide HC).below _ _ (unhide HR3) hb5)
           have HO25 := hide ((unhide HO2').below hb5)
           have HO35 := hide ((unhide HO3).below hb5)
           clear hO5 hg5 hb5)
        | fail)
      clear HOA HXA HbA Hs Hl1 Hl2 HO4 Hb4 HY4 Hs4 HR3 HA3 HB3 HW3 HO2' HO3
      refine (pack_either (unhide HC) w5 (unhide HR5) _ (a ++ b) n (unhide HO5).vals (by rw [List.length_append]; omega) n1 n24).mono ?_
      rintro e w6 (⟨hf6, _⟩ | ⟨_, v6, rfl, hO6, hb6⟩)
      · exact absurd (fits_append.1 hf6).2 (unhide HF3)
      · have HW6 := hide ((unhide HW5).trans (hb6.mono (unhide HW5).size))
        clear hO6 hb6
        go_wp2
        go_ret
        exact ⟨rfl, unhide HW6⟩
  · have HR2 := hide ((unhide HC).below _ _ (unhide HR1) hb2)
    have HA2 := hide ((unhide HA1).below hb2)
    have HB2 := hide ((unhide HB1).below hb2)
    have HW2 := hide ((unhide HW1).trans (hb2.mono (unhide HW1).size))
    have HF2 := hide hf2
    have HO2 := hide hO2
    clear hO2 hb2 hf2 HR1 HA1 HB1 HW1
    go_wp2_with fail
    refine (pack_either (unhide HC) w2 (unhide HR2) _ b n (unhide HB2) (by omega) n1 n24).mono ?_
    rintro e w3 (⟨hf3, v3, rfl, hO3, hb3⟩ | ⟨hf3, v3, rfl, hO3, hb3⟩)
    · have HR3 := hide ((unhide HC).below _ _ (unhide HR2) hb3)
      have HA3 := hide ((unhide HA2).below hb3)
      have HB3 := hide ((unhide HB2).below hb3)
      have HW3 := hide ((unhide HW2).trans (hb3.mono (unhide HW2).size))
      have HO2' := hide ((unhide HO2).below hb3)
      have HF3 := hide hf3
      have HO3 := hide hO3
      clear hO3 hb3 hf3 HR2 HA2 HB2 HW2 HO2
      have hbA : Below w3.heap.size w3 (w3.alloc (.cells #[] 3)) := (Below.refl _ _).alloc (Nat.le_refl _) _
      have HOA : Hid (OwnV 3 (w3.alloc (.cells #[] 3)) w3.heap.size (.slice (some ⟨w3.heap.size, 0, none⟩) 0 0) []) := ⟨rfl, Or.inr ⟨w3.heap.size, 0, #[], rfl, Nat.le_refl _, heap_alloc_new w3 _, Nat.le_refl _, Nat.zero_le _, rfl, rfl⟩⟩
      have HXA := hide ((unhide HA3).below hbA)
      have HbA := hide hbA
      have Hs := hide hbA.size
      have Hl1 := hide (show ([] : List Value).length + (ivals a).length ≤ 1073741824 by rw [len_ivals]; simp; omega)
      have Hl2 := hide (show (ivals a).length + (ivals b).length ≤ 1073741824 by rw [len_ivals, len_ivals]; omega)
      clear hbA
      go_wp2_with (first
        | (at_builtin; refine wpList_append_vals Ei rfl _ _ rfl w3.heap.size (.slice (some ⟨w3.heap.size, 0, none⟩) 0 0) (.slice spa a.length ca) [] (ivals a) rfl (unhide HOA) rfl (unhide HXA) (one_ivals a) (unhide Hs) (unhide Hl1) ?_
           intro v4 w4 hO4 hg4 _
           rw [List.nil_append] at hO4
           have hb4 := own_below (unhide HOA) hg4 (unhide HbA) (unhide Hs)
           have HO4 := hide hO4
           have Hb4 := hide hb4
           have HY4 := hide ((unhide HB3).below hb4)
           have Hs4 := hide hb4.size
           clear hO4 hg4 hb4)
        | (at_builtin; refine wpList_append_vals Ei rfl _ _ rfl w3.heap.size v4 (.slice spb b.length cb) (ivals a) (ivals b) rfl (unhide HO4) rfl (unhide HY4) (one_ivals b) (unhide Hs4) (unhide Hl2) ?_
           intro v5 w5 hO5 hg5 _
           rw [← ivals_append] at hO5
           have hb5 := own_below (unhide HO4) hg5 (unhide Hb4) (unhide Hs4)
           have HO5 := hide hO5
           have HW5 := hide ((unhide HW3).trans (hb5.mono (unhide HW3).size))
           have HR5 := hide ((unhide HC).below _ _ (unhide HR3) hb5)
           have HO25 := hide ((unhide HO2').below hb5)
           have HO35 := hide ((unhide HO3).below hb5)
           clear hO5 hg5 hb5)
        | fail)
      clear HOA HXA HbA Hs Hl1 Hl2 HO4 Hb4 HY4 Hs4 HR3 HA3 HB3 HW3 HO2' HO3
      refine (pack_either (unhide HC) w5 (unhide HR5) _ (a ++ b) n (unhide HO5).vals (by rw [List.length_append]; omega) n1 n24).mono ?_
      rintro e w6 (⟨hf6, _⟩ | ⟨_, v6, rfl, hO6, hb6⟩)
      · exact absurd (fits_append.1 hf6).1 (unhide HF2)
      · have HW6 := hide ((unhide HW5).trans (hb6.mono (unhide HW5).size))
        clear hO6 hb6
        go_wp2
        go_ret
        exact ⟨rfl, unhide HW6⟩
    · have HR3 := hide ((unhide HC).below _ _ (unhide HR2) hb3)
      have HA3 := hide ((unhide HA2).below hb3)
      have HB3 := hide ((unhide HB2).below hb3)
      have HW3 := hide ((unhide HW2).trans (hb3.mono (unhide HW2).size))
      have HO2' := hide ((unhide HO2).below hb3)
      have HF3 := hide hf3
      have HO3 := hide hO3
      clear hO3 hb3 hf3 HR2 HA2 HB2 HW2 HO2
      have hbA : Below w3.heap.size w3 (w3.alloc (.cells #[] 3)) := (Below.refl _ _).alloc (Nat.le_refl _) _
      have HOA : Hid (OwnV 3 (w3.alloc (.cells #[] 3)) w3.heap.size (.slice (some ⟨w3.heap.size, 0, none⟩) 0 0) []) := ⟨rfl, Or.inr ⟨w3.heap.size, 0, #[], rfl, Nat.le_refl _, heap_alloc_new w3 _, Nat.le_refl _, Nat.zero_le _, rfl, rfl⟩⟩
      have HXA := hide ((unhide HA3).below hbA)
      have HbA := hide hbA
      have Hs := hide hbA.size
      have Hl1 := hide (show ([] : List Value).length + (ivals a).length ≤ 1073741824 by rw [len_ivals]; simp; omega)
      have Hl2 := hide (show (ivals a).length + (ivals b).length ≤ 1073741824 by rw [len_ivals, len_ivals]; omega)
      clear hbA
      go_wp2_with (first
        | (at_builtin; refine wpList_append_vals Ei rfl _ _ rfl w3.heap.size (.slice (some ⟨w3.heap.size, 0, none⟩) 0 0) (.slice spa a.length ca) [] (ivals a) rfl (unhide HOA) rfl (unhide HXA) (one_ivals a) (unhide Hs) (unhide Hl1) ?_
           intro v4 w4 hO4 hg4 _
           rw [List.nil_append] at hO4
           have hb4 := own_below (unhide HOA) hg4 (unhide HbA) (unhide Hs)
           have HO4 := hide hO4
           have Hb4 := hide hb4
           have HY4 := hide ((unhide HB3).below hb4)
           have Hs4 := hide hb4.size
           clear hO4 hg4 hb4)
        | (at_builtin; refine wpList_append_vals Ei rfl _ _ rfl w3.heap.size v4 (.slice spb b.length cb) (ivals a) (ivals b) rfl (unhide HO4) rfl (unhide HY4) (one_ivals b) (unhide Hs4) (unhide Hl2) ?_
           intro v5 w5 hO5 hg5 _
           rw [← ivals_append] at hO5
           have hb5 := own_below (unhide HO4) hg5 (unhide Hb4) (unhide Hs4)
           have HO5 := hide hO5
           have HW5 := hide ((unhide HW3).trans (hb5.mono (unhide HW3).size))
           have HR5 := hide ((unhide HC).below _ _ (unhide HR3) hb5)
           have HO25 := hide ((unhide HO2').below hb5)
           have HO35 := hide ((unhide HO3).below hb5)
           clear hO5 hg5 hb5)
        | fail)
      clear HOA HXA HbA Hs Hl1 Hl2 HO4 Hb4 HY4 Hs4 HR3 HA3 HB3 HW3 HO2' HO3
      refine (pack_either (unhide HC) w5 (unhide HR5) _ (a ++ b) n (unhide HO5).vals (by rw [List.length_append]; omega) n1 n24).mono ?_
      rintro e w6 (⟨hf6, _⟩ | ⟨_, v6, rfl, hO6, hb6⟩)
      · exact absurd (fits_append.1 hf6).1 (unhide HF2)
      · have HW6 := hide ((unhide HW5).trans (hb6.mono (unhide HW5).size))
        clear hO6 hb6
        go_wp2
        go_ret
        exact ⟨rfl, unhide HW6⟩
set_option maxRecDepth 100000 in
set_option maxHeartbeats 2000000 in
theorem roundJoins_any {R : World → Prop} (C : Round R) (w : World) (hR : R w) (xa xb : Value) (a b : List Int) (ha : ValsAt w xa (ivals a)) (hb : ValsAt w xb (ivals b)) (n : Int) :
    Calls Try.prog 4 #[xa, xb, .int .i64 n] w fun e w' => e = .returned (.bool true) ∧ Below w.heap.size w w' := by
  have HC := hide C
  have HR := hide hR
  have HA := hide ha
  have HB := hide hb
  obtain ⟨spa, ca, rfl⟩ := ha.form
  obtain ⟨spb, cb, rfl⟩ := hb.form
  rw [len_ivals] at HA ⊢
  rw [len_ivals] at HB ⊢
  clear C hR ha hb
  by_cases la : a.length ≤ 400
  · have d1 : decide (400 < (a.length : Int)) = false := by simp; omega
    have d1' : decide (400 < a.length) = false := by simp; omega
    by_cases lb : b.length ≤ 400
    · have d2 : decide (400 < (b.length : Int)) = false := by simp; omega
      have d2' : decide (400 < b.length) = false := by simp; omega
      by_cases h1 : n < 1
      · go_enter Try.func4, Try.ntmps4
        go_wp2_with fail
        refine (anchor_any (unhide HC) w (unhide HR)).mono ?_
        rintro e w1 ⟨rfl, hb1⟩
        have HB1 := hide hb1
        clear hb1
        go_wp2
        go_ret
        exact ⟨rfl, unhide HB1⟩
      · have d3 : decide (n < 1) = false := by simp; omega
        by_cases h2 : 24 < n
        · go_enter Try.func4, Try.ntmps4
          go_wp2_with fail
          refine (anchor_any (unhide HC) w (unhide HR)).mono ?_
          rintro e w1 ⟨rfl, hb1⟩
          have HB1 := hide hb1
          clear hb1
          go_wp2
          go_ret
          exact ⟨rfl, unhide HB1⟩
        · have d4 : decide (24 < n) = false := by simp; omega
          obtain ⟨N, rfl⟩ : ∃ N : Nat, n = (N : Int) := ⟨n.toNat, by omega⟩
          by_cases h8 : a.length * N % 8 = 0
          · exact joins_main (unhide HC) w (unhide HR) _ _ a b (unhide HA) (unhide HB) la lb N (by omega) (by omega) h8
          · have hm : (a.length : Int) * (N : Int) = ((a.length * N : Nat) : Int) := by simp
            have hmb : a.length * N ≤ 9600 := Nat.mul_le_mul la (show N ≤ 24 by omega)
            have hwr : IntKind.i64.wrap ((a.length : Int) * (N : Int)) = (a.length : Int) * (N : Int) := IntWalk.i64_in _ (by rw [hm]; omega)
            obtain ⟨u, hu⟩ : ∃ u : Int, ((a.length : Int) * (N : Int)).tmod 8 = u := ⟨_, rfl⟩
            have hune : (u != 0) = true := by rw [← hu, hm, Int.tmod_eq_emod_of_nonneg (by omega)]; exact bne_iff_ne.2 (by omega)
            have d5 : decide (N < 1) = false := by simp; omega
            have d6 : decide (24 < N) = false := by simp; omega
            clear hm hmb h8
            go_enter Try.func4, Try.ntmps4
            go_wp2_with fail
            refine (anchor_any (unhide HC) w (unhide HR)).mono ?_
            rintro e w1 ⟨rfl, hb1⟩
            have HB1 := hide hb1
            clear hb1
            go_wp2
            go_ret
            exact ⟨rfl, unhide HB1⟩
    · have d2 : decide (400 < (b.length : Int)) = true := by simp; omega
      have d2' : decide (400 < b.length) = true := by simp; omega
      go_enter Try.func4, Try.ntmps4
      go_wp2_with fail
      refine (anchor_any (unhide HC) w (unhide HR)).mono ?_
      rintro e w1 ⟨rfl, hb1⟩
      have HB1 := hide hb1
      clear hb1
      go_wp2
      go_ret
      exact ⟨rfl, unhide HB1⟩
  · have d1 : decide (400 < (a.length : Int)) = true := by simp; omega
    have d1' : decide (400 < a.length) = true := by simp; omega
    go_enter Try.func4, Try.ntmps4
    go_wp2_with fail
    refine (anchor_any (unhide HC) w (unhide HR)).mono ?_
    rintro e w1 ⟨rfl, hb1⟩
    have HB1 := hide hb1
    clear hb1
    go_wp2
    go_ret
    exact ⟨rfl, unhide HB1⟩
end Go.Proofs.Ythciafobknaipab
