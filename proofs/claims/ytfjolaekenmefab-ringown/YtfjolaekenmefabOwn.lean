/-
  The walk of the statement RingOwn: it returns true; nothing that was there has turned.
-/
import Derived.Test.YtfjolaekenmefabCodeG
namespace Go.Proofs.Ytfjolaekenmefab
open Go.RowKit
theorem validB_true {l : List Int} (h : Poly l) : validB l = true := (validB_iff l).2 h
theorem validB_false {l : List Int} (h : ¬ Poly l) : validB l = false := by
  rw [Bool.eq_false_iff]; exact fun e => h ((validB_iff l).1 e)
/-- What stands from round to round: the two arguments and their two copies. -/
structure OwnAt (w : World) (xa xb vx vy : Value) (a b : List Int) (wr : World) : Prop where
  fa : IntsAt wr xa a
  fb : IntsAt wr xb b
  fx : IntsAt wr vx a
  fy : IntsAt wr vy b
  bel : Below w.heap.size w wr
theorem OwnAt.below {w : World} {xa xb vx vy : Value} {a b : List Int} {wr w' : World} (h : OwnAt w xa xb vx vy a b wr) (hb : Below wr.heap.size wr w') : OwnAt w xa xb vx vy a b w' :=
  ⟨h.fa.below hb, h.fb.below hb, h.fx.below hb, h.fy.below hb, h.bel.trans (hb.mono h.bel.size)⟩
/-- Three rows that are written over. -/
structure Three (w : World) (B1 B2 B3 : Nat) (r1 r2 r3 : List Value) (l1 l2 l3 : List Int) (wr : World) : Prop where
  p : RowAt wr B1 r1 l1
  s : RowAt wr B2 r2 l2
  t : RowAt wr B3 r3 l3
  lp : l1.length = 256
  ls : l2.length = 256
  lt : l3.length = 256
  bel : Below w.heap.size w wr
theorem RowAt.other {w : World} {B : Nat} {rest : List Value} {l : List Int} (h : RowAt w B rest l) (a : Addr) (v : Value) (hne : B ≠ a.block) : RowAt (w.setCell a v) B rest l := by
  unfold RowAt
  rw [heap_setCell_other _ _ _ _ hne]; exact h
theorem Three.step {w : World} {B1 B2 B3 : Nat} {r1 r2 r3 : List Value} {l1 l2 l3 : List Int} {wr : World} (h : Three w B1 B2 B3 r1 r2 r3 l1 l2 l3 wr) (k : Nat) (hk : k < 256) (h1 : w.heap.size ≤ B1) (h2 : B1 < B2) (h3 : B2 < B3) :
    Three w B1 B2 B3 r1 r2 r3 (l1.set k 1) (l2.set k 2) (l3.set k 3) (((wr.setCell ⟨B1, k, none⟩ (.int .i64 1)).setCell ⟨B2, k, none⟩ (.int .i64 2)).setCell ⟨B3, k, none⟩ (.int .i64 3)) := by
  refine ⟨?_, ?_, ?_, by rw [List.length_set]; exact h.lp, by rw [List.length_set]; exact h.ls, by rw [List.length_set]; exact h.lt, ?_⟩
  · exact ((h.p.set k (by rw [h.lp]; exact hk) 1).other _ _ (by show B1 ≠ B2; omega)).other _ _ (by show B1 ≠ B3; omega)
  · exact ((h.s.other _ _ (by show B2 ≠ B1; omega)).set k (by rw [h.ls]; exact hk) 2).other _ _ (by show B2 ≠ B3; omega)
  · exact ((h.t.other _ _ (by show B3 ≠ B1; omega)).other _ _ (by show B3 ≠ B2; omega)).set k (by rw [h.lt]; exact hk) 3
  · exact ((h.bel.setCell (p := ⟨B1, k, none⟩) h1 _).setCell (p := ⟨B2, k, none⟩) (by show _ ≤ B2; omega) _).setCell (p := ⟨B3, k, none⟩) (by show _ ≤ B3; omega) _
set_option maxRecDepth 100000 in
set_option maxHeartbeats 4000000 in
theorem own_main {R : World → Prop} (C : Ring R) (w : World) (hR : R w) (spa spb : Option Addr) (ca cb : Nat) (a b : List Int) (ha : IntsAt w (.slice spa a.length ca) a) (hb : IntsAt w (.slice spb b.length cb) b) (pa : Poly a) (pb : Poly b) :
    Calls Try.prog 3 #[.slice spa a.length ca, .slice spb b.length cb] w fun e w' => e = .returned (.bool true) ∧ Below w.heap.size w w' := by
  have va := validB_true pa
  have vb := validB_true pb
  have HC := hide C
  have HR := hide hR
  have P_a := hide pa
  have P_b := hide pb
  have I_a := hide ha
  have I_b := hide hb
  clear C hR ha hb pa pb
  go_enter Try.func3, Try.ntmps3
  go_wp2_with fail
  refine (anchor_any (unhide HC) w (unhide HR)).mono ?_
  rintro e w1 ⟨rfl, hb1⟩
  have J_a := hide ((unhide I_a).below hb1)
  have J_b := hide ((unhide I_b).below hb1)
  have HR1 := hide ((unhide HC).below _ _ (unhide HR) hb1)
  have HB1 := hide hb1
  clear hb1 I_a I_b HR
  go_wp2_with fail
  refine (valid_any w1 _ a (unhide J_a) (by have := (unhide P_a).1; omega)).mono ?_
  rw [va]
  rintro e w1 ⟨rfl, rfl⟩
  go_wp2_with fail
  refine (valid_any w1 _ b (unhide J_b) (by have := (unhide P_b).1; omega)).mono ?_
  rw [vb]
  rintro e w1 ⟨rfl, rfl⟩
  have hbA : Below w1.heap.size w1 (w1.alloc (.cells #[] 3)) := (Below.refl _ _).alloc (Nat.le_refl _) _
  have HOA : Hid (OwnI (w1.alloc (.cells #[] 3)) w1.heap.size (.slice (some ⟨w1.heap.size, 0, none⟩) 0 0) []) := ⟨rfl, Or.inr ⟨w1.heap.size, 0, #[], rfl, Nat.le_refl _, heap_alloc_new w1 _, Nat.le_refl _, Nat.zero_le _, rfl, rfl⟩⟩
  have IaA := hide ((unhide J_a).below hbA)
  have HbA := hide hbA
  clear hbA
  go_wp2_with (first
    | (at_builtin; refine wpList_append_bytes rfl _ _ rfl w1.heap.size (.slice (some ⟨w1.heap.size, 0, none⟩) 0 0) (.slice spa a.length ca) [] a rfl (unhide HOA) rfl (unhide IaA) (by simp) (by have := (unhide P_a).1; simp; omega) ?_
       intro v2 w2 hO2 hg2
       rw [List.nil_append] at hO2
       have HO2 := hide hO2
       have hb2 : Below w1.heap.size w1 w2 := Fresh.grown (unhide HOA) hg2 (unhide HbA) (by simp)
       have Hb2 := hide hb2
       have hbB : Below w2.heap.size w2 (w2.alloc (.cells #[] 3)) := (Below.refl _ _).alloc (Nat.le_refl _) _
       have HOB : Hid (OwnI (w2.alloc (.cells #[] 3)) w2.heap.size (.slice (some ⟨w2.heap.size, 0, none⟩) 0 0) []) := ⟨rfl, Or.inr ⟨w2.heap.size, 0, #[], rfl, Nat.le_refl _, heap_alloc_new w2 _, Nat.le_refl _, Nat.zero_le _, rfl, rfl⟩⟩
       have IbB := hide (((unhide J_b).below hb2).below hbB)
       have HbB := hide hbB
       clear hO2 hg2 hb2 hbB)
    | (at_builtin; refine wpList_append_bytes rfl _ _ rfl w2.heap.size (.slice (some ⟨w2.heap.size, 0, none⟩) 0 0) (.slice spb b.length cb) [] b rfl (unhide HOB) rfl (unhide IbB) (by simp) (by have := (unhide P_b).1; simp; omega) ?_
       intro v3 w3 hO3 hg3
       rw [List.nil_append] at hO3
       have hb3 : Below w2.heap.size w2 w3 := Fresh.grown (unhide HOB) hg3 (unhide HbB) (by simp)
       have HI : Hid (OwnAt w (.slice spa a.length ca) (.slice spb b.length cb) v2 v3 a b w3) := ⟨((unhide J_a).below (unhide Hb2)).below hb3, ((unhide J_b).below (unhide Hb2)).below hb3, (unhide HO2).bytes.below hb3, hO3.bytes, (unhide HB1).trans (((unhide Hb2).trans (hb3.mono (unhide Hb2).size)).mono (unhide HB1).size)⟩
       have HRR := hide ((unhide HC).below _ _ ((unhide HC).below _ _ (unhide HR1) (unhide Hb2)) hb3)
       clear hO3 hg3 hb3))
  clear HO2 HOB IbB HbB HOA IaA HbA Hb2 HB1 J_a J_b HR1
  go_loopw [7] (fun i wr => ∃ k : Nat, k ≤ 2 ∧ i = .int .i64 (k : Int) ∧ Hid (OwnAt w (.slice spa a.length ca) (.slice spb b.length cb) v2 v3 a b wr) ∧ Hid (R wr)) (fun i _ => 2 - (intOf i).toNat)
  case atStart => exact ⟨0, by omega, rfl, HI, HRR⟩
  case round =>
    clear HI HRR
    obtain ⟨k, hk, rfl, HI, HRR⟩ := hrel
    rename World => wo
    by_cases hlt : k < 2
    · have k1 : (k : Int) < 2 := by omega
      go_wp2_with fail
      refine ((unhide HC).mul wo _ _ a b (unhide HRR) (unhide HI).fx (unhide HI).fy (unhide P_a) (unhide P_b)).mono ?_
      rintro e w4 ⟨v4, p, rfl, hO4, hM4, hb4⟩
      have HO4 := hide hO4
      have HM4 := hide hM4
      have HI4 := hide ((unhide HI).below hb4)
      have HR4 := hide ((unhide HC).below _ _ (unhide HRR) hb4)
      have HB4 := hide hb4
      clear hO4 hM4 hb4
      go_wp2_with fail
      refine ((unhide HC).add w4 _ _ a b (unhide HR4) (unhide HI4).fx (unhide HI4).fy (unhide P_a) (unhide P_b)).mono ?_
      rintro e w5 ⟨v5, s, rfl, hO5, hM5, hb5⟩
      have HO4' := hide ((unhide HO4).below hb5)
      have HO5 := hide hO5
      have HM5 := hide hM5
      have HI5 := hide ((unhide HI4).below hb5)
      have HR5 := hide ((unhide HC).below _ _ (unhide HR4) hb5)
      have HB5 := hide ((unhide HB4).trans (hb5.mono (unhide HB4).size))
      obtain ⟨B1, r1, c1, rfl, q1, t1, _, g1⟩ := (unhide HO4).row (unhide HM4).1.1
      have l1 : B1 < w4.heap.size := g1.lt
      have G1 := hide (g1.below hb5)
      clear hO5 hM5 hb5 HR4 HI4 HO4 HB4 g1
      go_wp2_with fail
      refine ((unhide HC).there_ w5 _ a (unhide HR5) (unhide HI5).fx (unhide P_a)).mono ?_
      rintro e w6 ⟨v6, t, rfl, hO6, hM6, hb6⟩
      have HO4'' := hide ((unhide HO4').below hb6)
      have HO5' := hide ((unhide HO5).below hb6)
      have HI6 := hide ((unhide HI5).below hb6)
      have HR6 := hide ((unhide HC).below _ _ (unhide HR5) hb6)
      have HB6 := hide ((unhide HB5).trans (hb6.mono (unhide HB5).size))
      obtain ⟨B2, r2, c2, rfl, q2, t2, _, g2⟩ := (unhide HO5).row (unhide HM5).1.1
      have l2 : B2 < w5.heap.size := g2.lt
      obtain ⟨B3, r3, c3, rfl, q3, t3, _, g3⟩ := hO6.row hM6.1.1
      have HT6 : Hid (Three wo B1 B2 B3 r1 r2 r3 p s t w6) := ⟨(unhide G1).below hb6, g2.below hb6, g3, (unhide HM4).1.1, (unhide HM5).1.1, hM6.1.1, unhide HB6⟩
      clear hO6 hM6 hb6 HR5 HI5 HO4' HO5 HB5 g2 g3 G1 HB6
      go_wp2_with fail
      refine (refAdd_any w6 _ _ a b (unhide HI6).fa (unhide HI6).fb (unhide P_a) (unhide P_b)).mono ?_
      rintro e w7 ⟨v7, s7, rfl, hO7, hM7, hb7⟩
      obtain rfl := isAdd_unique (unhide HM5) hM7
      have HO7 := hide hO7
      have HO5'' := hide ((unhide HO5').below hb7)
      have HO4a := hide ((unhide HO4'').below hb7)
      have HI7 := hide ((unhide HI6).below hb7)
      have HR7 := hide ((unhide HC).below _ _ (unhide HR6) hb7)
      have HT7 : Hid (Three wo B1 B2 B3 r1 r2 r3 p s t w7) := ⟨(unhide HT6).p.below hb7, (unhide HT6).s.below hb7, (unhide HT6).t.below hb7, (unhide HT6).lp, (unhide HT6).ls, (unhide HT6).lt, (unhide HT6).bel.trans (hb7.mono (unhide HT6).bel.size)⟩
      clear hO7 hM7 hb7 HO4'' HO5' HI6 HR6 HT6
      go_wp2_with fail
      refine (same_eq w7 _ _ _ (unhide HO5'').bytes (unhide HO7).bytes (by have := (unhide HM5).1.1; omega)).mono ?_
      rintro e w8 ⟨rfl, hb8⟩
      have HO4b := hide ((unhide HO4a).below hb8)
      have HI8 := hide ((unhide HI7).below hb8)
      have HR8 := hide ((unhide HC).below _ _ (unhide HR7) hb8)
      have HT8 : Hid (Three wo B1 B2 B3 r1 r2 r3 p s t w8) := ⟨(unhide HT7).p.below hb8, (unhide HT7).s.below hb8, (unhide HT7).t.below hb8, (unhide HT7).lp, (unhide HT7).ls, (unhide HT7).lt, (unhide HT7).bel.trans (hb8.mono (unhide HT7).bel.size)⟩
      clear hb8 HO4a HO5'' HO7 HI7 HR7 HT7
      by_cases hk0 : k = 0
      · subst hk0
        have HTZ := HT8
        clear HT8 HO4b HI8 HR8
        go_wp2
        go_loopw [77] (fun i wq => ∃ (j : Nat) (m1 m2 m3 : List Int), j ≤ 256 ∧ i = .int .i64 (j : Int) ∧ Three wo B1 B2 B3 r1 r2 r3 m1 m2 m3 wq) (fun i _ => 256 - (intOf i).toNat)
        case atStart => exact ⟨0, _, _, _, by omega, rfl, unhide HTZ⟩
        case round =>
          obtain ⟨j, m1, m2, m3, hj, rfl, hT⟩ := hrel
          clear HTZ
          by_cases hjl : j < 256
          · have HS := hide (hT.step j hjl q1 (by omega) (by omega))
            have e1 := hT.p.cell j (by rw [hT.lp]; exact hjl)
            have f1 := hT.p.frozen j
            obtain ⟨X1, hX1⟩ : ∃ X, wr.setCell ⟨B1, j, none⟩ (.int .i64 1) = X := ⟨_, rfl⟩
            have e2 : X1.cell? ⟨B2, j, none⟩ = some (.int .i64 (coef m2 j)) := by rw [← hX1]; exact (hT.s.other _ _ (by show B2 ≠ B1; omega)).cell j (by rw [hT.ls]; exact hjl)
            have f2 : X1.frozen? ⟨B2, j, none⟩ = false := by rw [← hX1]; exact (hT.s.other _ _ (by show B2 ≠ B1; omega)).frozen j
            obtain ⟨X2, hX2⟩ : ∃ X, X1.setCell ⟨B2, j, none⟩ (.int .i64 2) = X := ⟨_, rfl⟩
            have e3 : X2.cell? ⟨B3, j, none⟩ = some (.int .i64 (coef m3 j)) := by rw [← hX2, ← hX1]; exact ((hT.t.other _ _ (by show B3 ≠ B1; omega)).other _ _ (by show B3 ≠ B2; omega)).cell j (by rw [hT.lt]; exact hjl)
            have f3 : X2.frozen? ⟨B3, j, none⟩ = false := by rw [← hX2, ← hX1]; exact ((hT.t.other _ _ (by show B3 ≠ B1; omega)).other _ _ (by show B3 ≠ B2; omega)).frozen j
            rw [hX1, hX2] at HS
            have j0 : (0 : Int) ≤ (j : Int) := by omega
            have j1 : (j : Int) < 256 := by omega
            generalize coef m1 j = z1 at e1
            generalize coef m2 j = z2 at e2
            generalize coef m3 j = z3 at e3
            clear hT
            go_wp2
            go_roundw
            case rel =>
              first
                | exact ⟨j + 1, _, _, _, by omega, by go_num, unhide HS⟩
                | ((repeat apply Exists.intro); exact ⟨⟨j + 1, _, _, _, by omega, by go_num, unhide HS⟩, rfl⟩)
            case measure => simp [intOf]; omega
          · obtain rfl : j = 256 := by omega
            have HIE := hide ((unhide HI).below hT.bel)
            have HRE := hide ((unhide HC).below _ _ (unhide HRR) hT.bel)
            clear hT
            go_wp2
            go_roundw
            case rel =>
              first
                | exact ⟨0 + 1, by omega, by go_num, HIE, HRE⟩
                | ((repeat apply Exists.intro); exact ⟨⟨0 + 1, by omega, by go_num, HIE, HRE⟩, rfl⟩)
            case measure => simp [intOf]
      · obtain rfl : k = 1 := by omega
        go_wp2_with fail
        refine (refMul_any w8 _ _ a b (unhide HI8).fa (unhide HI8).fb (unhide P_a) (unhide P_b)).mono ?_
        rintro e w9 ⟨v9, p9, rfl, hO9, hM9, hb9⟩
        obtain rfl := isMul_unique (unhide HM4) hM9
        have HO9 := hide hO9
        have HO4c := hide ((unhide HO4b).below hb9)
        have HT9 : Hid (Three wo B1 B2 B3 r1 r2 r3 p s t w9) := ⟨(unhide HT8).p.below hb9, (unhide HT8).s.below hb9, (unhide HT8).t.below hb9, (unhide HT8).lp, (unhide HT8).ls, (unhide HT8).lt, (unhide HT8).bel.trans (hb9.mono (unhide HT8).bel.size)⟩
        clear hO9 hM9 hb9 HO4b HI8 HR8 HT8
        go_wp2_with fail
        refine (same_eq w9 _ _ _ (unhide HO4c).bytes (unhide HO9).bytes (by have := (unhide HM4).1.1; omega)).mono ?_
        rintro e w10 ⟨rfl, hb10⟩
        have HTZ : Hid (Three wo B1 B2 B3 r1 r2 r3 p s t w10) := ⟨(unhide HT9).p.below hb10, (unhide HT9).s.below hb10, (unhide HT9).t.below hb10, (unhide HT9).lp, (unhide HT9).ls, (unhide HT9).lt, (unhide HT9).bel.trans (hb10.mono (unhide HT9).bel.size)⟩
        clear hb10 HO4c HO9 HT9
        go_wp2
        go_loopw [77] (fun i wq => ∃ (j : Nat) (m1 m2 m3 : List Int), j ≤ 256 ∧ i = .int .i64 (j : Int) ∧ Three wo B1 B2 B3 r1 r2 r3 m1 m2 m3 wq) (fun i _ => 256 - (intOf i).toNat)
        case atStart => exact ⟨0, _, _, _, by omega, rfl, unhide HTZ⟩
        case round =>
          obtain ⟨j, m1, m2, m3, hj, rfl, hT⟩ := hrel
          clear HTZ
          by_cases hjl : j < 256
          · have HS := hide (hT.step j hjl q1 (by omega) (by omega))
            have e1 := hT.p.cell j (by rw [hT.lp]; exact hjl)
            have f1 := hT.p.frozen j
            obtain ⟨X1, hX1⟩ : ∃ X, wr.setCell ⟨B1, j, none⟩ (.int .i64 1) = X := ⟨_, rfl⟩
            have e2 : X1.cell? ⟨B2, j, none⟩ = some (.int .i64 (coef m2 j)) := by rw [← hX1]; exact (hT.s.other _ _ (by show B2 ≠ B1; omega)).cell j (by rw [hT.ls]; exact hjl)
            have f2 : X1.frozen? ⟨B2, j, none⟩ = false := by rw [← hX1]; exact (hT.s.other _ _ (by show B2 ≠ B1; omega)).frozen j
            obtain ⟨X2, hX2⟩ : ∃ X, X1.setCell ⟨B2, j, none⟩ (.int .i64 2) = X := ⟨_, rfl⟩
            have e3 : X2.cell? ⟨B3, j, none⟩ = some (.int .i64 (coef m3 j)) := by rw [← hX2, ← hX1]; exact ((hT.t.other _ _ (by show B3 ≠ B1; omega)).other _ _ (by show B3 ≠ B2; omega)).cell j (by rw [hT.lt]; exact hjl)
            have f3 : X2.frozen? ⟨B3, j, none⟩ = false := by rw [← hX2, ← hX1]; exact ((hT.t.other _ _ (by show B3 ≠ B1; omega)).other _ _ (by show B3 ≠ B2; omega)).frozen j
            rw [hX1, hX2] at HS
            have j0 : (0 : Int) ≤ (j : Int) := by omega
            have j1 : (j : Int) < 256 := by omega
            generalize coef m1 j = z1 at e1
            generalize coef m2 j = z2 at e2
            generalize coef m3 j = z3 at e3
            clear hT
            go_wp2
            go_roundw
            case rel =>
              first
                | exact ⟨j + 1, _, _, _, by omega, by go_num, unhide HS⟩
                | ((repeat apply Exists.intro); exact ⟨⟨j + 1, _, _, _, by omega, by go_num, unhide HS⟩, rfl⟩)
            case measure => simp [intOf]; omega
          · obtain rfl : j = 256 := by omega
            have HIE := hide ((unhide HI).below hT.bel)
            have HRE := hide ((unhide HC).below _ _ (unhide HRR) hT.bel)
            clear hT
            go_wp2
            go_roundw
            case rel =>
              first
                | exact ⟨1 + 1, by omega, by go_num, HIE, HRE⟩
                | ((repeat apply Exists.intro); exact ⟨⟨1 + 1, by omega, by go_num, HIE, HRE⟩, rfl⟩)
            case measure => simp [intOf]
    · obtain rfl : k = 2 := by omega
      go_wp2_with fail
      refine (same_eq wo _ _ _ (unhide HI).fx (unhide HI).fa (by have := (unhide P_a).1; omega)).mono ?_
      rintro e w4 ⟨rfl, hb4⟩
      have HI4 := hide ((unhide HI).below hb4)
      clear hb4 HI HRR
      go_wp2_with fail
      refine (same_eq w4 _ _ _ (unhide HI4).fy (unhide HI4).fb (by have := (unhide P_b).1; omega)).mono ?_
      rintro e w5 ⟨rfl, hb5⟩
      have HI5 := hide ((unhide HI4).below hb5)
      clear hb5 HI4
      go_wp2
      go_ret
      exact ⟨rfl, (unhide HI5).bel⟩
set_option maxRecDepth 100000 in
set_option maxHeartbeats 2000000 in
theorem ringOwn_any {R : World → Prop} (C : Ring R) (w : World) (hR : R w) (spa spb : Option Addr) (ca cb : Nat) (a b : List Int) (ha : IntsAt w (.slice spa a.length ca) a) (hb : IntsAt w (.slice spb b.length cb) b) (la : a.length ≤ 4611686018427387904) (lb : b.length ≤ 4611686018427387904) :
    Calls Try.prog 3 #[.slice spa a.length ca, .slice spb b.length cb] w fun e w' => e = .returned (.bool true) ∧ Below w.heap.size w w' := by
  by_cases pa : Poly a
  · by_cases pb : Poly b
    · exact own_main C w hR spa spb ca cb a b ha hb pa pb
    · have va := validB_true pa
      have vb := validB_false pb
      clear pa pb
      have HC := hide C
      have HR := hide hR
      have I_a := hide ha
      have I_b := hide hb
      clear C hR ha hb
      go_enter Try.func3, Try.ntmps3
      go_wp2_with fail
      refine (anchor_any (unhide HC) w (unhide HR)).mono ?_
      rintro e w1 ⟨rfl, hb1⟩
      have J_a := hide ((unhide I_a).below hb1)
      have J_b := hide ((unhide I_b).below hb1)
      have HB1 := hide hb1
      clear hb1
      go_wp2_with fail
      refine (valid_any w1 _ a (unhide J_a) la).mono ?_
      rw [va]
      rintro e w1 ⟨rfl, rfl⟩
      go_wp2_with fail
      refine (valid_any w1 _ b (unhide J_b) lb).mono ?_
      rw [vb]
      rintro e w1 ⟨rfl, rfl⟩
      go_wp2
      go_ret
      exact ⟨rfl, unhide HB1⟩
  · have va := validB_false pa
    clear pa
    have HC := hide C
    have HR := hide hR
    have I_a := hide ha
    clear C hR ha hb
    go_enter Try.func3, Try.ntmps3
    go_wp2_with fail
    refine (anchor_any (unhide HC) w (unhide HR)).mono ?_
    rintro e w1 ⟨rfl, hb1⟩
    have J_a := hide ((unhide I_a).below hb1)
    have HB1 := hide hb1
    clear hb1
    go_wp2_with fail
    refine (valid_any w1 _ a (unhide J_a) la).mono ?_
    rw [va]
    rintro e w1 ⟨rfl, rfl⟩
    go_wp2
    go_ret
    exact ⟨rfl, unhide HB1⟩
end Go.Proofs.Ytfjolaekenmefab
