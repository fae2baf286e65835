/-
  The walk of the landed reader.storey, to its end.
-/
import Derived.Test.YtlhjifdahagkaaaDoorM16
namespace Go.Proofs.YtlhjifdahagkaaaDoor
open Go.RowKit
theorem grown_from {a b c : World} {g P : Nat} (h1 : a.grownBy b (some g)) (h2 : b.grownBy c (some P)) (hP : a.heap.size ≤ P) : a.grownBy c (some g) :=
  ⟨h2.os.trans h1.os, h2.tape.trans h1.tape, h2.output.trans h1.output, Nat.le_trans h1.size h2.size, fun i hi hne => (h2.block i (Nat.lt_of_lt_of_le hi h1.size) (by simp; omega)).trans (h1.block i hi hne)⟩
theorem RdAt.kept {a b : World} {g P : Nat} {r : Rd} {cs : Array Value} {t : TypeId} {fr : Nat × Nat} (h : RdAt a g r) (hG : a.grownBy b (some P)) (hne : g ≠ P) (hz : a.heap[P]? = some (.cells cs t fr)) (hn : ∀ (j : Nat) (v : Value), cs[j]? = some v → ∀ z, v ≠ .int .u8 z) : RdAt b g r := by
  obtain ⟨sr, nr, cr, hh1, hh2⟩ := h
  exact ⟨sr, nr, cr, (hG.block g (Array.getElem?_eq_some_iff.1 hh1).1 (by simpa using hne)).trans hh1, hh2.keep hG (fun hl => agg_apart hz hn hh2 hl)⟩
set_option maxRecDepth 100000 in
set_option maxHeartbeats 16000000 in
theorem storey_ok (w0 : World) (hW : WidAt w0) (g : Nat) (hg : 0 ≠ g) (r r1 r2 r3 r4 r5 : Rd) (q v wd hvv : Nat) (hr : RdAt w0 g r) (hl : r.l.length ≤ 100000) (S : Sto r q v r1 r2) (hv : wOf v = wd ∧ 0 < wd) (Q : tkR r2 32 = r3 ∧ tkR r3 (32 * pW wd) = r4) (Q5 : numB (tk r4 4) = hvv ∧ tkR r4 4 = r5) (h : Nat) (hh : hOf hvv = h ∧ 0 < h) :
    Calls Tryd.prog 64 #[.pointer (some ⟨g, 0, none⟩)] w0 fun e w' => ∃ xc xp xb, e = .returned (.tuple #[.agg #[.int .i64 (h : Int), .int .i64 (wd : Int), .int .i64 (tyW wd : Int), .int .i64 (pW wd : Int), .int .i64 (lsW wd : Int), .int .i64 (q : Int), xc, xp, xb, .slice none 0 0], .bool (decide (q < 2 ^ h))]) ∧ BytesAt w' xc (tk r2 32) ∧ BytesAt w' xp (tk r3 (32 * pW wd)) ∧ BytesAt w' xb (tk r5 (32 * h)) ∧ RdAt w' g (tkR r5 (32 * h)) ∧ w0.grownBy w' (some g) := by
  have hh6 := hkind_yes w0 hvv h hh.1 hh.2
  have hHk := fun w => (hkind_yes w hvv h hh.1 hh.2).2.2
  have hb6 : h ≤ 6 := hh6.2.1
  have HLv := fun w (a b c d : Int) => leaves_c w h hb6 a b c d
  obtain ⟨N, hN⟩ : ∃ N, 2 ^ h = N := ⟨_, rfl⟩
  rw [hN] at HLv
  rw [hN]
  obtain ⟨okb, hokb⟩ : ∃ okb, decide (q < N) = okb := ⟨_, rfl⟩
  have hokb2 : decide ((q : Int) < (N : Int)) = okb := by rw [← hokb]; simp
  have Hok := hide (And.intro hokb hokb2)
  rw [hokb]
  obtain ⟨bb, hbb⟩ : ∃ bb, 32 * h = bb := ⟨_, rfl⟩
  rw [hbb]
  have hbbi : (32 : Int) * (h : Int) = (bb : Int) := by omega
  have bbw : IntKind.i64.wrap (bb : Int) = (bb : Int) := IntWalk.i64_in _ (by omega)
  have hbI : (h : Int) ≤ 6 := by omega
  have HLvh := hide HLv
  have Hhk := hide hHk
  clear hh6 hHk hN HLv hh hbb hokb
  have hW4 : IsW wd := (wkind_yes w0 hW v wd hv.1 hv.2).1
  have hp2 := p_w hW4
  have hl3 : r3.l.length ≤ 100000 := by rw [← Q.1, ← S.q2, ← S.q1]; exact Nat.le_trans (len_tkR _ _) (Nat.le_trans (len_tkR _ _) (Nat.le_trans (len_tkR _ _) hl))
  have hl4 : r4.l.length ≤ 100000 := by rw [← Q.2]; exact Nat.le_trans (len_tkR _ _) hl3
  have hl5 : r5.l.length ≤ 100000 := by rw [← Q5.2]; exact Nat.le_trans (len_tkR _ _) hl4
  obtain ⟨t, Htt⟩ : ∃ t : Int, Hid ((tyW wd : Int) = t) := ⟨_, rfl⟩
  obtain ⟨p, hpe⟩ : ∃ p, pW wd = p := ⟨_, rfl⟩
  obtain ⟨s, Hss⟩ : ∃ s : Int, Hid ((lsW wd : Int) = s) := ⟨_, rfl⟩
  rw [hpe] at Q hp2
  rw [hpe]
  obtain ⟨pp, hppe⟩ : ∃ pp, 32 * p = pp := ⟨_, rfl⟩
  rw [hppe] at Q
  rw [hppe]
  have Hpp := hide hpe
  have Hq := hide Q
  have Hq5 := hide Q5
  have hppi : (32 : Int) * (p : Int) = (pp : Int) := by omega
  have ppw : IntKind.i64.wrap (pp : Int) = (pp : Int) := IntWalk.i64_in _ (by omega)
  have pb : (p : Int) ≤ 265 := by omega
  rw [unhide Htt, unhide Hss]
  clear hpe Q Q5 hW4
  obtain ⟨e1, q1, e2, q2⟩ := S
  have hl1 : r1.l.length ≤ 100000 := by rw [← q1]; exact Nat.le_trans (len_tkR _ _) hl
  have hl2 : r2.l.length ≤ 100000 := by rw [← q2]; exact Nat.le_trans (len_tkR _ _) hl1
  have hbA : Below w0.heap.size w0 (w0.alloc (.cells #[.int .i64 0, .int .i64 0, .int .i64 0, .int .i64 0, .int .i64 0, .int .i64 0, .slice none 0 0, .slice none 0 0, .slice none 0 0, .slice none 0 0] 79)) := (Below.refl _ _).alloc (Nat.le_refl _) _
  have hZ := heap_alloc_new w0 (.cells #[.int .i64 0, .int .i64 0, .int .i64 0, .int .i64 0, .int .i64 0, .int .i64 0, .slice none 0 0, .slice none 0 0, .slice none 0 0, .slice none 0 0] 79)
  obtain ⟨wA, hwA⟩ : ∃ wA, w0.alloc (.cells #[.int .i64 0, .int .i64 0, .int .i64 0, .int .i64 0, .int .i64 0, .int .i64 0, .slice none 0 0, .slice none 0 0, .slice none 0 0, .slice none 0 0] 79) = wA := ⟨_, rfl⟩
  rw [hwA] at hbA hZ
  have hne0 : w0.heap.size ≠ g := by have := hr.lt; omega
  have hWA := wid4 w0 hW wA hbA
  have hGA : w0.grownBy wA (some g) := grown_below (World.grownBy.refl _ _) hbA
  have Hn1 := hide (rdnum_c wA g r (hr.below hbA) hl)
  rw [e1, q1] at Hn1
  have HZA := hide hZ
  have HWA := hide hWA
  have HGA := hide hGA
  have Hv := hide hv
  have He2 := hide (And.intro e2 q2)
  clear hr hbA hZ hWA hGA hW e1 q1 e2 q2 hv
  go_enter Tryd.func64, Tryd.ntmps64
  go_wp2_with fail
  refine (unhide Hn1).mono ?_
  rintro e w1 ⟨rfl, hR1, hG1⟩
  have Hn2 := hide (rdnum_c w1 g r1 hR1 hl1)
  rw [(unhide He2).1, (unhide He2).2] at Hn2
  have HG1 := hide (grown_trans (unhide HGA) hG1)
  have HZ1 := hide ((hG1.block _ (Array.getElem?_eq_some_iff.1 (unhide HZA)).1 (by simpa using hne0)).trans (unhide HZA))
  have HW1 := hide (wid_grown (unhide HWA) hG1 hg)
  clear hR1 hG1 hwA Hn1
  go_wp2_with fail
  refine (unhide Hn2).mono ?_
  rintro e w2 ⟨rfl, hR2, hG2⟩
  have HR2 := hide hR2
  have HG2 := hide (grown_trans (unhide HG1) hG2)
  have HZ2 := hide ((hG2.block _ (Array.getElem?_eq_some_iff.1 (unhide HZ1)).1 (by simpa using hne0)).trans (unhide HZ1))
  have HW2 := hide (wid_grown (unhide HW1) hG2 hg)
  clear hR2 hG2 Hn2
  go_wp2_with fail
  refine ((wkind_yes w2 (unhide HW2) v wd (unhide Hv).1 (unhide Hv).2).2).mono ?_
  rw [unhide Htt, unhide Hpp, unhide Hss]
  rintro e w3 ⟨rfl, hb3⟩
  have hb4 : Below w3.heap.size w3 (w3.alloc (.cells #[.int .i64 (wd : Int), .int .i64 t, .int .i64 (p : Int), .int .i64 s] 52)) := (Below.refl _ _).alloc (Nat.le_refl _) _
  have hK4 := agg_new w3 [.int .i64 (wd : Int), .int .i64 t, .int .i64 (p : Int), .int .i64 s] 52
  obtain ⟨w4, hw4⟩ : ∃ w4, w3.alloc (.cells #[.int .i64 (wd : Int), .int .i64 t, .int .i64 (p : Int), .int .i64 s] 52) = w4 := ⟨_, rfl⟩
  rw [hw4] at hb4 hK4
  have hb24 := hb3.trans (hb4.mono hb3.size)
  have HR4 := hide ((unhide HR2).below hb24)
  have HG4 := hide (grown_below (unhide HG2) hb24)
  have HZ4 := hide ((hb24.block _ (Array.getElem?_eq_some_iff.1 (unhide HZ2)).1).trans (unhide HZ2))
  obtain ⟨K4, hK4e⟩ : ∃ K4, w3.heap.size = K4 := ⟨_, rfl⟩
  rw [hK4e] at hK4
  have hneK : K4 ≠ g := by have h1 := (unhide HR2).lt; have h2 := hb3.size; omega
  have hneA : K4 ≠ w0.heap.size := by have h1 := (Array.getElem?_eq_some_iff.1 (unhide HZ2)).1; have h2 := hb3.size; omega
  have HK4 := hide hK4
  have k2 := hK4.c 2 _ rfl
  have HR4d := hide ((unhide HR4).below (Below.refl _ _).drew)
  have HGd : Hid (w4.grownBy w4.drew (some g)) := hide (World.grownBy.refl w4 (some g)).drew
  clear hb3 hb4 hK4 hb24
  go_wp2
  go_region_held3 (fun w' => w'.cell? ⟨K4, 2, none⟩ = some (.int .i64 (p : Int))) (go_keep)
    ((first
      | (go_at_call_of 63 (Value.int IntKind.i64 32); refine (take_c _ g r2 32 (unhide HR4d) hl2).mono ?_; rintro e w5 ⟨v5, rfl, hV5, hR5, hG5⟩; obtain ⟨s3, n3, c3, rfl⟩ := hV5.forms; have HV5 := hide hV5; have HR5 := hide hR5; have HG5 : Hid (w4.grownBy w5 (some g)) := hide (grown_trans (unhide HGd) hG5); have m2 := ((unhide HK4).grown (unhide HG5) hneK).c 2 _ rfl; clear hV5 hR5 hG5)
      | (go_at_call_of 63 (Value.int IntKind.i64 (pp : Int)); refine (take_c _ g (tkR r2 32) pp (unhide HR5) (by rw [(unhide Hq).1]; exact hl3)).mono ?_; rintro e w6 ⟨v6, rfl, hV6, hR6, hG6⟩; obtain ⟨s4, n4, c4, rfl⟩ := hV6.forms; have HV6 := hide hV6; have HR6 := hide hR6; have HV56 := hide ((unhide HR5).keep hG6 (unhide HV5)); have HG6 : Hid (w4.grownBy w6 (some g)) := hide (grown_trans (unhide HG5) hG6); have n2 := ((unhide HK4).grown (unhide HG6) hneK).c 2 _ rfl; clear hV6 hR6 hG6)))
  rw [(unhide Hq).1] at HV6 HR6
  rw [(unhide Hq).2] at HR6
  have Hn7 := hide (rdnum_c w6 g r4 (unhide HR6) hl4)
  rw [(unhide Hq5).1, (unhide Hq5).2] at Hn7
  clear m2 n2 k2 HR4d HGd
  go_wp2_with fail
  refine (unhide Hn7).mono ?_
  rintro e w7 ⟨rfl, hR7, hG7⟩
  have HR7 := hide hR7
  have HV57 := hide ((unhide HR6).keep hG7 (unhide HV56))
  have HV67 := hide ((unhide HR6).keep hG7 (unhide HV6))
  have HG7' := hide (grown_trans (unhide HG6) hG7)
  have HG7 := hide (grown_trans (unhide HG4) (unhide HG7'))
  have HZ7 := hide (((unhide HG7').block _ (Array.getElem?_eq_some_iff.1 (unhide HZ4)).1 (by simpa using hne0)).trans (unhide HZ4))
  have HK7 := hide ((unhide HK4).grown (unhide HG7') hneK)
  clear hR7 hG7 Hn7
  go_wp2_with fail
  refine ((unhide Hhk) w7).mono ?_
  rintro e w7' ⟨rfl, hw7⟩
  replace hw7 := hw7.symm
  subst hw7
  have HR7d := hide ((unhide HR7).below (Below.refl _ _).drew)
  have HV5d := hide ((unhide HV57).below (Below.refl _ _).drew)
  have HV6d := hide ((unhide HV67).below (Below.refl _ _).drew)
  have hba : Below w7.heap.size w7 (w7.alloc (.cells #[.int .i64 0, .int .i64 0, .int .i64 0, .int .i64 0, .int .i64 0, .int .i64 0, .slice none 0 0, .slice none 0 0, .slice none 0 0, .slice none 0 0] 79)).drew := ((Below.refl w7.heap.size w7).alloc (Nat.le_refl _) (.cells #[.int .i64 0, .int .i64 0, .int .i64 0, .int .i64 0, .int .i64 0, .int .i64 0, .slice none 0 0, .slice none 0 0, .slice none 0 0, .slice none 0 0] 79)).drew
  have HR7a := hide ((unhide HR7).below hba)
  have HV5a := hide ((unhide HV57).below hba)
  have HV6a := hide ((unhide HV67).below hba)
  have HGd : Hid (w7.grownBy w7.drew (some g)) := hide (World.grownBy.refl w7 (some g)).drew
  have HGa : Hid (w7.grownBy (w7.alloc (.cells #[.int .i64 0, .int .i64 0, .int .i64 0, .int .i64 0, .int .i64 0, .int .i64 0, .slice none 0 0, .slice none 0 0, .slice none 0 0, .slice none 0 0] 79)).drew (some g)) := hide (grown_below (World.grownBy.refl w7 (some g)) hba)
  have hgl := (unhide HR7).lt
  have hAl := (Array.getElem?_eq_some_iff.1 (unhide HZ7)).1
  have hKl := (unhide HK7).1
  have h07 := (unhide HG7).size
  obtain ⟨P1, hP1⟩ : ∃ P1, w7.heap.size = P1 := ⟨_, rfl⟩
  have HP1 := hide hP1
  have hneP1 : K4 ≠ P1 := by omega
  have k0 := (unhide HK7).c 0 _ rfl
  have k1 := (unhide HK7).c 1 _ rfl
  have k2 := (unhide HK7).c 2 _ rfl
  have k3 := (unhide HK7).c 3 _ rfl
  clear hba
  go_wp2
  go_region_held3 (fun w' => w'.cell? ⟨K4, 0, none⟩ = some (.int .i64 (wd : Int)) ∧ w'.cell? ⟨K4, 1, none⟩ = some (.int .i64 t) ∧ w'.cell? ⟨K4, 2, none⟩ = some (.int .i64 (p : Int)) ∧ w'.cell? ⟨K4, 3, none⟩ = some (.int .i64 s)) ((first | go_keep | (simp (disch := assumption) only [cell_other, nn0, nn1, nn2, nn3, and_self])))
    ((go_at_call 63; refine (take_c _ g r5 bb ?_ hl5).mono ?_; (first | exact unhide HR7d | exact unhide HR7a); rintro e w8 ⟨v8, rfl, hV8, hR8, hG8⟩; obtain ⟨s7, n7, c7, rfl⟩ := hV8.forms; have HV8 := hide hV8; have HR8 := hide hR8; have HG8 : Hid (w7.grownBy w8 (some g)) := (by first | exact grown_trans (unhide HGd) hG8 | exact grown_trans (unhide HGa) hG8); have HV58 : Hid (BytesAt w8 (.slice s3 n3 c3) (tk r2 32)) := (by first | exact (unhide HR7d).keep hG8 (unhide HV5d) | exact (unhide HR7a).keep hG8 (unhide HV5a)); have HV68 : Hid (BytesAt w8 (.slice s4 n4 c4) (tk r3 pp)) := (by first | exact (unhide HR7d).keep hG8 (unhide HV6d) | exact (unhide HR7a).keep hG8 (unhide HV6a)); have HK8 := hide ((unhide HK7).grown (unhide HG8) hneK); have nn0 := (unhide HK8).c 0 _ rfl; have nn1 := (unhide HK8).c 1 _ rfl; have nn2 := (unhide HK8).c 2 _ rfl; have nn3 := (unhide HK8).c 3 _ rfl; (try (have hz8 : w8.heap[w7.heap.size]? = some (.cells #[.int .i64 0, .int .i64 0, .int .i64 0, .int .i64 0, .int .i64 0, .int .i64 0, .slice none 0 0, .slice none 0 0, .slice none 0 0, .slice none 0 0] 79 (0, 0)) := (hG8.block _ (by simp) (by simp; omega)).trans (heap_alloc_new w7 _); have HZ8 := hide hz8; rw [unhide HP1] at hz8; have y0 : w8.cell? ⟨P1, 0, none⟩ = some (.int .i64 0) := cell_of_row w8 P1 0 _ 79 (0, 0) hz8; have y1 : w8.cell? ⟨P1, 1, none⟩ = some (.int .i64 0) := cell_of_row w8 P1 1 _ 79 (0, 0) hz8; have y2 : w8.cell? ⟨P1, 2, none⟩ = some (.int .i64 0) := cell_of_row w8 P1 2 _ 79 (0, 0) hz8; have y3 : w8.cell? ⟨P1, 3, none⟩ = some (.int .i64 0) := cell_of_row w8 P1 3 _ 79 (0, 0) hz8; have y4 : w8.cell? ⟨P1, 4, none⟩ = some (.int .i64 0) := cell_of_row w8 P1 4 _ 79 (0, 0) hz8; have y5 : w8.cell? ⟨P1, 5, none⟩ = some (.int .i64 0) := cell_of_row w8 P1 5 _ 79 (0, 0) hz8; have y6 : w8.cell? ⟨P1, 6, none⟩ = some (.slice none 0 0) := cell_of_row w8 P1 6 _ 79 (0, 0) hz8; have y7 : w8.cell? ⟨P1, 7, none⟩ = some (.slice none 0 0) := cell_of_row w8 P1 7 _ 79 (0, 0) hz8; have y8 : w8.cell? ⟨P1, 8, none⟩ = some (.slice none 0 0) := cell_of_row w8 P1 8 _ 79 (0, 0) hz8; have y9 : w8.cell? ⟨P1, 9, none⟩ = some (.slice none 0 0) := cell_of_row w8 P1 9 _ 79 (0, 0) hz8; have fy := fun j => AggAt.fz hz8 j; clear hz8)); clear hV8 hR8 hG8))
  · obtain ⟨P, hP⟩ : ∃ P, w8.heap.size = P := ⟨_, rfl⟩
    have hbl : Below w8.heap.size w8 (w8.alloc (.cells #[.int .i64 (h : Int), .int .i64 (wd : Int), .int .i64 t, .int .i64 (p : Int), .int .i64 s, .int .i64 (q : Int), .slice s3 n3 c3, .slice s4 n4 c4, .slice s7 n7 c7, .slice none 0 0] 79)) := (Below.refl _ _).alloc (Nat.le_refl _) _
    have HA := hide (agg_new w8 [.int .i64 (h : Int), .int .i64 (wd : Int), .int .i64 t, .int .i64 (p : Int), .int .i64 s, .int .i64 (q : Int), .slice s3 n3 c3, .slice s4 n4 c4, .slice s7 n7 c7, .slice none 0 0] 79)
    have HRd := hide ((unhide HR8).below hbl)
    have HV5' := hide ((unhide HV58).below hbl)
    have HV6' := hide ((unhide HV68).below hbl)
    have HV7' := hide ((unhide HV8).below hbl)
    have HZ' := hide ((hbl.block _ (Nat.lt_of_lt_of_le hAl (unhide HG8).size)).trans (((unhide HG8).block _ hAl (by simpa using hne0)).trans (unhide HZ7)))
    have HG' := hide (grown_below (grown_trans (unhide HG7) (unhide HG8)) hbl)
    have hPA : P ≠ w0.heap.size := by have := (unhide HG8).size; omega
    obtain ⟨W, hWe⟩ : ∃ W, w8.alloc (.cells #[.int .i64 (h : Int), .int .i64 (wd : Int), .int .i64 t, .int .i64 (p : Int), .int .i64 s, .int .i64 (q : Int), .slice s3 n3 c3, .slice s4 n4 c4, .slice s7 n7 c7, .slice none 0 0] 79) = W := ⟨_, rfl⟩
    rw [hWe] at HA HRd HV5' HV6' HV7' HZ' HG' ⊢
    rw [hP] at HA ⊢
    clear hbl hWe hP nn0 nn1 nn2 nn3 k0 k1 k2 k3
    have a0 := (unhide HA).c 0 _ rfl
    have a1 := (unhide HA).c 1 _ rfl
    have a2 := (unhide HA).c 2 _ rfl
    have a3 := (unhide HA).c 3 _ rfl
    have a4 := (unhide HA).c 4 _ rfl
    have a5 := (unhide HA).c 5 _ rfl
    have a6 := (unhide HA).c 6 _ rfl
    have a7 := (unhide HA).c 7 _ rfl
    have a8 := (unhide HA).c 8 _ rfl
    have a9 := (unhide HA).c 9 _ rfl
    have HAd := hide ((unhide HA).below (Below.refl _ _).drew)
    have hAlW := (Array.getElem?_eq_some_iff.1 (unhide HZ')).1
    go_wp2
    go_region_held3 (fun w' => w'.cell? ⟨P, 0, none⟩ = some (.int .i64 (h : Int)) ∧ w'.cell? ⟨P, 1, none⟩ = some (.int .i64 (wd : Int)) ∧ w'.cell? ⟨P, 2, none⟩ = some (.int .i64 t) ∧ w'.cell? ⟨P, 3, none⟩ = some (.int .i64 (p : Int)) ∧ w'.cell? ⟨P, 4, none⟩ = some (.int .i64 s) ∧ w'.cell? ⟨P, 5, none⟩ = some (.int .i64 (q : Int)) ∧ w'.cell? ⟨P, 6, none⟩ = some (.slice s3 n3 c3) ∧ w'.cell? ⟨P, 7, none⟩ = some (.slice s4 n4 c4) ∧ w'.cell? ⟨P, 8, none⟩ = some (.slice s7 n7 c7) ∧ w'.cell? ⟨P, 9, none⟩ = some (.slice none 0 0)) ((first | go_keep | (simp (disch := assumption) only [cell_other, e0, e1, e2, e3, e4, e5, e6, e7, e8, e9, and_self])))
      ((go_at_call 33; refine ((unhide HLvh) _ _ _ _ _).mono ?_; rintro ee w9 ⟨rfl, hb9⟩; have Hb9 := hide (below_left_drew hb9); have HA9 := hide ((unhide HAd).below hb9); have hz9 : w9.heap[w0.heap.size]? = some (.cells #[.int .i64 0, .int .i64 0, .int .i64 0, .int .i64 0, .int .i64 0, .int .i64 0, .slice none 0 0, .slice none 0 0, .slice none 0 0, .slice none 0 0] 79 (0, 0)) := (hb9.block _ hAlW).trans (unhide HZ'); have HZ9 := hide hz9; have e0 := (unhide HA9).c 0 _ rfl; have e1 := (unhide HA9).c 1 _ rfl; have e2 := (unhide HA9).c 2 _ rfl; have e3 := (unhide HA9).c 3 _ rfl; have e4 := (unhide HA9).c 4 _ rfl; have e5 := (unhide HA9).c 5 _ rfl; have e6 := (unhide HA9).c 6 _ rfl; have e7 := (unhide HA9).c 7 _ rfl; have e8 := (unhide HA9).c 8 _ rfl; have e9 := (unhide HA9).c 9 _ rfl; have z0 : w9.cell? ⟨w0.heap.size, 0, none⟩ = some (.int .i64 0) := cell_of_row w9 w0.heap.size 0 _ 79 (0, 0) hz9; have z1 : w9.cell? ⟨w0.heap.size, 1, none⟩ = some (.int .i64 0) := cell_of_row w9 w0.heap.size 1 _ 79 (0, 0) hz9; have z2 : w9.cell? ⟨w0.heap.size, 2, none⟩ = some (.int .i64 0) := cell_of_row w9 w0.heap.size 2 _ 79 (0, 0) hz9; have z3 : w9.cell? ⟨w0.heap.size, 3, none⟩ = some (.int .i64 0) := cell_of_row w9 w0.heap.size 3 _ 79 (0, 0) hz9; have z4 : w9.cell? ⟨w0.heap.size, 4, none⟩ = some (.int .i64 0) := cell_of_row w9 w0.heap.size 4 _ 79 (0, 0) hz9; have z5 : w9.cell? ⟨w0.heap.size, 5, none⟩ = some (.int .i64 0) := cell_of_row w9 w0.heap.size 5 _ 79 (0, 0) hz9; have z6 : w9.cell? ⟨w0.heap.size, 6, none⟩ = some (.slice none 0 0) := cell_of_row w9 w0.heap.size 6 _ 79 (0, 0) hz9; have z7 : w9.cell? ⟨w0.heap.size, 7, none⟩ = some (.slice none 0 0) := cell_of_row w9 w0.heap.size 7 _ 79 (0, 0) hz9; have z8 : w9.cell? ⟨w0.heap.size, 8, none⟩ = some (.slice none 0 0) := cell_of_row w9 w0.heap.size 8 _ 79 (0, 0) hz9; have z9 : w9.cell? ⟨w0.heap.size, 9, none⟩ = some (.slice none 0 0) := cell_of_row w9 w0.heap.size 9 _ 79 (0, 0) hz9; have fz := fun j => AggAt.fz hz9 j; clear hb9 hz9))
    have HGx := hide (grown10 w9 w0.heap.size (.int .i64 (h : Int)) (.int .i64 (wd : Int)) (.int .i64 t) (.int .i64 (p : Int)) (.int .i64 s) (.int .i64 (q : Int)) (.slice s3 n3 c3) (.slice s4 n4 c4) (.slice s7 n7 c7) (.slice none 0 0))
    have HF1 := hide (((unhide HV5').below (unhide Hb9)).keep (unhide HGx) (fun hl => agg_apart (unhide HZ9) zero10 ((unhide HV5').below (unhide Hb9)) hl))
    have HF2 := hide (((unhide HV6').below (unhide Hb9)).keep (unhide HGx) (fun hl => agg_apart (unhide HZ9) zero10 ((unhide HV6').below (unhide Hb9)) hl))
    have HF3 := hide (((unhide HV7').below (unhide Hb9)).keep (unhide HGx) (fun hl => agg_apart (unhide HZ9) zero10 ((unhide HV7').below (unhide Hb9)) hl))
    have HF4 := hide (((unhide HRd).below (unhide Hb9)).kept (unhide HGx) hne0.symm (unhide HZ9) zero10)
    have HF5 := hide (grown_from (grown_below (unhide HG') (unhide Hb9)) (unhide HGx) (Nat.le_refl _))
    go_wp2
    exact bodyPost_ret (v := .tuple #[.agg #[.int .i64 (h : Int), .int .i64 (wd : Int), .int .i64 t, .int .i64 (p : Int), .int .i64 s, .int .i64 (q : Int), .slice s3 n3 c3, .slice s4 n4 c4, .slice s7 n7 c7, .slice none 0 0], .bool okb]) (by simp [results, Tryd.results64, go_sem, z0, z1, z2, z3, z4, z5, z6, z7, z8, z9]; exact (unhide Hok).1) rfl ⟨_, _, _, rfl, unhide HF1, unhide HF2, unhide HF3, unhide HF4, unhide HF5⟩
  · obtain ⟨P, hP⟩ : ∃ P, P1 = P := ⟨_, rfl⟩
    rw [unhide HP1] at HZ8
    rw [hP] at HZ8 y0 y1 y2 y3 y4 y5 y6 y7 y8 y9 ⊢
    have hGP := grown10 w8 P (.int .i64 (h : Int)) (.int .i64 (wd : Int)) (.int .i64 t) (.int .i64 (p : Int)) (.int .i64 s) (.int .i64 (q : Int)) (.slice s3 n3 c3) (.slice s4 n4 c4) (.slice s7 n7 c7) (.slice none 0 0)
    have HA := hide (AggAt.of_heap (row10_set (unhide HZ8) (.int .i64 (h : Int)) (.int .i64 (wd : Int)) (.int .i64 t) (.int .i64 (p : Int)) (.int .i64 s) (.int .i64 (q : Int)) (.slice s3 n3 c3) (.slice s4 n4 c4) (.slice s7 n7 c7) (.slice none 0 0)))
    have hgP : g ≠ P := by omega
    have HRd := hide ((unhide HR8).kept hGP hgP (unhide HZ8) zero10)
    have HV5' := hide ((unhide HV58).keep hGP (fun hl => agg_apart (unhide HZ8) zero10 (unhide HV58) hl))
    have HV6' := hide ((unhide HV68).keep hGP (fun hl => agg_apart (unhide HZ8) zero10 (unhide HV68) hl))
    have HV7' := hide ((unhide HV8).keep hGP (fun hl => agg_apart (unhide HZ8) zero10 (unhide HV8) hl))
    have hAP : w0.heap.size ≠ P := by omega
    have HZ' := hide ((hGP.block _ (Nat.lt_of_lt_of_le hAl (unhide HG8).size) (by simpa using hAP)).trans (((unhide HG8).block _ hAl (by simpa using hne0)).trans (unhide HZ7)))
    have HG' := hide (grown_from (grown_trans (unhide HG7) (unhide HG8)) hGP (by omega))
    have hPA : P ≠ w0.heap.size := Ne.symm hAP
    obtain ⟨W, hWe⟩ : ∃ W, ((((((((((w8).setCell ⟨P, 0, none⟩ (.int .i64 (h : Int))).setCell ⟨P, 1, none⟩ (.int .i64 (wd : Int))).setCell ⟨P, 2, none⟩ (.int .i64 t)).setCell ⟨P, 3, none⟩ (.int .i64 (p : Int))).setCell ⟨P, 4, none⟩ (.int .i64 s)).setCell ⟨P, 5, none⟩ (.int .i64 (q : Int))).setCell ⟨P, 6, none⟩ (.slice s3 n3 c3)).setCell ⟨P, 7, none⟩ (.slice s4 n4 c4)).setCell ⟨P, 8, none⟩ (.slice s7 n7 c7)).setCell ⟨P, 9, none⟩ (.slice none 0 0) = W := ⟨_, rfl⟩
    rw [hWe] at HA HRd HV5' HV6' HV7' HZ' HG' ⊢
    clear hGP hWe y0 y1 y2 y3 y4 y5 y6 y7 y8 y9 fy hP nn0 nn1 nn2 nn3 k0 k1 k2 k3
    have a0 := (unhide HA).c 0 _ rfl
    have a1 := (unhide HA).c 1 _ rfl
    have a2 := (unhide HA).c 2 _ rfl
    have a3 := (unhide HA).c 3 _ rfl
    have a4 := (unhide HA).c 4 _ rfl
    have a5 := (unhide HA).c 5 _ rfl
    have a6 := (unhide HA).c 6 _ rfl
    have a7 := (unhide HA).c 7 _ rfl
    have a8 := (unhide HA).c 8 _ rfl
    have a9 := (unhide HA).c 9 _ rfl
    have HAd := hide ((unhide HA).below (Below.refl _ _).drew)
    have hAlW := (Array.getElem?_eq_some_iff.1 (unhide HZ')).1
    go_wp2
    go_region_held3 (fun w' => w'.cell? ⟨P, 0, none⟩ = some (.int .i64 (h : Int)) ∧ w'.cell? ⟨P, 1, none⟩ = some (.int .i64 (wd : Int)) ∧ w'.cell? ⟨P, 2, none⟩ = some (.int .i64 t) ∧ w'.cell? ⟨P, 3, none⟩ = some (.int .i64 (p : Int)) ∧ w'.cell? ⟨P, 4, none⟩ = some (.int .i64 s) ∧ w'.cell? ⟨P, 5, none⟩ = some (.int .i64 (q : Int)) ∧ w'.cell? ⟨P, 6, none⟩ = some (.slice s3 n3 c3) ∧ w'.cell? ⟨P, 7, none⟩ = some (.slice s4 n4 c4) ∧ w'.cell? ⟨P, 8, none⟩ = some (.slice s7 n7 c7) ∧ w'.cell? ⟨P, 9, none⟩ = some (.slice none 0 0)) ((first | go_keep | (simp (disch := assumption) only [cell_other, e0, e1, e2, e3, e4, e5, e6, e7, e8, e9, and_self])))
      ((go_at_call 33; refine ((unhide HLvh) _ _ _ _ _).mono ?_; rintro ee w9 ⟨rfl, hb9⟩; have Hb9 := hide (below_left_drew hb9); have HA9 := hide ((unhide HAd).below hb9); have hz9 : w9.heap[w0.heap.size]? = some (.cells #[.int .i64 0, .int .i64 0, .int .i64 0, .int .i64 0, .int .i64 0, .int .i64 0, .slice none 0 0, .slice none 0 0, .slice none 0 0, .slice none 0 0] 79 (0, 0)) := (hb9.block _ hAlW).trans (unhide HZ'); have HZ9 := hide hz9; have e0 := (unhide HA9).c 0 _ rfl; have e1 := (unhide HA9).c 1 _ rfl; have e2 := (unhide HA9).c 2 _ rfl; have e3 := (unhide HA9).c 3 _ rfl; have e4 := (unhide HA9).c 4 _ rfl; have e5 := (unhide HA9).c 5 _ rfl; have e6 := (unhide HA9).c 6 _ rfl; have e7 := (unhide HA9).c 7 _ rfl; have e8 := (unhide HA9).c 8 _ rfl; have e9 := (unhide HA9).c 9 _ rfl; have z0 : w9.cell? ⟨w0.heap.size, 0, none⟩ = some (.int .i64 0) := cell_of_row w9 w0.heap.size 0 _ 79 (0, 0) hz9; have z1 : w9.cell? ⟨w0.heap.size, 1, none⟩ = some (.int .i64 0) := cell_of_row w9 w0.heap.size 1 _ 79 (0, 0) hz9; have z2 : w9.cell? ⟨w0.heap.size, 2, none⟩ = some (.int .i64 0) := cell_of_row w9 w0.heap.size 2 _ 79 (0, 0) hz9; have z3 : w9.cell? ⟨w0.heap.size, 3, none⟩ = some (.int .i64 0) := cell_of_row w9 w0.heap.size 3 _ 79 (0, 0) hz9; have z4 : w9.cell? ⟨w0.heap.size, 4, none⟩ = some (.int .i64 0) := cell_of_row w9 w0.heap.size 4 _ 79 (0, 0) hz9; have z5 : w9.cell? ⟨w0.heap.size, 5, none⟩ = some (.int .i64 0) := cell_of_row w9 w0.heap.size 5 _ 79 (0, 0) hz9; have z6 : w9.cell? ⟨w0.heap.size, 6, none⟩ = some (.slice none 0 0) := cell_of_row w9 w0.heap.size 6 _ 79 (0, 0) hz9; have z7 : w9.cell? ⟨w0.heap.size, 7, none⟩ = some (.slice none 0 0) := cell_of_row w9 w0.heap.size 7 _ 79 (0, 0) hz9; have z8 : w9.cell? ⟨w0.heap.size, 8, none⟩ = some (.slice none 0 0) := cell_of_row w9 w0.heap.size 8 _ 79 (0, 0) hz9; have z9 : w9.cell? ⟨w0.heap.size, 9, none⟩ = some (.slice none 0 0) := cell_of_row w9 w0.heap.size 9 _ 79 (0, 0) hz9; have fz := fun j => AggAt.fz hz9 j; clear hb9 hz9))
    have HGx := hide (grown10 w9 w0.heap.size (.int .i64 (h : Int)) (.int .i64 (wd : Int)) (.int .i64 t) (.int .i64 (p : Int)) (.int .i64 s) (.int .i64 (q : Int)) (.slice s3 n3 c3) (.slice s4 n4 c4) (.slice s7 n7 c7) (.slice none 0 0))
    have HF1 := hide (((unhide HV5').below (unhide Hb9)).keep (unhide HGx) (fun hl => agg_apart (unhide HZ9) zero10 ((unhide HV5').below (unhide Hb9)) hl))
    have HF2 := hide (((unhide HV6').below (unhide Hb9)).keep (unhide HGx) (fun hl => agg_apart (unhide HZ9) zero10 ((unhide HV6').below (unhide Hb9)) hl))
    have HF3 := hide (((unhide HV7').below (unhide Hb9)).keep (unhide HGx) (fun hl => agg_apart (unhide HZ9) zero10 ((unhide HV7').below (unhide Hb9)) hl))
    have HF4 := hide (((unhide HRd).below (unhide Hb9)).kept (unhide HGx) hne0.symm (unhide HZ9) zero10)
    have HF5 := hide (grown_from (grown_below (unhide HG') (unhide Hb9)) (unhide HGx) (Nat.le_refl _))
    go_wp2
    exact bodyPost_ret (v := .tuple #[.agg #[.int .i64 (h : Int), .int .i64 (wd : Int), .int .i64 t, .int .i64 (p : Int), .int .i64 s, .int .i64 (q : Int), .slice s3 n3 c3, .slice s4 n4 c4, .slice s7 n7 c7, .slice none 0 0], .bool okb]) (by simp [results, Tryd.results64, go_sem, z0, z1, z2, z3, z4, z5, z6, z7, z8, z9]; exact (unhide Hok).1) rfl ⟨_, _, _, rfl, unhide HF1, unhide HF2, unhide HF3, unhide HF4, unhide HF5⟩
end Go.Proofs.YtlhjifdahagkaaaDoor
/-
  A signature cut into storeys, in plain words; the storeys in memory.
-/
namespace Go.Proofs.YtlhjifdahagkaaaDoor
open Go.RowKit
def sq (r : Rd) : Nat := numB (tk r 4)
def sv (r : Rd) : Nat := numB (tk (tkR r 4) 4)
def r2 (r : Rd) : Rd := tkR (tkR r 4) 4
def swd (r : Rd) : Nat := wOf (sv r)
def r3 (r : Rd) : Rd := tkR (r2 r) 32
def r4 (r : Rd) : Rd := tkR (r3 r) (32 * pW (swd r))
def shv (r : Rd) : Nat := numB (tk (r4 r) 4)
def r5 (r : Rd) : Rd := tkR (r4 r) 4
def sh (r : Rd) : Nat := hOf (shv r)
def r6 (r : Rd) : Rd := tkR (r5 r) (32 * sh r)
def scc (r : Rd) : Bs := tk (r2 r) 32
def sps (r : Rd) : Bs := tk (r3 r) (32 * pW (swd r))
def sbs (r : Rd) : Bs := tk (r5 r) (32 * sh r)
/-- Its numbers are those of a storey. -/
def Good (r : Rd) : Prop := 0 < swd r ∧ 0 < sh r ∧ sq r < 2 ^ sh r
instance (r : Rd) : Decidable (Good r) := by unfold Good; exact inferInstance
theorem len_r6 (r : Rd) : (r6 r).l.length ≤ r.l.length := by
  unfold r6 r5 r4 r3 r2
  exact Nat.le_trans (len_tkR _ _) (Nat.le_trans (len_tkR _ _) (Nat.le_trans (len_tkR _ _) (Nat.le_trans (len_tkR _ _) (Nat.le_trans (len_tkR _ _) (len_tkR _ _)))))
/-- A storey's cells. -/
def stc (r : Rd) (xc xp xb xw : Value) : List Value := [.int .i64 (sh r : Int), .int .i64 (swd r : Int), .int .i64 (tyW (swd r) : Int), .int .i64 (pW (swd r) : Int), .int .i64 (lsW (swd r) : Int), .int .i64 (sq r : Int), xc, xp, xb, xw]
theorem sto_yes (w0 : World) (hW : WidAt w0) (g : Nat) (hg : 0 ≠ g) (r : Rd) (hr : RdAt w0 g r) (hl : r.l.length ≤ 100000) (hG : Good r) :
    Calls Tryd.prog 64 #[.pointer (some ⟨g, 0, none⟩)] w0 fun e w' => ∃ xc xp xb, e = .returned (.tuple #[.agg #[.int .i64 (sh r : Int), .int .i64 (swd r : Int), .int .i64 (tyW (swd r) : Int), .int .i64 (pW (swd r) : Int), .int .i64 (lsW (swd r) : Int), .int .i64 (sq r : Int), xc, xp, xb, .slice none 0 0], .bool true]) ∧ BytesAt w' xc (scc r) ∧ BytesAt w' xp (sps r) ∧ BytesAt w' xb (sbs r) ∧ RdAt w' g (r6 r) ∧ w0.grownBy w' (some g) := by
  have h := storey_ok w0 hW g hg r (tkR r 4) (r2 r) (r3 r) (r4 r) (r5 r) (sq r) (sv r) (swd r) (shv r) hr hl ⟨rfl, rfl, rfl, rfl⟩ ⟨rfl, hG.1⟩ ⟨rfl, rfl⟩ ⟨rfl, rfl⟩ (sh r) ⟨rfl, hG.2.1⟩
  rw [show decide (sq r < 2 ^ sh r) = true by simpa using hG.2.2] at h
  exact h
/-- Where it isn't one: some cells, and false. -/
theorem sto_no (w0 : World) (hW : WidAt w0) (g : Nat) (hg : 0 ≠ g) (r : Rd) (hr : RdAt w0 g r) (hl : r.l.length ≤ 100000) (hG : ¬ Good r) :
    Calls Tryd.prog 64 #[.pointer (some ⟨g, 0, none⟩)] w0 fun e w' => ∃ (a b c d e' f : Int) (s1 s2 s3 s4 : Option Addr) (n1 n2 n3 n4 c1 c2 c3 c4 : Nat), e = .returned (.tuple #[.agg #[.int .i64 a, .int .i64 b, .int .i64 c, .int .i64 d, .int .i64 e', .int .i64 f, .slice s1 n1 c1, .slice s2 n2 c2, .slice s3 n3 c3, .slice s4 n4 c4], .bool false]) ∧ w0.grownBy w' (some g) := by
  by_cases h1 : swd r = 0
  · refine (storey_a w0 hW g hg r (tkR r 4) (r2 r) (sq r) (sv r) hr hl ⟨rfl, rfl, rfl, rfl⟩ h1).mono ?_
    rintro e w' ⟨rfl, _, h⟩
    exact ⟨0, 0, 0, 0, 0, 0, none, none, none, none, 0, 0, 0, 0, 0, 0, 0, 0, rfl, h⟩
  · by_cases h2 : sh r = 0
    · refine (storey_b w0 hW g hg r (tkR r 4) (r2 r) (r3 r) (r4 r) (r5 r) (sq r) (sv r) (swd r) (shv r) hr hl ⟨rfl, rfl, rfl, rfl⟩ ⟨rfl, by omega⟩ ⟨rfl, rfl⟩ ⟨rfl, rfl⟩ h2).mono ?_
      rintro e w' ⟨rfl, _, h⟩
      exact ⟨0, 0, 0, 0, 0, 0, none, none, none, none, 0, 0, 0, 0, 0, 0, 0, 0, rfl, h⟩
    · have h3 : decide (sq r < 2 ^ sh r) = false := by
        simp only [decide_eq_false_iff_not]
        exact fun h => hG ⟨by omega, by omega, h⟩
      have h := storey_ok w0 hW g hg r (tkR r 4) (r2 r) (r3 r) (r4 r) (r5 r) (sq r) (sv r) (swd r) (shv r) hr hl ⟨rfl, rfl, rfl, rfl⟩ ⟨rfl, by omega⟩ ⟨rfl, rfl⟩ ⟨rfl, rfl⟩ (sh r) ⟨rfl, by omega⟩
      rw [h3] at h
      refine h.mono ?_
      rintro e w' ⟨xc, xp, xb, rfl, b1, b2, b3, _, h⟩
      obtain ⟨s1, n1, c1, rfl⟩ := b1.forms
      obtain ⟨s2, n2, c2, rfl⟩ := b2.forms
      obtain ⟨s3, n3, c3, rfl⟩ := b3.forms
      exact ⟨_, _, _, _, _, _, s1, s2, s3, none, n1, n2, n3, 0, c1, c2, c3, 0, rfl, h⟩
/-- The reader ahead of the storey k of n. -/
def rr (n : Nat) (r : Rd) : Nat → Rd
  | 0 => r
  | k + 1 => if k + 1 < n then tkR (r6 (rr n r k)) 56 else r6 (rr n r k)
/-- What stands below it. -/
def bel (n : Nat) (r : Rd) (k : Nat) : Bs := if k + 1 < n then tk (r6 (rr n r k)) 56 else []
theorem len_rr (n : Nat) (r : Rd) : ∀ k, (rr n r k).l.length ≤ r.l.length
  | 0 => Nat.le_refl _
  | k + 1 => by
    rw [rr]
    split
    · exact Nat.le_trans (len_tkR _ _) (Nat.le_trans (len_r6 _) (len_rr n r k))
    · exact Nat.le_trans (len_r6 _) (len_rr n r k)
/-- The first m of n storeys lie in the block B. -/
def SAt (w : World) (B n m : Nat) (r : Rd) : Prop := ∃ cur : Array Value, w.heap[B]? = some (.cells cur 79 (0, 0)) ∧ cur.size = n * 10 ∧ (∀ (j : Nat) (v : Value), cur[j]? = some v → ∀ z, v ≠ .int .u8 z) ∧
  ∀ k, k < m → ∃ xc xp xb xw, (∀ j, j < 10 → cur[k * 10 + j]? = (stc (rr n r k) xc xp xb xw)[j]?) ∧ BytesAt w xc (scc (rr n r k)) ∧ BytesAt w xp (sps (rr n r k)) ∧ BytesAt w xb (sbs (rr n r k)) ∧ BytesAt w xw (bel n r k)
theorem SAt.grown {a b : World} {B n m g : Nat} {r : Rd} (h : SAt a B n m r) (hG : a.grownBy b (some g)) (hne : B ≠ g) (hap : ∀ x l, BytesAt a x l → BytesAt b x l) : SAt b B n m r := by
  obtain ⟨cur, h1, h2, h3, h4⟩ := h
  refine ⟨cur, (hG.block B (Array.getElem?_eq_some_iff.1 h1).1 (by simpa using hne)).trans h1, h2, h3, fun k hk => ?_⟩
  obtain ⟨xc, xp, xb, xw, a1, a2, a3, a4, a5⟩ := h4 k hk
  exact ⟨xc, xp, xb, xw, a1, hap _ _ a2, hap _ _ a3, hap _ _ a4, hap _ _ a5⟩
theorem SAt.below {a b : World} {B n m : Nat} {r : Rd} (h : SAt a B n m r) (hb : Below a.heap.size a b) : SAt b B n m r := by
  obtain ⟨cur, h1, h2, h3, h4⟩ := h
  refine ⟨cur, (hb.block B (Array.getElem?_eq_some_iff.1 h1).1).trans h1, h2, h3, fun k hk => ?_⟩
  obtain ⟨xc, xp, xb, xw, a1, a2, a3, a4, a5⟩ := h4 k hk
  exact ⟨xc, xp, xb, xw, a1, a2.below hb, a3.below hb, a4.below hb, a5.below hb⟩
theorem SAt.lt {w : World} {B n m : Nat} {r : Rd} (h : SAt w B n m r) : B < w.heap.size := by
  obtain ⟨cur, h1, _⟩ := h
  exact (Array.getElem?_eq_some_iff.1 h1).1
theorem SAt.cellAny {w : World} {B n m : Nat} {r : Rd} (h : SAt w B n m r) (k j : Nat) (hk : k < n) (hj : j < 10) : ∃ v, w.cell? ⟨B, k * 10 + j, none⟩ = some v := by
  obtain ⟨cur, h1, h2, _⟩ := h
  have : k * 10 + j < cur.size := by omega
  exact ⟨cur[k * 10 + j], by rw [cell_of_row w B _ cur 79 (0, 0) h1]; exact Array.getElem?_eq_getElem this⟩
theorem SAt.frozen {w : World} {B n m : Nat} {r : Rd} (h : SAt w B n m r) (j : Nat) : w.frozen? ⟨B, j, none⟩ = false := by
  obtain ⟨cur, h1, _⟩ := h
  exact AggAt.fz h1 j
theorem SAt.get {w : World} {B n m : Nat} {r : Rd} (h : SAt w B n m r) (k : Nat) (hk : k < m) : ∃ xc xp xb xw, (∀ j v, (stc (rr n r k) xc xp xb xw)[j]? = some v → w.cell? ⟨B, k * 10 + j, none⟩ = some v) ∧ BytesAt w xc (scc (rr n r k)) ∧ BytesAt w xp (sps (rr n r k)) ∧ BytesAt w xb (sbs (rr n r k)) ∧ BytesAt w xw (bel n r k) := by
  obtain ⟨cur, h1, h2, _, h4⟩ := h
  obtain ⟨xc, xp, xb, xw, a1, a2⟩ := h4 k hk
  refine ⟨xc, xp, xb, xw, fun j v hv => ?_, a2⟩
  have hj : j < 10 := by have := (List.getElem?_eq_some_iff.1 hv).1; simpa [stc] using this
  rw [cell_of_row w B _ cur 79 (0, 0) h1, a1 j hj]; exact hv
/-- Ten stores in a row. -/
def set10 (w : World) (B o : Nat) (b0 b1 b2 b3 b4 b5 b6 b7 b8 b9 : Value) : World := (((((((((w.setCell ⟨B, o, none⟩ b0).setCell ⟨B, o + 1, none⟩ b1).setCell ⟨B, o + 2, none⟩ b2).setCell ⟨B, o + 3, none⟩ b3).setCell ⟨B, o + 4, none⟩ b4).setCell ⟨B, o + 5, none⟩ b5).setCell ⟨B, o + 6, none⟩ b6).setCell ⟨B, o + 7, none⟩ b7).setCell ⟨B, o + 8, none⟩ b8).setCell ⟨B, o + 9, none⟩ b9
theorem set10_grown (w : World) (B o : Nat) (b0 b1 b2 b3 b4 b5 b6 b7 b8 b9 : Value) : w.grownBy (set10 w B o b0 b1 b2 b3 b4 b5 b6 b7 b8 b9) (some B) := by
  unfold set10
  repeat' refine grown_setCell ?_ _ _ rfl
  exact World.grownBy.refl _ _
theorem set10_heap {w : World} {B o : Nat} {cur : Array Value} {t : TypeId} (h : w.heap[B]? = some (.cells cur t (0, 0))) (b0 b1 b2 b3 b4 b5 b6 b7 b8 b9 : Value) :
    (set10 w B o b0 b1 b2 b3 b4 b5 b6 b7 b8 b9).heap[B]? = some (.cells ((((((((((cur.setIfInBounds o b0).setIfInBounds (o + 1) b1).setIfInBounds (o + 2) b2).setIfInBounds (o + 3) b3).setIfInBounds (o + 4) b4).setIfInBounds (o + 5) b5).setIfInBounds (o + 6) b6).setIfInBounds (o + 7) b7).setIfInBounds (o + 8) b8).setIfInBounds (o + 9) b9) t (0, 0)) := by
  have h0 := heap_setCell_same w B o _ t b0 h
  have h1 := heap_setCell_same _ B (o + 1) _ t b1 h0
  have h2 := heap_setCell_same _ B (o + 2) _ t b2 h1
  have h3 := heap_setCell_same _ B (o + 3) _ t b3 h2
  have h4 := heap_setCell_same _ B (o + 4) _ t b4 h3
  have h5 := heap_setCell_same _ B (o + 5) _ t b5 h4
  have h6 := heap_setCell_same _ B (o + 6) _ t b6 h5
  have h7 := heap_setCell_same _ B (o + 7) _ t b7 h6
  have h8 := heap_setCell_same _ B (o + 8) _ t b8 h7
  exact heap_setCell_same _ B (o + 9) _ t b9 h8
end Go.Proofs.YtlhjifdahagkaaaDoor
/-
  A storey is laid behind the others; the storeys' block as it is made.
-/
namespace Go.Proofs.YtlhjifdahagkaaaDoor
open Go.RowKit
theorem set10_get (cur : Array Value) (o n : Nat) (hs : cur.size = n * 10) (ho : o + 10 ≤ n * 10) (b0 b1 b2 b3 b4 b5 b6 b7 b8 b9 : Value) (i : Nat) :
    ((((((((((cur.setIfInBounds o b0).setIfInBounds (o + 1) b1).setIfInBounds (o + 2) b2).setIfInBounds (o + 3) b3).setIfInBounds (o + 4) b4).setIfInBounds (o + 5) b5).setIfInBounds (o + 6) b6).setIfInBounds (o + 7) b7).setIfInBounds (o + 8) b8).setIfInBounds (o + 9) b9)[i]? = if o ≤ i ∧ i < o + 10 then [b0, b1, b2, b3, b4, b5, b6, b7, b8, b9][i - o]? else cur[i]? := by
  simp only [Array.getElem?_setIfInBounds, Array.size_setIfInBounds]
  by_cases h : o ≤ i ∧ i < o + 10
  · rw [if_pos h]
    obtain ⟨d, rfl⟩ : ∃ d, i = o + d := ⟨i - o, by omega⟩
    have hd : d < 10 := by omega
    rw [Nat.add_sub_cancel_left]
    match d, hd with
    | 0, _ => simp; omega
    | 1, _ => simp; omega
    | 2, _ => simp; omega
    | 3, _ => simp; omega
    | 4, _ => simp; omega
    | 5, _ => simp; omega
    | 6, _ => simp; omega
    | 7, _ => simp; omega
    | 8, _ => simp; omega
    | 9, _ => simp; omega
  · rw [if_neg h, if_neg (by omega), if_neg (by omega), if_neg (by omega), if_neg (by omega), if_neg (by omega), if_neg (by omega), if_neg (by omega), if_neg (by omega), if_neg (by omega), if_neg (by omega)]
theorem noByte10 {a0 a1 a2 a3 a4 a5 : Int} {s6 s7 s8 s9 : Option Addr} {n6 n7 n8 n9 c6 c7 c8 c9 : Nat} : ∀ (d : Nat) (v : Value), ([.int .i64 a0, .int .i64 a1, .int .i64 a2, .int .i64 a3, .int .i64 a4, .int .i64 a5, .slice s6 n6 c6, .slice s7 n7 c7, .slice s8 n8 c8, .slice s9 n9 c9] : List Value)[d]? = some v → ∀ z, v ≠ .int .u8 z := fun d v h z => by
  match d, h with
  | 0, h => cases h; simp
  | 1, h => cases h; simp
  | 2, h => cases h; simp
  | 3, h => cases h; simp
  | 4, h => cases h; simp
  | 5, h => cases h; simp
  | 6, h => cases h; simp
  | 7, h => cases h; simp
  | 8, h => cases h; simp
  | 9, h => cases h; simp
  | d + 10, h => cases h
theorem SAt.set {w : World} {B n m : Nat} {r : Rd} (h : SAt w B n m r) (hm : m < n) (xc xp xb xw : Value) (b1 : BytesAt w xc (scc (rr n r m))) (b2 : BytesAt w xp (sps (rr n r m))) (b3 : BytesAt w xb (sbs (rr n r m))) (b4 : BytesAt w xw (bel n r m)) :
    SAt (set10 w B (m * 10) (.int .i64 (sh (rr n r m) : Int)) (.int .i64 (swd (rr n r m) : Int)) (.int .i64 (tyW (swd (rr n r m)) : Int)) (.int .i64 (pW (swd (rr n r m)) : Int)) (.int .i64 (lsW (swd (rr n r m)) : Int)) (.int .i64 (sq (rr n r m) : Int)) xc xp xb xw) B n (m + 1) r := by
  obtain ⟨cur, h1, h2, h3, h4⟩ := h
  have hG := set10_grown w B (m * 10) (.int .i64 (sh (rr n r m) : Int)) (.int .i64 (swd (rr n r m) : Int)) (.int .i64 (tyW (swd (rr n r m)) : Int)) (.int .i64 (pW (swd (rr n r m)) : Int)) (.int .i64 (lsW (swd (rr n r m)) : Int)) (.int .i64 (sq (rr n r m) : Int)) xc xp xb xw
  have hk : ∀ x l, BytesAt w x l → BytesAt _ x l := fun x l hx => hx.keep hG (fun hl => agg_apart h1 h3 hx hl)
  have hget := fun i => set10_get cur (m * 10) n h2 (by omega) (.int .i64 (sh (rr n r m) : Int)) (.int .i64 (swd (rr n r m) : Int)) (.int .i64 (tyW (swd (rr n r m)) : Int)) (.int .i64 (pW (swd (rr n r m)) : Int)) (.int .i64 (lsW (swd (rr n r m)) : Int)) (.int .i64 (sq (rr n r m) : Int)) xc xp xb xw i
  refine ⟨_, set10_heap h1 _ _ _ _ _ _ _ _ _ _, ?_, ?_, ?_⟩
  · simp only [Array.size_setIfInBounds]; exact h2
  · intro j v hv z
    rw [hget j] at hv
    split at hv
    · rename_i hj
      obtain ⟨d, rfl⟩ : ∃ d, j = m * 10 + d := ⟨j - m * 10, by omega⟩
      rw [Nat.add_sub_cancel_left] at hv
      obtain ⟨s1, n1, c1, rfl⟩ := b1.forms
      obtain ⟨s2, n2, c2, rfl⟩ := b2.forms
      obtain ⟨s3, n3, c3, rfl⟩ := b3.forms
      obtain ⟨s4, n4, c4, rfl⟩ := b4.forms
      exact noByte10 d v hv z
    · exact h3 j v hv z
  · intro k hkm
    by_cases e : k = m
    · subst e
      refine ⟨xc, xp, xb, xw, fun j hj => ?_, hk _ _ b1, hk _ _ b2, hk _ _ b3, hk _ _ b4⟩
      rw [hget, if_pos (by omega), Nat.add_sub_cancel_left]
      rfl
    · obtain ⟨yc, yp, yb, yw, a1, a2, a3, a4, a5⟩ := h4 k (by omega)
      refine ⟨yc, yp, yb, yw, fun j hj => ?_, hk _ _ a2, hk _ _ a3, hk _ _ a4, hk _ _ a5⟩
      rw [hget, if_neg (by omega)]
      exact a1 j hj
theorem made_sto (w : World) (n : Nat) (hn : n ≤ 3) (r : Rd) : ∃ W, (Instr.makeSlice 75 (.int .i64 (n : Int)) (.int .i64 (n : Int))).run Tryd.prog w = .ok (.slice (some ⟨w.heap.size, 0, none⟩) n n) W ∧ SAt W w.heap.size n 0 r ∧ Below w.heap.size w W := by
  have hinf : (Tryd.prog.info? 79).map (fun i => (i.zero, i.size, i.bytes)) = some (some (.agg #[.int .i64 0, .int .i64 0, .int .i64 0, .int .i64 0, .int .i64 0, .int .i64 0, .slice none 0 0, .slice none 0 0, .slice none 0 0, .slice none 0 0]), 10, 144) := by kernel_rfl
  obtain ⟨i, hi, h2⟩ := Option.map_eq_some_iff.1 hinf
  simp only [Prod.mk.injEq] at h2
  have hr := run_make (P := Tryd.prog) w 75 79 i _ Tryd.underlying75 hi h2.1 .i64 .i64 (n : Int) (n : Int) (by omega) (by omega) (by rw [h2.2.2]; omega) (by omega)
  rw [Int.toNat_natCast, h2.2.1] at hr
  refine ⟨_, hr, ⟨_, heap_alloc_new w _, by rw [size_madeCells], ?_, fun k hk => (by omega)⟩, (Below.refl _ _).alloc (Nat.le_refl _) _⟩
  intro j v hv z e
  rw [e] at hv
  have hj : j < n * 10 := by have := (Array.getElem?_eq_some_iff.1 hv).1; rwa [size_madeCells] at this
  simp [madeCells, hj, Value.cells] at hv
  have hlt : j % 10 < 10 := Nat.mod_lt _ (by omega)
  generalize j % 10 = d at hv hlt
  match d, hlt with
  | 0, _ => simp at hv
  | 1, _ => simp at hv
  | 2, _ => simp at hv
  | 3, _ => simp at hv
  | 4, _ => simp at hv
  | 5, _ => simp at hv
  | 6, _ => simp at hv
  | 7, _ => simp at hv
  | 8, _ => simp at hv
  | 9, _ => simp at hv
end Go.Proofs.YtlhjifdahagkaaaDoor
