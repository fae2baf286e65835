/-
  The walk of the landed publicOf.
-/
import Derived.Test.YtlhjifdahagkaaaDoorM13
import Derived.Laws.IdiomStrings
namespace Go.Proofs.YtlhjifdahagkaaaDoor
open Go.RowKit
theorem wid_grown {a b : World} {g : Nat} (h : WidAt a) (hg : a.grownBy b (some g)) (hne : 0 ≠ g) : WidAt b := by
  obtain ⟨tk', fr, hT⟩ := h
  exact ⟨tk', fr, (hg.block _ (Array.getElem?_eq_some_iff.1 hT).1 (by simpa using hne)).trans hT⟩
set_option maxRecDepth 100000 in
set_option maxHeartbeats 8000000 in
theorem pubof_gen (w0 : World) (hW : WidAt w0) (xb : Value) (l : Bs) (hx : BytesAt w0 xb l) (hl : l.length ≤ 100000) (hv v : Nat) (r1 r2 r3 : Rd) (e1 : numB (tk ⟨l, false⟩ 4) = hv) (q1 : tkR ⟨l, false⟩ 4 = r1) (e2 : numB (tk r1 4) = v) (q2 : tkR r1 4 = r2) (q3 : tkR r2 16 = r3) (hI a b c d : Int) (okh okw : Bool)
    (Hk : ∀ w, Calls Tryd.prog 80 #[.int .i64 (hv : Int)] w fun e w' => e = .returned (.tuple #[.int .i64 hI, .bool okh]) ∧ w' = w) (Wk : ∀ w, WidAt w → Calls Tryd.prog 79 #[.int .i64 (v : Int)] w fun e w' => e = .returned (.tuple #[.agg #[.int .i64 a, .int .i64 b, .int .i64 c, .int .i64 d], .bool okw]) ∧ Below w.heap.size w w') :
    Calls Tryd.prog 66 #[xb] w0 fun e w' => ∃ yi yr, (((okh && okw && endB (tkR r3 32)) = true ∧ e = .returned (.tuple #[.agg #[.int .i64 hI, .int .i64 a, .int .i64 b, .int .i64 c, .int .i64 d, yi, yr], .bool true])) ∨ ((okh && okw && endB (tkR r3 32)) = false ∧ e = .returned (.tuple #[.agg #[.int .i64 0, .int .i64 0, .int .i64 0, .int .i64 0, .int .i64 0, .slice none 0 0, .slice none 0 0], .bool false]))) ∧ BytesAt w' yi (tk r2 16) ∧ BytesAt w' yr (tk r3 32) ∧ Below w0.heap.size w0 w' := by
  obtain ⟨sx, nx, cx, rfl⟩ := hx.forms
  have hl1 : r1.l.length ≤ 100000 := by rw [← q1]; exact Nat.le_trans (len_tkR _ _) hl
  have hl2 : r2.l.length ≤ 100000 := by rw [← q2]; exact Nat.le_trans (len_tkR _ _) hl1
  have hl3 : r3.l.length ≤ 100000 := by rw [← q3]; exact Nat.le_trans (len_tkR _ _) hl2
  have hbA : Below w0.heap.size w0 (w0.alloc (.cells #[.int .i64 0, .int .i64 0, .int .i64 0, .int .i64 0, .int .i64 0, .slice none 0 0, .slice none 0 0] 62)) := (Below.refl _ _).alloc (Nat.le_refl _) _
  have hZ := heap_alloc_new w0 (.cells #[.int .i64 0, .int .i64 0, .int .i64 0, .int .i64 0, .int .i64 0, .slice none 0 0, .slice none 0 0] 62)
  have hsz : w0.heap.size < (w0.alloc (.cells #[.int .i64 0, .int .i64 0, .int .i64 0, .int .i64 0, .int .i64 0, .slice none 0 0, .slice none 0 0] 62)).heap.size := by simp
  obtain ⟨wA, hwA⟩ : ∃ wA, w0.alloc (.cells #[.int .i64 0, .int .i64 0, .int .i64 0, .int .i64 0, .int .i64 0, .slice none 0 0, .slice none 0 0] 62) = wA := ⟨_, rfl⟩
  rw [hwA] at hbA hZ hsz
  have hbB : Below wA.heap.size wA (wA.alloc (.cells #[.slice sx nx cx, .bool false] 74)) := (Below.refl _ _).alloc (Nat.le_refl _) _
  have hR0 := rd_new wA (.slice sx nx cx) l (hx.below hbA)
  have hWA := wid4 w0 hW wA hbA
  have hWB := wid4 wA hWA _ hbB
  have hlw : 0 < w0.heap.size := by obtain ⟨_, _, hT⟩ := hW; exact (Array.getElem?_eq_some_iff.1 hT).1
  obtain ⟨g, hg⟩ : ∃ g, wA.heap.size = g := ⟨_, rfl⟩
  have hg0 : w0.heap.size < g := by rw [← hg]; exact hsz
  rw [hg] at hR0
  have Hgb : Hid (∀ (x y : World), Below w0.heap.size w0 x → x.grownBy y (some g) → Below w0.heap.size w0 y) := fun x y h1 h2 => h1.grown h2 h1.size (fun k hk => by cases hk; omega)
  have Hn1 := hide (rdnum_c _ g ⟨l, false⟩ hR0 hl)
  rw [e1, q1] at Hn1
  have HBB := hide (hbA.trans (hbB.mono hbA.size))
  have HZB := hide ((hbB.block _ hsz).trans hZ)
  have HWB := hide hWB
  have Hk' := hide Hk
  have Wk' := hide Wk
  have hne0 : w0.heap.size ≠ g := by omega
  have Hg := hide hg
  have Hq3 := hide q3
  have Hq2 := hide q2
  have He2 := hide e2
  clear hx hbA hZ hsz hbB hR0 hWA hWB hW Hk Wk e1 q1 e2 q2 q3
  go_enter Tryd.func66, Tryd.ntmps66
  go_wp2_with fail
  refine (unhide Hn1).mono ?_
  rintro e w1 ⟨rfl, hR1, hG1⟩
  have HR1 := hide hR1
  have HB1 := hide (unhide Hgb _ _ (unhide HBB) hG1)
  have HZ1 := hide ((hG1.block _ (Array.getElem?_eq_some_iff.1 (unhide HZB)).1 (by simpa using hne0)).trans (unhide HZB))
  have HW1 := hide (wid_grown (unhide HWB) hG1 (by omega))
  clear hR1 hG1 hwA hg Hn1
  go_wp2_with fail
  refine ((unhide Hk') w1).mono ?_
  rintro e w1' ⟨rfl, hw1⟩
  replace hw1 := hw1.symm
  subst hw1
  have Hn2 := hide (rdnum_c w1 g r1 (unhide HR1) hl1)
  rw [unhide He2, unhide Hq2] at Hn2
  go_wp2_with fail
  refine (unhide Hn2).mono ?_
  rintro e w2 ⟨rfl, hR2, hG2⟩
  have HR2 := hide hR2
  have HB2 := hide (unhide Hgb _ _ (unhide HB1) hG2)
  have HZ2 := hide ((hG2.block _ (Array.getElem?_eq_some_iff.1 (unhide HZ1)).1 (by simpa using hne0)).trans (unhide HZ1))
  have HW2 := hide (wid_grown (unhide HW1) hG2 (by omega))
  clear hR2 hG2 Hn2
  go_wp2_with fail
  refine ((unhide Wk') w2 (unhide HW2)).mono ?_
  rintro e w3 ⟨rfl, hb3⟩
  have hb4 : Below w3.heap.size w3 (w3.alloc (.cells #[.int .i64 a, .int .i64 b, .int .i64 c, .int .i64 d] 52)) := (Below.refl _ _).alloc (Nat.le_refl _) _
  have hK4 := agg_new w3 [.int .i64 a, .int .i64 b, .int .i64 c, .int .i64 d] 52
  obtain ⟨w4, hw4⟩ : ∃ w4, w3.alloc (.cells #[.int .i64 a, .int .i64 b, .int .i64 c, .int .i64 d] 52) = w4 := ⟨_, rfl⟩
  rw [hw4] at hb4 hK4
  have hb24 := hb3.trans (hb4.mono hb3.size)
  have HR4 := hide ((unhide HR2).below hb24)
  have HB4 := hide ((unhide HB2).trans (hb24.mono (unhide HB2).size))
  have HZ4 := hide ((hb24.block _ (Array.getElem?_eq_some_iff.1 (unhide HZ2)).1).trans (unhide HZ2))
  obtain ⟨K4, hK4e⟩ : ∃ K4, w3.heap.size = K4 := ⟨_, rfl⟩
  rw [hK4e] at hK4
  have hneK : K4 ≠ g := by have h1 := (unhide HR2).lt; have h2 := hb3.size; omega
  have HK4 := hide hK4
  have k0 := hK4.c 0 _ rfl
  have k1 := hK4.c 1 _ rfl
  have k2 := hK4.c 2 _ rfl
  have k3 := hK4.c 3 _ rfl
  have HR4d := hide ((unhide HR4).below (Below.refl _ _).drew)
  have HR4a := hide ((unhide HR4).below ((Below.refl w4.heap.size w4).alloc (Nat.le_refl _) (.cells #[.int .i64 0, .int .i64 0, .int .i64 0, .int .i64 0, .int .i64 0, .slice none 0 0, .slice none 0 0] 62)).drew)
  have HGd : Hid (w4.grownBy w4.drew (some g)) := hide (World.grownBy.refl w4 (some g)).drew
  have HGa : Hid (w4.grownBy (w4.alloc (.cells #[.int .i64 0, .int .i64 0, .int .i64 0, .int .i64 0, .int .i64 0, .slice none 0 0, .slice none 0 0] 62)).drew (some g)) := hide (grown_alloc (World.grownBy.refl w4 (some g)) _).drew
  have hgl := (unhide HR4).lt
  have hKl := hK4.1
  have hAl := (Array.getElem?_eq_some_iff.1 (unhide HZ4)).1
  obtain ⟨P1, hP1⟩ : ∃ P1, w4.heap.size = P1 := ⟨_, rfl⟩
  have hg1 : g < P1 := by omega
  have hz1' := heap_alloc_new w4 (.cells #[.int .i64 0, .int .i64 0, .int .i64 0, .int .i64 0, .int .i64 0, .slice none 0 0, .slice none 0 0] 62)
  have HP1 := hide hP1
  have hneP1 : K4 ≠ P1 := by omega
  clear hb3 hb4 hK4 hb24
  go_wp2
  go_region_held3 (fun w' => w'.cell? ⟨K4, 0, none⟩ = some (.int .i64 a) ∧ w'.cell? ⟨K4, 1, none⟩ = some (.int .i64 b) ∧ w'.cell? ⟨K4, 2, none⟩ = some (.int .i64 c) ∧ w'.cell? ⟨K4, 3, none⟩ = some (.int .i64 d)) ((first | go_keep | (simp (disch := assumption) only [cell_other, n0, n1, n2, n3, and_self])))
    ((first
      | (go_at_call_of 63 (Value.int IntKind.i64 16); refine (take_c _ g r2 16 ?_ hl2).mono ?_; (first | exact unhide HR4d | exact unhide HR4a); rintro e w5 ⟨v5, rfl, hV5, hR5, hG5⟩; obtain ⟨s5, n5, c5, rfl⟩ := hV5.forms; have HV5 := hide hV5; have HR5 := hide hR5; have HG5 : Hid (w4.grownBy w5 (some g)) := (by first | exact grown_trans (unhide HGd) hG5 | exact grown_trans (unhide HGa) hG5); have HK5 := hide ((unhide HK4).grown (unhide HG5) hneK); have m0 := (unhide HK5).c 0 _ rfl; have m1 := (unhide HK5).c 1 _ rfl; have m2 := (unhide HK5).c 2 _ rfl; have m3 := (unhide HK5).c 3 _ rfl; (try (have hz5 : w5.heap[w4.heap.size]? = some (.cells #[.int .i64 0, .int .i64 0, .int .i64 0, .int .i64 0, .int .i64 0, .slice none 0 0, .slice none 0 0] 62 (0, 0)) := (hG5.block _ (by simp) (by simp; omega)).trans (heap_alloc_new w4 _); have HZ5 := hide hz5; clear hz5)); have h5s := (unhide HG5).size; have hneP2 : K4 ≠ w5.heap.size := (by omega); clear hV5 hR5 hG5)
      | (go_at_call_of 63 (Value.int IntKind.i64 32); refine (take_c _ g (tkR r2 16) 32 ?_ (by rw [unhide Hq3]; exact hl3)).mono ?_; (first | exact unhide HR5 | exact (unhide HR5).below ((Below.refl _ _).alloc (Nat.le_refl _) _)); rintro e w6 ⟨v6, rfl, hV6, hR6, hG6⟩; obtain ⟨s6, n6, c6, rfl⟩ := hV6.forms; have HV6 := hide hV6; have HR6 := hide hR6; have HG6 : Hid (w4.grownBy w6 (some g)) := (by first | exact grown_trans (unhide HG5) hG6 | exact grown_trans (grown_alloc (unhide HG5) _) hG6); have HV56 : Hid (BytesAt w6 (.slice s5 n5 c5) (tk r2 16)) := (by first | exact (unhide HR5).keep hG6 (unhide HV5) | exact ((unhide HR5).below ((Below.refl _ _).alloc (Nat.le_refl _) _)).keep hG6 ((unhide HV5).below ((Below.refl _ _).alloc (Nat.le_refl _) _))); have HK6 := hide ((unhide HK4).grown (unhide HG6) hneK); have n0 := (unhide HK6).c 0 _ rfl; have n1 := (unhide HK6).c 1 _ rfl; have n2 := (unhide HK6).c 2 _ rfl; have n3 := (unhide HK6).c 3 _ rfl; (try (have hz6 : w6.heap[w4.heap.size]? = some (.cells #[.int .i64 0, .int .i64 0, .int .i64 0, .int .i64 0, .int .i64 0, .slice none 0 0, .slice none 0 0] 62 (0, 0)) := (hG6.block _ (Array.getElem?_eq_some_iff.1 (unhide HZ5)).1 (by simp; omega)).trans (unhide HZ5); have HZ6 := hide hz6; rw [unhide HP1] at hz6; have y0 : w6.cell? ⟨P1, 0, none⟩ = some (.int .i64 0) := cell_of_row w6 P1 0 _ 62 (0, 0) hz6; have y1 : w6.cell? ⟨P1, 1, none⟩ = some (.int .i64 0) := cell_of_row w6 P1 1 _ 62 (0, 0) hz6; have y2 : w6.cell? ⟨P1, 2, none⟩ = some (.int .i64 0) := cell_of_row w6 P1 2 _ 62 (0, 0) hz6; have y3 : w6.cell? ⟨P1, 3, none⟩ = some (.int .i64 0) := cell_of_row w6 P1 3 _ 62 (0, 0) hz6; have y4 : w6.cell? ⟨P1, 4, none⟩ = some (.int .i64 0) := cell_of_row w6 P1 4 _ 62 (0, 0) hz6; have y5 : w6.cell? ⟨P1, 5, none⟩ = some (.slice none 0 0) := cell_of_row w6 P1 5 _ 62 (0, 0) hz6; have y6 : w6.cell? ⟨P1, 6, none⟩ = some (.slice none 0 0) := cell_of_row w6 P1 6 _ 62 (0, 0) hz6; have fy := fun j => AggAt.fz hz6 j; clear hz6)); (try (have hx6 : w6.heap[w5.heap.size]? = some (.cells #[.int .i64 0, .int .i64 0, .int .i64 0, .int .i64 0, .int .i64 0, .slice none 0 0, .slice none 0 0] 62 (0, 0)) := (hG6.block _ (by simp) (by simp; omega)).trans (heap_alloc_new w5 _); have HX6 := hide hx6; have x0 : w6.cell? ⟨w5.heap.size, 0, none⟩ = some (.int .i64 0) := cell_of_row w6 w5.heap.size 0 _ 62 (0, 0) hx6; have x1 : w6.cell? ⟨w5.heap.size, 1, none⟩ = some (.int .i64 0) := cell_of_row w6 w5.heap.size 1 _ 62 (0, 0) hx6; have x2 : w6.cell? ⟨w5.heap.size, 2, none⟩ = some (.int .i64 0) := cell_of_row w6 w5.heap.size 2 _ 62 (0, 0) hx6; have x3 : w6.cell? ⟨w5.heap.size, 3, none⟩ = some (.int .i64 0) := cell_of_row w6 w5.heap.size 3 _ 62 (0, 0) hx6; have x4 : w6.cell? ⟨w5.heap.size, 4, none⟩ = some (.int .i64 0) := cell_of_row w6 w5.heap.size 4 _ 62 (0, 0) hx6; have x5 : w6.cell? ⟨w5.heap.size, 5, none⟩ = some (.slice none 0 0) := cell_of_row w6 w5.heap.size 5 _ 62 (0, 0) hx6; have x6 : w6.cell? ⟨w5.heap.size, 6, none⟩ = some (.slice none 0 0) := cell_of_row w6 w5.heap.size 6 _ 62 (0, 0) hx6; have fx := fun j => AggAt.fz hx6 j; clear hx6)); clear hV6 hR6 hG6)))
  · obtain ⟨P, hP⟩ : ∃ P, w6.heap.size = P := ⟨_, rfl⟩
    have hbl : Below w6.heap.size w6 (w6.alloc (.cells #[.int .i64 hI, .int .i64 a, .int .i64 b, .int .i64 c, .int .i64 d, .slice s5 n5 c5, .slice s6 n6 c6] 62)) := (Below.refl _ _).alloc (Nat.le_refl _) _
    have HA := hide (agg_new w6 [.int .i64 hI, .int .i64 a, .int .i64 b, .int .i64 c, .int .i64 d, .slice s5 n5 c5, .slice s6 n6 c6] 62)
    have HRd := hide ((unhide HR6).below hbl)
    have HV5' := hide ((unhide HV56).below hbl)
    have HV6' := hide ((unhide HV6).below hbl)
    have HZ' := hide ((hbl.block _ (Nat.lt_of_lt_of_le hAl (unhide HG6).size)).trans (((unhide HG6).block _ hAl (by simpa using hne0)).trans (unhide HZ4)))
    have HB6 := hide (unhide Hgb _ _ (unhide HB4) (unhide HG6))
    have HB' := hide ((unhide HB6).trans (hbl.mono (unhide HB6).size))
    have hPA : P ≠ w0.heap.size := by have := (unhide HG6).size; omega
    obtain ⟨W, hWe⟩ : ∃ W, w6.alloc (.cells #[.int .i64 hI, .int .i64 a, .int .i64 b, .int .i64 c, .int .i64 d, .slice s5 n5 c5, .slice s6 n6 c6] 62) = W := ⟨_, rfl⟩
    rw [hWe] at HA HRd HV5' HV6' HZ' HB' ⊢
    rw [hP] at HA ⊢
    clear hbl hWe hP n0 n1 n2 n3 k0 k1 k2 k3 m0 m1 m2 m3
    have a0 := (unhide HA).c 0 _ rfl
    have a1 := (unhide HA).c 1 _ rfl
    have a2 := (unhide HA).c 2 _ rfl
    have a3 := (unhide HA).c 3 _ rfl
    have a4 := (unhide HA).c 4 _ rfl
    have a5 := (unhide HA).c 5 _ rfl
    have a6 := (unhide HA).c 6 _ rfl
    have zW0 : W.cell? ⟨w0.heap.size, 0, none⟩ = some (.int .i64 0) := cell_of_row W w0.heap.size 0 _ 62 (0, 0) (unhide HZ')
    have zW1 : W.cell? ⟨w0.heap.size, 1, none⟩ = some (.int .i64 0) := cell_of_row W w0.heap.size 1 _ 62 (0, 0) (unhide HZ')
    have zW2 : W.cell? ⟨w0.heap.size, 2, none⟩ = some (.int .i64 0) := cell_of_row W w0.heap.size 2 _ 62 (0, 0) (unhide HZ')
    have zW3 : W.cell? ⟨w0.heap.size, 3, none⟩ = some (.int .i64 0) := cell_of_row W w0.heap.size 3 _ 62 (0, 0) (unhide HZ')
    have zW4 : W.cell? ⟨w0.heap.size, 4, none⟩ = some (.int .i64 0) := cell_of_row W w0.heap.size 4 _ 62 (0, 0) (unhide HZ')
    have zW5 : W.cell? ⟨w0.heap.size, 5, none⟩ = some (.slice none 0 0) := cell_of_row W w0.heap.size 5 _ 62 (0, 0) (unhide HZ')
    have zW6 : W.cell? ⟨w0.heap.size, 6, none⟩ = some (.slice none 0 0) := cell_of_row W w0.heap.size 6 _ 62 (0, 0) (unhide HZ')
    have fz := fun j => AggAt.fz (unhide HZ') j
    rw [unhide Hq3] at HRd
    have HE := hide (ended_c W g (tkR r3 32) (unhide HRd))
    rw [unhide Hq3] at HV6'
    have HGz := hide (grown7 W w0.heap.size (.int .i64 0) (.int .i64 0) (.int .i64 0) (.int .i64 0) (.int .i64 0) (.slice none 0 0) (.slice none 0 0))
    have HGp := hide (grown7 W w0.heap.size (.int .i64 hI) (.int .i64 a) (.int .i64 b) (.int .i64 c) (.int .i64 d) (.slice s5 n5 c5) (.slice s6 n6 c6))
    cases hE : endB (tkR r3 32) with
    | true =>
      rw [hE] at HE
      have HhE := hide hE
      clear hE
      cases okh with
      | true =>
        cases okw with
        | true =>
          go_wp2_with (go_at_call 65; refine (unhide HE).mono ?_; rintro e w' ⟨rfl, hw'⟩; replace hw' := hw'.symm; subst hw')
          exact bodyPost_ret (v := .tuple #[.agg #[.int .i64 hI, .int .i64 a, .int .i64 b, .int .i64 c, .int .i64 d, .slice s5 n5 c5, .slice s6 n6 c6], .bool true]) (by simp [results, Tryd.results66, go_sem, zW0, zW1, zW2, zW3, zW4, zW5, zW6]) rfl ⟨_, _, Or.inl ⟨by rw [unhide HhE]; rfl, rfl⟩, (unhide HV5').keep (unhide HGp) (fun hl => agg_apart (unhide HZ') zero7 (unhide HV5') hl), (unhide HV6').keep (unhide HGp) (fun hl => agg_apart (unhide HZ') zero7 (unhide HV6') hl), (unhide HB').grown (unhide HGp) (unhide HB').size (fun k hk => by cases hk; exact Nat.le_refl _)⟩
        | false =>
          go_wp2
          exact bodyPost_ret (v := .tuple #[.agg #[.int .i64 0, .int .i64 0, .int .i64 0, .int .i64 0, .int .i64 0, .slice none 0 0, .slice none 0 0], .bool false]) (by simp [results, Tryd.results66, go_sem, zW0, zW1, zW2, zW3, zW4, zW5, zW6]) rfl ⟨_, _, Or.inr ⟨by rw [unhide HhE]; rfl, rfl⟩, (unhide HV5').keep (unhide HGz) (fun hl => agg_apart (unhide HZ') zero7 (unhide HV5') hl), (unhide HV6').keep (unhide HGz) (fun hl => agg_apart (unhide HZ') zero7 (unhide HV6') hl), (unhide HB').grown (unhide HGz) (unhide HB').size (fun k hk => by cases hk; exact Nat.le_refl _)⟩
      | false =>
        go_wp2
        exact bodyPost_ret (v := .tuple #[.agg #[.int .i64 0, .int .i64 0, .int .i64 0, .int .i64 0, .int .i64 0, .slice none 0 0, .slice none 0 0], .bool false]) (by simp [results, Tryd.results66, go_sem, zW0, zW1, zW2, zW3, zW4, zW5, zW6]) rfl ⟨_, _, Or.inr ⟨by rw [unhide HhE]; rfl, rfl⟩, (unhide HV5').keep (unhide HGz) (fun hl => agg_apart (unhide HZ') zero7 (unhide HV5') hl), (unhide HV6').keep (unhide HGz) (fun hl => agg_apart (unhide HZ') zero7 (unhide HV6') hl), (unhide HB').grown (unhide HGz) (unhide HB').size (fun k hk => by cases hk; exact Nat.le_refl _)⟩
    | false =>
      rw [hE] at HE
      have HhE := hide hE
      clear hE
      cases okh with
      | true =>
        cases okw with
        | true =>
          go_wp2_with (go_at_call 65; refine (unhide HE).mono ?_; rintro e w' ⟨rfl, hw'⟩; replace hw' := hw'.symm; subst hw')
          exact bodyPost_ret (v := .tuple #[.agg #[.int .i64 0, .int .i64 0, .int .i64 0, .int .i64 0, .int .i64 0, .slice none 0 0, .slice none 0 0], .bool false]) (by simp [results, Tryd.results66, go_sem, zW0, zW1, zW2, zW3, zW4, zW5, zW6]) rfl ⟨_, _, Or.inr ⟨by rw [unhide HhE]; rfl, rfl⟩, (unhide HV5').keep (unhide HGz) (fun hl => agg_apart (unhide HZ') zero7 (unhide HV5') hl), (unhide HV6').keep (unhide HGz) (fun hl => agg_apart (unhide HZ') zero7 (unhide HV6') hl), (unhide HB').grown (unhide HGz) (unhide HB').size (fun k hk => by cases hk; exact Nat.le_refl _)⟩
        | false =>
          go_wp2
          exact bodyPost_ret (v := .tuple #[.agg #[.int .i64 0, .int .i64 0, .int .i64 0, .int .i64 0, .int .i64 0, .slice none 0 0, .slice none 0 0], .bool false]) (by simp [results, Tryd.results66, go_sem, zW0, zW1, zW2, zW3, zW4, zW5, zW6]) rfl ⟨_, _, Or.inr ⟨by rw [unhide HhE]; rfl, rfl⟩, (unhide HV5').keep (unhide HGz) (fun hl => agg_apart (unhide HZ') zero7 (unhide HV5') hl), (unhide HV6').keep (unhide HGz) (fun hl => agg_apart (unhide HZ') zero7 (unhide HV6') hl), (unhide HB').grown (unhide HGz) (unhide HB').size (fun k hk => by cases hk; exact Nat.le_refl _)⟩
      | false =>
        go_wp2
        exact bodyPost_ret (v := .tuple #[.agg #[.int .i64 0, .int .i64 0, .int .i64 0, .int .i64 0, .int .i64 0, .slice none 0 0, .slice none 0 0], .bool false]) (by simp [results, Tryd.results66, go_sem, zW0, zW1, zW2, zW3, zW4, zW5, zW6]) rfl ⟨_, _, Or.inr ⟨by rw [unhide HhE]; rfl, rfl⟩, (unhide HV5').keep (unhide HGz) (fun hl => agg_apart (unhide HZ') zero7 (unhide HV5') hl), (unhide HV6').keep (unhide HGz) (fun hl => agg_apart (unhide HZ') zero7 (unhide HV6') hl), (unhide HB').grown (unhide HGz) (unhide HB').size (fun k hk => by cases hk; exact Nat.le_refl _)⟩
  · obtain ⟨P, hP⟩ : ∃ P, w5.heap.size = P := ⟨_, rfl⟩
    rw [hP] at HX6 x0 x1 x2 x3 x4 x5 x6 ⊢
    have hGP := grown7 w6 P (.int .i64 hI) (.int .i64 a) (.int .i64 b) (.int .i64 c) (.int .i64 d) (.slice s5 n5 c5) (.slice s6 n6 c6)
    have HA := hide (AggAt.of_heap (row7_set (unhide HX6) (.int .i64 hI) (.int .i64 a) (.int .i64 b) (.int .i64 c) (.int .i64 d) (.slice s5 n5 c5) (.slice s6 n6 c6)))
    have hgP : g ≠ P := by have := (unhide HG5).size; omega
    have HRd : Hid (RdAt ((((((((w6).setCell ⟨P, 0, none⟩ (.int .i64 hI)).setCell ⟨P, 1, none⟩ (.int .i64 a)).setCell ⟨P, 2, none⟩ (.int .i64 b)).setCell ⟨P, 3, none⟩ (.int .i64 c)).setCell ⟨P, 4, none⟩ (.int .i64 d)).setCell ⟨P, 5, none⟩ (.slice s5 n5 c5)).setCell ⟨P, 6, none⟩ (.slice s6 n6 c6)) g (tkR (tkR r2 16) 32)) := by
      show RdAt _ _ _
      obtain ⟨sr, nr, cr, hh1, hh2⟩ := unhide HR6
      exact ⟨sr, nr, cr, (hGP.block g (Array.getElem?_eq_some_iff.1 hh1).1 (by simpa using hgP)).trans hh1, hh2.keep hGP (fun hl => agg_apart (unhide HX6) zero7 hh2 hl)⟩
    have HV5' := hide ((unhide HV56).keep hGP (fun hl => agg_apart (unhide HX6) zero7 (unhide HV56) hl))
    have HV6' := hide ((unhide HV6).keep hGP (fun hl => agg_apart (unhide HX6) zero7 (unhide HV6) hl))
    have hAP : w0.heap.size ≠ P := by have := (unhide HG5).size; omega
    have HZ' := hide ((hGP.block _ (Nat.lt_of_lt_of_le hAl (unhide HG6).size) (by simpa using hAP)).trans (((unhide HG6).block _ hAl (by simpa using hne0)).trans (unhide HZ4)))
    have HB6 := hide (unhide Hgb _ _ (unhide HB4) (unhide HG6))
    have HB' := hide ((unhide HB6).grown hGP (unhide HB6).size (fun k hk => by cases hk; have := (unhide HG5).size; omega))
    obtain ⟨W, hWe⟩ : ∃ W, (((((((w6).setCell ⟨P, 0, none⟩ (.int .i64 hI)).setCell ⟨P, 1, none⟩ (.int .i64 a)).setCell ⟨P, 2, none⟩ (.int .i64 b)).setCell ⟨P, 3, none⟩ (.int .i64 c)).setCell ⟨P, 4, none⟩ (.int .i64 d)).setCell ⟨P, 5, none⟩ (.slice s5 n5 c5)).setCell ⟨P, 6, none⟩ (.slice s6 n6 c6) = W := ⟨_, rfl⟩
    rw [hWe] at HA HRd HV5' HV6' HZ' HB' ⊢
    clear hGP hWe
    have hPA : P ≠ w0.heap.size := by have := (unhide HG5).size; omega
    clear x0 x1 x2 x3 x4 x5 x6 fx hP n0 n1 n2 n3 k0 k1 k2 k3 m0 m1 m2 m3
    have a0 := (unhide HA).c 0 _ rfl
    have a1 := (unhide HA).c 1 _ rfl
    have a2 := (unhide HA).c 2 _ rfl
    have a3 := (unhide HA).c 3 _ rfl
    have a4 := (unhide HA).c 4 _ rfl
    have a5 := (unhide HA).c 5 _ rfl
    have a6 := (unhide HA).c 6 _ rfl
    have zW0 : W.cell? ⟨w0.heap.size, 0, none⟩ = some (.int .i64 0) := cell_of_row W w0.heap.size 0 _ 62 (0, 0) (unhide HZ')
    have zW1 : W.cell? ⟨w0.heap.size, 1, none⟩ = some (.int .i64 0) := cell_of_row W w0.heap.size 1 _ 62 (0, 0) (unhide HZ')
    have zW2 : W.cell? ⟨w0.heap.size, 2, none⟩ = some (.int .i64 0) := cell_of_row W w0.heap.size 2 _ 62 (0, 0) (unhide HZ')
    have zW3 : W.cell? ⟨w0.heap.size, 3, none⟩ = some (.int .i64 0) := cell_of_row W w0.heap.size 3 _ 62 (0, 0) (unhide HZ')
    have zW4 : W.cell? ⟨w0.heap.size, 4, none⟩ = some (.int .i64 0) := cell_of_row W w0.heap.size 4 _ 62 (0, 0) (unhide HZ')
    have zW5 : W.cell? ⟨w0.heap.size, 5, none⟩ = some (.slice none 0 0) := cell_of_row W w0.heap.size 5 _ 62 (0, 0) (unhide HZ')
    have zW6 : W.cell? ⟨w0.heap.size, 6, none⟩ = some (.slice none 0 0) := cell_of_row W w0.heap.size 6 _ 62 (0, 0) (unhide HZ')
    have fz := fun j => AggAt.fz (unhide HZ') j
    rw [unhide Hq3] at HRd
    have HE := hide (ended_c W g (tkR r3 32) (unhide HRd))
    rw [unhide Hq3] at HV6'
    have HGz := hide (grown7 W w0.heap.size (.int .i64 0) (.int .i64 0) (.int .i64 0) (.int .i64 0) (.int .i64 0) (.slice none 0 0) (.slice none 0 0))
    have HGp := hide (grown7 W w0.heap.size (.int .i64 hI) (.int .i64 a) (.int .i64 b) (.int .i64 c) (.int .i64 d) (.slice s5 n5 c5) (.slice s6 n6 c6))
    cases hE : endB (tkR r3 32) with
    | true =>
      rw [hE] at HE
      have HhE := hide hE
      clear hE
      cases okh with
      | true =>
        cases okw with
        | true =>
          go_wp2_with (go_at_call 65; refine (unhide HE).mono ?_; rintro e w' ⟨rfl, hw'⟩; replace hw' := hw'.symm; subst hw')
          exact bodyPost_ret (v := .tuple #[.agg #[.int .i64 hI, .int .i64 a, .int .i64 b, .int .i64 c, .int .i64 d, .slice s5 n5 c5, .slice s6 n6 c6], .bool true]) (by simp [results, Tryd.results66, go_sem, zW0, zW1, zW2, zW3, zW4, zW5, zW6]) rfl ⟨_, _, Or.inl ⟨by rw [unhide HhE]; rfl, rfl⟩, (unhide HV5').keep (unhide HGp) (fun hl => agg_apart (unhide HZ') zero7 (unhide HV5') hl), (unhide HV6').keep (unhide HGp) (fun hl => agg_apart (unhide HZ') zero7 (unhide HV6') hl), (unhide HB').grown (unhide HGp) (unhide HB').size (fun k hk => by cases hk; exact Nat.le_refl _)⟩
        | false =>
          go_wp2
          exact bodyPost_ret (v := .tuple #[.agg #[.int .i64 0, .int .i64 0, .int .i64 0, .int .i64 0, .int .i64 0, .slice none 0 0, .slice none 0 0], .bool false]) (by simp [results, Tryd.results66, go_sem, zW0, zW1, zW2, zW3, zW4, zW5, zW6]) rfl ⟨_, _, Or.inr ⟨by rw [unhide HhE]; rfl, rfl⟩, (unhide HV5').keep (unhide HGz) (fun hl => agg_apart (unhide HZ') zero7 (unhide HV5') hl), (unhide HV6').keep (unhide HGz) (fun hl => agg_apart (unhide HZ') zero7 (unhide HV6') hl), (unhide HB').grown (unhide HGz) (unhide HB').size (fun k hk => by cases hk; exact Nat.le_refl _)⟩
      | false =>
        go_wp2
        exact bodyPost_ret (v := .tuple #[.agg #[.int .i64 0, .int .i64 0, .int .i64 0, .int .i64 0, .int .i64 0, .slice none 0 0, .slice none 0 0], .bool false]) (by simp [results, Tryd.results66, go_sem, zW0, zW1, zW2, zW3, zW4, zW5, zW6]) rfl ⟨_, _, Or.inr ⟨by rw [unhide HhE]; rfl, rfl⟩, (unhide HV5').keep (unhide HGz) (fun hl => agg_apart (unhide HZ') zero7 (unhide HV5') hl), (unhide HV6').keep (unhide HGz) (fun hl => agg_apart (unhide HZ') zero7 (unhide HV6') hl), (unhide HB').grown (unhide HGz) (unhide HB').size (fun k hk => by cases hk; exact Nat.le_refl _)⟩
    | false =>
      rw [hE] at HE
      have HhE := hide hE
      clear hE
      cases okh with
      | true =>
        cases okw with
        | true =>
          go_wp2_with (go_at_call 65; refine (unhide HE).mono ?_; rintro e w' ⟨rfl, hw'⟩; replace hw' := hw'.symm; subst hw')
          exact bodyPost_ret (v := .tuple #[.agg #[.int .i64 0, .int .i64 0, .int .i64 0, .int .i64 0, .int .i64 0, .slice none 0 0, .slice none 0 0], .bool false]) (by simp [results, Tryd.results66, go_sem, zW0, zW1, zW2, zW3, zW4, zW5, zW6]) rfl ⟨_, _, Or.inr ⟨by rw [unhide HhE]; rfl, rfl⟩, (unhide HV5').keep (unhide HGz) (fun hl => agg_apart (unhide HZ') zero7 (unhide HV5') hl), (unhide HV6').keep (unhide HGz) (fun hl => agg_apart (unhide HZ') zero7 (unhide HV6') hl), (unhide HB').grown (unhide HGz) (unhide HB').size (fun k hk => by cases hk; exact Nat.le_refl _)⟩
        | false =>
          go_wp2
          exact bodyPost_ret (v := .tuple #[.agg #[.int .i64 0, .int .i64 0, .int .i64 0, .int .i64 0, .int .i64 0, .slice none 0 0, .slice none 0 0], .bool false]) (by simp [results, Tryd.results66, go_sem, zW0, zW1, zW2, zW3, zW4, zW5, zW6]) rfl ⟨_, _, Or.inr ⟨by rw [unhide HhE]; rfl, rfl⟩, (unhide HV5').keep (unhide HGz) (fun hl => agg_apart (unhide HZ') zero7 (unhide HV5') hl), (unhide HV6').keep (unhide HGz) (fun hl => agg_apart (unhide HZ') zero7 (unhide HV6') hl), (unhide HB').grown (unhide HGz) (unhide HB').size (fun k hk => by cases hk; exact Nat.le_refl _)⟩
      | false =>
        go_wp2
        exact bodyPost_ret (v := .tuple #[.agg #[.int .i64 0, .int .i64 0, .int .i64 0, .int .i64 0, .int .i64 0, .slice none 0 0, .slice none 0 0], .bool false]) (by simp [results, Tryd.results66, go_sem, zW0, zW1, zW2, zW3, zW4, zW5, zW6]) rfl ⟨_, _, Or.inr ⟨by rw [unhide HhE]; rfl, rfl⟩, (unhide HV5').keep (unhide HGz) (fun hl => agg_apart (unhide HZ') zero7 (unhide HV5') hl), (unhide HV6').keep (unhide HGz) (fun hl => agg_apart (unhide HZ') zero7 (unhide HV6') hl), (unhide HB').grown (unhide HGz) (unhide HB').size (fun k hk => by cases hk; exact Nat.le_refl _)⟩
  · obtain ⟨P, hP⟩ : ∃ P, P1 = P := ⟨_, rfl⟩
    rw [unhide HP1] at HZ6
    have HX6 := HZ6
    rw [hP] at HX6 y0 y1 y2 y3 y4 y5 y6 ⊢
    have hGP := grown7 w6 P (.int .i64 hI) (.int .i64 a) (.int .i64 b) (.int .i64 c) (.int .i64 d) (.slice s5 n5 c5) (.slice s6 n6 c6)
    have HA := hide (AggAt.of_heap (row7_set (unhide HX6) (.int .i64 hI) (.int .i64 a) (.int .i64 b) (.int .i64 c) (.int .i64 d) (.slice s5 n5 c5) (.slice s6 n6 c6)))
    have hgP : g ≠ P := by have := (unhide HG5).size; omega
    have HRd : Hid (RdAt ((((((((w6).setCell ⟨P, 0, none⟩ (.int .i64 hI)).setCell ⟨P, 1, none⟩ (.int .i64 a)).setCell ⟨P, 2, none⟩ (.int .i64 b)).setCell ⟨P, 3, none⟩ (.int .i64 c)).setCell ⟨P, 4, none⟩ (.int .i64 d)).setCell ⟨P, 5, none⟩ (.slice s5 n5 c5)).setCell ⟨P, 6, none⟩ (.slice s6 n6 c6)) g (tkR (tkR r2 16) 32)) := by
      show RdAt _ _ _
      obtain ⟨sr, nr, cr, hh1, hh2⟩ := unhide HR6
      exact ⟨sr, nr, cr, (hGP.block g (Array.getElem?_eq_some_iff.1 hh1).1 (by simpa using hgP)).trans hh1, hh2.keep hGP (fun hl => agg_apart (unhide HX6) zero7 hh2 hl)⟩
    have HV5' := hide ((unhide HV56).keep hGP (fun hl => agg_apart (unhide HX6) zero7 (unhide HV56) hl))
    have HV6' := hide ((unhide HV6).keep hGP (fun hl => agg_apart (unhide HX6) zero7 (unhide HV6) hl))
    have hAP : w0.heap.size ≠ P := by have := (unhide HG5).size; omega
    have HZ' := hide ((hGP.block _ (Nat.lt_of_lt_of_le hAl (unhide HG6).size) (by simpa using hAP)).trans (((unhide HG6).block _ hAl (by simpa using hne0)).trans (unhide HZ4)))
    have HB6 := hide (unhide Hgb _ _ (unhide HB4) (unhide HG6))
    have HB' := hide ((unhide HB6).grown hGP (unhide HB6).size (fun k hk => by cases hk; have := (unhide HG5).size; omega))
    obtain ⟨W, hWe⟩ : ∃ W, (((((((w6).setCell ⟨P, 0, none⟩ (.int .i64 hI)).setCell ⟨P, 1, none⟩ (.int .i64 a)).setCell ⟨P, 2, none⟩ (.int .i64 b)).setCell ⟨P, 3, none⟩ (.int .i64 c)).setCell ⟨P, 4, none⟩ (.int .i64 d)).setCell ⟨P, 5, none⟩ (.slice s5 n5 c5)).setCell ⟨P, 6, none⟩ (.slice s6 n6 c6) = W := ⟨_, rfl⟩
    rw [hWe] at HA HRd HV5' HV6' HZ' HB' ⊢
    clear hGP hWe
    have hPA : P ≠ w0.heap.size := by omega
    clear y0 y1 y2 y3 y4 y5 y6 fy hP n0 n1 n2 n3 k0 k1 k2 k3 m0 m1 m2 m3
    have a0 := (unhide HA).c 0 _ rfl
    have a1 := (unhide HA).c 1 _ rfl
    have a2 := (unhide HA).c 2 _ rfl
    have a3 := (unhide HA).c 3 _ rfl
    have a4 := (unhide HA).c 4 _ rfl
    have a5 := (unhide HA).c 5 _ rfl
    have a6 := (unhide HA).c 6 _ rfl
    have zW0 : W.cell? ⟨w0.heap.size, 0, none⟩ = some (.int .i64 0) := cell_of_row W w0.heap.size 0 _ 62 (0, 0) (unhide HZ')
    have zW1 : W.cell? ⟨w0.heap.size, 1, none⟩ = some (.int .i64 0) := cell_of_row W w0.heap.size 1 _ 62 (0, 0) (unhide HZ')
    have zW2 : W.cell? ⟨w0.heap.size, 2, none⟩ = some (.int .i64 0) := cell_of_row W w0.heap.size 2 _ 62 (0, 0) (unhide HZ')
    have zW3 : W.cell? ⟨w0.heap.size, 3, none⟩ = some (.int .i64 0) := cell_of_row W w0.heap.size 3 _ 62 (0, 0) (unhide HZ')
    have zW4 : W.cell? ⟨w0.heap.size, 4, none⟩ = some (.int .i64 0) := cell_of_row W w0.heap.size 4 _ 62 (0, 0) (unhide HZ')
    have zW5 : W.cell? ⟨w0.heap.size, 5, none⟩ = some (.slice none 0 0) := cell_of_row W w0.heap.size 5 _ 62 (0, 0) (unhide HZ')
    have zW6 : W.cell? ⟨w0.heap.size, 6, none⟩ = some (.slice none 0 0) := cell_of_row W w0.heap.size 6 _ 62 (0, 0) (unhide HZ')
    have fz := fun j => AggAt.fz (unhide HZ') j
    rw [unhide Hq3] at HRd
    have HE := hide (ended_c W g (tkR r3 32) (unhide HRd))
    rw [unhide Hq3] at HV6'
    have HGz := hide (grown7 W w0.heap.size (.int .i64 0) (.int .i64 0) (.int .i64 0) (.int .i64 0) (.int .i64 0) (.slice none 0 0) (.slice none 0 0))
    have HGp := hide (grown7 W w0.heap.size (.int .i64 hI) (.int .i64 a) (.int .i64 b) (.int .i64 c) (.int .i64 d) (.slice s5 n5 c5) (.slice s6 n6 c6))
    cases hE : endB (tkR r3 32) with
    | true =>
      rw [hE] at HE
      have HhE := hide hE
      clear hE
      cases okh with
      | true =>
        cases okw with
        | true =>
          go_wp2_with (go_at_call 65; refine (unhide HE).mono ?_; rintro e w' ⟨rfl, hw'⟩; replace hw' := hw'.symm; subst hw')
          exact bodyPost_ret (v := .tuple #[.agg #[.int .i64 hI, .int .i64 a, .int .i64 b, .int .i64 c, .int .i64 d, .slice s5 n5 c5, .slice s6 n6 c6], .bool true]) (by simp [results, Tryd.results66, go_sem, zW0, zW1, zW2, zW3, zW4, zW5, zW6]) rfl ⟨_, _, Or.inl ⟨by rw [unhide HhE]; rfl, rfl⟩, (unhide HV5').keep (unhide HGp) (fun hl => agg_apart (unhide HZ') zero7 (unhide HV5') hl), (unhide HV6').keep (unhide HGp) (fun hl => agg_apart (unhide HZ') zero7 (unhide HV6') hl), (unhide HB').grown (unhide HGp) (unhide HB').size (fun k hk => by cases hk; exact Nat.le_refl _)⟩
        | false =>
          go_wp2
          exact bodyPost_ret (v := .tuple #[.agg #[.int .i64 0, .int .i64 0, .int .i64 0, .int .i64 0, .int .i64 0, .slice none 0 0, .slice none 0 0], .bool false]) (by simp [results, Tryd.results66, go_sem, zW0, zW1, zW2, zW3, zW4, zW5, zW6]) rfl ⟨_, _, Or.inr ⟨by rw [unhide HhE]; rfl, rfl⟩, (unhide HV5').keep (unhide HGz) (fun hl => agg_apart (unhide HZ') zero7 (unhide HV5') hl), (unhide HV6').keep (unhide HGz) (fun hl => agg_apart (unhide HZ') zero7 (unhide HV6') hl), (unhide HB').grown (unhide HGz) (unhide HB').size (fun k hk => by cases hk; exact Nat.le_refl _)⟩
      | false =>
        go_wp2
        exact bodyPost_ret (v := .tuple #[.agg #[.int .i64 0, .int .i64 0, .int .i64 0, .int .i64 0, .int .i64 0, .slice none 0 0, .slice none 0 0], .bool false]) (by simp [results, Tryd.results66, go_sem, zW0, zW1, zW2, zW3, zW4, zW5, zW6]) rfl ⟨_, _, Or.inr ⟨by rw [unhide HhE]; rfl, rfl⟩, (unhide HV5').keep (unhide HGz) (fun hl => agg_apart (unhide HZ') zero7 (unhide HV5') hl), (unhide HV6').keep (unhide HGz) (fun hl => agg_apart (unhide HZ') zero7 (unhide HV6') hl), (unhide HB').grown (unhide HGz) (unhide HB').size (fun k hk => by cases hk; exact Nat.le_refl _)⟩
    | false =>
      rw [hE] at HE
      have HhE := hide hE
      clear hE
      cases okh with
      | true =>
        cases okw with
        | true =>
          go_wp2_with (go_at_call 65; refine (unhide HE).mono ?_; rintro e w' ⟨rfl, hw'⟩; replace hw' := hw'.symm; subst hw')
          exact bodyPost_ret (v := .tuple #[.agg #[.int .i64 0, .int .i64 0, .int .i64 0, .int .i64 0, .int .i64 0, .slice none 0 0, .slice none 0 0], .bool false]) (by simp [results, Tryd.results66, go_sem, zW0, zW1, zW2, zW3, zW4, zW5, zW6]) rfl ⟨_, _, Or.inr ⟨by rw [unhide HhE]; rfl, rfl⟩, (unhide HV5').keep (unhide HGz) (fun hl => agg_apart (unhide HZ') zero7 (unhide HV5') hl), (unhide HV6').keep (unhide HGz) (fun hl => agg_apart (unhide HZ') zero7 (unhide HV6') hl), (unhide HB').grown (unhide HGz) (unhide HB').size (fun k hk => by cases hk; exact Nat.le_refl _)⟩
        | false =>
          go_wp2
          exact bodyPost_ret (v := .tuple #[.agg #[.int .i64 0, .int .i64 0, .int .i64 0, .int .i64 0, .int .i64 0, .slice none 0 0, .slice none 0 0], .bool false]) (by simp [results, Tryd.results66, go_sem, zW0, zW1, zW2, zW3, zW4, zW5, zW6]) rfl ⟨_, _, Or.inr ⟨by rw [unhide HhE]; rfl, rfl⟩, (unhide HV5').keep (unhide HGz) (fun hl => agg_apart (unhide HZ') zero7 (unhide HV5') hl), (unhide HV6').keep (unhide HGz) (fun hl => agg_apart (unhide HZ') zero7 (unhide HV6') hl), (unhide HB').grown (unhide HGz) (unhide HB').size (fun k hk => by cases hk; exact Nat.le_refl _)⟩
      | false =>
        go_wp2
        exact bodyPost_ret (v := .tuple #[.agg #[.int .i64 0, .int .i64 0, .int .i64 0, .int .i64 0, .int .i64 0, .slice none 0 0, .slice none 0 0], .bool false]) (by simp [results, Tryd.results66, go_sem, zW0, zW1, zW2, zW3, zW4, zW5, zW6]) rfl ⟨_, _, Or.inr ⟨by rw [unhide HhE]; rfl, rfl⟩, (unhide HV5').keep (unhide HGz) (fun hl => agg_apart (unhide HZ') zero7 (unhide HV5') hl), (unhide HV6').keep (unhide HGz) (fun hl => agg_apart (unhide HZ') zero7 (unhide HV6') hl), (unhide HB').grown (unhide HGz) (unhide HB').size (fun k hk => by cases hk; exact Nat.le_refl _)⟩
end Go.Proofs.YtlhjifdahagkaaaDoor
/-
  The walks of bytes.Equal and of the closure of rootOf.
-/
namespace Go.Proofs.YtlhjifdahagkaaaDoor
open Go.RowKit
set_option maxRecDepth 100000 in
set_option maxHeartbeats 1000000 in
theorem at1_c (w0 : World) (K : Nat) (cs : List Value) (xi : Value) (id : Bs) (hK : AggAt w0 K cs) (h5 : cs[5]? = some xi) (hi : BytesAt w0 xi id) (n : Int) :
    Calls Tryd.prog 81 #[.int .i64 n, .pointer (some ⟨K, 0, none⟩)] w0 fun e w' => e = .returned (.agg #[xi, .int .i64 n]) ∧ Below w0.heap.size w0 w' := by
  obtain ⟨si, ni, ci, rfl⟩ := hi.forms
  have c5 := hK.c 5 _ h5
  have hlt := hK.1
  have hb : ∀ o : Obj, Below w0.heap.size w0 (w0.alloc o) := fun o => (Below.refl _ _).alloc (Nat.le_refl _) _
  have Hb := hide hb
  clear hb hi hK h5
  go_enter Tryd.func81, Tryd.ntmps81
  go_wp2
  exact bodyPost_ret (v := .agg #[.slice si ni ci, .int .i64 n]) (by simp [results, Tryd.results81, go_sem]) rfl ⟨rfl, unhide Hb _⟩
theorem conv_bytes (w : World) (x : Value) (l : Bs) (hx : BytesAt w x l) (hl : l ≠ []) : (convert 24 9 x).run Tryd.prog w = .ok (.string ⟨l.toArray⟩) w := by
  obtain ⟨sp, c, rfl, _, _, hc⟩ := bytes_open hx
  obtain ⟨b, o, rfl, _, hcell⟩ := hc hl
  refine run_convert_bytes_back w 24 9 5 ⟨b, o, none⟩ c l Tryd.underlying24 Tryd.underlying5 Tryd.underlying9 fun j hj => ?_
  rw [Addr.add_mid, hcell j hj]
  simp [List.getD_eq_getElem?_getD, hj]
set_option maxRecDepth 100000 in
set_option maxHeartbeats 1000000 in
theorem beq_c (w : World) (x y : Value) (l m : Bs) (hx : BytesAt w x l) (hy : BytesAt w y m) (hl : l ≠ []) (hm : m ≠ []) : Calls Tryd.prog 67 #[x, y] w fun e w' => e = .returned (.bool (decide (l = m))) ∧ w' = w := by
  have c1 := conv_bytes w x l hx hl
  have c2 := conv_bytes w y m hy hm
  by_cases h : l = m
  · subst h
    generalize (⟨l.toArray⟩ : ByteArray) = S at c1 c2
    clear hx hy
    go_enter Tryd.func67, Tryd.ntmps67
    go_wp2
    go_ret
    exact ⟨rfl, rfl⟩
  · have d1 : ((ByteArray.mk l.toArray).toList == (ByteArray.mk m.toArray).toList) = false := by simpa using h
    have Hd : Hid (decide (l = m) = false) := by show _ = _; simp [h]
    generalize (⟨l.toArray⟩ : ByteArray) = S at c1 d1
    generalize (⟨m.toArray⟩ : ByteArray) = S2 at c2 d1
    clear hx hy h
    go_enter Tryd.func67, Tryd.ntmps67
    go_wp2
    go_ret
    exact ⟨by rw [unhide Hd]; rfl, rfl⟩
end Go.Proofs.YtlhjifdahagkaaaDoor
