/-
  The walk of the landed cut.
-/
import Derived.Test.YtlhjifdahagkaaaDoorM17
import Derived.Deep.Cut
namespace Go.Proofs.YtlhjifdahagkaaaDoor
open Go.RowKit
theorem noByteA {a0 a1 a2 a3 a4 a5 : Int} {s6 s7 s8 s9 : Option Addr} {n6 n7 n8 n9 c6 c7 c8 c9 : Nat} : ∀ (j : Nat) (v : Value), (#[.int .i64 a0, .int .i64 a1, .int .i64 a2, .int .i64 a3, .int .i64 a4, .int .i64 a5, .slice s6 n6 c6, .slice s7 n7 c7, .slice s8 n8 c8, .slice s9 n9 c9] : Array Value)[j]? = some v → ∀ z, v ≠ .int .u8 z := fun j v h z => noByte10 j v (by simpa using h) z
set_option maxRecDepth 100000 in
set_option maxHeartbeats 3000000 in
theorem cut_c (w0 : World) (hW : WidAt w0) (xb : Value) (sig : Bs) (hx : BytesAt w0 xb sig) (hl : sig.length ≤ 100000) (L n : Nat) (hL : numB (tk ⟨sig, false⟩ 4) = L) (hn : L + 1 = n) (hn3 : n ≤ 3) (r : Rd) (hr : tkR ⟨sig, false⟩ 4 = r) :
    Calls Tryd.prog 39 #[xb] w0 fun e w' => (((∃ k, k < n ∧ ¬ Good (rr n r k)) ∧ e = .returned (.tuple #[.slice none 0 0, .bool false])) ∨ ((∀ k, k < n → Good (rr n r k)) ∧ ∃ B, e = .returned (.tuple #[.slice (some ⟨B, 0, none⟩) n n, .bool (endB (rr n r n))]) ∧ w0.heap.size ≤ B ∧ SAt w' B n n r)) ∧ Below w0.heap.size w0 w' := by
  obtain ⟨sx, nx, cx, rfl⟩ := hx.forms
  have hbB : Below w0.heap.size w0 (w0.alloc (.cells #[.slice sx nx cx, .bool false] 74)) := (Below.refl _ _).alloc (Nat.le_refl _) _
  have hR0 := rd_new w0 (.slice sx nx cx) sig hx
  have hlw : 0 < w0.heap.size := by obtain ⟨_, _, hT⟩ := hW; exact (Array.getElem?_eq_some_iff.1 hT).1
  obtain ⟨g, hg⟩ : ∃ g, w0.heap.size = g := ⟨_, rfl⟩
  rw [hg] at hR0
  have Hn1 := hide (rdnum_c _ g ⟨sig, false⟩ hR0 hl)
  rw [hL, hr] at Hn1
  have HWB := hide (wid4 w0 hW _ hbB)
  have HBB := hide hbB
  have Hg := hide hg
  have hlr : r.l.length ≤ 100000 := by rw [← hr]; exact Nat.le_trans (len_tkR _ _) hl
  have Lb : (L : Int) ≤ 2 := by omega
  have Lb0 : (0 : Int) ≤ (L : Int) := by omega
  have hni : (L : Int) + 1 = (n : Int) := by omega
  have nb : (n : Int) ≤ 3 := by omega
  have nb1 : (1 : Int) ≤ (n : Int) := by omega
  have Hgb : Hid (∀ (x y : World), Below w0.heap.size w0 x → x.grownBy y (some g) → Below w0.heap.size w0 y) := fun x y h1 h2 => h1.grown h2 h1.size (fun k hk => by cases hk; omega)
  clear hx hbB hR0 hW hL hr
  go_enter Tryd.func39, Tryd.ntmps39
  go_wp2_with fail
  refine (unhide Hn1).mono ?_
  rintro e w1 ⟨rfl, hR1, hG1⟩
  have HR1 := hide hR1
  have HB1 := hide (unhide Hgb _ _ (unhide HBB) hG1)
  have HW1 := hide (wid_grown (unhide HWB) hG1 (by omega))
  clear hR1 hG1 Hn1
  go_wp2_with fail
  refine (islev_yes w1 _ nb1 nb).mono ?_
  rintro e w1' ⟨rfl, hw1⟩
  replace hw1 := hw1.symm
  subst hw1
  obtain ⟨W2, hmk, hS2, hb2⟩ := made_sto w1 n hn3 r
  obtain ⟨B, hB⟩ : ∃ B, w1.heap.size = B := ⟨_, rfl⟩
  rw [hB] at hmk hS2
  have hBg : B ≠ g := by have := (unhide HR1).lt; omega
  have hB0 : w0.heap.size ≤ B := by have := (unhide HB1).size; omega
  have HR2 := hide ((unhide HR1).below hb2)
  have HB2 := hide ((unhide HB1).trans (hb2.mono (unhide HB1).size))
  have HW2 := hide (wid4 w1 (unhide HW1) W2 hb2)
  have HS2 := hide hS2
  have hgw : 0 ≠ g := by omega
  have hwl : 0 < w0.heap.size := hlw
  clear hb2 hS2 hB HR1 HB1 HW1 hg
  go_wp2
  go_loopw [21] (fun ii wr => ∃ i : Nat, i ≤ n ∧ ii = .int .i64 (i : Int) ∧ Hid (∀ k, k < i → Good (rr n r k)) ∧ Hid (RdAt wr g (rr n r i)) ∧ Hid (SAt wr B n i r) ∧ Hid (Below w0.heap.size w0 wr) ∧ Hid (WidAt wr)) (fun ii _ => n - (intOf ii).toNat)
  case atStart => exact ⟨0, by omega, rfl, fun k hk => absurd hk (by omega), HR2, HS2, HB2, HW2⟩
  case round =>
    clear HR2 HS2 HB2 HW2 hmk
    obtain ⟨i, hi, rfl, Hg, HR, HS, HB, HW⟩ := hrel
    rename World => wc
    have ib : (i : Int) ≤ 3 := by omega
    have ib0 : (0 : Int) ≤ (i : Int) := by omega
    have hlri := Nat.le_trans (len_rr n r i) hlr
    by_cases hlt : i < n
    · have il : (i : Int) < (n : Int) := by omega
      by_cases hgood : Good (rr n r i)
      · go_wp2_with fail
        refine (sto_yes wc (unhide HW) g hgw (rr n r i) (unhide HR) hlri hgood).mono ?_
        rintro e w3 ⟨xc, xp, xb, rfl, b1, b2, b3, hR3, hG3⟩
        obtain ⟨s1, n1, c1, rfl⟩ := b1.forms
        obtain ⟨s2, n2, c2, rfl⟩ := b2.forms
        obtain ⟨s3, n3, c3, rfl⟩ := b3.forms
        have hlr6 := Nat.le_trans (len_r6 (rr n r i)) hlri
        have Hnext : Hid (rr n r (i + 1) = if i + 1 < n then tkR (r6 (rr n r i)) 56 else r6 (rr n r i)) := rfl
        have Hbel : Hid (bel n r i = if i + 1 < n then tk (r6 (rr n r i)) 56 else []) := rfl
        have HS3 := hide ((unhide HS).grown hG3 hBg (fun x l hx => (unhide HR).keep hG3 hx))
        have HB3 := hide (unhide Hgb _ _ (unhide HB) hG3)
        have HW3 := hide (wid_grown (unhide HW) hG3 hgw)
        obtain ⟨a0, h0⟩ : ∃ a0, sh (rr n r i) = a0 := ⟨_, rfl⟩
        obtain ⟨a1, h1⟩ : ∃ a1, swd (rr n r i) = a1 := ⟨_, rfl⟩
        obtain ⟨a2, h2⟩ : ∃ a2, tyW a1 = a2 := ⟨_, rfl⟩
        obtain ⟨a3, h3⟩ : ∃ a3, pW a1 = a3 := ⟨_, rfl⟩
        obtain ⟨a4, h4⟩ : ∃ a4, lsW a1 = a4 := ⟨_, rfl⟩
        obtain ⟨a5, h5⟩ : ∃ a5, sq (rr n r i) = a5 := ⟨_, rfl⟩
        have Hab := hide (And.intro h0 (And.intro h1 (And.intro h2 (And.intro h3 (And.intro h4 h5)))))
        have HR3 := hide hR3
        rw [h0, h1, h2, h3, h4, h5]
        have hbl : Below w3.heap.size w3 (w3.alloc (.cells #[.int .i64 (a0 : Int), .int .i64 (a1 : Int), .int .i64 (a2 : Int), .int .i64 (a3 : Int), .int .i64 (a4 : Int), .int .i64 (a5 : Int), .slice s1 n1 c1, .slice s2 n2 c2, .slice s3 n3 c3, .slice none 0 0] 79)) := (Below.refl _ _).alloc (Nat.le_refl _) _
        have hV := heap_alloc_new w3 (.cells #[.int .i64 (a0 : Int), .int .i64 (a1 : Int), .int .i64 (a2 : Int), .int .i64 (a3 : Int), .int .i64 (a4 : Int), .int .i64 (a5 : Int), .slice s1 n1 c1, .slice s2 n2 c2, .slice s3 n3 c3, .slice none 0 0] 79)
        have HR4 := hide (hR3.below hbl)
        have HS4 := hide ((unhide HS3).below hbl)
        have HB4 := hide ((unhide HB3).trans (hbl.mono (unhide HB3).size))
        have HW4 := hide (wid4 w3 (unhide HW3) _ hbl)
        have HcW := hide b1
        have HpW := hide b2
        have HbW := hide b3
        have Hc4 := hide (b1.below hbl)
        have Hp4 := hide (b2.below hbl)
        have Hb4 := hide (b3.below hbl)
        obtain ⟨V, hVe⟩ : ∃ V, w3.heap.size = V := ⟨_, rfl⟩
        rw [hVe] at hV
        have hVg : V ≠ g := by have := hR3.lt; omega
        have hBV : B ≠ V := by have := (unhide HS3).lt; omega
        have hVn : V ≠ B := Ne.symm hBV
        have HV4 := hide hV
        obtain ⟨O, hO⟩ : ∃ O, i * 10 = O := ⟨_, rfl⟩
        obtain ⟨m, hm⟩ : ∃ m, n - 1 = m := ⟨_, rfl⟩
        have hmi : (n : Int) - 1 = (m : Int) := by omega
        clear b1 b2 b3 hR3 hG3 h0 h1 h2 h3 h4 h5 hbl hV HS HB HW HR
        by_cases hi1 : i + 1 < n
        · have d1 : (i : Int) < (m : Int) := by omega
          rw [if_pos hi1] at Hnext Hbel
          have Htk := hide (take_c _ g (r6 (rr n r i)) 56 (unhide HR4) hlr6)
          go_wp2_with fail
          refine (unhide Htk).mono ?_
          rintro e w5 ⟨v5, rfl, hV5, hR5, hG5⟩
          obtain ⟨s4, n4, c4, rfl⟩ := hV5.forms
          have hV5' := (hG5.block V (Array.getElem?_eq_some_iff.1 (unhide HV4)).1 (by simpa using hVg)).trans (unhide HV4)
          have z9 : w5.cell? ⟨V, 9, none⟩ = some (.slice none 0 0) := cell_of_row w5 V 9 _ 79 (0, 0) hV5'
          have fz := fun j => AggAt.fz hV5' j
          have hG6 : w5.grownBy (w5.setCell ⟨V, 9, none⟩ (.slice s4 n4 c4)) (some V) := grown_setCell (World.grownBy.refl _ _) _ _ rfl
          have hkp : ∀ x l, BytesAt w5 x l → BytesAt (w5.setCell ⟨V, 9, none⟩ (.slice s4 n4 c4)) x l := fun x l hx => hx.keep hG6 (fun hl => agg_apart hV5' noByteA hx hl)
          have HVW : Hid ((w5.setCell ⟨V, 9, none⟩ (.slice s4 n4 c4)).heap[V]? = some (.cells [.int .i64 (a0 : Int), .int .i64 (a1 : Int), .int .i64 (a2 : Int), .int .i64 (a3 : Int), .int .i64 (a4 : Int), .int .i64 (a5 : Int), .slice s1 n1 c1, .slice s2 n2 c2, .slice s3 n3 c3, .slice s4 n4 c4].toArray 79 (0, 0))) := by show _ = _; rw [heap_setCell_same w5 V 9 _ 79 _ hV5']; rfl
          have HRW : Hid (RdAt (w5.setCell ⟨V, 9, none⟩ (.slice s4 n4 c4)) g (rr n r (i + 1))) := by show RdAt _ _ _; rw [unhide Hnext]; exact hR5.kept hG6 hVg.symm hV5' noByteA
          have HSW := hide (((unhide HS4).grown hG5 hBg (fun x l hx => (unhide HR4).keep hG5 hx)).grown hG6 hBV hkp)
          have HBW := hide ((unhide Hgb _ _ (unhide HB4) hG5).grown hG6 (unhide Hgb _ _ (unhide HB4) hG5).size (fun k hk => by cases hk; have := (unhide HB3).size; omega))
          have HDW := hide (wid_grown (wid_grown (unhide HW4) hG5 hgw) hG6 (by have := (unhide HB3).size; omega))
          replace HcW := hide (hkp _ _ ((unhide HR4).keep hG5 (unhide Hc4)))
          replace HpW := hide (hkp _ _ ((unhide HR4).keep hG5 (unhide Hp4)))
          replace HbW := hide (hkp _ _ ((unhide HR4).keep hG5 (unhide Hb4)))
          have HwW : Hid (BytesAt (w5.setCell ⟨V, 9, none⟩ (.slice s4 n4 c4)) (.slice s4 n4 c4) (bel n r i)) := by show BytesAt _ _ _; rw [unhide Hbel]; exact hkp _ _ hV5
          obtain ⟨W, hWe⟩ : ∃ W, w5.setCell ⟨V, 9, none⟩ (.slice s4 n4 c4) = W := ⟨_, rfl⟩
          rw [hWe] at HVW HRW HSW HBW HDW HcW HpW HbW HwW
          clear hV5 hR5 hG5 hV5' hG6 hkp
          have vv := AggAt.of_heap (unhide HVW)
          have v0 := vv.c 0 _ rfl
          have v1 := vv.c 1 _ rfl
          have v2 := vv.c 2 _ rfl
          have v3 := vv.c 3 _ rfl
          have v4 := vv.c 4 _ rfl
          have v5 := vv.c 5 _ rfl
          have v6 := vv.c 6 _ rfl
          have v7 := vv.c 7 _ rfl
          have v8 := vv.c 8 _ rfl
          have v9 := vv.c 9 _ rfl
          obtain ⟨u0, x0⟩ := (unhide HSW).cellAny i 0 hlt (by omega)
          obtain ⟨u1, x1⟩ := (unhide HSW).cellAny i 1 hlt (by omega)
          obtain ⟨u2, x2⟩ := (unhide HSW).cellAny i 2 hlt (by omega)
          obtain ⟨u3, x3⟩ := (unhide HSW).cellAny i 3 hlt (by omega)
          obtain ⟨u4, x4⟩ := (unhide HSW).cellAny i 4 hlt (by omega)
          obtain ⟨u5, x5⟩ := (unhide HSW).cellAny i 5 hlt (by omega)
          obtain ⟨u6, x6⟩ := (unhide HSW).cellAny i 6 hlt (by omega)
          obtain ⟨u7, x7⟩ := (unhide HSW).cellAny i 7 hlt (by omega)
          obtain ⟨u8, x8⟩ := (unhide HSW).cellAny i 8 hlt (by omega)
          obtain ⟨u9, x9⟩ := (unhide HSW).cellAny i 9 hlt (by omega)
          have fx := fun j => (unhide HSW).frozen j
          rw [hO] at x0 x1 x2 x3 x4 x5 x6 x7 x8 x9
          rw [Nat.add_zero] at x0
          have HSn0 := (unhide HSW).set hlt (.slice s1 n1 c1) (.slice s2 n2 c2) (.slice s3 n3 c3) (.slice s4 n4 c4) (unhide HcW) (unhide HpW) (unhide HbW) (unhide HwW)
          rw [hO, (unhide Hab).1, (unhide Hab).2.1, (unhide Hab).2.2.1, (unhide Hab).2.2.2.1, (unhide Hab).2.2.2.2.1, (unhide Hab).2.2.2.2.2] at HSn0
          have hG10 := set10_grown W B O (.int .i64 (a0 : Int)) (.int .i64 (a1 : Int)) (.int .i64 (a2 : Int)) (.int .i64 (a3 : Int)) (.int .i64 (a4 : Int)) (.int .i64 (a5 : Int)) (.slice s1 n1 c1) (.slice s2 n2 c2) (.slice s3 n3 c3) (.slice s4 n4 c4)
          have HRn : Hid (RdAt (set10 W B O (.int .i64 (a0 : Int)) (.int .i64 (a1 : Int)) (.int .i64 (a2 : Int)) (.int .i64 (a3 : Int)) (.int .i64 (a4 : Int)) (.int .i64 (a5 : Int)) (.slice s1 n1 c1) (.slice s2 n2 c2) (.slice s3 n3 c3) (.slice s4 n4 c4)) g (rr n r (i + 1))) := by
            show RdAt _ _ _
            obtain ⟨cur, q1, _, q3, _⟩ := unhide HSW
            exact (unhide HRW).kept hG10 hBg.symm q1 q3
          have HBn : Hid (Below w0.heap.size w0 (set10 W B O (.int .i64 (a0 : Int)) (.int .i64 (a1 : Int)) (.int .i64 (a2 : Int)) (.int .i64 (a3 : Int)) (.int .i64 (a4 : Int)) (.int .i64 (a5 : Int)) (.slice s1 n1 c1) (.slice s2 n2 c2) (.slice s3 n3 c3) (.slice s4 n4 c4))) := hide ((unhide HBW).grown hG10 (unhide HBW).size (fun k hk => by cases hk; omega))
          have HWn : Hid (WidAt (set10 W B O (.int .i64 (a0 : Int)) (.int .i64 (a1 : Int)) (.int .i64 (a2 : Int)) (.int .i64 (a3 : Int)) (.int .i64 (a4 : Int)) (.int .i64 (a5 : Int)) (.slice s1 n1 c1) (.slice s2 n2 c2) (.slice s3 n3 c3) (.slice s4 n4 c4))) := hide (wid_grown (unhide HDW) hG10 (by omega))
          have HSn := hide HSn0
          have Hgn : Hid (∀ k, k < i + 1 → Good (rr n r k)) := fun k hk => by
            by_cases e : k = i
            · rw [e]; exact hgood
            · exact unhide Hg k (by omega)
          unfold set10 at HRn HBn HWn HSn
          clear HSn0 hG10 vv
          go_wp2
          go_roundw
          case rel =>
            first
              | exact ⟨i + 1, by omega, by go_num, Hgn, HRn, HSn, HBn, HWn⟩
              | ((repeat apply Exists.intro); exact ⟨⟨i + 1, by omega, by go_num, Hgn, HRn, HSn, HBn, HWn⟩, rfl⟩)
          case measure => simp [intOf]; omega
        · have d1 : decide ((i : Int) < (m : Int)) = false := by simp; omega
          have d1' : decide (i < m) = false := by simp; omega
          have d2 : ¬ ((i : Int) < (m : Int)) := by omega
          rw [if_neg hi1] at Hnext Hbel
          go_upto_region 14 with fail
          obtain ⟨W, hWe⟩ : ∃ W, w3.alloc (.cells #[.int .i64 (a0 : Int), .int .i64 (a1 : Int), .int .i64 (a2 : Int), .int .i64 (a3 : Int), .int .i64 (a4 : Int), .int .i64 (a5 : Int), .slice s1 n1 c1, .slice s2 n2 c2, .slice s3 n3 c3, .slice none 0 0] 79) = W := ⟨_, rfl⟩
          have HVW : Hid (W.heap[V]? = some (.cells [.int .i64 (a0 : Int), .int .i64 (a1 : Int), .int .i64 (a2 : Int), .int .i64 (a3 : Int), .int .i64 (a4 : Int), .int .i64 (a5 : Int), .slice s1 n1 c1, .slice s2 n2 c2, .slice s3 n3 c3, .slice none 0 0].toArray 79 (0, 0))) := by show _ = _; rw [← hWe]; exact unhide HV4
          have HRW : Hid (RdAt W g (rr n r (i + 1))) := by show RdAt _ _ _; rw [unhide Hnext, ← hWe]; exact unhide HR4
          have HSW : Hid (SAt W B n i r) := by show SAt _ _ _ _ _; rw [← hWe]; exact unhide HS4
          have HBW : Hid (Below w0.heap.size w0 W) := by show Below _ _ _; rw [← hWe]; exact unhide HB4
          have HDW : Hid (WidAt W) := by show WidAt _; rw [← hWe]; exact unhide HW4
          replace HcW : Hid (BytesAt W (.slice s1 n1 c1) (scc (rr n r i))) := by show BytesAt _ _ _; rw [← hWe]; exact unhide Hc4
          replace HpW : Hid (BytesAt W (.slice s2 n2 c2) (sps (rr n r i))) := by show BytesAt _ _ _; rw [← hWe]; exact unhide Hp4
          replace HbW : Hid (BytesAt W (.slice s3 n3 c3) (sbs (rr n r i))) := by show BytesAt _ _ _; rw [← hWe]; exact unhide Hb4
          have HwW : Hid (BytesAt W (.slice none 0 0) (bel n r i)) := by show BytesAt _ _ _; rw [unhide Hbel]; exact bytes_nil _
          rw [hWe]
          clear hWe HR4 HS4 HB4 HW4 Hc4 Hp4 Hb4 HV4
          have vv := AggAt.of_heap (unhide HVW)
          have v0 := vv.c 0 _ rfl
          have v1 := vv.c 1 _ rfl
          have v2 := vv.c 2 _ rfl
          have v3 := vv.c 3 _ rfl
          have v4 := vv.c 4 _ rfl
          have v5 := vv.c 5 _ rfl
          have v6 := vv.c 6 _ rfl
          have v7 := vv.c 7 _ rfl
          have v8 := vv.c 8 _ rfl
          have v9 := vv.c 9 _ rfl
          obtain ⟨u0, x0⟩ := (unhide HSW).cellAny i 0 hlt (by omega)
          obtain ⟨u1, x1⟩ := (unhide HSW).cellAny i 1 hlt (by omega)
          obtain ⟨u2, x2⟩ := (unhide HSW).cellAny i 2 hlt (by omega)
          obtain ⟨u3, x3⟩ := (unhide HSW).cellAny i 3 hlt (by omega)
          obtain ⟨u4, x4⟩ := (unhide HSW).cellAny i 4 hlt (by omega)
          obtain ⟨u5, x5⟩ := (unhide HSW).cellAny i 5 hlt (by omega)
          obtain ⟨u6, x6⟩ := (unhide HSW).cellAny i 6 hlt (by omega)
          obtain ⟨u7, x7⟩ := (unhide HSW).cellAny i 7 hlt (by omega)
          obtain ⟨u8, x8⟩ := (unhide HSW).cellAny i 8 hlt (by omega)
          obtain ⟨u9, x9⟩ := (unhide HSW).cellAny i 9 hlt (by omega)
          have fx := fun j => (unhide HSW).frozen j
          rw [hO] at x0 x1 x2 x3 x4 x5 x6 x7 x8 x9
          rw [Nat.add_zero] at x0
          have HSn0 := (unhide HSW).set hlt (.slice s1 n1 c1) (.slice s2 n2 c2) (.slice s3 n3 c3) (.slice none 0 0) (unhide HcW) (unhide HpW) (unhide HbW) (unhide HwW)
          rw [hO, (unhide Hab).1, (unhide Hab).2.1, (unhide Hab).2.2.1, (unhide Hab).2.2.2.1, (unhide Hab).2.2.2.2.1, (unhide Hab).2.2.2.2.2] at HSn0
          have hG10 := set10_grown W B O (.int .i64 (a0 : Int)) (.int .i64 (a1 : Int)) (.int .i64 (a2 : Int)) (.int .i64 (a3 : Int)) (.int .i64 (a4 : Int)) (.int .i64 (a5 : Int)) (.slice s1 n1 c1) (.slice s2 n2 c2) (.slice s3 n3 c3) (.slice none 0 0)
          have HRn : Hid (RdAt (set10 W B O (.int .i64 (a0 : Int)) (.int .i64 (a1 : Int)) (.int .i64 (a2 : Int)) (.int .i64 (a3 : Int)) (.int .i64 (a4 : Int)) (.int .i64 (a5 : Int)) (.slice s1 n1 c1) (.slice s2 n2 c2) (.slice s3 n3 c3) (.slice none 0 0)) g (rr n r (i + 1))) := by
            show RdAt _ _ _
            obtain ⟨cur, q1, _, q3, _⟩ := unhide HSW
            exact (unhide HRW).kept hG10 hBg.symm q1 q3
          have HBn : Hid (Below w0.heap.size w0 (set10 W B O (.int .i64 (a0 : Int)) (.int .i64 (a1 : Int)) (.int .i64 (a2 : Int)) (.int .i64 (a3 : Int)) (.int .i64 (a4 : Int)) (.int .i64 (a5 : Int)) (.slice s1 n1 c1) (.slice s2 n2 c2) (.slice s3 n3 c3) (.slice none 0 0))) := hide ((unhide HBW).grown hG10 (unhide HBW).size (fun k hk => by cases hk; omega))
          have HWn : Hid (WidAt (set10 W B O (.int .i64 (a0 : Int)) (.int .i64 (a1 : Int)) (.int .i64 (a2 : Int)) (.int .i64 (a3 : Int)) (.int .i64 (a4 : Int)) (.int .i64 (a5 : Int)) (.slice s1 n1 c1) (.slice s2 n2 c2) (.slice s3 n3 c3) (.slice none 0 0))) := hide (wid_grown (unhide HDW) hG10 (by omega))
          have HSn := hide HSn0
          have Hgn : Hid (∀ k, k < i + 1 → Good (rr n r k)) := fun k hk => by
            by_cases e : k = i
            · rw [e]; exact hgood
            · exact unhide Hg k (by omega)
          unfold set10 at HRn HBn HWn HSn
          clear HSn0 hG10 vv
          go_wp2
          go_roundw
          case rel =>
            first
              | exact ⟨i + 1, by omega, by go_num, Hgn, HRn, HSn, HBn, HWn⟩
              | ((repeat apply Exists.intro); exact ⟨⟨i + 1, by omega, by go_num, Hgn, HRn, HSn, HBn, HWn⟩, rfl⟩)
          case measure => simp [intOf]; omega
      · go_wp2_with fail
        refine (sto_no wc (unhide HW) g hgw (rr n r i) (unhide HR) hlri hgood).mono ?_
        rintro e w3 ⟨a, b, c, d, e', f, s1, s2, s3, s4, n1, n2, n3, n4, c1, c2, c3, c4, rfl, hG3⟩
        have HB3 := hide (unhide Hgb _ _ (unhide HB) hG3)
        have HBf := hide (fun o : Obj => (unhide HB3).alloc (unhide HB3).size o)
        clear hG3
        go_wp2
        go_ret2
        exact ⟨Or.inl ⟨⟨i, hlt, hgood⟩, rfl⟩, unhide HBf _⟩
    · obtain rfl : i = n := by omega
      have di : decide ((i : Int) < (i : Int)) = false := by simp
      have HE := hide (ended_c wc g (rr i r i) (unhide HR))
      go_wp2_with fail
      refine (unhide HE).mono ?_
      rintro e w3 ⟨rfl, hw3⟩
      replace hw3 := hw3.symm
      subst hw3
      go_wp2
      go_ret2
      exact ⟨Or.inr ⟨unhide Hg, B, rfl, hB0, unhide HS⟩, unhide HB⟩
end Go.Proofs.YtlhjifdahagkaaaDoor
/-
  The walks of the landed cut where the levels are none, and of Leaves.
-/
namespace Go.Proofs.YtlhjifdahagkaaaDoor
open Go.RowKit
set_option maxRecDepth 100000 in
set_option maxHeartbeats 2000000 in
theorem cut_no (w0 : World) (xb : Value) (sig : Bs) (hx : BytesAt w0 xb sig) (hl : sig.length ≤ 100000) (L : Nat) (hL : numB (tk ⟨sig, false⟩ 4) = L) (hn : 3 < L + 1) :
    Calls Tryd.prog 39 #[xb] w0 fun e w' => e = .returned (.tuple #[.slice none 0 0, .bool false]) ∧ Below w0.heap.size w0 w' := by
  obtain ⟨sx, nx, cx, rfl⟩ := hx.forms
  have hbB : Below w0.heap.size w0 (w0.alloc (.cells #[.slice sx nx cx, .bool false] 74)) := (Below.refl _ _).alloc (Nat.le_refl _) _
  have hR0 := rd_new w0 (.slice sx nx cx) sig hx
  have hLb := numB_tk ⟨sig, false⟩
  rw [hL] at hLb
  have Hn1 := hide (rdnum_c _ w0.heap.size ⟨sig, false⟩ hR0 hl)
  rw [hL] at Hn1
  have HBB := hide hbB
  have Lb : (L : Int) < 4294967296 := by omega
  have Lb0 : (3 : Int) ≤ (L : Int) := by omega
  clear hx hbB hR0 hL hn hLb
  go_enter Tryd.func39, Tryd.ntmps39
  go_wp2_with fail
  refine (unhide Hn1).mono ?_
  rintro e w1 ⟨rfl, _, hG1⟩
  have HB1 := hide ((unhide HBB).grown hG1 (unhide HBB).size (fun k hk => by cases hk; exact Nat.le_refl _))
  clear hG1 Hn1
  go_wp2_with fail
  refine (islev_no w1 _ (by omega)).mono ?_
  rintro e w1' ⟨rfl, hw1⟩
  replace hw1 := hw1.symm
  subst hw1
  go_wp2
  go_ret2
  exact ⟨rfl, unhide HB1⟩
def lvs (n : Nat) (r : Rd) (m : Nat) : List Value := (List.range m).map fun k => Value.int .i64 (sq (rr n r k) : Int)
theorem len_lvs (n : Nat) (r : Rd) (m : Nat) : (lvs n r m).length = m := by simp [lvs]
theorem lvs_set (n : Nat) (r : Rd) (i : Nat) (hi : i < n) : (lvs n r i ++ List.replicate (n - i) (Value.int .i64 0)).set i (.int .i64 (sq (rr n r i) : Int)) = lvs n r (i + 1) ++ List.replicate (n - (i + 1)) (Value.int .i64 0) := by
  rw [show n - i = (n - (i + 1)) + 1 by omega, List.replicate_succ, List.set_append_right _ _ (by rw [len_lvs]; omega), len_lvs, Nat.sub_self, List.set_cons_zero]
  unfold lvs
  rw [List.range_succ, List.map_append, List.append_assoc]
  rfl
set_option maxRecDepth 100000 in
set_option maxHeartbeats 4000000 in
theorem leaves_yes (w0 : World) (xb : Value) (n : Nat) (hn3 : n ≤ 3) (r : Rd)
    (Hc : Calls Tryd.prog 39 #[xb] w0 fun e w' => ∃ B, e = .returned (.tuple #[.slice (some ⟨B, 0, none⟩) n n, .bool true]) ∧ SAt w' B n n r ∧ Below w0.heap.size w0 w') :
    Calls Tryd.prog 21 #[xb] w0 fun e w' => ∃ v, e = .returned (.tuple #[v, .bool true]) ∧ OwnV 3 w' w0.heap.size v (lvs n r n) ∧ Below w0.heap.size w0 w' := by
  have HC := hide Hc
  have nb : (n : Int) ≤ 3 := by omega
  have nb0 : (0 : Int) ≤ (n : Int) := by omega
  clear Hc
  go_enter Tryd.func21, Tryd.ntmps21
  go_wp2_with fail
  refine (unhide HC).mono ?_
  rintro e w1 ⟨B, rfl, hS, hb1⟩
  obtain ⟨W2, hmk, hrow, hb2⟩ := made_vals Ei rfl w1 .i64 .i64 n (n : Int) (n : Int) rfl rfl (by omega)
  obtain ⟨K, hK⟩ : ∃ K, w1.heap.size = K := ⟨_, rfl⟩
  rw [hK] at hmk hrow
  have HS2 := hide (hS.below hb2)
  have HR2 : Hid (RowAt 3 W2 K [] (lvs n r 0 ++ List.replicate (n - 0) (Value.int .i64 0))) := hide hrow
  have HB2 := hide (hb1.trans (hb2.mono hb1.size))
  have hBK : B ≠ K := by have := hS.lt; omega
  have hK0 : w0.heap.size ≤ K := by have := hb1.size; omega
  clear hS hb1 hrow hb2 hK
  go_wp2
  go_loopw [21] (fun ii wr => ∃ i : Nat, i ≤ n ∧ ii = .int .i64 (i : Int) ∧ Hid (RowAt 3 wr K [] (lvs n r i ++ List.replicate (n - i) (Value.int .i64 0))) ∧ Hid (SAt wr B n n r) ∧ Hid (Below w0.heap.size w0 wr)) (fun ii _ => n - (intOf ii).toNat)
  case atStart => exact ⟨0, by omega, rfl, HR2, HS2, HB2⟩
  case round =>
    clear HR2 HS2 HB2 hmk
    obtain ⟨i, hi, rfl, HR, HS, HB⟩ := hrel
    rename World => wc
    have ib : (i : Int) ≤ 3 := by omega
    have ib0 : (0 : Int) ≤ (i : Int) := by omega
    by_cases hlt : i < n
    · have il : (i : Int) < (n : Int) := by omega
      obtain ⟨xc, xp, xb, xw, hcells, b1, b2, b3, b4⟩ := (unhide HS).get i hlt
      obtain ⟨s1, n1, c1, rfl⟩ := b1.forms
      obtain ⟨s2, n2, c2, rfl⟩ := b2.forms
      obtain ⟨s3, n3, c3, rfl⟩ := b3.forms
      obtain ⟨s4, n4, c4, rfl⟩ := b4.forms
      have y0 := hcells 0 _ rfl
      have y1 := hcells 1 _ rfl
      have y2 := hcells 2 _ rfl
      have y3 := hcells 3 _ rfl
      have y4 := hcells 4 _ rfl
      have y5 := hcells 5 _ rfl
      have y6 := hcells 6 _ rfl
      have y7 := hcells 7 _ rfl
      have y8 := hcells 8 _ rfl
      have y9 := hcells 9 _ rfl
      obtain ⟨O, hO⟩ : ∃ O, i * 10 = O := ⟨_, rfl⟩
      rw [hO] at y0 y1 y2 y3 y4 y5 y6 y7 y8 y9
      rw [Nat.add_zero] at y0
      have HRs := hide ((unhide HR).set i (by rw [List.length_append, len_lvs, List.length_replicate]; omega) (.int .i64 (sq (rr n r i) : Int)))
      rw [lvs_set n r i hlt] at HRs
      have cK := (unhide HR).cell i (by rw [List.length_append, len_lvs, List.length_replicate]; omega)
      have fK := (unhide HR).frozen i
      have hlt2 := (unhide HR).lt
      have hG : wc.grownBy (wc.setCell ⟨K, i, none⟩ (.int .i64 (sq (rr n r i) : Int))) (some K) := grown_setCell (World.grownBy.refl _ _) _ _ rfl
      have Hkp : Hid (∀ x l, BytesAt wc x l → BytesAt (wc.setCell ⟨K, i, none⟩ (.int .i64 (sq (rr n r i) : Int))) x l) := fun x l hx => hx.keep hG (fun hl => agg_apart (unhide HR) (fun j v hv z e => by
        rw [List.append_nil, List.getElem?_toArray, e] at hv
        have hm := List.mem_of_getElem? hv
        rcases List.mem_append.1 hm with h | h
        · unfold lvs at h
          obtain ⟨k, _, hk⟩ := List.mem_map.1 h
          cases hk
        · have := List.eq_of_mem_replicate h
          cases this) hx hl)
      have HSs := hide ((unhide HS).grown hG hBK (unhide Hkp))
      have HBs := hide ((unhide HB).grown hG (unhide HB).size (fun k hk => by cases hk; exact hK0))
      generalize hq : (sq (rr n r i) : Int) = q at y5 HRs HSs HBs
      clear hcells b1 b2 b3 b4 hG Hkp hq
      have HRf := hide (fun o : Obj => (unhide HRs).below ((Below.refl _ _).alloc (Nat.le_refl _) o))
      have HSf := hide (fun o : Obj => (unhide HSs).below ((Below.refl _ _).alloc (Nat.le_refl _) o))
      have HBf := hide (fun o : Obj => (unhide HBs).alloc (unhide HBs).size o)
      generalize sh (rr n r i) = q0 at y0
      generalize swd (rr n r i) = q1 at y1 y2 y3 y4
      generalize tyW q1 = q2 at y2
      generalize pW q1 = q3 at y3
      generalize lsW q1 = q4 at y4
      go_wp2
      go_roundw
      case rel =>
        first
          | exact ⟨i + 1, by omega, by go_num, unhide HRf _, unhide HSf _, unhide HBf _⟩
          | ((repeat apply Exists.intro); exact ⟨⟨i + 1, by omega, by go_num, unhide HRf _, unhide HSf _, unhide HBf _⟩, rfl⟩)
      case measure => simp [intOf]; omega
    · obtain rfl : i = n := by omega
      have di : decide ((i : Int) < (i : Int)) = false := by simp
      have HF : Hid (OwnV 3 wc w0.heap.size (.slice (some ⟨K, 0, none⟩) i i) (lvs i r i)) := by
        show OwnV _ _ _ _ _
        have h := unhide HR
        rw [Nat.sub_self, List.replicate_zero, List.append_nil] at h
        exact h.own hK0 i i (len_lvs i r i) rfl (by simp only [maxLen]; omega)
      go_wp2
      go_ret2
      exact ⟨_, rfl, unhide HF, unhide HB⟩
set_option maxRecDepth 100000 in
set_option maxHeartbeats 2000000 in
theorem leaves_no (w0 : World) (xb v : Value) (Hc : Calls Tryd.prog 39 #[xb] w0 fun e w' => e = .returned (.tuple #[v, .bool false]) ∧ Below w0.heap.size w0 w') :
    Calls Tryd.prog 21 #[xb] w0 fun e w' => e = .returned (.tuple #[.slice none 0 0, .bool false]) ∧ Below w0.heap.size w0 w' := by
  have HC := hide Hc
  clear Hc
  go_enter Tryd.func21, Tryd.ntmps21
  go_wp2_with fail
  refine (unhide HC).mono ?_
  rintro e w1 ⟨rfl, hb1⟩
  have HB := hide hb1
  clear hb1
  go_wp2
  go_ret2
  exact ⟨rfl, unhide HB⟩
end Go.Proofs.YtlhjifdahagkaaaDoor
/-
  A signature that ends where it should: nothing was short. The walk of the landed Verify.
-/
namespace Go.Proofs.YtlhjifdahagkaaaDoor
open Go.RowKit
theorem fit_of {r : Rd} {n : Nat} (h : (tkR r n).s = false) : r.s = false ∧ n ≤ r.l.length := by
  unfold tkR at h
  split at h
  · rename_i hn; exact ⟨h, hn⟩
  · cases h
/-- All that a storey is read of was there. -/
structure Whole (r : Rd) : Prop where
  s : r.s = false
  f1 : 4 ≤ r.l.length
  f2 : 4 ≤ (tkR r 4).l.length
  f3 : 32 ≤ (r2 r).l.length
  f4 : 32 * pW (swd r) ≤ (r3 r).l.length
  f5 : 4 ≤ (r4 r).l.length
  f6 : 32 * sh r ≤ (r5 r).l.length
theorem whole_of {r : Rd} (h : (r6 r).s = false) : Whole r := by
  have a6 := fit_of h
  have a5 := fit_of a6.1
  have a4 := fit_of a5.1
  have a3 := fit_of a4.1
  have a2 := fit_of a3.1
  have a1 := fit_of a2.1
  exact ⟨a1.1, a1.2, a2.2, a3.2, a4.2, a5.2, a6.2⟩
theorem Whole.lens {r : Rd} (h : Whole r) : (scc r).length = 32 ∧ (sps r).length = 32 * pW (swd r) ∧ (sbs r).length = 32 * sh r := by
  refine ⟨?_, ?_, ?_⟩
  · unfold scc; rw [tk_fit h.f3, List.length_take]; have := h.f3; omega
  · unfold sps; rw [tk_fit h.f4, List.length_take]; have := h.f4; omega
  · unfold sbs; rw [tk_fit h.f6, List.length_take]; have := h.f6; omega
theorem rr_s (n : Nat) (r : Rd) : ∀ d k, (rr n r (k + d)).s = false → (rr n r k).s = false
  | 0, _, h => h
  | d + 1, k, h => by
    rw [show k + (d + 1) = (k + d) + 1 by omega, rr] at h
    split at h
    · exact rr_s n r d k (whole_of (fit_of h).1).s
    · exact rr_s n r d k (whole_of h).s
theorem whole_rr {n : Nat} {r : Rd} (he : endB (rr n r n) = true) (k : Nat) (hk : k < n) : Whole (rr n r k) ∧ (k + 1 < n → (bel n r k).length = 56) := by
  have hs : (rr n r n).s = false := by
    unfold endB at he
    simp at he
    exact he.1
  have h1 : (rr n r (k + 1)).s = false := rr_s n r (n - (k + 1)) (k + 1) (by rw [show k + 1 + (n - (k + 1)) = n by omega]; exact hs)
  rw [rr] at h1
  split at h1
  · rename_i hk1
    have h2 := fit_of h1
    refine ⟨whole_of h2.1, fun _ => ?_⟩
    unfold bel
    rw [if_pos hk1, tk_fit h2.2, List.length_take]
    have := h2.2
    omega
  · rename_i hk1
    exact ⟨whole_of h1, fun h => absurd h hk1⟩
theorem isW_wOf (v : Nat) (h : 0 < wOf v) : IsW (wOf v) := by
  by_cases h1 : v = 1
  · subst h1; exact Or.inl rfl
  by_cases h2 : v = 2
  · subst h2; exact Or.inr (Or.inl rfl)
  by_cases h3 : v = 3
  · subst h3; exact Or.inr (Or.inr (Or.inl rfl))
  by_cases h4 : v = 4
  · subst h4; exact Or.inr (Or.inr (Or.inr rfl))
  exfalso
  simp [wOf, wTo] at h
  repeat' split at h
  all_goals omega
theorem hOf_le (v : Nat) : hOf v ≤ 6 := by
  simp only [hOf, hTo]
  repeat' split
  all_goals omega
/-- Do the storeys from k on verify, d of them behind it? -/
def verL (H : Bs → Bs) (msg : Bs) (n : Nat) (r : Rd) : Nat → Nat → Bs → Bool
  | 0, k, sg => verS H sg msg (sh (rr n r k)) (swd (rr n r k)) (sq (rr n r k)) (scc (rr n r k)) (sps (rr n r k)) (sbs (rr n r k))
  | d + 1, k, sg => verS H sg (bel n r k) (sh (rr n r k)) (swd (rr n r k)) (sq (rr n r k)) (scc (rr n r k)) (sps (rr n r k)) (sbs (rr n r k)) && verL H msg n r d (k + 1) (bel n r k)
end Go.Proofs.YtlhjifdahagkaaaDoor
/-
  What the landed Verify answers is what verifying is in plain words. No program is named here.
-/
namespace Go.Proofs.YtlhjifdahagkaaaDoor
theorem part_part (l : Bs) {a n b m : Nat} (h : b + m ≤ n) : part (part l a n) b m = part l (a + b) m := by
  unfold part
  rw [List.drop_take, List.take_take, List.drop_drop, Nat.min_eq_left (by omega)]
theorem part_take (l : Bs) {N f m : Nat} (h : f + m ≤ N) : part (l.take N) f m = part l f m := by
  unfold part
  rw [List.drop_take, List.take_take, Nat.min_eq_left (by omega)]
theorem num4_take (l : Bs) {N : Nat} (h : 4 ≤ N) : num4 (l.take N) = num4 l := by
  unfold num4
  simp only [List.getD_eq_getElem?_getD]
  rw [List.getElem?_take_of_lt (by omega), List.getElem?_take_of_lt (by omega), List.getElem?_take_of_lt (by omega), List.getElem?_take_of_lt (by omega)]
theorem num4_dtake (l : Bs) {N f : Nat} (h : f + 4 ≤ N) : num4 ((l.take N).drop f) = num4 (l.drop f) := by
  rw [List.drop_take, num4_take _ (by omega)]
theorem wOf_inv (v : Nat) (h : 0 < wOf v) : tyW (wOf v) = v := by
  by_cases h1 : v = 1
  · subst h1; rfl
  by_cases h2 : v = 2
  · subst h2; rfl
  by_cases h3 : v = 3
  · subst h3; rfl
  by_cases h4 : v = 4
  · subst h4; rfl
  exfalso
  simp [wOf, wTo] at h
  repeat' split at h
  all_goals omega
theorem hTo_inv (v : Nat) : ∀ k, 0 < hTo v k → tyH (hTo v k) = v
  | 0, h => by simp [hTo] at h
  | k + 1, h => by
    rw [hTo] at h ⊢
    split
    · assumption
    · rename_i hne
      rw [if_neg hne] at h
      exact hTo_inv v k h
theorem hOf_inv (v : Nat) (h : 0 < hOf v) : tyH (hOf v) = v := hTo_inv v 6 h
theorem climb_congr (H : Bs → Bs) (id : Bs) (s s' : Nat → Bs) (r : Nat) (x : Bs) : ∀ k, (∀ z, z < k → s z = s' z) → climb H id s k r x = climb H id s' k r x
  | 0, _ => rfl
  | k + 1, h => by rw [climb, climb, h k (by omega), climb_congr H id s s' r x k (fun z hz => h z (by omega))]
theorem ends_congr (H : Bs → Bs) (id : Bs) (w q : Nat) (d : Nat → Nat) (s s' : Nat → Bs) : ∀ k, (∀ z, z < k → s z = s' z) → endsOfSig H id w q d s k = endsOfSig H id w q d s' k
  | 0, _ => rfl
  | k + 1, h => by rw [endsOfSig, endsOfSig, h k (by omega), ends_congr H id w q d s s' k (fun z hz => h z (by omega))]
theorem num_tk {l : Bs} (h : 4 ≤ l.length) (b : Bool) : numB (tk ⟨l, b⟩ 4) = num4 l := by rw [tk_fit (r := ⟨l, b⟩) h]; exact numB_four l h
/-- What is read of a storey that is there. -/
structure Reads (l : Bs) (wd h : Nat) : Prop where
  q : sq ⟨l, false⟩ = num4 l
  w : swd ⟨l, false⟩ = wd
  hh : sh ⟨l, false⟩ = h
  c : scc ⟨l, false⟩ = part l 8 32
  p : sps ⟨l, false⟩ = part l 40 (32 * pW wd)
  b : sbs ⟨l, false⟩ = part l (44 + 32 * pW wd) (32 * h)
  r : r6 ⟨l, false⟩ = ⟨l.drop (sizeOf h wd), false⟩
theorem reads (l : Bs) (wd h : Nat) (hw : wOf (num4 (l.drop 4)) = wd) (hh : hOf (num4 (l.drop (40 + 32 * pW wd))) = h) (hl : sizeOf h wd ≤ l.length) : Reads l wd h := by
  unfold sizeOf at hl
  have a1 : tkR ⟨l, false⟩ 4 = ⟨l.drop 4, false⟩ := tkR_fit (r := ⟨l, false⟩) (by show 4 ≤ l.length; omega)
  have a2 : r2 ⟨l, false⟩ = ⟨l.drop 8, false⟩ := by
    unfold r2
    rw [a1, tkR_fit (r := ⟨l.drop 4, false⟩) (by show 4 ≤ (l.drop 4).length; rw [List.length_drop]; omega), List.drop_drop]
  have aw : swd ⟨l, false⟩ = wd := by
    unfold swd sv
    rw [a1, num_tk (by rw [List.length_drop]; omega), hw]
  have a3 : r3 ⟨l, false⟩ = ⟨l.drop 40, false⟩ := by
    unfold r3
    rw [a2, tkR_fit (r := ⟨l.drop 8, false⟩) (by show 32 ≤ (l.drop 8).length; rw [List.length_drop]; omega), List.drop_drop]
  have a4 : r4 ⟨l, false⟩ = ⟨l.drop (40 + 32 * pW wd), false⟩ := by
    unfold r4
    rw [a3, aw, tkR_fit (r := ⟨l.drop 40, false⟩) (by show 32 * pW wd ≤ (l.drop 40).length; rw [List.length_drop]; omega), List.drop_drop]
  have a5 : r5 ⟨l, false⟩ = ⟨l.drop (44 + 32 * pW wd), false⟩ := by
    unfold r5
    rw [a4, tkR_fit (r := ⟨l.drop (40 + 32 * pW wd), false⟩) (by show 4 ≤ (l.drop (40 + 32 * pW wd)).length; rw [List.length_drop]; omega), List.drop_drop, show 40 + 32 * pW wd + 4 = 44 + 32 * pW wd by omega]
  have ah : sh ⟨l, false⟩ = h := by
    unfold sh shv
    rw [a4, num_tk (by rw [List.length_drop]; omega), hh]
  refine ⟨num_tk (by omega) false, aw, ah, ?_, ?_, ?_, ?_⟩
  · unfold scc
    rw [a2, tk_fit (r := ⟨l.drop 8, false⟩) (by show 32 ≤ (l.drop 8).length; rw [List.length_drop]; omega)]
    rfl
  · unfold sps
    rw [a3, aw, tk_fit (r := ⟨l.drop 40, false⟩) (by show 32 * pW wd ≤ (l.drop 40).length; rw [List.length_drop]; omega)]
    rfl
  · unfold sbs
    rw [a5, ah, tk_fit (r := ⟨l.drop (44 + 32 * pW wd), false⟩) (by show 32 * h ≤ (l.drop (44 + 32 * pW wd)).length; rw [List.length_drop]; omega)]
    rfl
  · unfold r6
    rw [a5, ah, tkR_fit (r := ⟨l.drop (44 + 32 * pW wd), false⟩) (by show 32 * h ≤ (l.drop (44 + 32 * pW wd)).length; rw [List.length_drop]; omega), List.drop_drop]
    rfl
theorem whole_reads (l : Bs) (hW : Whole ⟨l, false⟩) : ∃ wd h, wOf (num4 (l.drop 4)) = wd ∧ hOf (num4 (l.drop (40 + 32 * pW wd))) = h ∧ sizeOf h wd ≤ l.length := by
  obtain ⟨_, f1, f2, f3, f4, f5, f6⟩ := hW
  have a1 : tkR ⟨l, false⟩ 4 = ⟨l.drop 4, false⟩ := tkR_fit (r := ⟨l, false⟩) f1
  rw [a1] at f2
  have a2 : r2 ⟨l, false⟩ = ⟨l.drop 8, false⟩ := by
    unfold r2
    rw [a1, tkR_fit (r := ⟨l.drop 4, false⟩) f2, List.drop_drop]
  rw [a2] at f3
  have aw : swd ⟨l, false⟩ = wOf (num4 (l.drop 4)) := by
    unfold swd sv
    rw [a1, num_tk f2]
  have a3 : r3 ⟨l, false⟩ = ⟨l.drop 40, false⟩ := by
    unfold r3
    rw [a2, tkR_fit (r := ⟨l.drop 8, false⟩) f3, List.drop_drop]
  rw [a3, aw] at f4
  have a4 : r4 ⟨l, false⟩ = ⟨l.drop (40 + 32 * pW (wOf (num4 (l.drop 4)))), false⟩ := by
    unfold r4
    rw [a3, aw, tkR_fit (r := ⟨l.drop 40, false⟩) f4, List.drop_drop]
  rw [a4] at f5
  have a5 : r5 ⟨l, false⟩ = ⟨l.drop (40 + 32 * pW (wOf (num4 (l.drop 4))) + 4), false⟩ := by
    unfold r5
    rw [a4, tkR_fit (r := ⟨l.drop (40 + 32 * pW (wOf (num4 (l.drop 4)))), false⟩) f5, List.drop_drop]
  have ah : sh ⟨l, false⟩ = hOf (num4 (l.drop (40 + 32 * pW (wOf (num4 (l.drop 4)))))) := by
    unfold sh shv
    rw [a4, num_tk f5]
  rw [a5, ah] at f6
  refine ⟨_, _, rfl, rfl, ?_⟩
  simp only [List.length_drop] at f2 f3 f4 f5 f6
  unfold sizeOf
  omega
theorem root_eq (H : Bs → Bs) (id m l : Bs) (h wd q N : Nat) (hN : sizeOf h wd = N) (r : Nat) :
    climb H id (pathPart (l.take N) wd) h r (H (head id r 0x8282 ++ H (head id q 0x8080 ++ endsOfSig H id wd q (digit (hashed H id q (part (l.take N) 8 32) m) wd) (sigPart (l.take N) wd) (pW wd)))) =
    climb H id (fun z => part (part l (44 + 32 * pW wd) (32 * h)) (32 * z) 32) h r (H (head id r 0x8282 ++ H (head id q 0x8080 ++ endsOfSig H id wd q (digit (hashed H id q (part l 8 32) m) wd) (fun i => part (part l 40 (32 * pW wd)) (32 * i) 32) (pW wd)))) := by
  unfold sizeOf at hN
  rw [part_take l (show 8 + 32 ≤ N by omega)]
  rw [ends_congr H id wd q _ (sigPart (l.take N) wd) (fun i => part (part l 40 (32 * pW wd)) (32 * i) 32) (pW wd) (fun i hi => by
    show part (l.take N) (40 + 32 * i) 32 = part (part l 40 (32 * pW wd)) (32 * i) 32
    rw [part_take l (by omega), part_part l (by omega)])]
  exact climb_congr H id _ _ r _ h (fun z hz => by
    show part (l.take N) (44 + 32 * pW wd + 32 * z) 32 = part (part l (44 + 32 * pW wd) (32 * h)) (32 * z) 32
    rw [part_take l (by omega), part_part l (by omega)])
/-- A storey is verified by the code just if it is in plain words: there. -/
theorem storey_there (H : Bs → Bs) (l sg m : Bs) (h56 : sg.length = 56) (h wd : Nat) (hh : hOf (num4 sg) = h) (hw : wOf (num4 (sg.drop 4)) = wd) (h0 : 0 < h) (w0 : 0 < wd) (hl : sizeOf h wd ≤ l.length) (hb : holdsB H sg m (l.take (sizeOf h wd)) = true) :
    Good ⟨l, false⟩ ∧ verS H sg m (sh ⟨l, false⟩) (swd ⟨l, false⟩) (sq ⟨l, false⟩) (scc ⟨l, false⟩) (sps ⟨l, false⟩) (sbs ⟨l, false⟩) = true ∧ r6 ⟨l, false⟩ = ⟨l.drop (sizeOf h wd), false⟩ := by
  obtain ⟨N, hN⟩ : ∃ N, sizeOf h wd = N := ⟨_, rfl⟩
  have hN' := hN
  unfold sizeOf at hN'
  rw [hN] at hb
  unfold holdsB at hb
  rw [hh, hw] at hb
  simp only [Bool.and_eq_true, decide_eq_true_eq] at hb
  obtain ⟨⟨⟨b1, b2⟩, b3⟩, b4⟩ := hb
  rw [num4_dtake l (by omega)] at b1 b2
  rw [num4_take l (by omega)] at b3 b4
  have hwi : IsW wd := by rw [← hw]; exact isW_wOf _ (by rw [hw]; exact w0)
  have hh6 : h ≤ 6 := by rw [← hh]; exact hOf_le _
  have R := reads l wd h (by rw [b1]; exact wOf_ty hwi) (by rw [b2]; exact hOf_ty h h0 hh6) hl
  rw [root_eq H _ m l h wd _ N hN] at b4
  refine ⟨?_, ?_, R.r⟩
  · unfold Good
    rw [R.w, R.hh, R.q]
    exact ⟨w0, h0, b3⟩
  · unfold verS
    rw [R.w, R.hh, R.q, R.c, R.p, R.b, if_pos ⟨⟨h56, by rw [hh]; exact h0, by rw [hw]; exact w0⟩, hh, hw⟩, decide_eq_true_eq]
    exact b4.symm
/-- And back. -/
theorem storey_back (H : Bs → Bs) (l sg m : Bs) (hW : Whole ⟨l, false⟩) (hG : Good ⟨l, false⟩) (hv : verS H sg m (sh ⟨l, false⟩) (swd ⟨l, false⟩) (sq ⟨l, false⟩) (scc ⟨l, false⟩) (sps ⟨l, false⟩) (sbs ⟨l, false⟩) = true) (h wd : Nat) (hh : hOf (num4 sg) = h) (hw : wOf (num4 (sg.drop 4)) = wd) :
    0 < h ∧ 0 < wd ∧ sizeOf h wd ≤ l.length ∧ holdsB H sg m (l.take (sizeOf h wd)) = true ∧ r6 ⟨l, false⟩ = ⟨l.drop (sizeOf h wd), false⟩ := by
  obtain ⟨wd', h', e1, e2, hl⟩ := whole_reads l hW
  have R := reads l wd' h' e1 e2 hl
  unfold verS at hv
  rw [R.w, R.hh, R.q, R.c, R.p, R.b] at hv
  split at hv
  · rename_i hc
    obtain ⟨⟨_, g1, g2⟩, g3, g4⟩ := hc
    rw [hh] at g1 g3
    rw [hw] at g2 g4
    subst g3
    subst g4
    obtain ⟨N, hN⟩ : ∃ N, sizeOf h wd = N := ⟨_, rfl⟩
    have hN' := hN
    unfold sizeOf at hN'
    unfold Good at hG
    rw [R.w, R.hh, R.q] at hG
    refine ⟨g1, g2, hl, ?_, R.r⟩
    rw [hN]
    unfold holdsB
    rw [hh, hw]
    simp only [Bool.and_eq_true, decide_eq_true_eq]
    rw [num4_dtake l (by omega), num4_dtake l (by omega), num4_take l (by omega), root_eq H _ m l h wd _ N hN]
    refine ⟨⟨⟨?_, ?_⟩, hG.2.2⟩, ?_⟩
    · rw [← e1]; exact (wOf_inv _ (by rw [e1]; exact g2)).symm
    · rw [← e2]; exact (hOf_inv _ (by rw [e2]; exact g1)).symm
    · exact (of_decide_eq_true hv).symm
  · exact absurd hv (by simp)
end Go.Proofs.YtlhjifdahagkaaaDoor
/-
  What the landed Verify answers is what verifying is in plain words: all storeys.
-/
namespace Go.Proofs.YtlhjifdahagkaaaDoor
theorem end_of {r : Rd} (h : endB r = true) : r.s = false ∧ r.l.length = 0 := by
  unfold endB at h
  simp only [Bool.and_eq_true, Bool.not_eq_true', decide_eq_true_eq] at h
  exact h
theorem rd_eq {r : Rd} (h : r.s = false) : r = ⟨r.l, false⟩ := by cases r; cases h; rfl
theorem from_there (H : Bs → Bs) (msg : Bs) (n : Nat) (r : Rd) : ∀ (d k : Nat) (sg : Bs), k + d + 1 = n → sg.length = 56 → (rr n r k).s = false → verifyFrom H msg (d + 1) sg (rr n r k).l = true →
    (∀ j, k ≤ j → j < n → Good (rr n r j)) ∧ endB (rr n r n) = true ∧ verL H msg n r d k sg = true := by
  intro d
  induction d with
  | zero =>
    intro k sg hk h56 hs hv
    obtain ⟨h, hh⟩ : ∃ h, hOf (num4 sg) = h := ⟨_, rfl⟩
    obtain ⟨wd, hw⟩ : ∃ wd, wOf (num4 (sg.drop 4)) = wd := ⟨_, rfl⟩
    rw [verifyFrom, hh, hw] at hv
    split at hv
    · rename_i hc
      obtain ⟨_, c1, c2, c3⟩ := hc
      rw [if_pos rfl, Bool.and_eq_true, decide_eq_true_eq] at hv
      obtain ⟨v1, v2⟩ := hv
      have hre := rd_eq hs
      have T := storey_there H (rr n r k).l sg msg h56 h wd hh hw c1 c2 c3 (by rw [List.take_of_length_le (by omega)]; exact v2)
      rw [← hre] at T
      have e1 : rr n r n = r6 (rr n r k) := by rw [show n = k + 1 by omega, rr, if_neg (by omega)]
      refine ⟨fun j h1 h2 => ?_, ?_, ?_⟩
      · obtain rfl : j = k := by omega
        exact T.1
      · rw [e1, T.2.2]
        simp [endB]
        omega
      · rw [verL]
        exact T.2.1
    · exact absurd hv (by simp)
  | succ d ih =>
    intro k sg hk h56 hs hv
    obtain ⟨h, hh⟩ : ∃ h, hOf (num4 sg) = h := ⟨_, rfl⟩
    obtain ⟨wd, hw⟩ : ∃ wd, wOf (num4 (sg.drop 4)) = wd := ⟨_, rfl⟩
    rw [verifyFrom, hh, hw] at hv
    split at hv
    · rename_i hc
      obtain ⟨_, c1, c2, c3⟩ := hc
      rw [if_neg (by omega)] at hv
      split at hv
      · rename_i hd
        rw [Bool.and_eq_true] at hv
        obtain ⟨v1, v2⟩ := hv
        have hre := rd_eq hs
        have T := storey_there H (rr n r k).l sg _ h56 h wd hh hw c1 c2 c3 v1
        rw [← hre] at T
        have eb : bel n r k = part (rr n r k).l (sizeOf h wd) 56 := by
          unfold bel
          rw [if_pos (by omega), T.2.2, tk_fit (r := ⟨(rr n r k).l.drop (sizeOf h wd), false⟩) hd.1]
          rfl
        have er : rr n r (k + 1) = ⟨(rr n r k).l.drop (sizeOf h wd + 56), false⟩ := by
          rw [rr, if_pos (by omega), T.2.2, tkR_fit (r := ⟨(rr n r k).l.drop (sizeOf h wd), false⟩) hd.1, List.drop_drop]
        have I := ih (k + 1) (bel n r k) (by omega) (by rw [eb]; unfold part; rw [List.length_take]; have := hd.1; omega) (by rw [er]) (by rw [er, eb]; exact v2)
        refine ⟨fun j h1 h2 => ?_, I.2.1, ?_⟩
        · rcases Nat.lt_or_ge k j with h3 | h3
          · exact I.1 j (by omega) h2
          · obtain rfl : j = k := by omega
            exact T.1
        · rw [verL, Bool.and_eq_true, eb]
          rw [eb] at I
          exact ⟨T.2.1, I.2.2⟩
      · exact absurd hv (by simp)
    · exact absurd hv (by simp)
theorem from_back (H : Bs → Bs) (msg : Bs) (n : Nat) (r : Rd) : ∀ (d k : Nat) (sg : Bs), k + d + 1 = n → sg.length = 56 → (∀ j, k ≤ j → j < n → Good (rr n r j)) → endB (rr n r n) = true → verL H msg n r d k sg = true →
    verifyFrom H msg (d + 1) sg (rr n r k).l = true := by
  intro d
  induction d with
  | zero =>
    intro k sg hk h56 hG he hv
    have W := (whole_rr he k (by omega)).1
    obtain ⟨h, hh⟩ : ∃ h, hOf (num4 sg) = h := ⟨_, rfl⟩
    obtain ⟨wd, hw⟩ : ∃ wd, wOf (num4 (sg.drop 4)) = wd := ⟨_, rfl⟩
    have hre := rd_eq W.s
    have G := hG k (Nat.le_refl _) (by omega)
    rw [verL] at hv
    rw [hre] at W G hv
    have T := storey_back H (rr n r k).l sg msg W G hv h wd hh hw
    rw [← hre] at T
    have e1 : rr n r n = r6 (rr n r k) := by rw [show n = k + 1 by omega, rr, if_neg (by omega)]
    have he2 := (end_of he).2
    rw [e1, T.2.2.2.2, List.length_drop] at he2
    have hlen : (rr n r k).l.length = sizeOf h wd := by have := T.2.2.1; omega
    have hb := T.2.2.2.1
    rw [List.take_of_length_le (by omega)] at hb
    rw [verifyFrom, hh, hw, if_pos ⟨by omega, T.1, T.2.1, T.2.2.1⟩, if_pos rfl, Bool.and_eq_true, decide_eq_true_eq]
    exact ⟨hlen, hb⟩
  | succ d ih =>
    intro k sg hk h56 hG he hv
    obtain ⟨W, hbl⟩ := whole_rr he k (by omega)
    have hbl := hbl (by omega)
    obtain ⟨h, hh⟩ : ∃ h, hOf (num4 sg) = h := ⟨_, rfl⟩
    obtain ⟨wd, hw⟩ : ∃ wd, wOf (num4 (sg.drop 4)) = wd := ⟨_, rfl⟩
    have hre := rd_eq W.s
    have G := hG k (Nat.le_refl _) (by omega)
    rw [verL, Bool.and_eq_true] at hv
    obtain ⟨v1, v2⟩ := hv
    have I := ih (k + 1) (bel n r k) (by omega) hbl (fun j h1 h2 => hG j (by omega) h2) he v2
    have T : 0 < h ∧ 0 < wd ∧ sizeOf h wd ≤ (rr n r k).l.length ∧ holdsB H sg (bel n r k) ((rr n r k).l.take (sizeOf h wd)) = true ∧ r6 (rr n r k) = ⟨(rr n r k).l.drop (sizeOf h wd), false⟩ := by
      generalize bel n r k = m at v1
      generalize rr n r k = q at hre W G v1
      rw [hre] at W G v1
      have T := storey_back H q.l sg m W G v1 h wd hh hw
      rw [← hre] at T
      exact T
    have hd : 56 ≤ ((rr n r k).l.drop (sizeOf h wd)).length := by
      unfold bel at hbl
      rw [if_pos (by omega), T.2.2.2.2] at hbl
      unfold tk at hbl
      split at hbl
      · assumption
      · exact absurd hbl (by simp)
    have eb : bel n r k = part (rr n r k).l (sizeOf h wd) 56 := by
      unfold bel
      rw [if_pos (by omega), T.2.2.2.2, tk_fit (r := ⟨(rr n r k).l.drop (sizeOf h wd), false⟩) hd]
      rfl
    have er : rr n r (k + 1) = ⟨(rr n r k).l.drop (sizeOf h wd + 56), false⟩ := by
      rw [rr, if_pos (by omega), T.2.2.2.2, tkR_fit (r := ⟨(rr n r k).l.drop (sizeOf h wd), false⟩) hd, List.drop_drop]
    rw [eb, er] at I
    have hb := T.2.2.2.1
    rw [eb] at hb
    have I2 := I
    rw [verifyFrom] at I2
    have hc : 0 < hOf (num4 (part (rr n r k).l (sizeOf h wd) 56)) ∧ 0 < wOf (num4 ((part (rr n r k).l (sizeOf h wd) 56).drop 4)) := by
      split at I2
      · rename_i hc; exact ⟨hc.2.1, hc.2.2.1⟩
      · exact absurd I2 (by simp)
    unfold part at hc
    rw [num4_take _ (by omega), num4_dtake _ (by omega)] at hc
    rw [verifyFrom, hh, hw, if_pos ⟨by omega, T.1, T.2.1, T.2.2.1⟩, if_neg (by omega), if_pos ⟨hd, hc.1, hc.2⟩, Bool.and_eq_true]
    exact ⟨hb, I⟩
/-- VERIFYING, in plain words: where the signature is cut into n storeys that are good, and ends. -/
theorem plain_yes (H : Bs → Bs) (pk msg sig : Bs) (n : Nat) (hn : num4 sig + 1 = n) (h4 : 4 ≤ sig.length) (hn3 : n ≤ 3) (hG : ∀ k, k < n → Good (rr n ⟨sig.drop 4, false⟩ k)) (he : endB (rr n ⟨sig.drop 4, false⟩ n) = true) (hp4 : 4 ≤ pk.length) (hL : num4 pk = n) :
    verL H msg n ⟨sig.drop 4, false⟩ (n - 1) 0 (pk.drop 4) = verifyB H pk msg sig := by
  by_cases hp : pk.length = 60
  · have h56 : (pk.drop 4).length = 56 := by rw [List.length_drop]; omega
    have hb : verifyB H pk msg sig = verifyFrom H msg n (pk.drop 4) (sig.drop 4) := by
      unfold verifyB
      rw [hL]
      simp [hp, h4, hn3, hn, show 1 ≤ n by omega]
    rw [hb, Bool.eq_iff_iff]
    have a := from_back H msg n ⟨sig.drop 4, false⟩ (n - 1) 0 (pk.drop 4) (by omega) h56 (fun j _ h => hG j h) he
    have b := from_there H msg n ⟨sig.drop 4, false⟩ (n - 1) 0 (pk.drop 4) (by omega) h56 rfl
    rw [show n - 1 + 1 = n by omega] at a b
    exact ⟨a, fun h => (b h).2.2⟩
  · have hb : verifyB H pk msg sig = false := by unfold verifyB; simp [hp]
    rw [hb]
    have hno : ∀ m h wd q c p b, verS H (pk.drop 4) m h wd q c p b = false := fun m h wd q c p b => by
      unfold verS
      rw [if_neg]
      rintro ⟨⟨h1, _⟩, _⟩
      rw [List.length_drop] at h1
      omega
    obtain ⟨d, hd⟩ : ∃ d, n - 1 = d := ⟨_, rfl⟩
    rw [hd]
    cases d with
    | zero => rw [verL, hno]
    | succ d => rw [verL, hno]; rfl
/-- Where it isn't: it isn't verified. -/
theorem plain_no (H : Bs → Bs) (pk msg sig : Bs) (n : Nat) (hn : num4 sig + 1 = n) (h : ¬ (n ≤ 3 ∧ (∀ k, k < n → Good (rr n ⟨sig.drop 4, false⟩ k)) ∧ endB (rr n ⟨sig.drop 4, false⟩ n) = true ∧ num4 pk = n)) : verifyB H pk msg sig = false := by
  rw [Bool.eq_false_iff]
  intro hv
  unfold verifyB at hv
  simp only [Bool.and_eq_true, decide_eq_true_eq] at hv
  obtain ⟨⟨⟨⟨⟨h1, h2⟩, h3⟩, h4⟩, h5⟩, h6⟩ := hv
  have hL : num4 pk = n := by omega
  rw [hL] at h6
  have b := from_there H msg n ⟨sig.drop 4, false⟩ (n - 1) 0 (pk.drop 4) (by omega) (by rw [List.length_drop]; omega) rfl
  rw [show n - 1 + 1 = n by omega] at b
  have b := b h6
  exact h ⟨by omega, fun k hk => b.1 k (Nat.zero_le _) hk, b.2.1, hL⟩
end Go.Proofs.YtlhjifdahagkaaaDoor
