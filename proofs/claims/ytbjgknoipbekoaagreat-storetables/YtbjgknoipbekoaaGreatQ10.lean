/-
  The walk of the landed recordsIn.
  The walk of the landed greatestOpening.
  A sector that is read.
  The walk of the landed readAll.
  A log in memory (the landed wal); the walks of Open, Room and Opening.
-/
import Derived.Test.YtbjgknoipbekoaaGreatQ9
import Derived.Test.YtbjgknoipbekoaaGreatQ2
namespace Go.Proofs.YtbjgknoipbekoaaGreat
open Go.RowKit
set_option maxRecDepth 100000 in
set_option maxHeartbeats 8000000 in
theorem wrecsin_c (w : World) (x : Value) (l : List Bs) (g : Nat) (hx : BLists w x l) (h64 : ∀ s ∈ l, s.length = 64) (hl : l.length ≤ 20000) (hg : g < 2147483648) :
    Calls Tryz.prog 101 #[x, .int .i64 (g : Int)] w fun e w' => ∃ v vs, e = .returned (.tuple #[v, .int .i64 (usedR (thereL g l.length l 1 1) : Int)]) ∧ GrowF w.heap.size w' v vs ((thereL g l.length l 1 1).map (·.1)) ∧ Below w.heap.size w w' := by
  obtain ⟨sx, cx, rfl⟩ := hx.form
  obtain ⟨NL, hNL⟩ : ∃ y, l.length = y := ⟨_, rfl⟩
  rw [hNL] at hx hl ⊢
  obtain ⟨RS, hRS⟩ : ∃ y, thereL g NL l 1 1 = y := ⟨_, rfl⟩
  rw [hRS]
  have hb1 : Below w.heap.size w (w.alloc (.cells #[.int .i64 (g : Int), .int .i64 1, .int .i64 0, .int .i64 0, .int .i64 0] 144)) := (Below.refl _ _).alloc (Nat.le_refl _) _
  have HI0 : Hid (RIn w (w.alloc (.cells #[.int .i64 (g : Int), .int .i64 1, .int .i64 0, .int .i64 0, .int .i64 0] 144)) l g NL w.heap.size 0 (.slice none 0 0) [] [] 1) :=
    ⟨growf_nil _ _, ⟨0, 0, heap_alloc_new w _⟩, ⟨NL, by omega, rfl⟩, rfl, Nat.le_refl _, hb1, by omega⟩
  have HX := hide hx
  have H64 := hide h64
  have HNL := hide hNL
  have HRS := hide hRS
  clear hx h64 hNL hRS hb1
  go_enter Tryz.func101, Tryz.ntmps101
  go_wp2
  obtain ⟨w1, hw1⟩ : ∃ y, w.alloc (.cells #[.int .i64 (g : Int), .int .i64 1, .int .i64 0, .int .i64 0, .int .i64 0] 144) = y := ⟨_, rfl⟩
  rw [hw1] at HI0 ⊢
  obtain ⟨A, hA⟩ : ∃ y, w.heap.size = y := ⟨_, rfl⟩
  have HA := hide hA
  rw [hA] at HI0 ⊢
  clear hw1 hA
  go_loopw [6, 7, 9, 10, 11] (fun vv uu _ _ _ wr => ∃ (used c D low : Nat) (sp : Option Addr) (vs : List Value) (done : List (Bs × Nat)), used ≤ NL ∧ D ≤ 20000 ∧ vv = .slice sp D c ∧ uu = .int .i64 (used : Int) ∧ Hid (done.length = D) ∧ Hid (RIn w wr l g NL A used (.slice sp D c) vs done low)) (fun _ uu _ _ _ _ => NL - (intOf uu).toNat)
  case atStart => exact ⟨0, 0, 0, 1, none, [], [], by omega, by omega, rfl, rfl, rfl, HI0⟩
  case round =>
    clear HI0
    obtain ⟨used, c, D, low, sp, vs, done, hu, hD, rfl, rfl, HD, HI⟩ := hrel
    have HB := hide (unhide HI).b
    by_cases hlt : used < NL
    · have f1 : decide ((used : Int) < (NL : Int)) = true := by simp; omega
      have f1n : decide (used < NL) = true := by simp; omega
      have j0 : (0 : Int) ≤ (used : Int) := by omega
      have j1 : (used : Int) < (NL : Int) := by omega
      obtain ⟨s, hs⟩ : ∃ y, l[used]? = some y := ⟨_, List.getElem?_eq_getElem (by have := unhide HNL; omega)⟩
      have hs64 := unhide H64 s (List.mem_of_getElem? hs)
      obtain ⟨g1, o1, v1, rfl, c1, b1⟩ := ((unhide HX).below (unhide HB)).at hs
      obtain ⟨p0, la0, hAh⟩ := (unhide HI).ahead
      rw [unhide HD] at hAh
      have hAlt : A < wr.heap.size := (Array.getElem?_eq_some_iff.1 hAh).1
      have Hh := hide (whead_c wr v1 s b1 hs64)
      obtain ⟨fl1, fl2, fl3, fl4, fl5⟩ := field_lt s
      have HS0 : Hid ((l.drop used)[0]? = some s) := by show _ = _; rw [List.getElem?_drop, Nat.add_zero]; exact hs
      have Hfl : Hid (∀ b o, Begins (l.drop used) g low (D + 1) b o → genF s = g ∧ opF s = o ∧ numF s = D + 1 ∧ lastF s + 1 = needs b.length ∧ RecOf (l.drop used) g o (D + 1) (lastF s) b) := fun b o hB => begins_rec (by omega) (by omega) hB (unhide HS0)
      unfold headV hdV at Hh
      obtain ⟨GE, hGE⟩ : ∃ y, genF s = y := ⟨_, rfl⟩
      obtain ⟨OP, hOP⟩ : ∃ y, opF s = y := ⟨_, rfl⟩
      obtain ⟨NU, hNU⟩ : ∃ y, numF s = y := ⟨_, rfl⟩
      obtain ⟨PL, hPL⟩ : ∃ y, placeF s = y := ⟨_, rfl⟩
      obtain ⟨LA, hLA⟩ : ∃ y, lastF s = y := ⟨_, rfl⟩
      rw [hGE, hOP, hNU, hPL, hLA] at Hh
      rw [hGE, hOP, hNU, hLA] at Hfl
      rw [hGE] at fl1
      rw [hOP] at fl2
      rw [hNU] at fl3
      rw [hPL] at fl4
      rw [hLA] at fl5
      have HSx := hide hs
      have HAh := hide hAh
      have HAlt := hide hAlt
      clear hGE hOP hNU hPL hLA hs hs64 b1 hAh hAlt
      go_wp2_with fail
      refine (unhide Hh).mono ?_
      rintro e w4 ⟨rfl, hb4⟩
      have hF5 := agg_new w4 (hdC GE OP NU PL LA) 144
      have hb5 : Below w4.heap.size w4 (w4.alloc (.cells (hdC GE OP NU PL LA).toArray 144)) := (Below.refl _ _).alloc (Nat.le_refl _) _
      have hb5r : Below wr.heap.size wr (w4.alloc (.cells (hdC GE OP NU PL LA).toArray 144)) := hb4.trans (hb5.mono hb4.size)
      have hAh5 : HdAt (w4.alloc (.cells (hdC GE OP NU PL LA).toArray 144)) A g low D p0 la0 := by unfold HdAt; rw [hb5r.block A (unhide HAlt)]; exact unhide HAh
      obtain ⟨k0, k1, k2, k3, k4⟩ := five_row hAh5
      have m0 := hF5.c 0 _ rfl
      have m1 := hF5.c 1 _ rfl
      have m2 := hF5.c 2 _ rfl
      have m3 := hF5.c 3 _ rfl
      have m4 := hF5.c 4 _ rfl
      have hFl := hF5.1
      unfold hdC at k0 k1 k2 k3 k4 m0 m1 m2 m3 m4 hb5r hAh5 hFl
      have HB5 := hide hb5r
      have HAh5 := hide hAh5
      have HFl := hide hFl
      obtain ⟨w5, hw5⟩ : ∃ y, w4.alloc (.cells [Value.int .i64 (GE : Int), .int .i64 (OP : Int), .int .i64 (NU : Int), .int .i64 (PL : Int), .int .i64 (LA : Int)].toArray 144) = y := ⟨_, rfl⟩
      obtain ⟨Fb, hFb⟩ : ∃ y, w4.heap.size = y := ⟨_, rfl⟩
      have HFge : Hid (wr.heap.size ≤ Fb) := by show _ ≤ _; rw [← hFb]; exact hb4.size
      rw [hw5] at k0 k1 k2 k3 k4 m0 m1 m2 m3 m4 HB5 HAh5 HFl
      rw [hFb] at m0 m1 m2 m3 m4 HFl
      have Hfo := hide (wfollows_c w5 GE OP NU PL LA g low D p0 la0 (by omega))
      unfold hdV at Hfo
      clear Hh hb4 hF5 hb5 hb5r hAh5 hFl
      by_cases hfw : GE = g ∧ NU = D + 1 ∧ low ≤ OP
      case neg =>
        rw [decide_eq_false hfw] at Hfo
        have HNo : Hid (RS = done) := by
          show _ = _
          rw [← unhide HRS]
          refine (unhide HI).done (unhide H64) fun b o hB => ?_
          rw [unhide HD] at hB
          obtain ⟨q1, q2, q3, _, _⟩ := unhide Hfl b o hB
          have := hB.low
          exact hfw ⟨q1, q3, by omega⟩
        clear hfw Hfl
        go_wp2_with fail
        refine (unhide Hfo).mono ?_
        rintro e w6 ⟨rfl, hb6⟩
        have hbr6 : Below wr.heap.size wr w6 := (unhide HB5).trans (hb6.mono (unhide HB5).size)
        have HE : Hid (GrowF w.heap.size w6 (.slice sp D c) vs (RS.map (·.1)) ∧ Below w.heap.size w w6) := ⟨by rw [unhide HNo]; exact ((unhide HI).recs.below hbr6).mono (by have := unhide HA; omega), (unhide HB).trans (hbr6.mono (unhide HB).size)⟩
        have HU : Hid ((used : Int) = (usedR RS : Int)) := by show _ = _; rw [unhide HNo, ← (unhide HI).useq]
        clear hb6 hbr6 Hfo k0 k1 k2 k3 k4 m0 m1 m2 m3 m4 HI c1 hw5 hFb
        go_wp2
        go_ret2
        exact ⟨_, _, congrArg (fun z => Ending.returned (.tuple #[.slice sp D c, .int .i64 z])) (unhide HU), (unhide HE).1, (unhide HE).2⟩
      rw [decide_eq_true hfw] at Hfo
      have HFW := hide hfw
      clear hfw
      go_wp2_with fail
      refine (unhide Hfo).mono ?_
      rintro e w6 ⟨rfl, hb6⟩
      have hbr6 : Below wr.heap.size wr w6 := (unhide HB5).trans (hb6.mono (unhide HB5).size)
      have HB6 := hide hbr6
      have HFl6 : Hid (Fb < w6.heap.size) := Nat.lt_of_lt_of_le (unhide HFl) hb6.size
      have n0 := (hb6.cell (p := ⟨Fb, 0, none⟩) (unhide HFl)).trans m0
      have n1 := (hb6.cell (p := ⟨Fb, 1, none⟩) (unhide HFl)).trans m1
      have n2 := (hb6.cell (p := ⟨Fb, 2, none⟩) (unhide HFl)).trans m2
      have n3 := (hb6.cell (p := ⟨Fb, 3, none⟩) (unhide HFl)).trans m3
      have n4 := (hb6.cell (p := ⟨Fb, 4, none⟩) (unhide HFl)).trans m4
      have HAh6 : Hid (HdAt w6 A g low D p0 la0) := by show HdAt _ _ _ _ _ _ _; unfold HdAt; rw [hbr6.block A (unhide HAlt)]; exact unhide HAh
      have HX6 := hide ((unhide HX).below ((unhide HB).trans (hbr6.mono (unhide HB).size)))
      have hsl : ∀ w, (Instr.sliceAt 44 (.slice (some ⟨g1, o1, none⟩) NL cx) (some (.int .i64 (used : Int))) none none).run Tryz.prog w = .ok (.slice (cutAt (some ⟨g1, o1, none⟩) cx used) (NL - used) (cx - used)) w := fun w => slice_restbb _ NL cx used (by omega) w
      have Hra := hide (wrecat_c w6.drew (.slice (cutAt (some ⟨g1, o1, none⟩) cx used) (NL - used) (cx - used)) (l.drop used) GE OP NU PL LA ((unhide HX6).rest used (by omega) |>.below (Below.refl _ _).drew) (fun y hy => unhide H64 y (List.mem_of_mem_drop hy)) (by rw [List.length_drop, unhide HNL]; omega) (by omega))
      unfold hdV at Hra
      clear hb6 hbr6 Hfo k0 k1 k2 k3 k4 m0 m1 m2 m3 m4 c1 hw5 hFb HB5 HAh5
      go_wp2
      go_region_held3 (fun w' => w'.cell? ⟨Fb, 0, none⟩ = some (.int .i64 (GE : Int)) ∧ w'.cell? ⟨Fb, 1, none⟩ = some (.int .i64 (OP : Int)) ∧ w'.cell? ⟨Fb, 2, none⟩ = some (.int .i64 (NU : Int)) ∧ w'.cell? ⟨Fb, 3, none⟩ = some (.int .i64 (PL : Int)) ∧ w'.cell? ⟨Fb, 4, none⟩ = some (.int .i64 (LA : Int))) (go_keep)
        ((first
          | (go_at_call 120
             refine (unhide Hra).mono ?_
             rintro e w7 ⟨hcase, hb7⟩
             have HB7 : Hid (Below w6.heap.size w6 w7) := (Below.refl _ _).drew.trans (hb7.mono (Nat.le_refl _))
             have n0' := ((unhide HB7).cell (p := ⟨Fb, 0, none⟩) (unhide HFl6)).trans n0
             have n1' := ((unhide HB7).cell (p := ⟨Fb, 1, none⟩) (unhide HFl6)).trans n1
             have n2' := ((unhide HB7).cell (p := ⟨Fb, 2, none⟩) (unhide HFl6)).trans n2
             have n3' := ((unhide HB7).cell (p := ⟨Fb, 3, none⟩) (unhide HFl6)).trans n3
             have n4' := ((unhide HB7).cell (p := ⟨Fb, 4, none⟩) (unhide HFl6)).trans n4
             clear hb7
             obtain ⟨V7, O7, rfl, hcase2⟩ : ∃ V7 O7, e = .returned (.tuple #[V7, .bool O7]) ∧ ((O7 = true ∧ ∃ r, RecOf (l.drop used) GE OP NU LA r ∧ Row w6.drew w7 V7 r) ∨ (O7 = false ∧ ∀ r, ¬ RecOf (l.drop used) GE OP NU LA r)) := by
               rcases hcase with ⟨r, v, h1, h2, h3⟩ | ⟨h1, h2⟩
               · exact ⟨v, true, h2, Or.inl ⟨rfl, r, h1, h3⟩⟩
               · exact ⟨_, false, h2, Or.inr ⟨rfl, h1⟩⟩
             have HC := hide hcase2
             clear hcase hcase2)))
      rcases unhide HC with ⟨rfl, r, hrec, hrow⟩ | ⟨rfl, hno⟩
      · obtain ⟨hf1, hf2, hf3⟩ := unhide HFW
        obtain ⟨s7, c7, e7⟩ := hrow.own.form
        obtain ⟨rl, hrl⟩ : ∃ y, r.length = y := ⟨_, rfl⟩
        rw [hrl] at e7
        subst e7
        have HRow : Hid (Row w6 w7 (.slice s7 rl c7) r) := ⟨hrow.own, (Below.refl _ _).drew.trans (hrow.b.mono (Nat.le_refl _))⟩
        have HRec : Hid (RecOf (l.drop used) g OP (D + 1) LA r) := by have h := hrec; rw [hf1, hf2] at h; exact h
        have Hlo := hide hf3
        have HGE := hide hf1
        have HNU := hide hf2
        have HBr7 : Hid (Below wr.heap.size wr w7) := (unhide HB6).trans ((unhide HB7).mono (unhide HB6).size)
        have hb8 : Below wr.heap.size wr (w7.alloc (.cells #[.slice s7 rl c7] 23)) := (unhide HBr7).alloc (unhide HBr7).size _
        have HO8 : Hid (OwnV 23 (w7.alloc (.cells #[.slice s7 rl c7] 23)) (A + 1) (.slice sp D c) vs) := (unhide HI).recs.own.below hb8
        have HV8 : Hid (ValsAt (w7.alloc (.cells #[.slice s7 rl c7] 23)) (.slice (some ⟨w7.heap.size, 0, none⟩) 1 1) [.slice s7 rl c7]) := vals_new w7 [.slice s7 rl c7] 23
        have HS8 : Hid (A + 1 ≤ (w7.alloc (.cells #[.slice s7 rl c7] 23)).heap.size) := by have := unhide HAlt; have := hb8.size; show _ ≤ _; omega
        have HF8 : Hid (∀ k v, w7.cell? ⟨Fb, k, none⟩ = some v → ∀ w9, (w7.alloc (.cells #[.slice s7 rl c7] 23)).grownBy w9 (Value.slice sp D c).ownBlock → w9.cell? ⟨Fb, k, none⟩ = some v) := fun k v hk w9 hg9 => by
          have h1 : (w7.alloc (.cells #[.slice s7 rl c7] 23)).cell? ⟨Fb, k, none⟩ = some v := by
            rw [World.cell?_alloc_lt _ _ _ (Nat.lt_of_lt_of_le (unhide HFl6) (unhide HB7).size)]; exact hk
          refine cell_aside h1 (Aside.of_grown hg9 (S := fun q => (Value.slice sp D c).ownBlock = some q) fun q hq => hq) fun hq => ?_
          have := ((unhide HI).recs.lt.1 Fb hq).2
          have := unhide HFge
          omega
        have HA8 : Hid (∀ w9, (w7.alloc (.cells #[.slice s7 rl c7] 23)).grownBy w9 (Value.slice sp D c).ownBlock → HdAt w9 A g low D p0 la0) := fun w9 hg9 => by
          unfold HdAt
          rw [hg9.block A (Nat.lt_of_lt_of_le (unhide HAlt) hb8.size) fun hq => by have := ((unhide HI).recs.lt.1 A hq.symm).1; omega, hb8.block A (unhide HAlt)]
          exact unhide HAh
        have HVl : Hid (vs.length = D) := by show _ = _; rw [(unhide HI).recs.len, List.length_map, unhide HD]
        obtain ⟨US, hUS⟩ : ∃ y, LA + 1 = y := ⟨_, rfl⟩
        have eUS : (LA : Int) + 1 = (US : Int) := by omega
        have hDlt : D < 20000 := by have h1 := (unhide HI).few; rw [unhide HD] at h1; omega
        have HUS := hide hUS
        have hUL : used + US ≤ NL := by have := hrec.1; rw [List.length_drop, unhide HNL] at this; omega
        clear hf1 hf2 hf3 hrow hrec hrl hb8 n0 n1 n2 n3 n4 Hra hsl HC hUS HFW
        go_wp2_with (at_builtin; refine wpList_append_vals Ebb rfl _ _ rfl (A + 1) (.slice sp D c) (.slice (some ⟨w7.heap.size, 0, none⟩) 1 1) vs [.slice s7 rl c7] rfl (unhide HO8) rfl (unhide HV8) (by simp [Value.oneCell']) (unhide HS8) (by rw [unhide HVl]; simp; omega) ?_
                     intro v_ w9 ho9 hg9 hor9
                     obtain ⟨s9, c9, e9⟩ := ho9.form
                     rw [List.length_append, unhide HVl] at e9
                     have e9' : v_ = .slice s9 (D + 1) c9 := e9
                     subst e9'
                     have q0 := unhide HF8 0 _ n0' w9 hg9
                     have q1 := unhide HF8 1 _ n1' w9 hg9
                     have q2 := unhide HF8 2 _ n2' w9 hg9
                     have q3 := unhide HF8 3 _ n3' w9 hg9
                     have q4 := unhide HF8 4 _ n4' w9 hg9
                     have hA9 := unhide HA8 w9 hg9
                     obtain ⟨k0, k1, k2, k3, k4⟩ := five_row hA9
                     have z0 := row_frozen hA9 0
                     have z1 := row_frozen hA9 1
                     have z2 := row_frozen hA9 2
                     have z3 := row_frozen hA9 3
                     have z4 := row_frozen hA9 4
                     have HP := hide (put5 hA9 (.int .i64 (GE : Int)) (.int .i64 (OP : Int)) (.int .i64 (NU : Int)) (.int .i64 (PL : Int)) (.int .i64 (LA : Int)))
                     have HO9 := hide ho9
                     have HG9 := hide hg9
                     have HOr9 := hide hor9
                     clear ho9 hg9 hor9 e9 hA9 n0' n1' n2' n3' n4')
        obtain ⟨h10, g10⟩ := unhide HP
        obtain ⟨w10, hw10⟩ : ∃ y, ((((w9.setCell ⟨A, 0, none⟩ (.int .i64 (GE : Int))).setCell ⟨A, 1, none⟩ (.int .i64 (OP : Int))).setCell ⟨A, 2, none⟩ (.int .i64 (NU : Int))).setCell ⟨A, 3, none⟩ (.int .i64 (PL : Int))).setCell ⟨A, 4, none⟩ (.int .i64 (LA : Int)) = y := ⟨_, rfl⟩
        rw [hw10] at h10 g10 ⊢
        have hh10 : HdAt w10 A g OP (D + 1) PL LA := by unfold HdAt hdC; rw [h10, unhide HGE, unhide HNU]
        obtain ⟨hN, hN2⟩ := (unhide HI).next (unhide HNL) hlt hl (by omega) fl2 (by have := unhide HA; omega) (unhide H64) (unhide HSx) (unhide Hlo) (by rw [unhide HD]) (unhide HRec) (unhide HB6) (unhide HRow) (unhide HO9) (unhide HG9) (unhide HOr9) hh10 g10
        rw [unhide HUS] at hN hN2
        refine ⟨⟨used + US, c9, D + 1, OP, s9, _, _, by omega, by omega, rfl, by simp, ?_, hN⟩, ?_⟩
        · show _ = _
          rw [List.length_append, unhide HD]; rfl
        · have := unhide HUS
          simp [intOf]
          omega
      · have HNo : Hid (RS = done) := by
          show _ = _
          rw [← unhide HRS]
          refine (unhide HI).done (unhide H64) fun b o hB => ?_
          rw [unhide HD] at hB
          obtain ⟨q1, q2, q3, _, q5⟩ := unhide Hfl b o hB
          rw [← q1, ← q2, ← q3] at q5
          exact hno b q5
        have HBr7 : Hid (Below wr.heap.size wr w7) := (unhide HB6).trans ((unhide HB7).mono (unhide HB6).size)
        have HE : Hid (GrowF w.heap.size w7 (.slice sp D c) vs (RS.map (·.1)) ∧ Below w.heap.size w w7) := ⟨by rw [unhide HNo]; exact ((unhide HI).recs.below (unhide HBr7)).mono (by have := unhide HA; omega), (unhide HB).trans ((unhide HBr7).mono (unhide HB).size)⟩
        have HU : Hid ((used : Int) = (usedR RS : Int)) := by show _ = _; rw [unhide HNo, ← (unhide HI).useq]
        clear hno HC n0 n1 n2 n3 n4 n0' n1' n2' n3' n4' HI Hra hsl
        go_wp2
        go_ret2
        exact ⟨_, _, congrArg (fun z => Ending.returned (.tuple #[.slice sp D c, .int .i64 z])) (unhide HU), (unhide HE).1, (unhide HE).2⟩
    · obtain rfl : used = NL := by omega
      have f1 : decide ((used : Int) < (used : Int)) = false := by simp
      have HNo : Hid (RS = done) := by
        show _ = _
        rw [← unhide HRS]
        refine (unhide HI).done (unhide H64) fun b o hB => ?_
        have h1 := hB.fits
        have h2 := needs_pos b.length
        rw [List.length_drop, unhide HNL] at h1
        omega
      have HE : Hid (GrowF w.heap.size wr (.slice sp D c) vs (RS.map (·.1)) ∧ Below w.heap.size w wr) := ⟨by rw [unhide HNo]; exact (unhide HI).recs.mono (by have := unhide HA; omega), unhide HB⟩
      have HU : Hid ((used : Int) = (usedR RS : Int)) := by show _ = _; rw [unhide HNo, ← (unhide HI).useq]
      clear HI
      go_wp2
      go_ret2
      exact ⟨_, _, congrArg (fun z => Ending.returned (.tuple #[.slice sp D c, .int .i64 z])) (unhide HU), (unhide HE).1, (unhide HE).2⟩
end Go.Proofs.YtbjgknoipbekoaaGreat
namespace Go.Proofs.YtbjgknoipbekoaaGreat
open Go.RowKit
theorem top_next {g : Nat} {l : List Bs} {i : Nat} {s : Bs} (h : l[i]? = some s) : topP g (l.take (i + 1)) = if isPart g s ∧ topP g (l.take i) < opF s then opF s else topP g (l.take i) := by
  unfold topP
  rw [List.take_add_one, h, List.foldl_append]
  rfl
set_option maxRecDepth 100000 in
set_option maxHeartbeats 8000000 in
theorem wgreat_c (w : World) (x : Value) (l : List Bs) (g : Nat) (hx : BLists w x l) (h64 : ∀ s ∈ l, s.length = 64) (hl : l.length ≤ 20000) :
    Calls Tryz.prog 102 #[x, .int .i64 (g : Int)] w fun e w' => e = .returned (.int .i64 (topP g l : Int)) ∧ Below w.heap.size w w' := by
  obtain ⟨sx, cx, rfl⟩ := hx.form
  obtain ⟨NL, hNL⟩ : ∃ y, l.length = y := ⟨_, rfl⟩
  rw [hNL] at hx hl ⊢
  obtain ⟨T, hT⟩ : ∃ y, topP g l = y := ⟨_, rfl⟩
  rw [hT]
  have HX := hide hx
  have H64 := hide h64
  have HNL := hide hNL
  have HT := hide hT
  clear hx h64 hNL hT
  go_enter Tryz.func102, Tryz.ntmps102
  go_wp2
  go_loopw [5, 7, 8, 11] (fun tt _ _ ii wr => ∃ i t : Nat, i ≤ NL ∧ t < 4294967296 ∧ tt = .int .i64 (t : Int) ∧ ii = .int .i64 (i : Int) ∧ Hid (t = topP g (l.take i)) ∧ Hid (Below w.heap.size w wr)) (fun _ _ _ ii _ => NL - (intOf ii).toNat)
  case atStart => exact ⟨0, 0, by omega, by omega, rfl, rfl, rfl, Below.refl _ _⟩
  case round =>
    obtain ⟨i, t, hi, ht, rfl, rfl, Ht, Hb⟩ := hrel
    by_cases hlt : i < NL
    · have f1 : decide ((i : Int) < (NL : Int)) = true := by simp; omega
      have f1n : decide (i < NL) = true := by simp; omega
      have j0 : (0 : Int) ≤ (i : Int) := by omega
      have j1 : (i : Int) < (NL : Int) := by omega
      obtain ⟨s, hs⟩ : ∃ y, l[i]? = some y := ⟨_, List.getElem?_eq_getElem (by have := unhide HNL; omega)⟩
      have hs64 := unhide H64 s (List.mem_of_getElem? hs)
      obtain ⟨g1, o1, v1, rfl, c1, b1⟩ := ((unhide HX).below (unhide Hb)).at hs
      have Hh := hide (whead_c wr v1 s b1 hs64)
      obtain ⟨fl1, fl2, fl3, fl4, fl5⟩ := field_lt s
      have htk := top_next (g := g) hs
      rw [← unhide Ht] at htk
      have hip : isPart g s ↔ (genF s = g ∧ 0 < numF s ∧ placeF s ≤ lastF s ∧ lastF s < 1366) := Iff.rfl
      unfold headV hdV at Hh
      obtain ⟨GE, hGE⟩ : ∃ y, genF s = y := ⟨_, rfl⟩
      obtain ⟨OP, hOP⟩ : ∃ y, opF s = y := ⟨_, rfl⟩
      obtain ⟨NU, hNU⟩ : ∃ y, numF s = y := ⟨_, rfl⟩
      obtain ⟨PL, hPL⟩ : ∃ y, placeF s = y := ⟨_, rfl⟩
      obtain ⟨LA, hLA⟩ : ∃ y, lastF s = y := ⟨_, rfl⟩
      rw [hGE, hOP, hNU, hPL, hLA] at Hh
      rw [hGE, hNU, hPL, hLA] at hip
      rw [hOP] at htk fl2
      have Htk := hide htk
      have Hip := hide hip
      clear hGE hOP hNU hPL hLA hs hs64 b1 htk hip fl1 fl3 fl4 fl5 Ht
      go_wp2_with fail
      refine (unhide Hh).mono ?_
      rintro e w4 ⟨rfl, hb4⟩
      have hF5 := agg_new w4 (hdC GE OP NU PL LA) 144
      have hb5 : Below w4.heap.size w4 (w4.alloc (.cells (hdC GE OP NU PL LA).toArray 144)) := (Below.refl _ _).alloc (Nat.le_refl _) _
      have hb5r : Below w.heap.size w (w4.alloc (.cells (hdC GE OP NU PL LA).toArray 144)) := ((unhide Hb).trans (hb4.mono (unhide Hb).size)).trans (hb5.mono (Nat.le_trans (unhide Hb).size hb4.size))
      have m0 := hF5.c 0 _ rfl
      have m1 := hF5.c 1 _ rfl
      have m2 := hF5.c 2 _ rfl
      have m3 := hF5.c 3 _ rfl
      have m4 := hF5.c 4 _ rfl
      have hFl := hF5.1
      unfold hdC at m0 m1 m2 m3 m4 hb5r hFl
      have HB5 := hide hb5r
      have HFl := hide hFl
      obtain ⟨w5, hw5⟩ : ∃ y, w4.alloc (.cells [Value.int .i64 (GE : Int), .int .i64 (OP : Int), .int .i64 (NU : Int), .int .i64 (PL : Int), .int .i64 (LA : Int)].toArray 144) = y := ⟨_, rfl⟩
      obtain ⟨Fb, hFb⟩ : ∃ y, w4.heap.size = y := ⟨_, rfl⟩
      rw [hw5] at m0 m1 m2 m3 m4 HB5 HFl
      rw [hFb] at m0 m1 m2 m3 m4 HFl
      have Hpa := hide (wispart_c w5 GE OP NU PL LA)
      unfold hdV at Hpa
      clear Hh hb4 hF5 hb5 hb5r hFl Hb c1
      by_cases h1 : GE = g
      case neg =>
        have x1 : ((GE : Int) == (g : Int)) = false := by simp; omega
        have x2 : decide ((GE : Int) = (g : Int)) = false := by simp; omega
        have Hn : Hid (t = topP g (l.take (i + 1))) := by show _ = _; rw [unhide Htk, if_neg fun h => h1 ((unhide Hip).1 h.1).1]
        clear Htk Hip h1 Hpa
        go_wp2
        refine ⟨⟨i + 1, t, by omega, ht, rfl, by simp, Hn, HB5⟩, ?_⟩
        simp [intOf]
        omega
      have x1 : ((GE : Int) == (g : Int)) = true := by simp; omega
      have x2 : decide ((GE : Int) = (g : Int)) = true := by simp; omega
      have H1 := hide h1
      clear h1
      by_cases h2 : 1 ≤ OP ∧ 1 ≤ NU ∧ PL ≤ LA ∧ LA < 1366
      case neg =>
        rw [decide_eq_false h2] at Hpa
        have Hn : Hid (t = topP g (l.take (i + 1))) := by
          show _ = _
          rw [unhide Htk, if_neg fun h => ?_]
          obtain ⟨_, q2, q3, q4⟩ := (unhide Hip).1 h.1
          exact h2 ⟨by omega, by omega, q3, q4⟩
        clear Htk Hip h2
        go_wp2_with fail
        refine (unhide Hpa).mono ?_
        rintro e w6 ⟨rfl, hb6⟩
        have HB6 : Hid (Below w.heap.size w w6) := (unhide HB5).trans (hb6.mono (unhide HB5).size)
        clear hb6 Hpa m0 m1 m2 m3 m4 hw5 hFb
        go_wp2
        refine ⟨⟨i + 1, t, by omega, ht, rfl, by simp, Hn, HB6⟩, ?_⟩
        simp [intOf]
        omega
      rw [decide_eq_true h2] at Hpa
      have Hip2 : Hid (isPart g s) := (unhide Hip).2 ⟨unhide H1, by omega, h2.2.2.1, h2.2.2.2⟩
      by_cases h3 : t < OP
      · have y1 : decide ((t : Int) < (OP : Int)) = true := by simp; omega
        have y2 : (t : Int) < (OP : Int) := by omega
        have Hn : Hid (OP = topP g (l.take (i + 1))) := by show _ = _; rw [unhide Htk, if_pos ⟨unhide Hip2, h3⟩]
        clear Htk Hip h2
        go_wp2_with fail
        refine (unhide Hpa).mono ?_
        rintro e w6 ⟨rfl, hb6⟩
        have HB6 : Hid (Below w.heap.size w w6) := (unhide HB5).trans (hb6.mono (unhide HB5).size)
        have n1 := (hb6.cell (p := ⟨Fb, 1, none⟩) (unhide HFl)).trans m1
        clear hb6 Hpa m0 m1 m2 m3 m4 hw5 hFb
        go_wp2
        refine ⟨⟨i + 1, OP, by omega, by omega, ?_, by simp, Hn, HB6⟩, ?_⟩
        · first | rfl | simp | omega
        · simp [intOf]
          omega
      · have y1 : decide ((t : Int) < (OP : Int)) = false := by simp; omega
        have y2 : ¬ (t : Int) < (OP : Int) := by omega
        have Hn : Hid (t = topP g (l.take (i + 1))) := by show _ = _; rw [unhide Htk, if_neg fun h => h3 h.2]
        clear Htk Hip h2
        go_wp2_with fail
        refine (unhide Hpa).mono ?_
        rintro e w6 ⟨rfl, hb6⟩
        have HB6 : Hid (Below w.heap.size w w6) := (unhide HB5).trans (hb6.mono (unhide HB5).size)
        have n1 := (hb6.cell (p := ⟨Fb, 1, none⟩) (unhide HFl)).trans m1
        clear hb6 Hpa m0 m1 m2 m3 m4 hw5 hFb
        go_wp2
        refine ⟨⟨i + 1, t, by omega, by omega, ?_, by simp, Hn, HB6⟩, ?_⟩
        · first | rfl | simp | omega
        · simp [intOf]
          omega
    · obtain rfl : i = NL := by omega
      have f1 : decide ((i : Int) < (i : Int)) = false := by simp
      have HE : Hid (t = T) := by
        show _ = _
        rw [unhide Ht, ← unhide HT, List.take_of_length_le (by have := unhide HNL; omega)]
      have hE := unhide HE
      subst hE
      clear Ht
      go_wp2
      go_ret
      exact ⟨rfl, unhide Hb⟩
end Go.Proofs.YtbjgknoipbekoaaGreat
namespace Go.Proofs.YtbjgknoipbekoaaGreat
open Go.RowKit
theorem read_part {s : PS} {a n i : Nat} (hd : s.down = false) (hf : a + n ≤ s.safe.length) (hi : i < n) : readE s ((a + i : Nat) : Int) = 0 ∧ (W.partOf (contentS s) a n)[i]? = some (readB s ((a + i : Nat) : Int)) := by
  have hr : rightAt s ((a + i : Nat) : Int) = true := by unfold rightAt; simp; omega
  constructor
  · unfold readE; rw [hd, hr]; rfl
  · rw [W.partOf_at _ hi]
    unfold readB
    rw [hd, hr]
    simp only [Bool.false_eq_true, if_false, Bool.not_true, Int.toNat_natCast]
    have hlt : a + i < (applyL s.safe s.loose).length := by rw [apply_len]; omega
    unfold contentS
    rw [List.getElem?_eq_getElem hlt, List.getD_eq_getElem?_getD, List.getElem?_eq_getElem hlt]
    rfl
end Go.Proofs.YtbjgknoipbekoaaGreat
namespace Go.Proofs.YtbjgknoipbekoaaGreat
open Go.RowKit
section
variable {PAt : Set_ → Set_ → World → Value → PS → Prop} (HP : Plate PAt)
set_option maxRecDepth 100000 in
set_option maxHeartbeats 8000000 in
include HP in
theorem wreadall_c {S R : Set_} {w : World} {pa : Addr} {s : PS} (hp : PAt S R w (.pointer (some pa)) s) (a n : Nat) (hd : s.down = false) (hf : a + n ≤ s.safe.length) (hl : s.loose.length ≤ 100000) (hn : n ≤ 16384) (ha : a ≤ 16384) :
    Calls Tryz.prog 100 #[.pointer (some pa), .int .i64 (a : Int), .int .i64 ((a + n : Nat) : Int)] w fun e w' => ∃ v vs, e = .returned (.tuple #[v, .int .i64 0]) ∧ GrowF w.heap.size w' v vs (W.partOf (contentS s) a n) ∧ Below w.heap.size w w' := by
  obtain ⟨N, hN⟩ : ∃ N, a + n = N := ⟨_, rfl⟩
  have HN := hide hN
  have Hp := hide hp
  have Hd := hide hd
  have Hf := hide hf
  have Hl := hide hl
  have hNb : N ≤ 32768 := by omega
  have e0 : (N : Int) - (a : Int) = (n : Int) := by omega
  rw [hN]
  obtain ⟨w1, hmk, ho1, hb1⟩ := made_roombb w n (by omega)
  have HS0 : Hid (GrowF w.heap.size w1 (.slice (some ⟨w.heap.size, 0, none⟩) 0 n) [] ((W.partOf (contentS s) a n).take 0) ∧ Below w.heap.size w w1) := ⟨⟨ho1, rfl, fun i u b h => by simp at h⟩, hb1⟩
  have HPL : Hid ((W.partOf (contentS s) a n).length = n) := by show _ = _; rw [W.partOf_len (by unfold contentS; rw [apply_len]; exact hf)]
  clear hp hd hf hl hN ho1 hb1
  go_enter Tryz.func100, Tryz.ntmps100
  go_wp2
  clear hmk e0
  go_loopw [8, 9, 10, 11] (fun oo ii _ _ wr => ∃ (i co : Nat) (so : Option Addr) (vs : List Value), i ≤ n ∧ oo = .slice so i co ∧ ii = .int .i64 ((a + i : Nat) : Int) ∧ Hid (GrowF w.heap.size wr (.slice so i co) vs ((W.partOf (contentS s) a n).take i) ∧ Below w.heap.size w wr)) (fun _ ii _ _ _ => N - (intOf ii).toNat)
  case atStart => exact ⟨0, _, _, [], by omega, rfl, rfl, HS0⟩
  case round =>
    clear HS0
    obtain ⟨i, co, so, vs, hi, rfl, rfl, HS⟩ := hrel
    obtain ⟨A, hA⟩ : ∃ A, a + i = A := ⟨_, rfl⟩
    rw [hA]
    have hAb : A ≤ N := by have := unhide HN; omega
    by_cases hlt : i < n
    · have hAN : A < N := by have := unhide HN; omega
      have f1 : decide ((A : Int) < (N : Int)) = true := by simp; omega
      have f1n : decide (A < N) = true := by simp; omega
      have f2 : (A : Int) < (N : Int) := by omega
      obtain ⟨r1, r2⟩ := read_part (unhide Hd) (unhide Hf) hlt
      rw [hA] at r1 r2
      have Hr := hide (HP.read (A : Int) (HP.kept (unhide Hp) (T := none_) (Aside.of_below (unhide HS).2) fun _ h => h.elim) (unhide Hl) (by omega) (by omega))
      obtain ⟨RB, hRB⟩ : ∃ y, readB s (A : Int) = y := ⟨_, rfl⟩
      rw [r1, hRB] at Hr
      rw [hRB] at r2
      have HR2 : Hid ((W.partOf (contentS s) a n).take (i + 1) = (W.partOf (contentS s) a n).take i ++ [RB]) := by show _ = _; rw [List.take_add_one, r2]; rfl
      obtain ⟨RL, hRL⟩ : ∃ y, RB.length = y := ⟨_, rfl⟩
      have HRL := hide hRL
      have HAi : Hid (a + (i + 1) = A + 1) := by show _ = _; omega
      have HVl : Hid (vs.length = i) := by show _ = _; rw [(unhide HS).1.len, List.length_take, unhide HPL]; omega
      clear r1 r2 hRB hRL hA
      go_wp2_with fail
      refine (unhide Hr).mono ?_
      rintro e w3 ⟨v, rfl, hO, hb3⟩
      obtain ⟨s3, c3, rfl⟩ := hO.form
      rw [unhide HRL] at hO
      have HO3 := hide hO
      have HB3 := hide hb3
      have HOv : Hid (OwnV 23 (w3.alloc (.cells #[.slice s3 RL c3] 23)) w.heap.size (.slice so i co) vs) := ((unhide HS).1.own.below hb3).alloc _
      have HVn : Hid (ValsAt (w3.alloc (.cells #[.slice s3 RL c3] 23)) (.slice (some ⟨w3.heap.size, 0, none⟩) 1 1) [.slice s3 RL c3]) := vals_new w3 [.slice s3 RL c3] 23
      have HSz : Hid (w.heap.size ≤ (w3.alloc (.cells #[.slice s3 RL c3] 23)).heap.size) := by have h1 := (unhide HS).2.size; have h2 := hb3.size; show _ ≤ _; simp; omega
      rw [unhide HRL]
      clear hO hb3 Hr
      go_wp2_with (at_builtin; refine wpList_append_vals Ebb rfl _ _ rfl w.heap.size (.slice so i co) (.slice (some ⟨w3.heap.size, 0, none⟩) 1 1) vs [.slice s3 RL c3] rfl (unhide HOv) rfl (unhide HVn) (by simp [Value.oneCell']) (unhide HSz) (by have := unhide HVl; simp; omega) ?_
                   intro v5 w5 ho5 hg5 hor5
                   obtain ⟨hn5, hb5⟩ := (unhide HS).1.next (unhide HS).2.size (unhide HO3) (unhide HB3) ho5 hg5 hor5
                   rw [← unhide HR2] at hn5
                   have HNx : Hid (GrowF w.heap.size w5 v5 (vs ++ [.slice s3 RL c3]) ((W.partOf (contentS s) a n).take (i + 1)) ∧ Below w.heap.size w w5) := ⟨hn5, (unhide HS).2.trans hb5⟩
                   obtain ⟨s5, c5, hv5⟩ := ho5.form
                   rw [List.length_append, unhide HVl, List.length_singleton] at hv5
                   subst hv5
                   clear ho5 hg5 hor5 hn5 hb5)
      refine ⟨⟨i + 1, c5, s5, _, by omega, rfl, ?_, HNx⟩, ?_⟩
      · rw [unhide HAi]; simp
      · simp [intOf]; omega
    · obtain rfl : i = n := by omega
      have hAN : A = N := by have := unhide HN; omega
      subst hAN
      have f1 : decide ((A : Int) < (A : Int)) = false := by simp
      have HE : Hid (GrowF w.heap.size wr (.slice so i co) vs (W.partOf (contentS s) a i) ∧ Below w.heap.size w wr) := by
        have h := unhide HS
        rw [List.take_of_length_le (by rw [unhide HPL]; omega)] at h
        exact h
      clear HS hA
      go_wp2
      go_ret2
      exact ⟨_, _, rfl, unhide HE⟩
end
end Go.Proofs.YtbjgknoipbekoaaGreat
namespace Go.Proofs.YtbjgknoipbekoaaGreat
open Go.RowKit
/-- A log's cells. -/
def logC (p v : Value) (L : LS) : List Value := [p, .int .i64 ((L.start + usedR L.rs : Nat) : Int), .int .i64 ((L.start + L.size : Nat) : Int), .int .i64 (L.gen : Int), .int .i64 (L.opening : Int), v, .bool L.shut]
/-- A log in its block. -/
structure LForm (B : Nat) (w : World) (p v : Value) (vs : List Value) (L : LS) : Prop where
  str : w.heap[B]? = some (.cells (logC p v L).toArray 131 (0, 0))
  recs : GrowF 0 w v vs (L.rs.map (·.1))
  apart : v.ownBlock ≠ some B
  each : ∀ u ∈ vs, u.ownBlock ≠ some B
  used : usedR L.rs ≤ L.size
  fit : L.start + L.size ≤ 16384
def LAt (S R : Set_) (w : World) (l p : Value) (L : LS) : Prop := ∃ B v vs, l = .pointer (some ⟨B, 0, none⟩) ∧ LForm B w p v vs L ∧ (∀ k, S k ↔ (k = B ∨ v.ownBlock = some k)) ∧ ∀ k, R k ↔ ∃ u ∈ vs, u.ownBlock = some k
theorem seven_row {w : World} {R : Nat} {a b c d e f g : Value} {T : TypeId} (h : w.heap[R]? = some (.cells [a, b, c, d, e, f, g].toArray T (0, 0))) : w.cell? ⟨R, 0, none⟩ = some a ∧ w.cell? ⟨R, 1, none⟩ = some b ∧ w.cell? ⟨R, 2, none⟩ = some c ∧ w.cell? ⟨R, 3, none⟩ = some d ∧ w.cell? ⟨R, 4, none⟩ = some e ∧ w.cell? ⟨R, 5, none⟩ = some f ∧ w.cell? ⟨R, 6, none⟩ = some g :=
  ⟨row_cell h 0 _ rfl, row_cell h 1 _ rfl, row_cell h 2 _ rfl, row_cell h 3 _ rfl, row_cell h 4 _ rfl, row_cell h 5 _ rfl, row_cell h 6 _ rfl⟩
theorem LForm.aside {T : Set_} {B : Nat} {a b : World} {p v : Value} {vs : List Value} {L : LS} (h : LForm B a p v vs L) (hb : Aside T a b) (hB : ¬ T B) (hv : ∀ k, v.ownBlock = some k → ¬ T k) (hu : ∀ u ∈ vs, ∀ k, u.ownBlock = some k → ¬ T k) : LForm B b p v vs L :=
  ⟨by rw [hb.block B (Array.getElem?_eq_some_iff.1 h.str).1 hB]; exact h.str, h.recs.aside hb hv hu, h.apart, h.each, h.used, h.fit⟩
theorem lat_ptr {S R : Set_} {w : World} {l p : Value} {L : LS} (h : LAt S R w l p L) : ∃ a, l = .pointer (some a) := by obtain ⟨B, _, _, rfl, _⟩ := h; exact ⟨_, rfl⟩
theorem lat_old {S R : Set_} {w : World} {l p : Value} {L : LS} (h : LAt S R w l p L) : ∀ k, S k ∨ R k → k < w.heap.size := by
  obtain ⟨B, v, vs, rfl, hf, hS, hR⟩ := h
  rintro k (hk | hk)
  · rcases (hS k).1 hk with rfl | h1
    · exact (Array.getElem?_eq_some_iff.1 hf.str).1
    · exact (hf.recs.lt.1 k h1).2
  · obtain ⟨u, hu, h1⟩ := (hR k).1 hk
    exact (hf.recs.lt.2 u hu k h1).2
theorem lat_kept {S R T : Set_} {w w' : World} {l p : Value} {L : LS} (h : LAt S R w l p L) (hb : Aside T w w') (hT : ∀ k, T k → ¬ S k ∧ ¬ R k) : LAt S R w' l p L := by
  obtain ⟨B, v, vs, rfl, hf, hS, hR⟩ := h
  exact ⟨B, v, vs, rfl, hf.aside hb (fun h => (hT B h).1 ((hS B).2 (Or.inl rfl))) (fun k hk h => (hT k h).1 ((hS k).2 (Or.inr hk))) (fun u hu k hk h => (hT k h).2 ((hR k).2 ⟨u, hu, hk⟩)), hS, hR⟩
set_option maxRecDepth 100000 in
set_option maxHeartbeats 2000000 in
theorem wroom_c {S R : Set_} {w : World} {l p : Value} {L : LS} (h : LAt S R w l p L) (h1 : usedR L.rs ≤ L.size) : Calls Tryz.prog 47 #[l] w fun e w' => e = .returned (.int .i64 (roomL L)) ∧ Below w.heap.size w w' := by
  obtain ⟨B, v, vs, rfl, hf, _, _⟩ := h
  obtain ⟨_, k1, k2, _, _, _, _⟩ := seven_row hf.str
  have hfit := hf.fit
  clear hf
  unfold roomL
  obtain ⟨U, hU⟩ : ∃ y, usedR L.rs = y := ⟨_, rfl⟩
  obtain ⟨Z, hZ⟩ : ∃ y, L.size = y := ⟨_, rfl⟩
  obtain ⟨N, hN⟩ : ∃ y, L.start + U = y := ⟨_, rfl⟩
  obtain ⟨T, hT⟩ : ∃ y, L.start + Z = y := ⟨_, rfl⟩
  rw [hU, hZ] at h1 ⊢
  rw [hZ] at hfit
  rw [hU, hN] at k1
  rw [hZ, hT] at k2
  by_cases hz : U = Z
  · have f1 : ((N : Int) == (T : Int)) = true := by simp; omega
    have f2 : decide ((N : Int) = (T : Int)) = true := by simp; omega
    rw [if_pos hz]
    have HN := hide hN
    clear hz hU hZ hN hT
    go_enter Tryz.func47, Tryz.ntmps47
    go_wp2
    go_region_held3 (fun w' => w'.cell? ⟨B, 1, none⟩ = some (.int .i64 (N : Int)) ∧ w'.cell? ⟨B, 2, none⟩ = some (.int .i64 (T : Int))) (go_keep) (fail)
    go_wp2
    go_ret
    exact ⟨rfl, (Below.refl _ _).drew⟩
  · have f1 : ((N : Int) == (T : Int)) = false := by simp; omega
    have f2 : decide ((N : Int) = (T : Int)) = false := by simp; omega
    rw [if_neg hz]
    obtain ⟨D, hD⟩ : ∃ y, Z - U = y := ⟨_, rfl⟩
    rw [hD]
    obtain ⟨K, hK⟩ : ∃ y, D * 48 = y := ⟨_, rfl⟩
    obtain ⟨M, hM⟩ : ∃ y, K - 4 = y := ⟨_, rfl⟩
    have e1 : (T : Int) - (N : Int) = (D : Int) := by omega
    have e2 : (D : Int) * 48 = (K : Int) := by omega
    have e3 : (K : Int) - 4 = (M : Int) := by omega
    have e4 : (48 : Int) * (D : Int) - 4 = (M : Int) := by omega
    rw [e4]
    have hMb : M ≤ 1000000 := by omega
    have wD : IntKind.i64.wrap (D : Int) = (D : Int) := by rw [IntKind.wrap_i64]; omega
    have wK : IntKind.i64.wrap (K : Int) = (K : Int) := by rw [IntKind.wrap_i64]; omega
    have wM : IntKind.i64.wrap (M : Int) = (M : Int) := by rw [IntKind.wrap_i64]; omega
    obtain ⟨A, hA⟩ : ∃ y : Int, min (M : Int) 65536 = y := ⟨_, rfl⟩
    rw [hA]
    by_cases hm : 65536 < M
    · have g1 : (65536 : Int) < (M : Int) := by omega
      have g2 : decide ((65536 : Int) < (M : Int)) = true := by simp; omega
      obtain rfl : A = 65536 := by omega
      clear hz hU hZ hN hT hD hK hM e4 hA
      go_enter Tryz.func47, Tryz.ntmps47
      go_wp2
      go_region_held3 (fun w' => w'.cell? ⟨B, 1, none⟩ = some (.int .i64 (N : Int)) ∧ w'.cell? ⟨B, 2, none⟩ = some (.int .i64 (T : Int))) (go_keep) (fail)
      go_wp2
      go_region_held3 (fun w' => w'.cell? ⟨B, 1, none⟩ = some (.int .i64 (N : Int)) ∧ w'.cell? ⟨B, 2, none⟩ = some (.int .i64 (T : Int))) (go_keep) (fail)
      go_wp2
      go_ret
      exact ⟨rfl, (Below.refl _ _).drew.drew⟩
    · have g1 : ¬ (65536 : Int) < (M : Int) := by omega
      have g2 : decide ((65536 : Int) < (M : Int)) = false := by simp; omega
      obtain rfl : A = (M : Int) := by omega
      clear hz hU hZ hN hT hD hK hM e4 hA
      go_enter Tryz.func47, Tryz.ntmps47
      go_wp2
      go_region_held3 (fun w' => w'.cell? ⟨B, 1, none⟩ = some (.int .i64 (N : Int)) ∧ w'.cell? ⟨B, 2, none⟩ = some (.int .i64 (T : Int))) (go_keep) (fail)
      go_wp2
      go_region_held3 (fun w' => w'.cell? ⟨B, 1, none⟩ = some (.int .i64 (N : Int)) ∧ w'.cell? ⟨B, 2, none⟩ = some (.int .i64 (T : Int))) (go_keep) (fail)
      go_wp2
      go_ret
      exact ⟨rfl, (Below.refl _ _).drew.drew⟩
end Go.Proofs.YtbjgknoipbekoaaGreat
