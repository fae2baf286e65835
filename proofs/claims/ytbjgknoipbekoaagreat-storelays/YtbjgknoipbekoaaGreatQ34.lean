/-
  The walk of the reference's one: the record that begins here, if one does.
  The walk of the reference's There: the records that are there.
-/
import Derived.Test.YtbjgknoipbekoaaGreatQ33
import Derived.Test.YtbjgknoipbekoaaGreatQ27
namespace Go.Proofs.YtbjgknoipbekoaaGreat
open Go.RowKit
/-- What the first P sectors hold. -/
def oneB (l : List Bs) (P : Nat) : Bs := ((l.take P).map (·.drop 16)).flatten
theorem oneB_succ {l : List Bs} {i : Nat} {x : Bs} (h : l[i]? = some x) : oneB l (i + 1) = oneB l i ++ x.drop 16 := by
  unfold oneB
  rw [List.take_add_one, h]
  simp
theorem oneB_len {l : List Bs} (hl : ∀ s ∈ l, s.length = 64) : ∀ {P : Nat}, P ≤ l.length → (oneB l P).length = 48 * P
  | 0, _ => by simp [oneB]
  | P + 1, h => by
    have h1 : l[P]? = some l[P] := List.getElem?_eq_getElem (by omega)
    rw [oneB_succ h1, List.length_append, oneB_len hl (by omega), List.length_drop, hl _ (List.getElem_mem _)]
    omega
theorem one_at {l : List Bs} {s : Bs} (h : l[0]? = some s) (g low m : Nat) : oneP l g low m = if opF s < low ∨ l.length < lastF s + 1 then none else if 65536 < numB ((oneB l (lastF s + 1)).take 4) ∨ needs (numB ((oneB l (lastF s + 1)).take 4)) ≠ lastF s + 1 then none else if recS (((oneB l (lastF s + 1)).drop 4).take (numB ((oneB l (lastF s + 1)).take 4))) g (opF s) m = l.take (lastF s + 1) then some (((oneB l (lastF s + 1)).drop 4).take (numB ((oneB l (lastF s + 1)).take 4))) else none := by
  cases l with
  | nil => simp at h
  | cons y r =>
    simp only [List.getElem?_cons_zero, Option.some.injEq] at h
    subst h
    rfl
/-- A part of a sector, as a value and as what it holds. -/
theorem sec_part5 {w : World} {sp : Option Addr} {c : Nat} {b : Bs} (h : BytesAt w (.slice sp 64 c) b) (hb : b.length = 64) (f e : Nat) (hf : f ≤ e) (he : e ≤ 64) : ∃ a d, (∀ w, (Instr.sliceAt 23 (.slice sp 64 c) (some (.int .i64 (f : Int))) (some (.int .i64 (e : Int))) none).run Tryz.prog w = .ok (.slice a (e - f) d) w) ∧ BytesAt w (.slice a (e - f) d) ((b.drop f).take (e - f)) := by
  have hc : 64 ≤ c := by
    obtain ⟨_, c', e_, h_, _⟩ := bytes_open h
    simp only [Value.slice.injEq] at e_
    omega
  refine ⟨cutAt sp c f, c - f, fun w => slice_mid sp 64 c f e hf (by omega) w, ?_⟩
  rw [← hb] at h
  exact bytes_part h f e hf (by omega)
theorem own_cut {sp : Option Addr} {n n' c c' f k : Nat} (h : (Value.slice (cutAt sp c f) n c').ownBlock = some k) : (Value.slice sp n' c).ownBlock = some k := by
  unfold cutAt at h
  split at h
  · cases sp <;> exact h
  · cases sp with
    | none => simp [Value.ownBlock] at h
    | some a =>
      simp only [Option.map_some, Value.ownBlock, Addr.add] at h ⊢
      split at h <;> exact h
set_option maxRecDepth 100000 in
set_option maxHeartbeats 8000000 in
theorem one_c (w : World) (x : Value) (l : List Bs) (g low m : Nat) (hx : BLists w x l) (hl : ∀ s ∈ l, s.length = 64) (hne : l ≠ []) (hn : l.length ≤ 16384) (hg : g ≤ 4294967296) (hm : m ≤ 4294967296) :
    Calls Tryz.prog 58 #[x, .int .i64 (g : Int), .int .i64 (low : Int), .int .i64 (m : Int)] w fun e w' => ∃ v, e = .returned (.tuple #[v, .bool (oneP l g low m).isSome]) ∧ (∀ b, oneP l g low m = some b → BytesAt w' v b ∧ ∀ k, v.ownBlock = some k → w.heap.size ≤ k) ∧ Below w.heap.size w w' := by
  obtain ⟨sx, cx, rfl⟩ := hx.form
  obtain ⟨NL, hNL⟩ : ∃ y, l.length = y := ⟨_, rfl⟩
  obtain ⟨s, hs⟩ : ∃ s, l[0]? = some s := ⟨_, List.getElem?_eq_getElem (List.length_pos_iff.2 hne)⟩
  have hs64 := hl s (List.mem_of_getElem? hs)
  have hA := one_at hs g low m
  obtain ⟨O, hO⟩ : ∃ y, opF s = y := ⟨_, rfl⟩
  obtain ⟨K, hK⟩ : ∃ y, lastF s = y := ⟨_, rfl⟩
  obtain ⟨P, hP⟩ : ∃ y, K + 1 = y := ⟨_, rfl⟩
  obtain ⟨Nn, hNn⟩ : ∃ y, numB ((oneB l P).take 4) = y := ⟨_, rfl⟩
  obtain ⟨bb, hbb⟩ : ∃ y, ((oneB l P).drop 4).take Nn = y := ⟨_, rfl⟩
  have hOb : O < 4294967296 := by
    have := num_lt ((s.drop 4).take 4)
    rw [show ((s.drop 4).take 4).length = 4 by rw [List.length_take, List.length_drop]; omega] at this
    rw [← hO]
    exact this
  have hKb : K < 65536 := by
    have := num_lt ((s.drop 14).take 2)
    rw [show ((s.drop 14).take 2).length = 2 by rw [List.length_take, List.length_drop]; omega] at this
    rw [← hK]
    exact this
  rw [hO, hK, hP, hNn, hbb, hNL] at hA
  rw [hNL] at hx hn ⊢
  obtain ⟨R, hR⟩ : ∃ y, oneP l g low m = y := ⟨_, rfl⟩
  rw [hR] at hA ⊢
  have HA := hide hA
  have HX := hide hx
  have HL := hide hl
  have HNL := hide hNL
  have HNn := hide hNn
  have Hbb := hide hbb
  obtain ⟨g0, o0, v0, rfl, c0', b0⟩ := hx.at hs
  have c0 : w.cell? ⟨g0, o0, none⟩ = some v0 := c0'
  obtain ⟨s0, q0, rfl, _⟩ := bytes_open b0
  rw [hs64] at c0 b0
  obtain ⟨a1, d1, hsl1', hp1⟩ := sec_part5 b0 hs64 4 8 (by omega) (by omega)
  obtain ⟨a2, d2, hsl2', hp2⟩ := sec_part5 b0 hs64 14 16 (by omega) (by omega)
  have hsl1 : ∀ w, (Instr.sliceAt 23 (.slice s0 64 q0) (some (.int .i64 4)) (some (.int .i64 8)) none).run Tryz.prog w = .ok (.slice a1 4 d1) w := hsl1'
  have hsl2 : ∀ w, (Instr.sliceAt 23 (.slice s0 64 q0) (some (.int .i64 14)) (some (.int .i64 16)) none).run Tryz.prog w = .ok (.slice a2 2 d2) w := hsl2'
  have Hn1 : Hid (Calls Tryz.prog 57 #[.slice a1 4 d1] w fun e w' => e = .returned (.int .i64 (O : Int)) ∧ Below w.heap.size w w') := by
    have h1 := number_c w _ _ hp1 (by rw [List.length_take]; omega)
    rw [show numB (List.take (8 - 4) (List.drop 4 s)) = O from hO] at h1
    exact h1
  have Hn2 : Hid (∀ w', Below w.heap.size w w' → Calls Tryz.prog 57 #[.slice a2 2 d2] w' fun e w2 => e = .returned (.int .i64 (K : Int)) ∧ Below w'.heap.size w' w2) := fun w' hb => by
    have h1 := number_c w' _ _ (hp2.below hb) (by rw [List.length_take]; omega)
    rw [show numB (List.take (16 - 14) (List.drop 14 s)) = K from hK] at h1
    exact h1
  have eP : (K : Int) + 1 = (P : Int) := by omega
  have hPb : P ≤ 65536 := by omega
  have hP1 : 1 ≤ P := by omega
  have k0 : (0 : Int) < (NL : Int) := by have := List.length_pos_iff.2 hne; omega
  clear hx hl hne hNL hs hs64 hA hO hK hP hNn hbb hR c0' b0 hsl1' hsl2' hp1 hp2
  go_enter Tryz.func58, Tryz.ntmps58
  go_wp2_with fail
  refine (unhide Hn1).mono ?_
  rintro e w1 ⟨rfl, hb1⟩
  have c1 : w1.cell? ⟨g0, o0, none⟩ = some (.slice s0 64 q0) := by rw [hb1.cell (World.block_lt_of_cell? _ _ c0)]; exact c0
  have HB1 := hide hb1
  clear hb1 c0 Hn1
  go_wp2_with fail
  refine (unhide Hn2 w1 (unhide HB1)).mono ?_
  rintro e w2 ⟨rfl, hb2⟩
  have HB2 := hide ((unhide HB1).trans (hb2.mono (unhide HB1).size))
  clear hb2 HB1 c1 Hn2 hsl1 hsl2
  by_cases hr1 : O < low
  · have f1 : decide ((O : Int) < (low : Int)) = true := by simp; omega
    have f1n : decide (O < low) = true := by simp; omega
    have f2 : (O : Int) < (low : Int) := by omega
    have hR := unhide HA
    rw [if_pos (Or.inl hr1)] at hR
    subst hR
    go_wp2
    go_ret2
    exact ⟨_, rfl, fun b hb => (by cases hb), unhide HB2⟩
  · have f1 : decide ((O : Int) < (low : Int)) = false := by simp; omega
    have f1n : decide (O < low) = false := by simp; omega
    have f2 : ¬ (O : Int) < (low : Int) := by omega
    by_cases hr2 : NL < P
    · have f3 : decide ((NL : Int) < (P : Int)) = true := by simp; omega
      have f3n : decide (NL < P) = true := by simp; omega
      have f4 : (NL : Int) < (P : Int) := by omega
      have hR := unhide HA
      rw [if_pos (Or.inr hr2)] at hR
      subst hR
      go_wp2
      go_ret2
      exact ⟨_, rfl, fun b hb => (by cases hb), unhide HB2⟩
    · have f3 : decide ((NL : Int) < (P : Int)) = false := by simp; omega
      have f3n : decide (NL < P) = false := by simp; omega
      have f4 : ¬ (NL : Int) < (P : Int) := by omega
      have hA2 := unhide HA
      rw [if_neg (by omega)] at hA2
      have HA2 := hide hA2
      have HR0 : Hid (Row w2 w2 (.slice none 0 0) (oneB l 0)) := ⟨ownb_nil w2 _, Below.refl _ _⟩
      clear hA2 HA hr1
      go_wp2
      go_loopw [12, 13] (fun bv ii wr => ∃ (i BL co : Nat) (so : Option Addr), i ≤ P ∧ ii = .int .i64 (i : Int) ∧ bv = .slice so BL co ∧ Hid (BL = 48 * i) ∧ Hid (Row w2 wr (.slice so BL co) (oneB l i))) (fun _ ii _ => P - (intOf ii).toNat)
      case atStart => exact ⟨0, 0, 0, none, by omega, rfl, rfl, rfl, HR0⟩
      case round =>
        obtain ⟨i, BL, co, so, hi, rfl, rfl, HBL, HR⟩ := hrel
        clear HR0
        by_cases hlt : i < P
        · have f5 : decide ((i : Int) < (P : Int)) = true := by simp; omega
          have f5n : decide (i < P) = true := by simp; omega
          have j0 : (0 : Int) ≤ (i : Int) := by omega
          have j1 : (i : Int) < (NL : Int) := by omega
          obtain ⟨y, hy⟩ : ∃ y, l[i]? = some y := ⟨_, List.getElem?_eq_getElem (by have := unhide HNL; omega)⟩
          have hy64 := unhide HL y (List.mem_of_getElem? hy)
          have hbr : Below w.heap.size w wr := (unhide HB2).trans ((unhide HR).b.mono (unhide HB2).size)
          obtain ⟨g1, o1, v1, he, c1, b1⟩ := ((unhide HX).below hbr).at hy
          simp only [Option.some.injEq, Addr.mk.injEq] at he
          obtain ⟨rfl, rfl, _⟩ := he
          obtain ⟨s1, q1, rfl, _⟩ := bytes_open b1
          have hq : 16 ≤ 64 := by omega
          have hsl' := fun w => slice_rest s1 64 q1 16 hq w
          obtain ⟨a3, ha3⟩ : ∃ y, cutAt s1 q1 16 = y := ⟨_, rfl⟩
          obtain ⟨d3, hd3⟩ : ∃ y, q1 - 16 = y := ⟨_, rfl⟩
          have hp3 := bytes_rest b1 16 (by omega)
          rw [hy64, ha3, hd3] at hp3
          simp only [ha3, hd3] at hsl'
          have hsl : ∀ w, (Instr.sliceAt 23 (.slice s1 64 q1) (some (.int .i64 16)) none none).run Tryz.prog w = .ok (.slice a3 48 d3) w := hsl'
          rw [hy64] at c1
          have HP3 : Hid (BytesAt wr (.slice a3 48 d3) (y.drop 16)) := hp3
          have Hlen : Hid ((oneB l i).length = 48 * i ∧ (y.drop 16).length = 48) := ⟨oneB_len (unhide HL) (by have := unhide HNL; omega), by rw [List.length_drop]; omega⟩
          have Hsu := hide (oneB_succ hy)
          clear hsl' hp3 b1 hy hbr ha3 hd3 hq hy64
          go_wp2_with (at_builtin; refine wpList_append_row rfl _ _ rfl (.slice so BL co) (.slice a3 48 d3) (oneB l i) (y.drop 16) rfl (unhide HR) rfl (unhide HP3) (by have := unhide Hlen; omega) ?_
                       intro bv2 w3 hr3)
          rw [← unhide Hsu] at hr3
          obtain ⟨so3, co3, hf3⟩ := hr3.own.form
          rw [oneB_len (unhide HL) (by have := unhide HNL; omega)] at hf3
          subst hf3
          have HR3 := hide hr3
          clear hr3
          refine ⟨⟨i + 1, 48 * (i + 1), co3, so3, by omega, ?_, rfl, rfl, HR3⟩, ?_⟩
          · simp
          · simp [intOf]; omega
        · obtain rfl : i = P := by omega
          have f5 : decide ((i : Int) < (i : Int)) = false := by simp
          have hbr : Below w.heap.size w wr := (unhide HB2).trans ((unhide HR).b.mono (unhide HB2).size)
          have hol := oneB_len (unhide HL) (P := i) (by have := unhide HNL; omega)
          have hby := (unhide HR).bytes
          obtain ⟨_, co', e_, hco, _, _⟩ := bytes_open hby
          simp only [Value.slice.injEq] at e_
          have hBL := unhide HBL
          have hco2 : 48 * i ≤ co := by omega
          have hslf : ∀ w, (Instr.sliceAt 23 (.slice so BL co) none (some (.int .i64 4)) none).run Tryz.prog w = .ok (.slice so 4 co) w := fun w => slice_front so BL co 4 (by omega) w
          have hbl : BL = (oneB l i).length := by omega
          have hby' := hby
          rw [hbl] at hby'
          have hfr := bytes_front hby' 4 (by omega)
          have hNb : Nn < 4294967296 := by
            have := num_lt ((oneB l i).take 4)
            rw [show ((oneB l i).take 4).length = 4 by rw [List.length_take]; omega, unhide HNn] at this
            exact this
          have Hn3 := hide (number_c wr _ _ hfr (by rw [List.length_take]; omega))
          rw [unhide HNn] at Hn3
          have HBr := hide hbr
          have HBy := hide hby
          have HOw : Hid (∀ k, (Value.slice so BL co).ownBlock = some k → w.heap.size ≤ k) := fun k hk => Nat.le_trans (unhide HB2).size (World.ownsRow.lt (unhide HR).own k hk).1
          have Hol := hide hol
          have Hco2 := hide hco2
          clear hbr hol hby e_ hco hbl hby' hfr HB2 HR hBL hco2
          go_wp2_with fail
          refine (unhide Hn3).mono ?_
          rintro e w3 ⟨rfl, hb3⟩
          have HB3 := hide ((unhide HBr).trans (hb3.mono (unhide HBr).size))
          have HBy3 := hide ((unhide HBy).below hb3)
          clear hb3 Hn3 HBr HBy hslf
          by_cases hr3 : 65536 < Nn
          · have g1 : decide (65536 < (Nn : Int)) = true := by simp; omega
            have g1n : decide (65536 < Nn) = true := by simp; omega
            have g2 : 65536 < (Nn : Int) := by omega
            have hR := unhide HA2
            rw [if_pos (Or.inl hr3)] at hR
            subst hR
            go_wp2
            go_ret2
            exact ⟨_, rfl, fun b hb => (by cases hb), unhide HB3⟩
          · have g1 : decide (65536 < (Nn : Int)) = false := by simp; omega
            have g1n : decide (65536 < Nn) = false := by simp; omega
            have g2 : ¬ 65536 < (Nn : Int) := by omega
            obtain ⟨ND, hND⟩ : ∃ y, needs Nn = y := ⟨_, rfl⟩
            have Hnd := hide (needs_c w3 Nn (by omega))
            rw [hND] at Hnd
            by_cases hr4 : ND = i
            · subst hr4
              have hA3 := unhide HA2
              rw [if_neg (by omega)] at hA3
              have hnf := needs_fit Nn
              rw [hND] at hnf
              have hbl : bb.length = Nn := by rw [← unhide Hbb, List.length_take, List.length_drop, unhide Hol]; omega
              obtain ⟨E, hE⟩ : ∃ y, 4 + Nn = y := ⟨_, rfl⟩
              have eE : (4 : Int) + (Nn : Int) = (E : Int) := by omega
              have hE2 : E - 4 = Nn := by omega
              obtain ⟨a5, ha5⟩ : ∃ y, cutAt so co 4 = y := ⟨_, rfl⟩
              obtain ⟨d5, hd5⟩ : ∃ y, co - 4 = y := ⟨_, rfl⟩
              have hslm : ∀ w, (Instr.sliceAt 23 (.slice so BL co) (some (.int .i64 4)) (some (.int .i64 (E : Int))) none).run Tryz.prog w = .ok (.slice a5 Nn d5) w := fun w => by
                have := slice_mid so BL co 4 E (by omega) (by have := unhide Hco2; omega) w
                rw [ha5, hd5, hE2] at this
                exact this
              have hb5 : BytesAt w3 (.slice a5 Nn d5) bb := by
                have h1 := unhide HBy3
                rw [unhide HBL, ← unhide Hol] at h1
                have := bytes_part h1 4 E (by omega) (by rw [unhide Hol]; omega)
                rw [ha5, hd5, hE2, unhide Hbb] at this
                exact this
              have HOw5 : Hid (∀ k, (Value.slice a5 Nn d5).ownBlock = some k → w.heap.size ≤ k) := fun k hk => unhide HOw k (own_cut (by rw [ha5]; exact hk))
              have HB5 := hide hb5
              have Hbl := hide hbl
              have HA3 := hide hA3
              have HND := hide hND
              have Hse := hide (rsectors_c w3 _ bb g O m hb5 (by omega) hg (by omega) hm)
              have hEb : E ≤ 65540 := by omega
              clear hA3 hnf hbl hE hE2 ha5 hd5 hb5 HOw HA2 HBy3 hND
              go_wp2_with fail
              refine (unhide Hnd).mono ?_
              rintro e w3' ⟨rfl, rfl⟩
              clear Hnd
              go_wp2_with fail
              refine (unhide Hse).mono ?_
              rintro e w4 ⟨v, us, rfl, hF, hb4⟩
              obtain ⟨so4, co4, hvf⟩ := hF.lists.form
              rw [rec_len, unhide Hbl, unhide HND] at hvf
              subst hvf
              have HF := hide hF.lists
              have HB4 := hide ((unhide HB3).trans (hb4.mono (unhide HB3).size))
              have HB54 := hide ((unhide HB5).below hb4)
              clear hF hb4 Hse HB5 HB3 hslm
              go_wp2
              go_loopw [17] (fun ii wr => ∃ j : Nat, j ≤ ND ∧ ii = .int .i64 (j : Int) ∧ Hid ((recS bb g O m).take j = l.take j) ∧ Hid (Below w4.heap.size w4 wr)) (fun ii _ => ND - (intOf ii).toNat)
              case atStart => exact ⟨0, by omega, rfl, rfl, Below.refl _ _⟩
              case round =>
                obtain ⟨j, hj, rfl, Ht, Hb⟩ := hrel
                by_cases hlt2 : j < ND
                · have f6 : decide ((j : Int) < (ND : Int)) = true := by simp; omega
                  have f6n : decide (j < ND) = true := by simp; omega
                  have j0 : (0 : Int) ≤ (j : Int) := by omega
                  have j1 : (j : Int) < (NL : Int) := by omega
                  have j2 : (j : Int) < (ND : Int) := by omega
                  obtain ⟨y, hy⟩ : ∃ y, l[j]? = some y := ⟨_, List.getElem?_eq_getElem (by have := unhide HNL; omega)⟩
                  obtain ⟨z, hz⟩ : ∃ z, (recS bb g O m)[j]? = some z := ⟨_, List.getElem?_eq_getElem (by rw [rec_len, unhide Hbl, unhide HND]; omega)⟩
                  have hy64 := unhide HL y (List.mem_of_getElem? hy)
                  have hz64 : z.length = 64 := by
                    have h1 := rec_at bb g O m (i := j) (by rw [unhide Hbl, unhide HND]; omega)
                    rw [hz] at h1
                    have := Option.some.inj h1
                    subst this
                    exact part_len _ _ _ (by rw [unhide Hbl, unhide HND]; omega)
                  have hbr : Below w.heap.size w wr := (unhide HB4).trans ((unhide Hb).mono (unhide HB4).size)
                  obtain ⟨g1, o1, v1, he, c1, b1⟩ := ((unhide HX).below hbr).at hy
                  simp only [Option.some.injEq, Addr.mk.injEq] at he
                  obtain ⟨rfl, rfl, _⟩ := he
                  obtain ⟨g2, o2, v2, rfl, c2, b2⟩ := ((unhide HF).below (unhide Hb)).at hz
                  obtain ⟨s1, q1, rfl, _⟩ := bytes_open b1
                  obtain ⟨s2, q2, rfl, _⟩ := bytes_open b2
                  rw [hy64] at c1 b1
                  rw [hz64] at c2 b2
                  have HC : Hid (∀ w', Below wr.heap.size wr w' → w'.cell? ⟨g0, o0 + j, none⟩ = some (.slice s1 64 q1) ∧ w'.cell? ⟨g2, o2 + j, none⟩ = some (.slice s2 64 q2)) := by
                    have h1 := c1
                    have h2 := c2
                    exact fun w' hb => ⟨by rw [hb.cell (World.block_lt_of_cell? _ _ h1)]; exact h1, by rw [hb.cell (World.block_lt_of_cell? _ _ h2)]; exact h2⟩
                  have Hs : Hid (∀ w', Below wr.heap.size wr w' → Calls Tryz.prog 19 #[.slice s2 64 q2, .slice s1 64 q1] w' fun e w2 => e = .returned (.bool (decide (z = y))) ∧ Below w'.heap.size w' w2) := fun w' hb => same_any w' _ _ z y (b2.below hb) (b1.below hb) (by omega)
                  have Hy := hide hy
                  have Hz := hide hz
                  clear b1 b2 hy hz hy64 hz64 hbr
                  by_cases hzy : z = y
                  · rw [decide_eq_true hzy] at Hs
                    have Ht2 := hide (take_same (unhide Ht) (unhide Hz) (unhide Hy) hzy)
                    clear hzy Ht
                    go_wp2
                    go_region_held3 (fun w' => w'.cell? ⟨g0, o0 + j, none⟩ = some (.slice s1 64 q1) ∧ w'.cell? ⟨g2, o2 + j, none⟩ = some (.slice s2 64 q2)) (go_keep)
                      ((first
                        | (go_at_call 19
                           refine (unhide Hs wr.drew (Below.refl _ _).drew).mono ?_
                           rintro e w5 ⟨rfl, hb5⟩
                           have Hb5 : Hid (Below wr.heap.size wr w5) := (Below.refl wr.heap.size wr).drew.trans hb5
                           obtain ⟨p2, p4⟩ := unhide HC w5 (unhide Hb5)
                           clear hb5)))
                    have Hbn := hide ((unhide Hb).trans ((unhide Hb5).mono (unhide Hb).size))
                    clear Hb5 Hb HC Hs c1 c2
                    go_wp2
                    refine ⟨⟨j + 1, by omega, ?_, Ht2, Hbn⟩, ?_⟩
                    · simp
                    · simp [intOf]; omega
                  · rw [decide_eq_false hzy] at Hs
                    have hR := unhide HA3
                    rw [if_neg (fun e => hzy (by
                      have h1 : (l.take ND)[j]? = l[j]? := by rw [List.getElem?_take, if_pos hlt2]
                      rw [← e, unhide Hz, unhide Hy] at h1
                      exact Option.some.inj h1))] at hR
                    subst hR
                    clear hzy Ht
                    go_wp2
                    go_region_held3 (fun w' => w'.cell? ⟨g0, o0 + j, none⟩ = some (.slice s1 64 q1) ∧ w'.cell? ⟨g2, o2 + j, none⟩ = some (.slice s2 64 q2)) (go_keep)
                      ((first
                        | (go_at_call 19
                           refine (unhide Hs wr.drew (Below.refl _ _).drew).mono ?_
                           rintro e w5 ⟨rfl, hb5⟩
                           have Hb5 : Hid (Below wr.heap.size wr w5) := (Below.refl wr.heap.size wr).drew.trans hb5
                           obtain ⟨p2, p4⟩ := unhide HC w5 (unhide Hb5)
                           clear hb5)))
                    have Hbn := hide ((unhide Hb).trans ((unhide Hb5).mono (unhide Hb).size))
                    have HBn := hide ((unhide HB4).trans ((unhide Hbn).mono (unhide HB4).size))
                    clear Hb5 Hb HC Hs c1 c2 Hbn
                    go_wp2
                    go_ret2
                    exact ⟨_, rfl, fun b hb => (by cases hb), unhide HBn⟩
                · obtain rfl : j = ND := by omega
                  have f6 : decide ((j : Int) < (j : Int)) = false := by simp
                  have hR := unhide HA3
                  have hta := unhide Ht
                  rw [List.take_of_length_le (by rw [rec_len, unhide Hbl, unhide HND]; omega)] at hta
                  rw [if_pos hta] at hR
                  subst hR
                  have HBn := hide ((unhide HB4).trans ((unhide Hb).mono (unhide HB4).size))
                  have HBy := hide ((unhide HB54).below (unhide Hb))
                  clear hta Ht Hb
                  go_wp2
                  go_ret2
                  exact ⟨_, rfl, fun b hb => (by cases hb; exact ⟨unhide HBy, unhide HOw5⟩), unhide HBn⟩
            · have g3 : ((ND : Int) != (i : Int)) = true := by simp; omega
              have g4 : ((ND : Int) == (i : Int)) = false := by simp; omega
              have g5 : ¬ (ND : Int) = (i : Int) := by omega
              have g6 : decide ((ND : Int) = (i : Int)) = false := by simp; omega
              have hR := unhide HA2
              rw [if_pos (Or.inr (by rw [hND]; exact hr4))] at hR
              subst hR
              clear hND
              go_wp2_with fail
              refine (unhide Hnd).mono ?_
              rintro e w3' ⟨rfl, rfl⟩
              clear Hnd
              go_wp2
              go_ret2
              exact ⟨_, rfl, fun b hb => (by cases hb), unhide HB3⟩
end Go.Proofs.YtbjgknoipbekoaaGreat
namespace Go.Proofs.YtbjgknoipbekoaaGreat
open Go.RowKit
/-- A part of a sector, read as a number. -/
theorem quiet_num {wr : World} {x : Value} {b : Bs} {k : Nat} (hx : BytesAt wr x b) (hl : b.length ≤ 6) (hk : numB b = k) (n : Nat) : Calls Tryz.prog 57 #[x] (wr.drewN n) fun e w' => e = .returned (.int .i64 (k : Int)) ∧ ∃ q, w' = (wr.drewN n).drewN q := by
  have h := number_s (wr.drewN n) x b (hx.below (below_drew5 (Below.refl _ _) n)) hl
  rw [hk] at h
  exact h.mono fun e w' h => ⟨h.1, 0, h.2⟩
/-- The greatest opening of the parts of a generation, as the reference counts parts: whatever their count is. -/
def topR (g : Nat) (l : List Bs) : Nat := l.foldl (fun t s => if (genF s = g ∧ 0 < numF s ∧ placeF s ≤ lastF s) ∧ t < opF s then opF s else t) 0
theorem top_take {g : Nat} {l : List Bs} {i : Nat} {s : Bs} (h : l[i]? = some s) : (genF s = g ∧ 0 < numF s ∧ placeF s ≤ lastF s ∧ topR g (l.take i) < opF s → topR g (l.take (i + 1)) = opF s) ∧ (¬ (genF s = g ∧ 0 < numF s ∧ placeF s ≤ lastF s ∧ topR g (l.take i) < opF s) → topR g (l.take (i + 1)) = topR g (l.take i)) := by
  have e : topR g (l.take (i + 1)) = if (genF s = g ∧ 0 < numF s ∧ placeF s ≤ lastF s) ∧ topR g (l.take i) < opF s then opF s else topR g (l.take i) := by
    unfold topR
    rw [List.take_add_one, h, List.foldl_append]
    rfl
  rw [e]
  exact ⟨fun h => if_pos ⟨⟨h.1, h.2.1, h.2.2.1⟩, h.2.2.2⟩, fun h => if_neg fun h2 => h ⟨h2.1.1, h2.1.2.1, h2.1.2.2, h2.2⟩⟩
set_option maxRecDepth 100000 in
set_option maxHeartbeats 8000000 in
theorem there_c (w : World) (x : Value) (l : List Bs) (g : Nat) (rs : List (Bs × Nat)) (hx : BLists w x l) (hl : ∀ s ∈ l, s.length = 64) (hn : l.length ≤ 16384) (hg : g < 4294967296) (hst : Stands g l 1 1 rs) :
    Calls Tryz.prog 29 #[x, .int .i64 (g : Int)] w fun e w' => ∃ v, e = .returned (.tuple #[v, .int .i64 (usedR rs : Int), .int .i64 ((topR g l + 1 : Nat) : Int)]) ∧ BLists w' v (rs.map (·.1)) ∧ Below w.heap.size w w' := by
  obtain ⟨sx, cx, rfl⟩ := hx.form
  obtain ⟨NL, hNL⟩ : ∃ y, l.length = y := ⟨_, rfl⟩
  rw [hNL] at hx hn ⊢
  obtain ⟨T, hT⟩ : ∃ y, topR g l = y := ⟨_, rfl⟩
  obtain ⟨U, hU⟩ : ∃ y, usedR rs = y := ⟨_, rfl⟩
  rw [hT, hU]
  obtain ⟨T1, hT1⟩ : ∃ y, T + 1 = y := ⟨_, rfl⟩
  rw [hT1]
  have HT1 := hide hT1
  have HX := hide hx
  have HL := hide hl
  have HNL := hide hNL
  have HT := hide hT
  have HU := hide hU
  have HSt := hide hst
  clear hx hl hNL hT hU hst hT1
  go_enter Tryz.func29, Tryz.ntmps29
  go_wp2
  go_loopw [7, 8] (fun tt ii wr => ∃ i t : Nat, i ≤ NL ∧ t < 4294967296 ∧ tt = .int .i64 (t : Int) ∧ ii = .int .i64 (i : Int) ∧ Hid (t = topR g (l.take i)) ∧ Hid (Below w.heap.size w wr)) (fun _ ii _ => NL - (intOf ii).toNat)
  case atStart => exact ⟨0, 0, by omega, by omega, rfl, rfl, rfl, Below.refl _ _⟩
  case round =>
    obtain ⟨i, t, hi, ht, rfl, rfl, Ht, Hb⟩ := hrel
    by_cases hlt : i < NL
    · have f1 : decide ((i : Int) < (NL : Int)) = true := by simp; omega
      have f1n : decide (i < NL) = true := by simp; omega
      have j0 : (0 : Int) ≤ (i : Int) := by omega
      have j1 : (i : Int) < (NL : Int) := by omega
      obtain ⟨s, hs⟩ : ∃ y, l[i]? = some y := ⟨_, List.getElem?_eq_getElem (by have := unhide HNL; omega)⟩
      have hs64 := unhide HL s (List.mem_of_getElem? hs)
      obtain ⟨g1, o1, v1, rfl, c1, b1⟩ := ((unhide HX).below (unhide Hb)).at hs
      obtain ⟨s1, q1, rfl, hq1, _⟩ := bytes_open b1
      have b1' := b1
      rw [hs64] at c1 b1
      obtain ⟨a1, d1, hsl1', hp1⟩ := sec_part5 b1 hs64 4 8 (by omega) (by omega)
      obtain ⟨a2, d2, hsl2', hp2⟩ := sec_part5 b1 hs64 8 12 (by omega) (by omega)
      obtain ⟨a3, d3, hsl3', hp3⟩ := sec_part5 b1 hs64 12 14 (by omega) (by omega)
      obtain ⟨a4, d4, hsl4', hp4⟩ := sec_part5 b1 hs64 14 16 (by omega) (by omega)
      have hp0 := bytes_front b1' 4 (by omega)
      have hsl0 : ∀ w, (Instr.sliceAt 23 (.slice s1 64 q1) none (some (.int .i64 4)) none).run Tryz.prog w = .ok (.slice s1 4 q1) w := fun w => slice_front s1 64 q1 4 (by omega) w
      have hsl1 : ∀ w, (Instr.sliceAt 23 (.slice s1 64 q1) (some (.int .i64 4)) (some (.int .i64 8)) none).run Tryz.prog w = .ok (.slice a1 4 d1) w := hsl1'
      have hsl2 : ∀ w, (Instr.sliceAt 23 (.slice s1 64 q1) (some (.int .i64 8)) (some (.int .i64 12)) none).run Tryz.prog w = .ok (.slice a2 4 d2) w := hsl2'
      have hsl3 : ∀ w, (Instr.sliceAt 23 (.slice s1 64 q1) (some (.int .i64 12)) (some (.int .i64 14)) none).run Tryz.prog w = .ok (.slice a3 2 d3) w := hsl3'
      have hsl4 : ∀ w, (Instr.sliceAt 23 (.slice s1 64 q1) (some (.int .i64 14)) (some (.int .i64 16)) none).run Tryz.prog w = .ok (.slice a4 2 d4) w := hsl4'
      have hOPb : opF s < 4294967296 := by
        have := num_lt ((s.drop 4).take 4)
        rw [show ((s.drop 4).take 4).length = 4 by rw [List.length_take, List.length_drop]; omega] at this
        exact this
      have htk := top_take (g := g) hs
      rw [← unhide Ht] at htk
      obtain ⟨GE, hGE⟩ : ∃ y, genF s = y := ⟨_, rfl⟩
      obtain ⟨OP, hOP⟩ : ∃ y, opF s = y := ⟨_, rfl⟩
      obtain ⟨NU, hNU⟩ : ∃ y, numF s = y := ⟨_, rfl⟩
      obtain ⟨PL, hPL⟩ : ∃ y, placeF s = y := ⟨_, rfl⟩
      obtain ⟨LA, hLA⟩ : ∃ y, lastF s = y := ⟨_, rfl⟩
      have Hc0 : Hid (∀ n, Calls Tryz.prog 57 #[.slice s1 4 q1] (wr.drewN n) fun e w' => e = .returned (.int .i64 (GE : Int)) ∧ ∃ q, w' = (wr.drewN n).drewN q) := fun n => quiet_num hp0 (by rw [List.length_take]; omega) hGE n
      have Hc1 : Hid (∀ n, Calls Tryz.prog 57 #[.slice a1 4 d1] (wr.drewN n) fun e w' => e = .returned (.int .i64 (OP : Int)) ∧ ∃ q, w' = (wr.drewN n).drewN q) := fun n => quiet_num hp1 (by rw [List.length_take]; omega) hOP n
      have Hc2 : Hid (∀ n, Calls Tryz.prog 57 #[.slice a2 4 d2] (wr.drewN n) fun e w' => e = .returned (.int .i64 (NU : Int)) ∧ ∃ q, w' = (wr.drewN n).drewN q) := fun n => quiet_num hp2 (by rw [List.length_take]; omega) hNU n
      have Hc3 : Hid (∀ n, Calls Tryz.prog 57 #[.slice a3 2 d3] (wr.drewN n) fun e w' => e = .returned (.int .i64 (PL : Int)) ∧ ∃ q, w' = (wr.drewN n).drewN q) := fun n => quiet_num hp3 (by rw [List.length_take]; omega) hPL n
      have Hc4 : Hid (∀ n, Calls Tryz.prog 57 #[.slice a4 2 d4] (wr.drewN n) fun e w' => e = .returned (.int .i64 (LA : Int)) ∧ ∃ q, w' = (wr.drewN n).drewN q) := fun n => quiet_num hp4 (by rw [List.length_take]; omega) hLA n
      rw [hGE, hOP, hNU, hPL, hLA] at htk
      rw [hOP] at hOPb
      have Htk := hide htk
      clear htk hGE hOP hNU hPL hLA hp0 hp1 hp2 hp3 hp4 hsl1' hsl2' hsl3' hsl4' b1 b1' hs hs64 hq1 Ht
      by_cases h1 : GE = g
      · subst h1
        have x1 : decide ((GE : Int) = (GE : Int)) = true := by simp
        have x2 : ((GE : Int) == (GE : Int)) = true := by simp
        by_cases h2 : 0 < NU
        · have y1 : decide ((0 : Int) < (NU : Int)) = true := by simp; omega
          have y2 : (0 : Int) < (NU : Int) := by omega
          have y3 : decide (0 < NU) = true := by simp; omega
          by_cases h3 : PL ≤ LA
          · have z1 : decide ((PL : Int) ≤ (LA : Int)) = true := by simp; omega
            have z2 : (PL : Int) ≤ (LA : Int) := by omega
            have z3 : decide (PL ≤ LA) = true := by simp; omega
            by_cases h4 : t < OP
            · have u1 : decide ((t : Int) < (OP : Int)) = true := by simp; omega
              have u2 : (t : Int) < (OP : Int) := by omega
              have u3 : decide (t < OP) = true := by simp; omega
              have Hn : Hid (OP = topR GE (l.take (i + 1))) := by show _ = _; exact ((unhide Htk).1 ⟨rfl, h2, h3, h4⟩).symm
              clear Htk
              go_wp2
              go_big_quiet (first | (go_at_call_of 57 (Value.slice s1 4 q1); refine Calls.quiet_of (unhide Hc0 _)) | (go_at_call_of 57 (Value.slice a1 4 d1); refine Calls.quiet_of (unhide Hc1 _)) | (go_at_call_of 57 (Value.slice a2 4 d2); refine Calls.quiet_of (unhide Hc2 _)) | (go_at_call_of 57 (Value.slice a3 2 d3); refine Calls.quiet_of (unhide Hc3 _)) | (go_at_call_of 57 (Value.slice a4 2 d4); refine Calls.quiet_of (unhide Hc4 _)))
              have Hbn := hide (below_drew5 (unhide Hb) nq)
              have Hc5 := hide (unhide Hc1 nq)
              clear Hb Hc0 Hc1 Hc2 Hc3 Hc4 c1
              go_wp2_with fail
              refine (unhide Hc5).mono ?_
              rintro e w5 ⟨rfl, q5, rfl⟩
              have Hbm := hide (below_drew5 (unhide Hbn) q5)
              rw [World.drewN_drewN] at Hbm
              clear Hc5 Hbn
              go_wp2
              refine ⟨⟨i + 1, OP, by omega, by omega, ?_, ?_, Hn, Hbm⟩, ?_⟩
              · simp
              · simp
              · simp [intOf]; omega
            · have u1 : decide ((t : Int) < (OP : Int)) = false := by simp; omega
              have u2 : ¬ (t : Int) < (OP : Int) := by omega
              have u3 : decide (t < OP) = false := by simp; omega
              have Hn : Hid (t = topR GE (l.take (i + 1))) := by show _ = _; exact ((unhide Htk).2 (by omega)).symm
              clear Htk
              go_wp2
              go_big_quiet (first | (go_at_call_of 57 (Value.slice s1 4 q1); refine Calls.quiet_of (unhide Hc0 _)) | (go_at_call_of 57 (Value.slice a1 4 d1); refine Calls.quiet_of (unhide Hc1 _)) | (go_at_call_of 57 (Value.slice a2 4 d2); refine Calls.quiet_of (unhide Hc2 _)) | (go_at_call_of 57 (Value.slice a3 2 d3); refine Calls.quiet_of (unhide Hc3 _)) | (go_at_call_of 57 (Value.slice a4 2 d4); refine Calls.quiet_of (unhide Hc4 _)))
              have Hbn := hide (below_drew5 (unhide Hb) nq)
              clear Hb Hc0 Hc1 Hc2 Hc3 Hc4 c1
              go_wp2
              refine ⟨⟨i + 1, t, by omega, by omega, ?_, ?_, Hn, Hbn⟩, ?_⟩
              · simp
              · simp
              · simp [intOf]; omega
          · have z1 : decide ((PL : Int) ≤ (LA : Int)) = false := by simp; omega
            have z2 : ¬ (PL : Int) ≤ (LA : Int) := by omega
            have z3 : decide (PL ≤ LA) = false := by simp; omega
            have Hn : Hid (t = topR GE (l.take (i + 1))) := by show _ = _; exact ((unhide Htk).2 (by omega)).symm
            clear Htk
            go_wp2
            go_big_quiet (first | (go_at_call_of 57 (Value.slice s1 4 q1); refine Calls.quiet_of (unhide Hc0 _)) | (go_at_call_of 57 (Value.slice a1 4 d1); refine Calls.quiet_of (unhide Hc1 _)) | (go_at_call_of 57 (Value.slice a2 4 d2); refine Calls.quiet_of (unhide Hc2 _)) | (go_at_call_of 57 (Value.slice a3 2 d3); refine Calls.quiet_of (unhide Hc3 _)) | (go_at_call_of 57 (Value.slice a4 2 d4); refine Calls.quiet_of (unhide Hc4 _)))
            have Hbn := hide (below_drew5 (unhide Hb) nq)
            clear Hb Hc0 Hc1 Hc2 Hc3 Hc4 c1
            go_wp2
            refine ⟨⟨i + 1, t, by omega, by omega, ?_, ?_, Hn, Hbn⟩, ?_⟩
            · simp
            · simp
            · simp [intOf]; omega
        · have y1 : decide ((0 : Int) < (NU : Int)) = false := by simp; omega
          have y2 : ¬ (0 : Int) < (NU : Int) := by omega
          have y3 : decide (0 < NU) = false := by simp; omega
          have Hn : Hid (t = topR GE (l.take (i + 1))) := by show _ = _; exact ((unhide Htk).2 (by omega)).symm
          clear Htk
          go_wp2
          go_big_quiet (first | (go_at_call_of 57 (Value.slice s1 4 q1); refine Calls.quiet_of (unhide Hc0 _)) | (go_at_call_of 57 (Value.slice a1 4 d1); refine Calls.quiet_of (unhide Hc1 _)) | (go_at_call_of 57 (Value.slice a2 4 d2); refine Calls.quiet_of (unhide Hc2 _)) | (go_at_call_of 57 (Value.slice a3 2 d3); refine Calls.quiet_of (unhide Hc3 _)) | (go_at_call_of 57 (Value.slice a4 2 d4); refine Calls.quiet_of (unhide Hc4 _)))
          have Hbn := hide (below_drew5 (unhide Hb) nq)
          clear Hb Hc0 Hc1 Hc2 Hc3 Hc4 c1
          go_wp2
          refine ⟨⟨i + 1, t, by omega, by omega, ?_, ?_, Hn, Hbn⟩, ?_⟩
          · simp
          · simp
          · simp [intOf]; omega
      · have x1 : decide ((GE : Int) = (g : Int)) = false := by simp; omega
        have x2 : ((GE : Int) == (g : Int)) = false := by simp; omega
        have x3 : decide (GE = g) = false := by simp; omega
        have x4 : ¬ (GE : Int) = (g : Int) := by omega
        have Hn : Hid (t = topR g (l.take (i + 1))) := by show _ = _; exact ((unhide Htk).2 (by omega)).symm
        clear Htk
        go_wp2
        go_big_quiet (first | (go_at_call_of 57 (Value.slice s1 4 q1); refine Calls.quiet_of (unhide Hc0 _)) | (go_at_call_of 57 (Value.slice a1 4 d1); refine Calls.quiet_of (unhide Hc1 _)) | (go_at_call_of 57 (Value.slice a2 4 d2); refine Calls.quiet_of (unhide Hc2 _)) | (go_at_call_of 57 (Value.slice a3 2 d3); refine Calls.quiet_of (unhide Hc3 _)) | (go_at_call_of 57 (Value.slice a4 2 d4); refine Calls.quiet_of (unhide Hc4 _)))
        have Hbn := hide (below_drew5 (unhide Hb) nq)
        clear Hb Hc0 Hc1 Hc2 Hc3 Hc4 c1
        go_wp2
        refine ⟨⟨i + 1, t, by omega, by omega, ?_, ?_, Hn, Hbn⟩, ?_⟩
        · simp
        · simp
        · simp [intOf]; omega
    · obtain rfl : i = NL := by omega
      have f1 : decide ((i : Int) < (i : Int)) = false := by simp
      have hT := unhide Ht
      rw [List.take_of_length_le (by have := unhide HNL; omega), unhide HT] at hT
      subst hT
      have hT1 := unhide HT1
      have eT1 : (t : Int) + 1 = (T1 : Int) := by omega
      have hT1b : T1 ≤ 4294967296 := by omega
      have HW0 : Hid (WtAt none_ none_ none_ none_ wr w.heap.size (.slice none 0 0) [] []) := ⟨own_nil 23 wr w.heap.size, rfl, fun i v b h => by simp at h, fun k hk => by simp [Value.ownBlock] at hk⟩
      clear hT1 Ht HT HT1
      go_wp2
      go_loopw [10, 11, 12] (fun ov av lv wr => ∃ (at_ k low oc : Nat) (os : Option Addr) (vs : List Value) (done rest : List (Bs × Nat)), at_ ≤ i ∧ k ≤ at_ ∧ low ≤ 4294967296 ∧ av = .int .i64 (at_ : Int) ∧ lv = .int .i64 (low : Int) ∧ ov = .slice os k oc ∧ Hid (done ++ rest = rs) ∧ Hid (done.length = k) ∧ Hid (usedR done = at_) ∧ Hid (Stands g (l.drop at_) low (k + 1) rest) ∧ Hid (WtAt none_ none_ none_ none_ wr w.heap.size (.slice os k oc) vs (done.map (·.1))) ∧ Hid (Below w.heap.size w wr)) (fun _ av _ _ => i - (intOf av).toNat)
      case atStart => exact ⟨0, 0, 1, 0, none, [], [], rs, by omega, by omega, by omega, rfl, rfl, rfl, rfl, rfl, rfl, HSt, HW0, Hb⟩
      case round =>
        obtain ⟨at_, k, low, oc, os, vs, done, rest, hat, hk, hlow, rfl, rfl, rfl, Hrs, Hdl, Hus, Hst, Hwt, Hbr⟩ := hrel
        clear HW0 HSt Hb
        by_cases hlt2 : at_ < i
        · have f2 : decide ((at_ : Int) < (i : Int)) = true := by simp; omega
          have f2n : decide (at_ < i) = true := by simp; omega
          have j0 : (0 : Int) ≤ (at_ : Int) := by omega
          have j1 : (at_ : Int) < (i : Int) := by omega
          have hsl := fun w => slice_restbb sx i cx at_ (by omega) w
          have hR := ((unhide HX).below (unhide Hbr)).rest at_ (by omega)
          obtain ⟨cs, hcs⟩ : ∃ y, cutAt sx cx at_ = y := ⟨_, rfl⟩
          obtain ⟨cc, hcc⟩ : ∃ y, cx - at_ = y := ⟨_, rfl⟩
          obtain ⟨RL, hRL⟩ : ∃ y, i - at_ = y := ⟨_, rfl⟩
          rw [hRL, hcs, hcc] at hR
          simp only [hRL, hcs, hcc] at hsl
          have hdl : (l.drop at_).length = RL := by rw [List.length_drop, unhide HNL]; exact hRL
          have hd64 : ∀ s ∈ l.drop at_, s.length = 64 := fun s hs => unhide HL s (List.mem_of_mem_drop hs)
          have Hone : Hid (Calls Tryz.prog 58 #[.slice cs RL cc, .int .i64 (g : Int), .int .i64 (low : Int), .int .i64 ((k : Int) + 1)] wr fun e w' => ∃ v, e = .returned (.tuple #[v, .bool (oneP (l.drop at_) g low (k + 1)).isSome]) ∧ (∀ b, oneP (l.drop at_) g low (k + 1) = some b → BytesAt w' v b ∧ ∀ k, v.ownBlock = some k → wr.heap.size ≤ k) ∧ Below wr.heap.size wr w') := one_c wr _ (l.drop at_) g low (k + 1) hR hd64 (by intro e; rw [e] at hdl; simp at hdl; omega) (by omega) (by omega) (by omega)
          clear hcs hcc hRL hR hdl hd64
          cases rest with
          | nil =>
            have hno : oneP (l.drop at_) g low (k + 1) = none := unhide Hst
            rw [hno] at Hone
            clear hno
            have hrs := unhide Hrs
            rw [List.append_nil] at hrs
            subst hrs
            have hU := unhide HU
            rw [unhide Hus] at hU
            subst hU
            go_wp2_with fail
            refine (unhide Hone).mono ?_
            rintro e w3 ⟨v, rfl, _, hb3⟩
            have HB3 := hide ((unhide Hbr).trans (hb3.mono (unhide Hbr).size))
            have HO := hide ((unhide Hwt).below hb3).lists
            clear hb3 Hone Hwt Hbr
            go_wp2
            go_ret3
            exact ⟨_, rfl, unhide HO, unhide HB3⟩
          | cons r rest =>
            obtain ⟨b, o⟩ := r
            obtain ⟨hB, hst2⟩ := unhide Hst
            have hys := one_yes hg (by omega) hB
            rw [hys] at Hone
            obtain ⟨s, hs0, hso, _⟩ := begins_op hg (by omega) hB
            rw [List.getElem?_drop, Nat.add_zero] at hs0
            have hs64 := unhide HL s (List.mem_of_getElem? hs0)
            obtain ⟨BL, hBL⟩ : ∃ y, b.length = y := ⟨_, rfl⟩
            obtain ⟨ND, hND⟩ : ∃ y, needs BL = y := ⟨_, rfl⟩
            have hfi := hB.fits
            have hbg := hB.big
            have hop := hB.op
            have hpo := needs_pos BL
            rw [List.length_drop, unhide HNL, hBL, hND] at hfi
            rw [hBL] at hbg
            rw [hND] at hpo
            have HSt2 : Hid (Stands g (l.drop (at_ + ND)) o (k + 1 + 1) rest) := by
              have h1 := hst2
              rw [hBL, hND, List.drop_drop] at h1
              exact h1
            have HUs2 : Hid (usedR (done ++ [(b, o)]) = at_ + ND) := by show _ = _; rw [used_app, unhide Hus, hBL, hND]
            have Hrs2 : Hid (done ++ [(b, o)] ++ rest = rs) := by show _ = _; rw [List.append_assoc]; exact unhide Hrs
            have Hdl2 : Hid ((done ++ [(b, o)]).length = k + 1) := by show _ = _; rw [List.length_append, unhide Hdl]; rfl
            obtain ⟨g1, o1, v1, rfl, c1, b1⟩ := ((unhide HX).below (unhide Hbr)).at hs0
            obtain ⟨s1, q1, rfl, _⟩ := bytes_open b1
            rw [hs64] at c1 b1
            obtain ⟨a1, d1, hsl1', hp1⟩ := sec_part5 b1 hs64 4 8 (by omega) (by omega)
            have hsl1 : ∀ w, (Instr.sliceAt 23 (.slice s1 64 q1) (some (.int .i64 4)) (some (.int .i64 8)) none).run Tryz.prog w = .ok (.slice a1 4 d1) w := hsl1'
            have Hnum : Hid (∀ w', Below wr.heap.size wr w' → Calls Tryz.prog 57 #[.slice a1 4 d1] w' fun e w2 => e = .returned (.int .i64 (o : Int)) ∧ w2 = w') := fun w' hb => by
              have h1 := number_s w' _ _ (hp1.below hb) (by rw [List.length_take]; omega)
              rw [show numB (List.take (8 - 4) (List.drop 4 s)) = o from hso] at h1
              exact h1
            have Hc1 : Hid (∀ w', Below wr.heap.size wr w' → w'.cell? ⟨g1, o1 + at_, none⟩ = some (.slice s1 64 q1)) := by
              have h1 := c1
              exact fun w' hb => by rw [hb.cell (World.block_lt_of_cell? _ _ h1)]; exact h1
            have HNd : Hid (∀ w', Calls Tryz.prog 44 #[.int .i64 (BL : Int)] w' fun e w2 => e = .returned (.int .i64 (ND : Int)) ∧ w2 = w') := fun w' => by
              have h1 := needs_c w' BL (by omega)
              rw [hND] at h1
              exact h1
            obtain ⟨A2, hA2⟩ : ∃ y, at_ + ND = y := ⟨_, rfl⟩
            have eA2 : (at_ : Int) + (ND : Int) = (A2 : Int) := by omega
            rw [hA2] at HSt2 HUs2
            have hA2i : A2 ≤ i := by omega
            have hA2k : k + 1 ≤ A2 := by omega
            have hA2m : at_ < A2 := by omega
            have HBL := hide hBL
            have Hlt : Hid (∀ k', (Value.slice os k oc).ownBlock = some k' → w.heap.size ≤ k' ∧ k' < wr.heap.size) := World.ownsRow.lt (unhide Hwt).own
            clear hB hst2 hys hs0 hso hs64 hND hfi hpo hBL b1 hsl1' hp1 hA2 Hst Hrs Hus Hdl c1
            go_wp2_with fail
            refine (unhide Hone).mono ?_
            rintro e w3 ⟨v, rfl, hv3, hb3⟩
            obtain ⟨hvb, hvo⟩ := hv3 b rfl
            obtain ⟨s2, q2, rfl, _⟩ := bytes_open hvb
            rw [unhide HBL] at hvb hvo
            have Hwt3 := hide ((unhide Hwt).below hb3)
            have HB3 := hide ((unhide Hbr).trans (hb3.mono (unhide Hbr).size))
            have c3 := unhide Hc1 w3 hb3
            have Hnu3 := hide (unhide Hnum w3 hb3)
            have Hvb := hide hvb
            have Hvo := hide hvo
            rw [unhide HBL]
            clear hv3 hvb hvo hb3 Hone Hnum Hc1 Hwt Hbr hsl
            go_wp2_with fail
            refine (unhide Hnu3).mono ?_
            rintro e w4 ⟨rfl, h4⟩
            rw [h4]
            clear Hnu3 h4 w4
            go_wp2_with fail
            refine (unhide HNd _).mono ?_
            rintro e w4 ⟨rfl, h4⟩
            rw [h4]
            clear HNd c3 hsl1 h4 w4
            have hb7 : Below w3.heap.size w3 (w3.alloc (.cells #[.slice s2 BL q2] 23)) := (Below.refl _ _).alloc (Nat.le_refl _) _
            have HW7 := hide ((unhide Hwt3).below hb7)
            have HVb7 := hide ((unhide Hvb).below hb7)
            have HVk : Hid (∀ k', b ≠ [] → (Value.slice s2 BL q2).ownBlock = some k' → k' < (w3.alloc (.cells #[.slice s2 BL q2] 23)).heap.size) := fun k' hne hk => ValsAt.old (unhide HVb7) (by simpa using hne) k' hk
            have HB7 := hide ((unhide HB3).trans (hb7.mono (unhide HB3).size))
            have HVn : Hid (ValsAt (w3.alloc (.cells #[.slice s2 BL q2] 23)) (.slice (some ⟨w3.heap.size, 0, none⟩) 1 1) [.slice s2 BL q2]) := vals_new w3 [.slice s2 BL q2] 23
            have HUl : Hid (vs.length ≤ 100000) := by show _ ≤ _; have h1 := (unhide Hwt3).len; have h2 := unhide Hdl2; rw [List.length_append] at h2; rw [List.length_map] at h1; simp at h2; omega
            have HWsz : Hid (w.heap.size ≤ (w3.alloc (.cells #[.slice s2 BL q2] 23)).heap.size) := (unhide HB7).size
            obtain ⟨w7, hw7e⟩ : ∃ y, w3.alloc (.cells #[.slice s2 BL q2] 23) = y := ⟨_, rfl⟩
            rw [hw7e] at HW7 HVb7 HVk HVn HWsz HB7
            clear hb7 Hwt3 HB3 Hvb
            go_wp2_with (at_builtin; refine wpList_append_vals Ebb rfl _ _ rfl w.heap.size (.slice os k oc) (.slice (some ⟨w3.heap.size, 0, none⟩) 1 1) vs [.slice s2 BL q2] rfl (unhide HW7).own rfl (unhide HVn) (by simp [Value.oneCell']) (unhide HWsz) (by have := unhide HUl; simp; omega) ?_
                         intro wv2 w8 ho8 hg8 hor8)
            have ha8 : Aside (fun k' => (Value.slice os k oc).ownBlock = some k') w7 w8 := Aside.of_grown hg8 fun k' hk => hk
            have hpu := (unhide HW7).push (us := [.slice s2 BL q2]) (m := [b]) rfl (fun j u c h1 h2 => by
              match j, h1, h2 with
              | 0, h1, h2 =>
                simp only [List.getElem?_cons_zero, Option.some.injEq] at h1 h2
                subst h1
                subst h2
                exact ⟨unhide HVb7, fun k' hne hk => ⟨⟨⟨fun h => h, fun h => h⟩, fun h => h, fun h => h⟩, fun e => by have := (unhide Hlt k' e).2; have := unhide Hvo k' hk; omega, unhide HVk k' hne hk⟩⟩
              | j + 1, h1, h2 => simp at h1) ho8 ha8 hor8 ⟨⟨fun h => h, fun h => h⟩, fun h => h, fun h => h⟩
            have HB8 := hide ((unhide HB7).trans (ha8.below (unhide HB7).size fun k' hk => (unhide Hlt k' hk).1))
            have hpm : (done ++ [(b, o)]).map (·.1) = done.map (·.1) ++ [b] := by rw [List.map_append]; rfl
            rw [← hpm] at hpu
            obtain ⟨ws2, wc2, hwf⟩ := hpu.lists.form
            rw [List.length_map, unhide Hdl2] at hwf
            subst hwf
            have HW8 := hide hpu
            clear ho8 hg8 hor8 ha8 hpu hpm HW7 HVb7 HVk HVn HB7
            refine ⟨⟨A2, k + 1, o, wc2, ws2, vs ++ [.slice s2 BL q2], done ++ [(b, o)], rest, by omega, by omega, by omega, rfl, rfl, rfl, Hrs2, Hdl2, HUs2, HSt2, HW8, HB8⟩, ?_⟩
            simp [intOf]
            omega
        · obtain rfl : at_ = i := by omega
          have f2 : decide ((at_ : Int) < (at_ : Int)) = false := by simp
          cases rest with
          | nil =>
            have hrs := unhide Hrs
            rw [List.append_nil] at hrs
            subst hrs
            have hU := unhide HU
            rw [unhide Hus] at hU
            subst hU
            have HO := hide (unhide Hwt).lists
            clear Hwt
            go_wp2
            go_ret3
            exact ⟨_, rfl, unhide HO, unhide Hbr⟩
          | cons r rest =>
            exfalso
            obtain ⟨b, o⟩ := r
            have h1 := (unhide Hst).1.fits
            have h2 := needs_pos b.length
            rw [List.length_drop, unhide HNL] at h1
            omega
end Go.Proofs.YtbjgknoipbekoaaGreat
