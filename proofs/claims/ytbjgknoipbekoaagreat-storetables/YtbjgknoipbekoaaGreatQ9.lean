/-
  The walk of the landed recordAt.
  Slices of slices of bytes of one's own, that grow; plain words: what stands ahead is a record's begin.
  The walk of the landed recordsIn.
-/
import Derived.Test.YtbjgknoipbekoaaGreatQ8
import Derived.Test.YtbjgknoipbekoaaGreatQ2
namespace Go.Proofs.YtbjgknoipbekoaaGreat
open Go.RowKit
set_option maxRecDepth 100000 in
set_option maxHeartbeats 8000000 in
theorem wrecat_c (w : World) (x : Value) (l : List Bs) (g o n p la : Nat) (hx : BLists w x l) (h64 : ∀ s ∈ l, s.length = 64) (hl : l.length ≤ 20000) (hla : la < 65536) :
    Calls Tryz.prog 120 #[x, hdV g o n p la] w fun e w' => ((∃ r v, RecOf l g o n la r ∧ e = .returned (.tuple #[v, .bool true]) ∧ Row w w' v r) ∨ ((∀ r, ¬ RecOf l g o n la r) ∧ e = .returned (.tuple #[.slice none 0 0, .bool false]))) ∧ Below w.heap.size w w' := by
  obtain ⟨sx, cx, rfl⟩ := hx.form
  obtain ⟨NL, hNL⟩ : ∃ y, l.length = y := ⟨_, rfl⟩
  rw [hNL] at hx hl ⊢
  have hcap := hx.cap
  rw [hNL] at hcap
  have hA1 := agg_new w (hdC g o n p la) 144
  have hb1 : Below w.heap.size w (w.alloc (.cells (hdC g o n p la).toArray 144)) := (Below.refl _ _).alloc (Nat.le_refl _) _
  obtain ⟨w1, hw1⟩ : ∃ y, w.alloc (.cells (hdC g o n p la).toArray 144) = y := ⟨_, rfl⟩
  rw [hw1] at hA1 hb1
  have hs1 : w1.heap.size = w.heap.size + 1 := by rw [← hw1]; simp
  unfold hdC at hw1
  have a0 := hA1.c 0 _ rfl
  have a1 := hA1.c 1 _ rfl
  have a2 := hA1.c 2 _ rfl
  have a3 := hA1.c 3 _ rfl
  have a4 := hA1.c 4 _ rfl
  have HX := hide hx
  have H64 := hide h64
  have HNL := hide hNL
  have HB1 := hide hb1
  have HS1 := hide hs1
  unfold hdV
  by_cases hlt0 : la < NL
  case neg =>
    have f0 : decide ((NL : Int) ≤ (la : Int)) = true := by simp; omega
    have HE : Hid (∀ r, ¬ RecOf l g o n la r) := fun r hr => by have := hr.1; have := unhide HNL; omega
    clear hA1 hb1 hs1 hx h64 hNL hcap
    go_enter Tryz.func120, Tryz.ntmps120
    go_wp2
    go_ret2
    exact ⟨Or.inr ⟨unhide HE, rfl⟩, unhide HB1⟩
  have f0 : decide ((NL : Int) ≤ (la : Int)) = false := by simp; omega
  have f0n : decide (NL ≤ la) = false := by simp; omega
  obtain ⟨T, hT⟩ : ∃ y, la + 1 = y := ⟨_, rfl⟩
  have eT : (la : Int) + 1 = (T : Int) := by omega
  have hslT : ∀ w, (Instr.sliceAt 44 (.slice sx NL cx) none (some (.int .i64 (T : Int))) none).run Tryz.prog w = .ok (.slice sx T cx) w := fun w => slice_frontbb sx NL cx T (by omega) w
  have HT := hide hT
  have hTL : T ≤ NL := by omega
  have hA2 := hA1.below ((Below.refl _ _).alloc (Nat.le_refl _) (.cells #[.int .i64 (g : Int), .int .i64 (o : Int), .int .i64 (n : Int), .int .i64 0, .int .i64 (la : Int)] 144))
  have hb2 : Below w.heap.size w (w1.alloc (.cells #[.int .i64 (g : Int), .int .i64 (o : Int), .int .i64 (n : Int), .int .i64 0, .int .i64 (la : Int)] 144)) := hb1.alloc hb1.size _
  have b4 := hA2.c 4 _ rfl
  have hR2 : HdAt (w1.alloc (.cells #[.int .i64 (g : Int), .int .i64 (o : Int), .int .i64 (n : Int), .int .i64 0, .int .i64 (la : Int)] 144)) w1.heap.size g o n 0 la := heap_alloc_new w1 _
  have HI0 : Hid (RecI w (w1.alloc (.cells #[.int .i64 (g : Int), .int .i64 (o : Int), .int .i64 (n : Int), .int .i64 0, .int .i64 (la : Int)] 144)) l w1.heap.size g o n la 0 (.slice none 0 0)) := ⟨ownb_nil _ _, hR2, fun j hj => absurd hj (by omega), hb2⟩
  clear hA1 hA2 hb1 hb2 hR2 hs1 hx h64 hNL hcap hT
  go_enter Tryz.func120, Tryz.ntmps120
  go_wp2
  clear b4 a0 a1 a2 a3 a4
  obtain ⟨w2, hw2⟩ : ∃ y, w1.alloc (.cells #[.int .i64 (g : Int), .int .i64 (o : Int), .int .i64 (n : Int), .int .i64 0, .int .i64 (la : Int)] 144) = y := ⟨_, rfl⟩
  rw [hw2] at HI0 ⊢
  obtain ⟨R, hR⟩ : ∃ y, w1.heap.size = y := ⟨_, rfl⟩
  rw [hR] at HI0 HS1 ⊢
  clear hw1 hw2 hR hslT
  go_loopw [7, 9, 23] (fun pp _ ii wr => ∃ (i c : Nat) (sp : Option Addr), i ≤ T ∧ pp = .slice sp (48 * i) c ∧ ii = .int .i64 (i : Int) ∧ Hid (RecI w wr l R g o n la i (.slice sp (48 * i) c))) (fun _ _ ii _ => T - (intOf ii).toNat)
  case atStart => exact ⟨0, 0, none, by omega, rfl, rfl, HI0⟩
  case round =>
    clear HI0
    obtain ⟨i, c, sp, hi, rfl, rfl, HI⟩ := hrel
    by_cases hlt : i < T
    · have f1 : decide ((i : Int) < (T : Int)) = true := by simp; omega
      have f1n : decide (i < T) = true := by simp; omega
      have j0 : (0 : Int) ≤ (i : Int) := by omega
      have j1 : (i : Int) < (T : Int) := by omega
      obtain ⟨s, hs⟩ : ∃ y, l[i]? = some y := ⟨_, List.getElem?_eq_getElem (by have := unhide HNL; omega)⟩
      have hs64 := unhide H64 s (List.mem_of_getElem? hs)
      have hbr := (unhide HI).b
      obtain ⟨g1, o1, v1, rfl, c1, b1⟩ := ((unhide HX).below hbr).at hs
      obtain ⟨s1, q1, rfl, hq1, _⟩ := bytes_open b1
      have hr1 := bytes_rest b1 16 (by omega)
      have b1' := b1
      rw [hs64] at c1 b1 hr1 hq1
      have hsl : ∀ w, (Instr.sliceAt 23 (.slice s1 64 q1) (some (.int .i64 16)) none none).run Tryz.prog w = .ok (.slice (cutAt s1 q1 16) 48 (q1 - 16)) w := fun w => slice_rest s1 64 q1 16 (by omega) w
      obtain ⟨k0, k1, k2, k3, k4⟩ := five_row (unhide HI).hd
      have Hh := hide (whead_c wr.drew (.slice s1 64 q1) s (b1.below (Below.refl _ _).drew) hs64)
      unfold headV hdV at Hh
      have hcm := cmp_head (genF s) (opF s) (numF s) (placeF s) (lastF s) g o n i la
      unfold hdV at hcm
      have Hhd : Hid (hasHead s g o n i la ↔ (genF s = g ∧ opF s = o ∧ numF s = n ∧ placeF s = i ∧ lastF s = la)) := Iff.rfl
      obtain ⟨GE, hGE⟩ : ∃ y, genF s = y := ⟨_, rfl⟩
      obtain ⟨OP, hOP⟩ : ∃ y, opF s = y := ⟨_, rfl⟩
      obtain ⟨NU, hNU⟩ : ∃ y, numF s = y := ⟨_, rfl⟩
      obtain ⟨PL, hPL⟩ : ∃ y, placeF s = y := ⟨_, rfl⟩
      obtain ⟨LA, hLA⟩ : ∃ y, lastF s = y := ⟨_, rfl⟩
      rw [hGE, hOP, hNU, hPL, hLA] at Hh hcm Hhd
      have HRest := hide hr1
      have HSx := hide hs
      have HS64 := hide hs64
      have hRlt : R < wr.heap.size := (Array.getElem?_eq_some_iff.1 (unhide HI).hd).1
      have HRlt := hide hRlt
      clear hGE hOP hNU hPL hLA b1 b1' hr1 hq1 hs hs64 hbr hRlt
      by_cases heq : GE = g ∧ OP = o ∧ NU = n ∧ PL = i ∧ LA = la
      · have HH := hide ((unhide Hhd).2 heq)
        rw [decide_eq_true heq] at hcm
        clear heq Hhd
        go_wp2
        go_region_held3 (fun w' => w'.cell? ⟨R, 0, none⟩ = some (.int .i64 (g : Int)) ∧ w'.cell? ⟨R, 1, none⟩ = some (.int .i64 (o : Int)) ∧ w'.cell? ⟨R, 2, none⟩ = some (.int .i64 (n : Int)) ∧ w'.cell? ⟨R, 3, none⟩ = some (.int .i64 (i : Int)) ∧ w'.cell? ⟨R, 4, none⟩ = some (.int .i64 (la : Int))) (go_keep)
          ((first
            | (go_at_call 118
               refine (unhide Hh).mono ?_
               rintro e w4 ⟨rfl, hb4⟩
               have HB4 : Hid (Below wr.heap.size wr w4) := (Below.refl _ _).drew.trans (hb4.mono (Nat.le_refl _))
               have k0' := (unhide HB4).cell (p := ⟨R, 0, none⟩) (unhide HRlt)
               have k1' := (unhide HB4).cell (p := ⟨R, 1, none⟩) (unhide HRlt)
               have k2' := (unhide HB4).cell (p := ⟨R, 2, none⟩) (unhide HRlt)
               have k3' := (unhide HB4).cell (p := ⟨R, 3, none⟩) (unhide HRlt)
               have k4' := (unhide HB4).cell (p := ⟨R, 4, none⟩) (unhide HRlt)
               rw [k0] at k0'
               rw [k1] at k1'
               rw [k2] at k2'
               rw [k3] at k3'
               rw [k4] at k4'
               clear hb4)))
        have HO4 : Hid (OwnB w4 (R + 1) (.slice sp (48 * i) c) (partsB (l.take i))) := (unhide HI).own.below (unhide HB4)
        have HY4 := hide ((unhide HRest).below (unhide HB4))
        have HSz4 : Hid (R + 1 ≤ w4.heap.size) := by have := unhide HRlt; have := (unhide HB4).size; show _ ≤ _; omega
        have HLen : Hid ((partsB (l.take i)).length = 48 * i) := by
          show _ = _
          rw [parts_len _ fun y hy => unhide H64 y (List.mem_of_mem_take hy), List.length_take, unhide HNL]
          omega
        have HL16 : Hid ((s.drop 16).length = 48) := by show _ = _; rw [List.length_drop, unhide HS64]
        clear k0 k1 k2 k3 k4 k0' k1' k2' k3' k4' Hh hcm c1
        go_wp2_with (at_builtin; refine wpList_append_bytes rfl _ _ rfl (R + 1) (.slice sp (48 * i) c) (.slice (cutAt s1 q1 16) 48 (q1 - 16)) (partsB (l.take i)) (s.drop 16) rfl (unhide HO4) rfl (unhide HY4) (unhide HSz4) (by rw [unhide HLen, unhide HL16]; omega) ?_
                     intro v5 w5 ho5 hg5 _
                     obtain ⟨s5, c5, ev5⟩ := ho5.form
                     rw [List.length_append, unhide HLen, unhide HL16] at ev5
                     subst ev5
                     have hN := (unhide HI).next (by have := unhide HS1; have := (unhide HB1).size; omega) (unhide HSx) (unhide HH) (unhide HB4) ho5 hg5
                     have hd5 : HdAt w5 R g o n i la := by
                       have hR := unhide HRlt
                       have h4 : w4.heap[R]? = wr.heap[R]? := (unhide HB4).block R hR
                       have h5 : w5.heap[R]? = w4.heap[R]? := hg5.block R (Nat.lt_of_lt_of_le hR (unhide HB4).size) fun hk => by have := (World.ownsRow.lt (unhide HO4) R hk.symm).1; omega
                       unfold HdAt; rw [h5, h4]; exact (unhide HI).hd
                     have m3 : w5.cell? ⟨R, 3, none⟩ = some (.int .i64 (i : Int)) := (five_row hd5).2.2.2.1
                     have z3 : w5.frozen? ⟨R, 3, none⟩ = false := row_frozen hd5 3
                     have HN := hide hN
                     clear hN hd5 ho5 hg5)
        go_roundw
        case rel =>
          have hN := unhide HN
          rw [show 48 * i + 48 = 48 * (i + 1) by omega] at hN ⊢
          first
            | exact ⟨i + 1, c5, s5, by omega, rfl, by simp, hN⟩
            | ((repeat apply Exists.intro); exact ⟨⟨i + 1, c5, s5, by omega, rfl, by simp, hN⟩, rfl⟩)
        case measure => simp [intOf]; omega
      · rw [decide_eq_false heq] at hcm
        have HNo : Hid (∀ r, ¬ RecOf l g o n la r) := fun r hr => heq ((unhide Hhd).1 (hr.2.1 i (by have := unhide HT; omega) s (unhide HSx)))
        clear heq Hhd
        go_wp2
        go_region_held3 (fun w' => w'.cell? ⟨R, 0, none⟩ = some (.int .i64 (g : Int)) ∧ w'.cell? ⟨R, 1, none⟩ = some (.int .i64 (o : Int)) ∧ w'.cell? ⟨R, 2, none⟩ = some (.int .i64 (n : Int)) ∧ w'.cell? ⟨R, 3, none⟩ = some (.int .i64 (i : Int)) ∧ w'.cell? ⟨R, 4, none⟩ = some (.int .i64 (la : Int))) (go_keep)
          ((first
            | (go_at_call 118
               refine (unhide Hh).mono ?_
               rintro e w4 ⟨rfl, hb4⟩
               have HB4 : Hid (Below wr.heap.size wr w4) := (Below.refl _ _).drew.trans (hb4.mono (Nat.le_refl _))
               have k0' := (unhide HB4).cell (p := ⟨R, 0, none⟩) (unhide HRlt)
               have k1' := (unhide HB4).cell (p := ⟨R, 1, none⟩) (unhide HRlt)
               have k2' := (unhide HB4).cell (p := ⟨R, 2, none⟩) (unhide HRlt)
               have k3' := (unhide HB4).cell (p := ⟨R, 3, none⟩) (unhide HRlt)
               have k4' := (unhide HB4).cell (p := ⟨R, 4, none⟩) (unhide HRlt)
               rw [k0] at k0'
               rw [k1] at k1'
               rw [k2] at k2'
               rw [k3] at k3'
               rw [k4] at k4'
               clear hb4)))
        have HBE : Hid (Below w.heap.size w w4) := (unhide HI).b.trans ((unhide HB4).mono (unhide HI).b.size)
        clear k0 k1 k2 k3 k4 k0' k1' k2' k3' k4' Hh hcm c1 HI
        go_wp2
        go_ret2
        exact ⟨Or.inr ⟨unhide HNo, rfl⟩, unhide HBE⟩
    · obtain rfl : i = T := by omega
      have f1 : decide ((i : Int) < (i : Int)) = false := by simp
      have HLen : Hid ((partsB (l.take i)).length = 48 * i) := by
        show _ = _
        rw [parts_len _ fun y hy => unhide H64 y (List.mem_of_mem_take hy), List.length_take, unhide HNL]
        omega
      have hi1 : 1 ≤ i := by have := unhide HT; omega
      cases hu : unlenP (partsB (l.take i)) with
      | none =>
        have Hu := hide (wunlen_no wr (.slice sp (48 * i) c) _ (unhide HI).own.bytes (by rw [unhide HLen]; omega) (by rw [unhide HLen]; omega) hu)
        have HNo : Hid (∀ r, ¬ RecOf l g o n la r) := fun r hr => by
          have := hr.2.2
          rw [unhide HT, hu] at this
          cases this
        have HB := hide (unhide HI).b
        clear hu HI
        go_wp2_with fail
        refine (unhide Hu).mono ?_
        rintro e w9 ⟨rfl, hb9⟩
        have HBE : Hid (Below w.heap.size w w9) := (unhide HB).trans (hb9.mono (unhide HB).size)
        clear hb9 Hu
        go_wp2
        go_ret2
        exact ⟨Or.inr ⟨unhide HNo, rfl⟩, unhide HBE⟩
      | some r =>
        have Hu := hide (wunlen_yes wr (.slice sp (48 * i) c) _ r (unhide HI).own.bytes (by rw [unhide HLen]; omega) (by rw [unhide HLen]; omega) hu)
        have HYes : Hid (RecOf l g o n la r) := ⟨by have := unhide HNL; omega, by rw [unhide HT]; exact (unhide HI).heads, by rw [unhide HT]; exact hu⟩
        have HB := hide (unhide HI).b
        clear hu HI
        go_wp2_with fail
        refine (unhide Hu).mono ?_
        rintro e w9 ⟨v9, rfl, hv9⟩
        have HV9 := hide (hv9.up (unhide HB))
        clear hv9 Hu
        go_wp2
        go_ret2
        exact ⟨Or.inl ⟨r, v9, unhide HYes, rfl, unhide HV9⟩, (unhide HV9).b⟩
end Go.Proofs.YtbjgknoipbekoaaGreat
namespace Go.Proofs.YtbjgknoipbekoaaGreat
open Go.RowKit
theorem OwnA.aside {S : Set_} {a b : World} {B : Nat} {v : Value} {l : Bs} (h : OwnA a B v l) (hb : Aside S a b) (hx : ∀ k, v.ownBlock = some k → ¬ S k) : OwnA b B v l := by obtain ⟨e, h⟩ := h; exact ⟨e, OwnV.aside h hb hx⟩
theorem OwnA.lt {w : World} {B : Nat} {v : Value} {l : Bs} (h : OwnA w B v l) : ∀ k, v.ownBlock = some k → B ≤ k ∧ k < w.heap.size := by obtain ⟨e, h⟩ := h; exact World.ownsRow.lt h
theorem OwnA.free {w : World} {B : Nat} {v : Value} {l : Bs} (h : OwnA w B v l) : FreeAt w v l.length := by
  obtain ⟨e, h⟩ := h
  intro g o c m hv j hj
  subst hv
  rcases h.2 with ⟨h0, _⟩ | ⟨g', cap', cur, hv, _, hg, _⟩
  · cases h0
  · simp only [Value.slice.injEq, Option.some.injEq, Addr.mk.injEq] at hv
    obtain ⟨⟨rfl, rfl, _⟩, _, _⟩ := hv
    exact frozen_of_row w _ _ _ e hg
/-- A slice of slices of bytes, all of it one's own, in blocks from B on. -/
structure GrowF (B : Nat) (w : World) (v : Value) (vs : List Value) (l : List Bs) : Prop where
  own : OwnV 23 w B v vs
  len : vs.length = l.length
  each : ∀ (i : Nat) (u : Value) (b : Bs), vs[i]? = some u → l[i]? = some b → OwnA w B u b ∧ Apart v u
theorem growf_nil (B : Nat) (w : World) : GrowF B w (.slice none 0 0) [] [] := ⟨own_nil _ _ _, rfl, fun i u b h => by simp at h⟩
theorem GrowF.lists {B : Nat} {w : World} {v : Value} {vs : List Value} {l : List Bs} (h : GrowF B w v vs l) : BLists w v l := ⟨vs, h.len, h.own.vals, fun i u b h1 h2 => (h.each i u b h1 h2).1.bytes⟩
theorem GrowF.aside {S : Set_} {B : Nat} {a b : World} {v : Value} {vs : List Value} {l : List Bs} (h : GrowF B a v vs l) (hb : Aside S a b) (hv : ∀ k, v.ownBlock = some k → ¬ S k) (hu : ∀ u ∈ vs, ∀ k, u.ownBlock = some k → ¬ S k) : GrowF B b v vs l :=
  ⟨h.own.aside hb hv, h.len, fun i u c h1 h2 => ⟨(h.each i u c h1 h2).1.aside hb (hu u (List.mem_of_getElem? h1)), (h.each i u c h1 h2).2⟩⟩
theorem GrowF.below {B : Nat} {a b : World} {v : Value} {vs : List Value} {l : List Bs} (h : GrowF B a v vs l) (hb : Below a.heap.size a b) : GrowF B b v vs l := h.aside (S := none_) (Aside.of_below hb) (fun _ _ h => h) fun _ _ _ _ h => h
theorem GrowF.mono {B B' : Nat} {w : World} {v : Value} {vs : List Value} {l : List Bs} (h : GrowF B w v vs l) (hB : B' ≤ B) : GrowF B' w v vs l := ⟨h.own.mono hB, h.len, fun i u b h1 h2 => ⟨(h.each i u b h1 h2).1.mono hB, (h.each i u b h1 h2).2⟩⟩
theorem GrowF.lt {B : Nat} {w : World} {v : Value} {vs : List Value} {l : List Bs} (h : GrowF B w v vs l) : (∀ k, v.ownBlock = some k → B ≤ k ∧ k < w.heap.size) ∧ ∀ u ∈ vs, ∀ k, u.ownBlock = some k → B ≤ k ∧ k < w.heap.size := by
  refine ⟨World.ownsRow.lt h.own, fun u hu k hk => ?_⟩
  obtain ⟨i, hi, rfl⟩ := List.getElem_of_mem hu
  exact (h.each i _ _ (List.getElem?_eq_getElem hi) (List.getElem?_eq_getElem (by have := h.len; omega))).1.lt k hk
/-- One more is appended. -/
theorem GrowF.next {B : Nat} {w w3 w5 : World} {v v' s : Value} {vs : List Value} {l : List Bs} {b : Bs} {T : TypeId} (h : GrowF B w v vs l) (hB : B ≤ w.heap.size) (hs : OwnA w3 w.heap.size s b) (hb : Below w.heap.size w w3)
    (ho : OwnV 23 w5 B v' (vs ++ [s])) (hg : (w3.alloc (.cells #[s] T)).grownBy w5 v.ownBlock) (hor : v'.ownBlock = v.ownBlock ∨ v'.ownBlock = some (w3.alloc (.cells #[s] T)).heap.size) : GrowF B w5 v' (vs ++ [s]) (l ++ [b]) ∧ Below B w w5 := by
  have hb4 : Below w.heap.size w (w3.alloc (.cells #[s] T)) := hb.alloc hb.size _
  have hb3 : Below w3.heap.size w3 (w3.alloc (.cells #[s] T)) := (Below.refl _ _).alloc (Nat.le_refl _) _
  have hs4 : (w3.alloc (.cells #[s] T)).heap.size = w3.heap.size + 1 := by simp
  obtain ⟨w4, hw4⟩ : ∃ x, w3.alloc (.cells #[s] T) = x := ⟨_, rfl⟩
  rw [hw4] at hg hor hb4 hb3 hs4
  obtain ⟨hlv, hlu⟩ := h.lt
  have hA : Aside (fun k => v.ownBlock = some k) w4 w5 := Aside.of_grown hg fun k hk => hk
  have hsl := hs.lt
  have hsz := hb.size
  have hap : ∀ q, q < w4.heap.size → v.ownBlock ≠ some q → v'.ownBlock ≠ some q := fun q hq hn e => by
    rcases hor with h1 | h1
    · exact hn (h1 ▸ e)
    · rw [h1] at e; simp only [Option.some.injEq] at e; omega
  refine ⟨⟨ho, by rw [List.length_append, List.length_append, h.len]; rfl, fun i u c hu hc => ?_⟩, ?_⟩
  · by_cases hi : i < vs.length
    · rw [List.getElem?_append_left hi] at hu
      rw [List.getElem?_append_left (by have := h.len; omega)] at hc
      obtain ⟨e1, e2⟩ := h.each i u c hu hc
      have hul := e1.lt
      refine ⟨(e1.below hb4).aside hA fun q hq hS => e2 q hS hq, fun q hq hu' => ?_⟩
      have := (hul q hu').2
      exact hap q (by omega) (fun e => e2 q e hu') hq
    · rw [List.getElem?_append_right (by omega)] at hu
      rw [List.getElem?_append_right (by have := h.len; omega)] at hc
      match hk : i - vs.length, hu with
      | 0, hu =>
        rw [show i - l.length = 0 by have := h.len; omega] at hc
        simp only [List.getElem?_cons_zero, Option.some.injEq] at hu hc
        subst hu
        subst hc
        refine ⟨((hs.below hb3).mono hB).aside hA fun q hq hS => ?_, fun q hq hu' => ?_⟩
        · have := (hlv q hS).2; have := (hsl q hq).1; omega
        · have := hsl q hu'
          exact hap q (by omega) (fun e => by have := (hlv q e).2; omega) hq
      | j + 1, hu => simp at hu
  · have h1 : Below B w w4 := hb4.mono hB
    exact h1.trans (hA.below (Nat.le_trans hB hb4.size) fun k hk => (hlv k hk).1)
theorem made_roombb (w : World) (n : Nat) (hn : n ≤ 1073741824) : ∃ W, (Instr.makeSlice 44 (.int .i64 0) (.int .i64 (n : Int))).run Tryz.prog w = .ok (.slice (some ⟨w.heap.size, 0, none⟩) 0 n) W ∧ OwnV 23 W w.heap.size (.slice (some ⟨w.heap.size, 0, none⟩) 0 n) [] ∧ Below w.heap.size w W := by
  obtain ⟨hu, ⟨i, hi, h0, hsz, hby⟩, _, _⟩ := Ebb
  obtain ⟨W, hr, ho, hg⟩ := run_make_own (P := Tryz.prog) w w.heap.size 44 23 i (.slice none 0 0) 1 hu hi h0 hsz .i64 .i64 n (by rw [hby]; omega) (by simp only [maxLen]; omega) (Nat.le_refl _)
  exact ⟨W, hr, ho, (Below.refl _ _).grown hg (Nat.le_refl _) (fun k hk => by cases hk)⟩
-- plain words
theorem big_num : ∀ (k : Nat) (b : Bs), b.length = k → bigB (numB b) k = b
  | 0, b, h => by rw [List.eq_nil_of_length_eq_zero h]; rfl
  | k + 1, b, h => by
    obtain ⟨c, x, rfl⟩ : ∃ c x, b = c ++ [x] := ⟨b.dropLast, b.getLast (by intro e; rw [e] at h; simp at h), (List.dropLast_concat_getLast _).symm⟩
    rw [List.length_append] at h
    simp only [List.length_cons, List.length_nil] at h
    rw [num_snoc]
    unfold bigB
    have hx := x.toNat_lt
    rw [show (256 * numB c + x.toNat) / 256 = numB c by omega, big_num k c (by omega)]
    congr 2
    apply UInt8.toNat_inj.1
    rw [UInt8.toNat_ofNat']
    omega
theorem split_head {s : Bs} (h : s.length = 64) : s = headS (genF s) (opF s) (numF s) (placeF s) (lastF s) ++ s.drop 16 := by
  have e : ∀ (f k : Nat), f + k ≤ 64 → bigB (numB ((s.drop f).take k)) k = (s.drop f).take k := fun f k hk => big_num k _ (by rw [List.length_take, List.length_drop]; omega)
  have e0 := e 0 4 (by omega)
  rw [List.drop_zero] at e0
  unfold headS genF opF numF placeF lastF
  rw [e0, e 4 4 (by omega), e 8 4 (by omega), e 12 2 (by omega), e 14 2 (by omega)]
  have d : ∀ (f k : Nat), s.drop f = (s.drop f).take k ++ s.drop (f + k) := fun f k => by rw [← List.drop_drop, List.take_append_drop]
  have d1 : s.drop 4 = (s.drop 4).take 4 ++ s.drop 8 := d 4 4
  have d2 : s.drop 8 = (s.drop 8).take 4 ++ s.drop 12 := d 8 4
  have d3 : s.drop 12 = (s.drop 12).take 2 ++ s.drop 14 := d 12 2
  have d4 : s.drop 14 = (s.drop 14).take 2 ++ s.drop 16 := d 14 2
  simp only [List.append_assoc]
  rw [← d4, ← d3, ← d2, ← d1, List.take_append_drop]
theorem parts_at : ∀ (l : List Bs) (i : Nat) (s : Bs), (∀ s ∈ l, s.length = 64) → l[i]? = some s → ((partsB l).drop (48 * i)).take 48 = s.drop 16
  | [], i, s, _, h => by simp at h
  | x :: l, 0, s, hl, h => by
    simp only [List.getElem?_cons_zero, Option.some.injEq] at h
    subst h
    have hx := hl x List.mem_cons_self
    unfold partsB
    rw [List.map_cons, List.flatten_cons, Nat.mul_zero, List.drop_zero, List.take_append_of_le_length (by rw [List.length_drop]; omega), List.take_of_length_le (by rw [List.length_drop]; omega)]
  | x :: l, i + 1, s, hl, h => by
    have hx := hl x List.mem_cons_self
    have ih := parts_at l i s (fun y hy => hl y (List.mem_cons_of_mem _ hy)) (by simpa using h)
    unfold partsB at ih ⊢
    rw [List.map_cons, List.flatten_cons, show 48 * (i + 1) = (x.drop 16).length + 48 * i by rw [List.length_drop]; omega, List.drop_append, List.drop_of_length_le (by omega), List.nil_append, show (x.drop 16).length + 48 * i - (x.drop 16).length = 48 * i by omega]
    exact ih
theorem unlen_body {q r : Bs} (h : unlenP q = some r) : q = bodyOf r ∧ r.length ≤ 65536 ∧ q.length = 48 * needs r.length := by
  unfold unlenP at h
  split at h
  · cases h
  · rename_i h1
    split at h
    · cases h
    · rename_i h2
      simp only [Option.some.injEq] at h
      obtain ⟨n, hn⟩ : ∃ n, numB (q.take 4) = n := ⟨_, rfl⟩
      rw [hn] at h h1 h2
      have hfit := needs_fit n
      have hl : q.length = 48 * needs n := by omega
      have hr : r.length = n := by rw [← h, List.length_take, List.length_drop]; omega
      have hz := not_any (b := q.drop (4 + n)) (by simpa using h2)
      rw [List.length_drop] at hz
      refine ⟨?_, by omega, by rw [hr]; exact hl⟩
      unfold bodyOf
      rw [hr, ← hl, ← hz, ← hn, big_num 4 _ (by rw [List.length_take]; omega), hn]
      rw [← h]
      have e1 : q.drop (4 + n) = (q.drop 4).drop n := by rw [List.drop_drop]
      rw [e1, List.take_append_drop, List.take_append_drop]
theorem unlen_of_body {b : Bs} (h : b.length ≤ 65536) : unlenP (bodyOf b) = some b := by
  obtain ⟨s1, s2⟩ := body_size b h
  unfold unlenP
  rw [s1, body_len, if_neg (by omega), s2]
  have e : (bodyOf b).drop (4 + b.length) = List.replicate (48 * needs b.length - (4 + b.length)) 0 := by
    unfold bodyOf
    rw [← List.append_assoc, List.drop_append, List.drop_of_length_le (by rw [List.length_append, big_len]; omega), List.nil_append, List.length_append, big_len, show 4 + b.length - (4 + b.length) = 0 by omega, List.drop_zero]
  rw [e, any_zeros]
  rfl
/-- What the program takes for a record is one. -/
theorem rec_begins {l : List Bs} {g low m o la : Nat} {r : Bs} (h64 : ∀ s ∈ l, s.length = 64) (ho : o < 4294967296) (hlow : low ≤ o) (h : RecOf l g o m la r) : Begins l g low m r o ∧ needs r.length = la + 1 := by
  obtain ⟨h1, h2, h3⟩ := h
  obtain ⟨e1, e2, e3⟩ := unlen_body h3
  have hl : (partsB (l.take (la + 1))).length = 48 * (la + 1) := by
    rw [parts_len _ fun s hs => h64 s (List.mem_of_mem_take hs), List.length_take]; omega
  have hn : needs r.length = la + 1 := by omega
  refine ⟨⟨hlow, ho, e2, by omega, ?_⟩, hn⟩
  refine List.ext_getElem? fun i => ?_
  rw [hn]
  by_cases hi : i < la + 1
  · obtain ⟨s, hs⟩ : ∃ s, l[i]? = some s := ⟨_, List.getElem?_eq_getElem (by omega)⟩
    have hs64 := h64 s (List.mem_of_getElem? hs)
    obtain ⟨f1, f2, f3, f4, f5⟩ := h2 i hi s hs
    rw [List.getElem?_take, if_pos hi, hs, rec_at r g o m (by omega)]
    congr 1
    unfold partS
    rw [← e1, parts_at _ i s (fun y hy => h64 y (List.mem_of_mem_take hy)) (by rw [List.getElem?_take, if_pos hi]; exact hs), hn, show la + 1 - 1 = la by omega, ← f1, ← f2, ← f3, ← f5]
    conv => lhs; rw [split_head hs64, f4]
  · rw [List.getElem?_take, if_neg hi, List.getElem?_eq_none (by rw [rec_len]; omega)]
theorem begins_rec {l : List Bs} {g low m o : Nat} {b s : Bs} (hg : g < 4294967296) (hm : m < 4294967296) (h : Begins l g low m b o) (hs : l[0]? = some s) : genF s = g ∧ opF s = o ∧ numF s = m ∧ lastF s + 1 = needs b.length ∧ RecOf l g o m (lastF s) b := by
  have hp := needs_pos b.length
  have hat : ∀ i, i < needs b.length → l[i]? = some (partS b g o m i) := fun i hi => by
    have h1 : (l.take (needs b.length))[i]? = (recS b g o m)[i]? := by rw [h.here]
    rw [List.getElem?_take, if_pos hi, rec_at b g o m hi] at h1
    exact h1
  have h0 := hat 0 (by omega)
  rw [hs] at h0
  simp only [Option.some.injEq] at h0
  obtain ⟨f1, f2, f3, f4, f5⟩ := part_fields (b := b) (g := g) (o := o) (m := m) (i := 0) hg h.op hm h.big (by omega)
  rw [← h0] at f1 f2 f3 f5
  have hla : lastF s + 1 = needs b.length := by omega
  refine ⟨f1, f2, f3, hla, by have := h.fits; omega, fun j hj x hx => ?_, ?_⟩
  · rw [hat j (by omega)] at hx
    simp only [Option.some.injEq] at hx
    obtain ⟨g1, g2, g3, g4, g5⟩ := part_fields (b := b) (g := g) (o := o) (m := m) (i := j) hg h.op hm h.big (by omega)
    subst hx
    exact ⟨g1, g2, g3, g4, by omega⟩
  · rw [hla, h.here]
    unfold partsB
    rw [rec_body]
    exact unlen_of_body h.big
end Go.Proofs.YtbjgknoipbekoaaGreat
namespace Go.Proofs.YtbjgknoipbekoaaGreat
open Go.RowKit
theorem there_stop {g f : Nat} {l : List Bs} {low m : Nat} (h : oneP l g low m = none) : thereL g f l low m = [] := by
  cases f with
  | zero => rfl
  | succ f => unfold thereL; rw [h]
theorem there_step {g f : Nat} {l : List Bs} {low m o : Nat} {b s : Bs} (hg : g < 4294967296) (hm : m < 4294967296) (h0 : l[0]? = some s) (hf : l.length ≤ f) (hB : Begins l g low m b o) : ∃ f', l.length - needs b.length ≤ f' ∧ thereL g f l low m = (b, o) :: thereL g f' (l.drop (needs b.length)) o (m + 1) := by
  obtain ⟨_, e2, _⟩ := begins_rec hg hm hB h0
  have hp := needs_pos b.length
  have hl : 0 < l.length := (List.getElem?_eq_some_iff.1 h0).1
  cases f with
  | zero => omega
  | succ f =>
    refine ⟨f, by omega, ?_⟩
    have e3 : opF (l.headD []) = o := by
      cases l with
      | nil => simp at h0
      | cons x r => simp only [List.getElem?_cons_zero, Option.some.injEq] at h0; subst h0; exact e2
    conv => lhs; unfold thereL
    rw [one_yes hg hm hB]
    simp only [e3]
theorem there_nobegin {g : Nat} {l : List Bs} {low m : Nat} {f : Nat} (h64 : ∀ s ∈ l, s.length = 64) (h : ∀ b o, ¬ Begins l g low m b o) : thereL g f l low m = [] := there_stop (one_none h64 h)
/-- What stands in recordsIn's loop. -/
structure RIn (w wr : World) (l : List Bs) (g NL A used : Nat) (v : Value) (vs : List Value) (done : List (Bs × Nat)) (low : Nat) : Prop where
  recs : GrowF (A + 1) wr v vs (done.map (·.1))
  ahead : ∃ p la, HdAt wr A g low done.length p la
  eqn : ∃ f, NL - used ≤ f ∧ thereL g NL l 1 1 = done ++ thereL g f (l.drop used) low (done.length + 1)
  useq : used = usedR done
  few : done.length ≤ used
  b : Below w.heap.size w wr
  lowb : low < 4294967296
theorem used_snoc : ∀ (rs : List (Bs × Nat)) (b : Bs) (o : Nat), usedR (rs ++ [(b, o)]) = usedR rs + needs b.length
  | [], b, o => by simp [usedR]
  | (c, p) :: rs, b, o => by
    have := used_snoc rs b o
    show needs c.length + usedR (rs ++ [(b, o)]) = needs c.length + usedR rs + needs b.length
    omega
theorem RIn.next {w wr w1 w3 w5 w6 : World} {l : List Bs} {g NL A used : Nat} {v v' u : Value} {vs : List Value} {done : List (Bs × Nat)} {low n p la : Nat} {r s : Bs} {op : Nat} {T : TypeId} (h : RIn w wr l g NL A used v vs done low) (hNL : l.length = NL) (hlt : used < NL) (hNb : NL ≤ 20000) (hg : g < 4294967296) (hop : op < 4294967296) (hwA : w.heap.size ≤ A)
    (h64 : ∀ s ∈ l, s.length = 64) (hs : l[used]? = some s) (hlow : low ≤ op) (hn : n = done.length + 1) (hr : RecOf (l.drop used) g op n la r)
    (hb1 : Below wr.heap.size wr w1) (hrow : Row w1 w3 u r)
    (ho : OwnV 23 w5 (A + 1) v' (vs ++ [u])) (hg5 : (w3.alloc (.cells #[u] T)).grownBy w5 v.ownBlock) (hor : v'.ownBlock = v.ownBlock ∨ v'.ownBlock = some (w3.alloc (.cells #[u] T)).heap.size)
    (hh6 : HdAt w6 A g op n p la) (hg6 : w5.grownBy w6 (some A)) : RIn w w6 l g NL A (used + (la + 1)) v' (vs ++ [u]) (done ++ [(r, op)]) op ∧ used + (la + 1) ≤ NL := by
  obtain ⟨p0, la0, hA0⟩ := h.ahead
  have hAlt : A < wr.heap.size := (Array.getElem?_eq_some_iff.1 hA0).1
  have h1s := hb1.size
  have hrec1 := h.recs.below hb1
  obtain ⟨hG, hB5⟩ := hrec1.next (by omega) hrow.own.any hrow.b ho hg5 hor
  subst hn
  have h64' : ∀ s ∈ l.drop used, s.length = 64 := fun y hy => h64 y (List.mem_of_mem_drop hy)
  have hfew := h.few
  obtain ⟨hBg, hnd⟩ := rec_begins (low := low) h64' hop hlow hr
  have h0 : (l.drop used)[0]? = some s := by rw [List.getElem?_drop, Nat.add_zero]; exact hs
  obtain ⟨f, hf, he⟩ := h.eqn
  obtain ⟨f', hf', he'⟩ := there_step hg (by omega) h0 (by rw [List.length_drop, hNL]; exact hf) hBg
  have hla := hr.1
  rw [List.length_drop, hNL] at hla
  have hA6 : Aside (fun k => k = A) w5 w6 := Aside.of_grown hg6 fun k hk => (Option.some.inj hk).symm
  obtain ⟨l1, l2⟩ := hG.lt
  refine ⟨⟨?_, ⟨p, la, by rw [List.length_append]; exact hh6⟩, ⟨f', ?_, ?_⟩, ?_, ?_, ?_, hop⟩, by omega⟩
  · rw [List.map_append]
    exact hG.aside hA6 (fun k hk e => by have := (l1 k hk).1; omega) fun y hy k hk e => by have := (l2 y hy k hk).1; omega
  · rw [List.length_drop, hNL] at hf'; omega
  · rw [he, he', hnd, List.drop_drop, List.length_append]
    simp
  · rw [used_snoc, hnd, ← h.useq]
  · rw [List.length_append]; simp only [List.length_cons, List.length_nil]; omega
  · have h1 : Below w.heap.size w w1 := h.b.trans (hb1.mono h.b.size)
    have h5 : Below w.heap.size w w5 := h1.trans (hB5.mono (by omega))
    exact h5.trans (hA6.below h5.size fun k hk => by omega)
theorem RIn.done {w wr : World} {l : List Bs} {g NL A used : Nat} {v : Value} {vs : List Value} {done : List (Bs × Nat)} {low : Nat} (h : RIn w wr l g NL A used v vs done low) (h64 : ∀ s ∈ l, s.length = 64) (hn : ∀ b o, ¬ Begins (l.drop used) g low (done.length + 1) b o) : thereL g NL l 1 1 = done := by
  obtain ⟨f, _, he⟩ := h.eqn
  rw [he, there_nobegin (fun s hs => h64 s (List.mem_of_mem_drop hs)) hn, List.append_nil]
end Go.Proofs.YtbjgknoipbekoaaGreat
