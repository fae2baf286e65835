/-
  The walk of the statement RoundShort: it returns true; nothing that was there has turned.
-/
import Derived.Test.YthciafobknaipabOpen
import Derived.Test.YthciafobknaipabHintsD
namespace Go.Proofs.Ythciafobknaipab
open Go.RowKit
/-- WHAT THE LAYER PROMISES OF HINTS (here: of packing them). -/
structure RoundH (R : World → Prop) : Prop where
  packH : ∀ w x L most, R w → ListsAt w x L → L.length ≤ 1000 → (∀ l ∈ L, l.length ≤ 1000) → Calls Try.prog 6 #[x, .int .i64 most] w fun e w' => HintsAnswer w most L e w'
theorem Et : Elem Try.prog 25 4 (.bool false) 1 := elem_of Try.underlying25 (by kernel_rfl) rfl (by omega)
theorem El : Elem Try.prog 24 25 (.slice none 0 0) 24 := elem_of Try.underlying24 (by kernel_rfl) rfl (by omega)
theorem len_tvals (l : List Bool) : (tvals l).length = l.length := by simp [tvals]
/-- Lists of noughts. -/
def noughts (s : List Int) : List (List Bool) := s.map fun n => List.replicate n.toNat false
theorem places_nought (n : Nat) : placesOf (List.replicate n false) = [] := by
  unfold placesOf
  rw [List.filter_eq_nil_iff]
  intro k _
  rw [List.getD_eq_getElem?_getD, List.getElem?_replicate]
  split <;> simp
theorem places_noughts (s : List Int) : placesAll (noughts s) = [] := by
  unfold placesAll noughts
  rw [List.flatMap_eq_nil_iff]
  intro l hl
  obtain ⟨n, _, rfl⟩ := List.mem_map.1 hl
  exact places_nought _
theorem noughts_hint (s : List Int) (most : Int) (h0 : ∀ n ∈ s, 0 ≤ n) : Hintable most (noughts s) ↔ (0 ≤ most ∧ most ≤ 255 ∧ s.length ≤ 16 ∧ ∀ n ∈ s, n = 256) := by
  unfold Hintable
  rw [places_noughts, show (noughts s).length = s.length by simp [noughts]]
  constructor
  · rintro ⟨a, b, c, d, _⟩
    refine ⟨a, b, c, fun n hn => ?_⟩
    have := d (List.replicate n.toNat false) (List.mem_map.2 ⟨n, hn, rfl⟩)
    rw [List.length_replicate] at this
    have := h0 n hn
    omega
  · rintro ⟨a, b, c, d⟩
    refine ⟨a, b, c, fun l hl => ?_, by simpa using a⟩
    obtain ⟨n, hn, rfl⟩ := List.mem_map.1 hl
    rw [List.length_replicate, d n hn]; rfl
theorem ValsAt.grownO {a b : World} {row : Option Nat} {x : Value} {cs : List Value} (h : ValsAt a x cs) (hg : a.grownBy b row) (hne : ∀ k, x.ownBlock = some k → some k ≠ row) : ValsAt b x cs := by
  obtain ⟨sp, c, rfl, h1, h2, h3⟩ := h
  refine ⟨sp, c, rfl, h1, h2, fun hl => ?_⟩
  obtain ⟨bb, o, rfl, hr⟩ := h3 hl
  exact ⟨bb, o, rfl, fun j v hv => hg.cell (hr j v hv) (hne bb rfl)⟩
/-- What stands when i lists are made. -/
structure ShortIn (w : World) (s : List Int) (i : Nat) (v : Value) (vs : List Value) (wr : World) : Prop where
  own : OwnV 25 wr w.heap.size v vs
  len : vs.length = i
  each : ∀ j, j < i → ValsAt wr (vs.getD j undef) (tvals (List.replicate (s.getD j 0).toNat false)) ∧ ∀ k, (vs.getD j undef).ownBlock = some k → v.ownBlock ≠ some k ∧ k < wr.heap.size
  bel : Below w.heap.size w wr
theorem ShortIn.append {w : World} {s : List Int} {i n : Nat} {v v' : Value} {vs : List Value} {wr W w' : World} (h : ShortIn w s i v vs wr) (hn : (s.getD i 0).toNat = n) (hr : RowAt 4 W wr.heap.size [] (List.replicate n (.bool false))) (hn2 : n ≤ 600) (hb : Below wr.heap.size wr W)
    (ho : OwnV 25 w' w.heap.size v' (vs ++ [.slice (some ⟨wr.heap.size, 0, none⟩) n n])) (hg : (W.alloc (.cells #[.slice (some ⟨wr.heap.size, 0, none⟩) n n] 25)).grownBy w' v.ownBlock) (hbl : v'.ownBlock = v.ownBlock ∨ v'.ownBlock = some (W.alloc (.cells #[.slice (some ⟨wr.heap.size, 0, none⟩) n n] 25)).heap.size) :
    ShortIn w s (i + 1) v' (vs ++ [.slice (some ⟨wr.heap.size, 0, none⟩) n n]) w' := by
  have hbA : Below wr.heap.size wr (W.alloc (.cells #[.slice (some ⟨wr.heap.size, 0, none⟩) n n] 25)) := hb.alloc hb.size _
  have hbB : Below W.heap.size W (W.alloc (.cells #[.slice (some ⟨wr.heap.size, 0, none⟩) n n] 25)) := (Below.refl _ _).alloc (Nat.le_refl _) _
  have hlt := hr.lt
  have hgs := hg.size
  have hsz : (W.alloc (.cells #[.slice (some ⟨wr.heap.size, 0, none⟩) n n] 25)).heap.size = W.heap.size + 1 := by simp
  have apart : ∀ k, k < W.heap.size → v.ownBlock ≠ some k → v'.ownBlock ≠ some k := fun k hk hne e => by
    rcases hbl with hb | hb
    · rw [hb] at e; exact hne e
    · rw [hb] at e; simp only [Option.some.injEq] at e; omega
  refine ⟨ho, by rw [List.length_append, h.len]; rfl, fun j hj => ?_, ?_⟩
  · rcases Nat.lt_or_ge j i with hji | hji
    · obtain ⟨h1, h2⟩ := h.each j hji
      have e : (vs ++ [Value.slice (some ⟨wr.heap.size, 0, none⟩) n n]).getD j undef = vs.getD j undef := by
        rw [List.getD_eq_getElem?_getD, List.getElem?_append_left (by rw [h.len]; exact hji), ← List.getD_eq_getElem?_getD]
      rw [e]
      refine ⟨(h1.below hbA).grownO hg (fun k hk e => (h2 k hk).1 e.symm), fun k hk => ⟨apart k (by have := (h2 k hk).2; have := hb.size; omega) (h2 k hk).1, by have := (h2 k hk).2; have := hb.size; omega⟩⟩
    · obtain rfl : j = i := by omega
      have e : (vs ++ [Value.slice (some ⟨wr.heap.size, 0, none⟩) n n]).getD j undef = .slice (some ⟨wr.heap.size, 0, none⟩) n n := by
        rw [List.getD_eq_getElem?_getD, List.getElem?_append_right (by rw [h.len]; exact Nat.le_refl _), h.len, Nat.sub_self]; rfl
      have hne : v.ownBlock ≠ some wr.heap.size := fun e => by have := (World.ownsRow.lt h.own _ e).2; omega
      rw [e, hn]
      refine ⟨?_, fun k hk => ?_⟩
      · have hv : ValsAt W (.slice (some ⟨wr.heap.size, 0, none⟩) n n) (tvals (List.replicate n false)) := by
          have e2 : tvals (List.replicate n false) = List.replicate n (.bool false) := by unfold tvals; rw [List.map_replicate]
          rw [e2]
          exact (hr.own (Nat.le_refl _) n n (by rw [List.length_replicate]) (by simp) (by simp only [maxLen]; omega)).vals
        exact (hv.below hbB).grownO hg (fun k hk e => by simp [Value.ownBlock] at hk; subst hk; exact hne e.symm)
      · simp [Value.ownBlock] at hk
        subst hk
        exact ⟨apart _ hlt hne, by omega⟩
  · have hb2 := h.bel.trans (hbA.mono h.bel.size)
    exact hb2.grown hg hb2.size (fun k hk => h.own.fresh k hk)
theorem ShortIn.lists {w : World} {s : List Int} {v : Value} {vs : List Value} {wr : World} (h : ShortIn w s s.length v vs wr) : ListsAt wr v (noughts s) := by
  refine ⟨vs, by rw [h.len]; simp [noughts], h.own.vals, fun i hi => ?_⟩
  have hi' : i < s.length := by simpa [noughts] using hi
  have e : (noughts s).getD i [] = List.replicate (s.getD i 0).toNat false := by simp [noughts, List.getD_eq_getElem?_getD, hi']
  rw [e]
  exact (h.each i hi').1
/- SHORT -/
def Tells (b : Bool) (A : Prop) : Prop := b = true ↔ A
set_option maxRecDepth 100000 in
set_option maxHeartbeats 4000000 in
theorem short_a {R : World → Prop} (C : Round R) (D : RoundH R) (w0 : World) (hR : R w0) (x : Value) (sz : List Int) (hx : ValsAt w0 x (ivals sz)) (hl : sz.length ≤ 40) (most : Int) (h1 : 0 ≤ most) (h2 : most ≤ 255) (h3 : sz.length ≤ 16) :
    Calls Try.prog 3 #[x, .int .i64 most] w0 fun e w' => e = .returned (.bool true) ∧ Below w0.heap.size w0 w' := by
  have HC := hide C
  have HD := hide D
  have HR := hide hR
  have HX := hide hx
  obtain ⟨sp, c, rfl, _⟩ := ints_open hx
  have dl : decide (40 < (sz.length : Int)) = false := by simp; omega
  have dl2 : decide (40 < sz.length) = false := by simp; omega
  have szb : (sz.length : Int) ≤ 40 := by omega
  have g1 : decide (0 ≤ most) = true := by simp; omega
  have g2 : decide (most ≤ 255) = true := by simp; omega
  have g3 : decide ((sz.length : Int) ≤ 16) = true := by simp; omega
  have g3' : decide (sz.length ≤ 16) = true := by simp; omega
  clear C D hR hx
  go_enter Try.func3, Try.ntmps3
  go_wp2_with fail
  refine (anchor_any (unhide HC) w0 (unhide HR)).mono ?_
  rintro e w ⟨rfl, hb1⟩
  have HR1 := hide ((unhide HC).below _ _ (unhide HR) hb1)
  have HB1 := hide hb1
  obtain ⟨sp1, c1, e1, _, _, hop⟩ := ints_open ((unhide HX).below hb1)
  simp only [Value.slice.injEq] at e1
  obtain ⟨rfl, _, rfl⟩ := e1
  have HOP := hide hop
  clear hb1 HR HX hop
  have HI : Hid (ShortIn w sz 0 (.slice none 0 0) [] w) := ⟨own_nil _ _ _, rfl, fun j hj => by omega, Below.refl _ _⟩
  have HQ0 : Hid (Tells true ((0 ≤ most ∧ most ≤ 255 ∧ sz.length ≤ 16) ∧ ∀ j, j < 0 → sz.getD j 0 = 256)) := ⟨fun _ => ⟨⟨h1, h2, h3⟩, fun j hj => by omega⟩, fun _ => rfl⟩
  go_wp2
  go_loopw [5, 6, 29] (fun rt v ii wr => ∃ (i : Nat) (rb : Bool) (vs : List Value), i ≤ sz.length ∧ ii = .int .i64 (i : Int) ∧ rt = .bool rb ∧ Hid (ShortIn w sz i v vs wr) ∧ Hid (∀ j, j < i → 0 ≤ sz.getD j 0 ∧ sz.getD j 0 ≤ 600) ∧ Hid (Tells rb ((0 ≤ most ∧ most ≤ 255 ∧ sz.length ≤ 16) ∧ ∀ j, j < i → sz.getD j 0 = 256))) (fun _ _ ii _ => sz.length - (intOf ii).toNat)
  case atStart => exact ⟨0, true, [], by omega, rfl, rfl, HI, fun j hj => by omega, HQ0⟩
  case round =>
    clear HI HQ0
    obtain ⟨i, rb, vs, hi, rfl, rfl, HI, HF, HQ⟩ := hrel
    by_cases hlt : i < sz.length
    · obtain ⟨b, o, rfl, hb, hcell⟩ := unhide HOP (by intro e; rw [e] at hlt; simp at hlt)
      have e1 : wr.cell? ⟨b, o + i, none⟩ = some (.int .i64 (sz.getD i 0)) := by rw [(unhide HI).bel.cell hb]; exact hcell i hlt
      have i0 : (0 : Int) ≤ (i : Int) := by omega
      have i1 : (i : Int) < (sz.length : Int) := by omega
      obtain ⟨y, hy⟩ : ∃ y, sz.getD i 0 = y := ⟨_, rfl⟩
      rw [hy] at e1
      have HY := hide hy
      clear hcell hy hb
      by_cases hy0 : y < 0
      · have HB2 := hide ((unhide HB1).trans ((unhide HI).bel.mono (unhide HB1).size))
        clear HI HF HQ
        go_wp2
        go_ret
        exact ⟨rfl, unhide HB2⟩
      · by_cases hy1 : 600 < y
        · have HB2 := hide ((unhide HB1).trans ((unhide HI).bel.mono (unhide HB1).size))
          have z0 : decide (y < 0) = false := by simp; omega
          clear HI HF HQ
          go_wp2
          go_ret
          exact ⟨rfl, unhide HB2⟩
        · cases rb
          · obtain ⟨N, rfl⟩ : ∃ N : Nat, y = (N : Int) := ⟨y.toNat, by omega⟩
            have hN : N ≤ 600 := by omega
            obtain ⟨W, hmk, hrow, hbel⟩ := made_vals Et rfl wr .i64 .i64 N (N : Int) (N : Int) rfl rfl (by omega)
            have hNe : (sz.getD i 0).toNat = N := by rw [unhide HY]; exact Int.toNat_natCast N
            have HAP := hide (fun v' w' => (unhide HI).append (v' := v') (w' := w') hNe hrow hN hbel)
            have hbA : Below w.heap.size w (W.alloc (.cells #[.slice (some ⟨wr.heap.size, 0, none⟩) N N] 25)) := ((unhide HI).bel.trans (hbel.mono (unhide HI).bel.size)).alloc (Nat.le_trans (unhide HI).bel.size hbel.size) _
            have HO := hide (((unhide HI).own.below hbel).alloc (.cells #[.slice (some ⟨wr.heap.size, 0, none⟩) N N] 25))
            have HV := hide (vals_new W [.slice (some ⟨wr.heap.size, 0, none⟩) N N] 25)
            have Hs := hide hbA.size
            have Hl := hide (show vs.length + [Value.slice (some ⟨wr.heap.size, 0, none⟩) N N].length ≤ 1073741824 by rw [(unhide HI).len, List.length_singleton]; omega)
            have HF2 : Hid (∀ j, j < i + 1 → 0 ≤ sz.getD j 0 ∧ sz.getD j 0 ≤ 600) := fun j hj => by
              rcases Nat.lt_or_ge j i with h | h
              · exact unhide HF j h
              · obtain rfl : j = i := by omega
                rw [unhide HY]; omega
            have HQ2 : Hid (Tells false ((0 ≤ most ∧ most ≤ 255 ∧ sz.length ≤ 16) ∧ ∀ j, j < i + 1 → sz.getD j 0 = 256)) := by
              show false = true ↔ _
              constructor
              · intro h; cases h
              · intro h
                have := (unhide HQ).2 ⟨h.1, fun j hj => h.2 j (by omega)⟩
                cases this
            have nb : (N : Int) ≤ 600 := by omega
            have nb0 : (0 : Int) ≤ (N : Int) := by omega
            have z0 : decide ((N : Int) < 0) = false := by simp
            have z1 : decide (600 < (N : Int)) = false := by simp; omega
            have z1' : decide (600 < N) = false := by simp; omega
            clear hrow hbel hNe hbA HI HF HQ
            go_wp2_with (at_builtin; refine wpList_append_vals El rfl _ _ rfl w.heap.size _ _ vs [.slice (some ⟨wr.heap.size, 0, none⟩) N N] rfl (unhide HO) rfl (unhide HV) (by simp [Value.oneCell']) (unhide Hs) (unhide Hl) ?_
                         intro v2 w2 hO2 hg2 hbl2
                         have HI2 := hide (unhide HAP v2 w2 hO2 hg2 hbl2)
                         clear hO2 hg2 hbl2)
            go_roundw
            case rel =>
              first
                | exact ⟨i + 1, false, _, by omega, by go_num, rfl, HI2, HF2, HQ2⟩
                | ((repeat apply Exists.intro); exact ⟨⟨i + 1, false, _, by omega, by go_num, rfl, HI2, HF2, HQ2⟩, rfl⟩)
            case measure => simp [intOf]; omega
          · by_cases h256 : y = 256
            · obtain ⟨N, rfl⟩ : ∃ N : Nat, y = (N : Int) := ⟨y.toNat, by omega⟩
              have hN : N ≤ 600 := by omega
              obtain ⟨W, hmk, hrow, hbel⟩ := made_vals Et rfl wr .i64 .i64 N (N : Int) (N : Int) rfl rfl (by omega)
              have hNe : (sz.getD i 0).toNat = N := by rw [unhide HY]; exact Int.toNat_natCast N
              have HAP := hide (fun v' w' => (unhide HI).append (v' := v') (w' := w') hNe hrow hN hbel)
              have hbA : Below w.heap.size w (W.alloc (.cells #[.slice (some ⟨wr.heap.size, 0, none⟩) N N] 25)) := ((unhide HI).bel.trans (hbel.mono (unhide HI).bel.size)).alloc (Nat.le_trans (unhide HI).bel.size hbel.size) _
              have HO := hide (((unhide HI).own.below hbel).alloc (.cells #[.slice (some ⟨wr.heap.size, 0, none⟩) N N] 25))
              have HV := hide (vals_new W [.slice (some ⟨wr.heap.size, 0, none⟩) N N] 25)
              have Hs := hide hbA.size
              have Hl := hide (show vs.length + [Value.slice (some ⟨wr.heap.size, 0, none⟩) N N].length ≤ 1073741824 by rw [(unhide HI).len, List.length_singleton]; omega)
              have HF2 : Hid (∀ j, j < i + 1 → 0 ≤ sz.getD j 0 ∧ sz.getD j 0 ≤ 600) := fun j hj => by
                rcases Nat.lt_or_ge j i with h | h
                · exact unhide HF j h
                · obtain rfl : j = i := by omega
                  rw [unhide HY]; omega
              have HQ2 : Hid (Tells true ((0 ≤ most ∧ most ≤ 255 ∧ sz.length ≤ 16) ∧ ∀ j, j < i + 1 → sz.getD j 0 = 256)) := by
                show true = true ↔ _
                constructor
                · intro _
                  have := (unhide HQ).1 rfl
                  refine ⟨this.1, fun j hj => ?_⟩
                  rcases Nat.lt_or_ge j i with h | h
                  · exact this.2 j h
                  · obtain rfl : j = i := by omega
                    rw [unhide HY]; omega
                · intro _; rfl
              have qn : ((N : Int) == 256) = true := by simp; omega
              clear h256
              have nb : (N : Int) ≤ 600 := by omega
              have nb0 : (0 : Int) ≤ (N : Int) := by omega
              have z0 : decide ((N : Int) < 0) = false := by simp
              have z1 : decide (600 < (N : Int)) = false := by simp; omega
              have z1' : decide (600 < N) = false := by simp; omega
              clear hrow hbel hNe hbA HI HF HQ
              go_wp2_with (at_builtin; refine wpList_append_vals El rfl _ _ rfl w.heap.size _ _ vs [.slice (some ⟨wr.heap.size, 0, none⟩) N N] rfl (unhide HO) rfl (unhide HV) (by simp [Value.oneCell']) (unhide Hs) (unhide Hl) ?_
                           intro v2 w2 hO2 hg2 hbl2
                           have HI2 := hide (unhide HAP v2 w2 hO2 hg2 hbl2)
                           clear hO2 hg2 hbl2)
              go_roundw
              case rel =>
                first
                  | exact ⟨i + 1, true, _, by omega, by go_num, rfl, HI2, HF2, HQ2⟩
                  | ((repeat apply Exists.intro); exact ⟨⟨i + 1, true, _, by omega, by go_num, rfl, HI2, HF2, HQ2⟩, rfl⟩)
              case measure => simp [intOf]; omega
            · obtain ⟨N, rfl⟩ : ∃ N : Nat, y = (N : Int) := ⟨y.toNat, by omega⟩
              have hN : N ≤ 600 := by omega
              obtain ⟨W, hmk, hrow, hbel⟩ := made_vals Et rfl wr .i64 .i64 N (N : Int) (N : Int) rfl rfl (by omega)
              have hNe : (sz.getD i 0).toNat = N := by rw [unhide HY]; exact Int.toNat_natCast N
              have HAP := hide (fun v' w' => (unhide HI).append (v' := v') (w' := w') hNe hrow hN hbel)
              have hbA : Below w.heap.size w (W.alloc (.cells #[.slice (some ⟨wr.heap.size, 0, none⟩) N N] 25)) := ((unhide HI).bel.trans (hbel.mono (unhide HI).bel.size)).alloc (Nat.le_trans (unhide HI).bel.size hbel.size) _
              have HO := hide (((unhide HI).own.below hbel).alloc (.cells #[.slice (some ⟨wr.heap.size, 0, none⟩) N N] 25))
              have HV := hide (vals_new W [.slice (some ⟨wr.heap.size, 0, none⟩) N N] 25)
              have Hs := hide hbA.size
              have Hl := hide (show vs.length + [Value.slice (some ⟨wr.heap.size, 0, none⟩) N N].length ≤ 1073741824 by rw [(unhide HI).len, List.length_singleton]; omega)
              have HF2 : Hid (∀ j, j < i + 1 → 0 ≤ sz.getD j 0 ∧ sz.getD j 0 ≤ 600) := fun j hj => by
                rcases Nat.lt_or_ge j i with h | h
                · exact unhide HF j h
                · obtain rfl : j = i := by omega
                  rw [unhide HY]; omega
              have HQ2 : Hid (Tells false ((0 ≤ most ∧ most ≤ 255 ∧ sz.length ≤ 16) ∧ ∀ j, j < i + 1 → sz.getD j 0 = 256)) := by
                show false = true ↔ _
                constructor
                · intro h; cases h
                · intro h
                  have := h.2 i (by omega)
                  rw [unhide HY] at this
                  omega
              have qn : ((N : Int) == 256) = false := by simp; omega
              have nb : (N : Int) ≤ 600 := by omega
              have nb0 : (0 : Int) ≤ (N : Int) := by omega
              have z0 : decide ((N : Int) < 0) = false := by simp
              have z1 : decide (600 < (N : Int)) = false := by simp; omega
              have z1' : decide (600 < N) = false := by simp; omega
              clear hrow hbel hNe hbA HI HF HQ
              go_wp2_with (at_builtin; refine wpList_append_vals El rfl _ _ rfl w.heap.size _ _ vs [.slice (some ⟨wr.heap.size, 0, none⟩) N N] rfl (unhide HO) rfl (unhide HV) (by simp [Value.oneCell']) (unhide Hs) (unhide Hl) ?_
                           intro v2 w2 hO2 hg2 hbl2
                           have HI2 := hide (unhide HAP v2 w2 hO2 hg2 hbl2)
                           clear hO2 hg2 hbl2)
              go_roundw
              case rel =>
                first
                  | exact ⟨i + 1, false, _, by omega, by go_num, rfl, HI2, HF2, HQ2⟩
                  | ((repeat apply Exists.intro); exact ⟨⟨i + 1, false, _, by omega, by go_num, rfl, HI2, HF2, HQ2⟩, rfl⟩)
              case measure => simp [intOf]; omega
    · obtain rfl : i = sz.length := by omega
      have h0 : ∀ n ∈ sz, 0 ≤ n ∧ n ≤ 600 := fun n hn => by
        obtain ⟨j, hj, rfl⟩ := List.getElem_of_mem hn
        have := unhide HF j hj
        rwa [List.getD_eq_getElem?_getD, List.getElem?_eq_getElem hj] at this
      have hiff : Hintable most (noughts sz) ↔ rb = true := by
        have hq : rb = true ↔ _ := unhide HQ
        rw [noughts_hint sz most (fun n hn => (h0 n hn).1), hq]
        constructor
        · rintro ⟨a, b, c, d⟩
          exact ⟨⟨a, b, c⟩, fun j hj => by rw [List.getD_eq_getElem?_getD, List.getElem?_eq_getElem hj]; exact d _ (List.getElem_mem hj)⟩
        · rintro ⟨⟨a, b, c⟩, d⟩
          refine ⟨a, b, c, fun n hn => ?_⟩
          obtain ⟨j, hj, rfl⟩ := List.getElem_of_mem hn
          have := d j hj
          rwa [List.getD_eq_getElem?_getD, List.getElem?_eq_getElem hj] at this
      have HLs := hide (unhide HI).lists
      have HRo := hide ((unhide HC).below _ _ (unhide HR1) (unhide HI).bel)
      have HBo := hide ((unhide HB1).trans ((unhide HI).bel.mono (unhide HB1).size))
      have hnl : (noughts sz).length = sz.length := by simp [noughts]
      have h600 : ∀ l ∈ noughts sz, l.length ≤ 1000 := fun l hl => by
        obtain ⟨n, hn, rfl⟩ := List.mem_map.1 hl
        have := h0 n hn
        rw [List.length_replicate]; omega
      have H600 := hide h600
      have HIFF := hide hiff
      clear HI HF HQ h0 hiff h600
      go_wp2_with fail
      refine ((unhide HD).packH wr _ (noughts sz) most (unhide HRo) (unhide HLs) (by omega) (unhide H600)).mono ?_
      rintro e w2 (⟨hH, v2, rfl, hO2, hb2⟩ | ⟨hH, v2, rfl, hO2, hb2⟩)
      · obtain rfl : rb = true := (unhide HIFF).1 hH
        have m0 := hH.1
        have m1 := hH.2.1
        have hlen : (bvals (hintBytes most.toNat (noughts sz))).length = most.toNat + sz.length := by rw [len_bvals, len_hint (by rw [places_noughts]; simp), hnl]
        obtain ⟨sp2, c2, hv2⟩ := hO2.form
        rw [hlen] at hv2
        subst hv2
        obtain ⟨M, rfl⟩ : ∃ M : Nat, most = (M : Int) := ⟨most.toNat, by omega⟩
        rw [Int.toNat_natCast]
        have HB2 := hide ((unhide HBo).trans (hb2.mono (unhide HBo).size))
        have q1 : (((M + sz.length : Nat) : Int) == (M : Int) + (sz.length : Int)) = true := by simp
        have mb : (M : Int) ≤ 255 := by omega
        clear hO2 hb2 hH hlen HIFF HBo HRo HLs H600
        go_wp2
        go_ret
        exact ⟨rfl, unhide HB2⟩
      · have hrb : rb = false := by
          cases rb
          · rfl
          · exact absurd ((unhide HIFF).2 rfl) hH
        subst hrb
        obtain ⟨sp2, c2, rfl⟩ := hO2.form
        have HB2 := hide ((unhide HBo).trans (hb2.mono (unhide HBo).size))
        clear hO2 hb2 hH HIFF HBo HRo HLs H600
        go_wp2
        go_ret
        exact ⟨rfl, unhide HB2⟩
set_option maxRecDepth 100000 in
set_option maxHeartbeats 4000000 in
theorem short_b {R : World → Prop} (C : Round R) (D : RoundH R) (w0 : World) (hR : R w0) (x : Value) (sz : List Int) (hx : ValsAt w0 x (ivals sz)) (hl : sz.length ≤ 40) (most : Int) (h1 : 0 ≤ most) (h2 : most ≤ 255) (h3 : ¬ sz.length ≤ 16) :
    Calls Try.prog 3 #[x, .int .i64 most] w0 fun e w' => e = .returned (.bool true) ∧ Below w0.heap.size w0 w' := by
  have HC := hide C
  have HD := hide D
  have HR := hide hR
  have HX := hide hx
  obtain ⟨sp, c, rfl, _⟩ := ints_open hx
  have dl : decide (40 < (sz.length : Int)) = false := by simp; omega
  have dl2 : decide (40 < sz.length) = false := by simp; omega
  have szb : (sz.length : Int) ≤ 40 := by omega
  have g1 : decide (0 ≤ most) = true := by simp; omega
  have g2 : decide (most ≤ 255) = true := by simp; omega
  have g3 : decide ((sz.length : Int) ≤ 16) = false := by simp; omega
  have g3' : decide (sz.length ≤ 16) = false := by simp; omega
  clear C D hR hx
  go_enter Try.func3, Try.ntmps3
  go_wp2_with fail
  refine (anchor_any (unhide HC) w0 (unhide HR)).mono ?_
  rintro e w ⟨rfl, hb1⟩
  have HR1 := hide ((unhide HC).below _ _ (unhide HR) hb1)
  have HB1 := hide hb1
  obtain ⟨sp1, c1, e1, _, _, hop⟩ := ints_open ((unhide HX).below hb1)
  simp only [Value.slice.injEq] at e1
  obtain ⟨rfl, _, rfl⟩ := e1
  have HOP := hide hop
  clear hb1 HR HX hop
  have HI : Hid (ShortIn w sz 0 (.slice none 0 0) [] w) := ⟨own_nil _ _ _, rfl, fun j hj => by omega, Below.refl _ _⟩
  have HQ0 : Hid (Tells false ((0 ≤ most ∧ most ≤ 255 ∧ sz.length ≤ 16) ∧ ∀ j, j < 0 → sz.getD j 0 = 256)) := ⟨fun h => (by cases h), fun h => by have := h.1.2.2; omega⟩
  go_wp2
  go_loopw [5, 6, 29] (fun rt v ii wr => ∃ (i : Nat) (rb : Bool) (vs : List Value), i ≤ sz.length ∧ ii = .int .i64 (i : Int) ∧ rt = .bool rb ∧ Hid (ShortIn w sz i v vs wr) ∧ Hid (∀ j, j < i → 0 ≤ sz.getD j 0 ∧ sz.getD j 0 ≤ 600) ∧ Hid (Tells rb ((0 ≤ most ∧ most ≤ 255 ∧ sz.length ≤ 16) ∧ ∀ j, j < i → sz.getD j 0 = 256))) (fun _ _ ii _ => sz.length - (intOf ii).toNat)
  case atStart => exact ⟨0, false, [], by omega, rfl, rfl, HI, fun j hj => by omega, HQ0⟩
  case round =>
    clear HI HQ0
    obtain ⟨i, rb, vs, hi, rfl, rfl, HI, HF, HQ⟩ := hrel
    by_cases hlt : i < sz.length
    · obtain ⟨b, o, rfl, hb, hcell⟩ := unhide HOP (by intro e; rw [e] at hlt; simp at hlt)
      have e1 : wr.cell? ⟨b, o + i, none⟩ = some (.int .i64 (sz.getD i 0)) := by rw [(unhide HI).bel.cell hb]; exact hcell i hlt
      have i0 : (0 : Int) ≤ (i : Int) := by omega
      have i1 : (i : Int) < (sz.length : Int) := by omega
      obtain ⟨y, hy⟩ : ∃ y, sz.getD i 0 = y := ⟨_, rfl⟩
      rw [hy] at e1
      have HY := hide hy
      clear hcell hy hb
      by_cases hy0 : y < 0
      · have HB2 := hide ((unhide HB1).trans ((unhide HI).bel.mono (unhide HB1).size))
        clear HI HF HQ
        go_wp2
        go_ret
        exact ⟨rfl, unhide HB2⟩
      · by_cases hy1 : 600 < y
        · have HB2 := hide ((unhide HB1).trans ((unhide HI).bel.mono (unhide HB1).size))
          have z0 : decide (y < 0) = false := by simp; omega
          clear HI HF HQ
          go_wp2
          go_ret
          exact ⟨rfl, unhide HB2⟩
        · cases rb
          · obtain ⟨N, rfl⟩ : ∃ N : Nat, y = (N : Int) := ⟨y.toNat, by omega⟩
            have hN : N ≤ 600 := by omega
            obtain ⟨W, hmk, hrow, hbel⟩ := made_vals Et rfl wr .i64 .i64 N (N : Int) (N : Int) rfl rfl (by omega)
            have hNe : (sz.getD i 0).toNat = N := by rw [unhide HY]; exact Int.toNat_natCast N
            have HAP := hide (fun v' w' => (unhide HI).append (v' := v') (w' := w') hNe hrow hN hbel)
            have hbA : Below w.heap.size w (W.alloc (.cells #[.slice (some ⟨wr.heap.size, 0, none⟩) N N] 25)) := ((unhide HI).bel.trans (hbel.mono (unhide HI).bel.size)).alloc (Nat.le_trans (unhide HI).bel.size hbel.size) _
            have HO := hide (((unhide HI).own.below hbel).alloc (.cells #[.slice (some ⟨wr.heap.size, 0, none⟩) N N] 25))
            have HV := hide (vals_new W [.slice (some ⟨wr.heap.size, 0, none⟩) N N] 25)
            have Hs := hide hbA.size
            have Hl := hide (show vs.length + [Value.slice (some ⟨wr.heap.size, 0, none⟩) N N].length ≤ 1073741824 by rw [(unhide HI).len, List.length_singleton]; omega)
            have HF2 : Hid (∀ j, j < i + 1 → 0 ≤ sz.getD j 0 ∧ sz.getD j 0 ≤ 600) := fun j hj => by
              rcases Nat.lt_or_ge j i with h | h
              · exact unhide HF j h
              · obtain rfl : j = i := by omega
                rw [unhide HY]; omega
            have HQ2 : Hid (Tells false ((0 ≤ most ∧ most ≤ 255 ∧ sz.length ≤ 16) ∧ ∀ j, j < i + 1 → sz.getD j 0 = 256)) := by
              show false = true ↔ _
              constructor
              · intro h; cases h
              · intro h
                have := (unhide HQ).2 ⟨h.1, fun j hj => h.2 j (by omega)⟩
                cases this
            have nb : (N : Int) ≤ 600 := by omega
            have nb0 : (0 : Int) ≤ (N : Int) := by omega
            have z0 : decide ((N : Int) < 0) = false := by simp
            have z1 : decide (600 < (N : Int)) = false := by simp; omega
            have z1' : decide (600 < N) = false := by simp; omega
            clear hrow hbel hNe hbA HI HF HQ
            go_wp2_with (at_builtin; refine wpList_append_vals El rfl _ _ rfl w.heap.size _ _ vs [.slice (some ⟨wr.heap.size, 0, none⟩) N N] rfl (unhide HO) rfl (unhide HV) (by simp [Value.oneCell']) (unhide Hs) (unhide Hl) ?_
                         intro v2 w2 hO2 hg2 hbl2
                         have HI2 := hide (unhide HAP v2 w2 hO2 hg2 hbl2)
                         clear hO2 hg2 hbl2)
            go_roundw
            case rel =>
              first
                | exact ⟨i + 1, false, _, by omega, by go_num, rfl, HI2, HF2, HQ2⟩
                | ((repeat apply Exists.intro); exact ⟨⟨i + 1, false, _, by omega, by go_num, rfl, HI2, HF2, HQ2⟩, rfl⟩)
            case measure => simp [intOf]; omega
          · by_cases h256 : y = 256
            · obtain ⟨N, rfl⟩ : ∃ N : Nat, y = (N : Int) := ⟨y.toNat, by omega⟩
              have hN : N ≤ 600 := by omega
              obtain ⟨W, hmk, hrow, hbel⟩ := made_vals Et rfl wr .i64 .i64 N (N : Int) (N : Int) rfl rfl (by omega)
              have hNe : (sz.getD i 0).toNat = N := by rw [unhide HY]; exact Int.toNat_natCast N
              have HAP := hide (fun v' w' => (unhide HI).append (v' := v') (w' := w') hNe hrow hN hbel)
              have hbA : Below w.heap.size w (W.alloc (.cells #[.slice (some ⟨wr.heap.size, 0, none⟩) N N] 25)) := ((unhide HI).bel.trans (hbel.mono (unhide HI).bel.size)).alloc (Nat.le_trans (unhide HI).bel.size hbel.size) _
              have HO := hide (((unhide HI).own.below hbel).alloc (.cells #[.slice (some ⟨wr.heap.size, 0, none⟩) N N] 25))
              have HV := hide (vals_new W [.slice (some ⟨wr.heap.size, 0, none⟩) N N] 25)
              have Hs := hide hbA.size
              have Hl := hide (show vs.length + [Value.slice (some ⟨wr.heap.size, 0, none⟩) N N].length ≤ 1073741824 by rw [(unhide HI).len, List.length_singleton]; omega)
              have HF2 : Hid (∀ j, j < i + 1 → 0 ≤ sz.getD j 0 ∧ sz.getD j 0 ≤ 600) := fun j hj => by
                rcases Nat.lt_or_ge j i with h | h
                · exact unhide HF j h
                · obtain rfl : j = i := by omega
                  rw [unhide HY]; omega
              have HQ2 : Hid (Tells true ((0 ≤ most ∧ most ≤ 255 ∧ sz.length ≤ 16) ∧ ∀ j, j < i + 1 → sz.getD j 0 = 256)) := by
                show true = true ↔ _
                constructor
                · intro _
                  have := (unhide HQ).1 rfl
                  refine ⟨this.1, fun j hj => ?_⟩
                  rcases Nat.lt_or_ge j i with h | h
                  · exact this.2 j h
                  · obtain rfl : j = i := by omega
                    rw [unhide HY]; omega
                · intro _; rfl
              have qn : ((N : Int) == 256) = true := by simp; omega
              clear h256
              have nb : (N : Int) ≤ 600 := by omega
              have nb0 : (0 : Int) ≤ (N : Int) := by omega
              have z0 : decide ((N : Int) < 0) = false := by simp
              have z1 : decide (600 < (N : Int)) = false := by simp; omega
              have z1' : decide (600 < N) = false := by simp; omega
              clear hrow hbel hNe hbA HI HF HQ
              go_wp2_with (at_builtin; refine wpList_append_vals El rfl _ _ rfl w.heap.size _ _ vs [.slice (some ⟨wr.heap.size, 0, none⟩) N N] rfl (unhide HO) rfl (unhide HV) (by simp [Value.oneCell']) (unhide Hs) (unhide Hl) ?_
                           intro v2 w2 hO2 hg2 hbl2
                           have HI2 := hide (unhide HAP v2 w2 hO2 hg2 hbl2)
                           clear hO2 hg2 hbl2)
              go_roundw
              case rel =>
                first
                  | exact ⟨i + 1, true, _, by omega, by go_num, rfl, HI2, HF2, HQ2⟩
                  | ((repeat apply Exists.intro); exact ⟨⟨i + 1, true, _, by omega, by go_num, rfl, HI2, HF2, HQ2⟩, rfl⟩)
              case measure => simp [intOf]; omega
            · obtain ⟨N, rfl⟩ : ∃ N : Nat, y = (N : Int) := ⟨y.toNat, by omega⟩
              have hN : N ≤ 600 := by omega
              obtain ⟨W, hmk, hrow, hbel⟩ := made_vals Et rfl wr .i64 .i64 N (N : Int) (N : Int) rfl rfl (by omega)
              have hNe : (sz.getD i 0).toNat = N := by rw [unhide HY]; exact Int.toNat_natCast N
              have HAP := hide (fun v' w' => (unhide HI).append (v' := v') (w' := w') hNe hrow hN hbel)
              have hbA : Below w.heap.size w (W.alloc (.cells #[.slice (some ⟨wr.heap.size, 0, none⟩) N N] 25)) := ((unhide HI).bel.trans (hbel.mono (unhide HI).bel.size)).alloc (Nat.le_trans (unhide HI).bel.size hbel.size) _
              have HO := hide (((unhide HI).own.below hbel).alloc (.cells #[.slice (some ⟨wr.heap.size, 0, none⟩) N N] 25))
              have HV := hide (vals_new W [.slice (some ⟨wr.heap.size, 0, none⟩) N N] 25)
              have Hs := hide hbA.size
              have Hl := hide (show vs.length + [Value.slice (some ⟨wr.heap.size, 0, none⟩) N N].length ≤ 1073741824 by rw [(unhide HI).len, List.length_singleton]; omega)
              have HF2 : Hid (∀ j, j < i + 1 → 0 ≤ sz.getD j 0 ∧ sz.getD j 0 ≤ 600) := fun j hj => by
                rcases Nat.lt_or_ge j i with h | h
                · exact unhide HF j h
                · obtain rfl : j = i := by omega
                  rw [unhide HY]; omega
              have HQ2 : Hid (Tells false ((0 ≤ most ∧ most ≤ 255 ∧ sz.length ≤ 16) ∧ ∀ j, j < i + 1 → sz.getD j 0 = 256)) := by
                show false = true ↔ _
                constructor
                · intro h; cases h
                · intro h
                  have := h.2 i (by omega)
                  rw [unhide HY] at this
                  omega
              have qn : ((N : Int) == 256) = false := by simp; omega
              have nb : (N : Int) ≤ 600 := by omega
              have nb0 : (0 : Int) ≤ (N : Int) := by omega
              have z0 : decide ((N : Int) < 0) = false := by simp
              have z1 : decide (600 < (N : Int)) = false := by simp; omega
              have z1' : decide (600 < N) = false := by simp; omega
              clear hrow hbel hNe hbA HI HF HQ
              go_wp2_with (at_builtin; refine wpList_append_vals El rfl _ _ rfl w.heap.size _ _ vs [.slice (some ⟨wr.heap.size, 0, none⟩) N N] rfl (unhide HO) rfl (unhide HV) (by simp [Value.oneCell']) (unhide Hs) (unhide Hl) ?_
                           intro v2 w2 hO2 hg2 hbl2
                           have HI2 := hide (unhide HAP v2 w2 hO2 hg2 hbl2)
                           clear hO2 hg2 hbl2)
              go_roundw
              case rel =>
                first
                  | exact ⟨i + 1, false, _, by omega, by go_num, rfl, HI2, HF2, HQ2⟩
                  | ((repeat apply Exists.intro); exact ⟨⟨i + 1, false, _, by omega, by go_num, rfl, HI2, HF2, HQ2⟩, rfl⟩)
              case measure => simp [intOf]; omega
    · obtain rfl : i = sz.length := by omega
      have h0 : ∀ n ∈ sz, 0 ≤ n ∧ n ≤ 600 := fun n hn => by
        obtain ⟨j, hj, rfl⟩ := List.getElem_of_mem hn
        have := unhide HF j hj
        rwa [List.getD_eq_getElem?_getD, List.getElem?_eq_getElem hj] at this
      have hiff : Hintable most (noughts sz) ↔ rb = true := by
        have hq : rb = true ↔ _ := unhide HQ
        rw [noughts_hint sz most (fun n hn => (h0 n hn).1), hq]
        constructor
        · rintro ⟨a, b, c, d⟩
          exact ⟨⟨a, b, c⟩, fun j hj => by rw [List.getD_eq_getElem?_getD, List.getElem?_eq_getElem hj]; exact d _ (List.getElem_mem hj)⟩
        · rintro ⟨⟨a, b, c⟩, d⟩
          refine ⟨a, b, c, fun n hn => ?_⟩
          obtain ⟨j, hj, rfl⟩ := List.getElem_of_mem hn
          have := d j hj
          rwa [List.getD_eq_getElem?_getD, List.getElem?_eq_getElem hj] at this
      have HLs := hide (unhide HI).lists
      have HRo := hide ((unhide HC).below _ _ (unhide HR1) (unhide HI).bel)
      have HBo := hide ((unhide HB1).trans ((unhide HI).bel.mono (unhide HB1).size))
      have hnl : (noughts sz).length = sz.length := by simp [noughts]
      have h600 : ∀ l ∈ noughts sz, l.length ≤ 1000 := fun l hl => by
        obtain ⟨n, hn, rfl⟩ := List.mem_map.1 hl
        have := h0 n hn
        rw [List.length_replicate]; omega
      have H600 := hide h600
      have HIFF := hide hiff
      clear HI HF HQ h0 hiff h600
      go_wp2_with fail
      refine ((unhide HD).packH wr _ (noughts sz) most (unhide HRo) (unhide HLs) (by omega) (unhide H600)).mono ?_
      rintro e w2 (⟨hH, v2, rfl, hO2, hb2⟩ | ⟨hH, v2, rfl, hO2, hb2⟩)
      · obtain rfl : rb = true := (unhide HIFF).1 hH
        have m0 := hH.1
        have m1 := hH.2.1
        have hlen : (bvals (hintBytes most.toNat (noughts sz))).length = most.toNat + sz.length := by rw [len_bvals, len_hint (by rw [places_noughts]; simp), hnl]
        obtain ⟨sp2, c2, hv2⟩ := hO2.form
        rw [hlen] at hv2
        subst hv2
        obtain ⟨M, rfl⟩ : ∃ M : Nat, most = (M : Int) := ⟨most.toNat, by omega⟩
        rw [Int.toNat_natCast]
        have HB2 := hide ((unhide HBo).trans (hb2.mono (unhide HBo).size))
        have q1 : (((M + sz.length : Nat) : Int) == (M : Int) + (sz.length : Int)) = true := by simp
        have mb : (M : Int) ≤ 255 := by omega
        clear hO2 hb2 hH hlen HIFF HBo HRo HLs H600
        go_wp2
        go_ret
        exact ⟨rfl, unhide HB2⟩
      · have hrb : rb = false := by
          cases rb
          · rfl
          · exact absurd ((unhide HIFF).2 rfl) hH
        subst hrb
        obtain ⟨sp2, c2, rfl⟩ := hO2.form
        have HB2 := hide ((unhide HBo).trans (hb2.mono (unhide HBo).size))
        clear hO2 hb2 hH HIFF HBo HRo HLs H600
        go_wp2
        go_ret
        exact ⟨rfl, unhide HB2⟩
set_option maxRecDepth 100000 in
set_option maxHeartbeats 4000000 in
theorem short_c {R : World → Prop} (C : Round R) (D : RoundH R) (w0 : World) (hR : R w0) (x : Value) (sz : List Int) (hx : ValsAt w0 x (ivals sz)) (hl : sz.length ≤ 40) (most : Int) (h1 : 0 ≤ most) (h2 : ¬ most ≤ 255) :
    Calls Try.prog 3 #[x, .int .i64 most] w0 fun e w' => e = .returned (.bool true) ∧ Below w0.heap.size w0 w' := by
  have HC := hide C
  have HD := hide D
  have HR := hide hR
  have HX := hide hx
  obtain ⟨sp, c, rfl, _⟩ := ints_open hx
  have dl : decide (40 < (sz.length : Int)) = false := by simp; omega
  have dl2 : decide (40 < sz.length) = false := by simp; omega
  have szb : (sz.length : Int) ≤ 40 := by omega
  have g1 : decide (0 ≤ most) = true := by simp; omega
  have g2 : decide (most ≤ 255) = false := by simp; omega
  clear C D hR hx
  go_enter Try.func3, Try.ntmps3
  go_wp2_with fail
  refine (anchor_any (unhide HC) w0 (unhide HR)).mono ?_
  rintro e w ⟨rfl, hb1⟩
  have HR1 := hide ((unhide HC).below _ _ (unhide HR) hb1)
  have HB1 := hide hb1
  obtain ⟨sp1, c1, e1, _, _, hop⟩ := ints_open ((unhide HX).below hb1)
  simp only [Value.slice.injEq] at e1
  obtain ⟨rfl, _, rfl⟩ := e1
  have HOP := hide hop
  clear hb1 HR HX hop
  have HI : Hid (ShortIn w sz 0 (.slice none 0 0) [] w) := ⟨own_nil _ _ _, rfl, fun j hj => by omega, Below.refl _ _⟩
  have HQ0 : Hid (Tells false ((0 ≤ most ∧ most ≤ 255 ∧ sz.length ≤ 16) ∧ ∀ j, j < 0 → sz.getD j 0 = 256)) := ⟨fun h => (by cases h), fun h => by have := h.1.2.1; omega⟩
  go_wp2
  go_loopw [5, 6, 29] (fun rt v ii wr => ∃ (i : Nat) (rb : Bool) (vs : List Value), i ≤ sz.length ∧ ii = .int .i64 (i : Int) ∧ rt = .bool rb ∧ Hid (ShortIn w sz i v vs wr) ∧ Hid (∀ j, j < i → 0 ≤ sz.getD j 0 ∧ sz.getD j 0 ≤ 600) ∧ Hid (Tells rb ((0 ≤ most ∧ most ≤ 255 ∧ sz.length ≤ 16) ∧ ∀ j, j < i → sz.getD j 0 = 256))) (fun _ _ ii _ => sz.length - (intOf ii).toNat)
  case atStart => exact ⟨0, false, [], by omega, rfl, rfl, HI, fun j hj => by omega, HQ0⟩
  case round =>
    clear HI HQ0
    obtain ⟨i, rb, vs, hi, rfl, rfl, HI, HF, HQ⟩ := hrel
    by_cases hlt : i < sz.length
    · obtain ⟨b, o, rfl, hb, hcell⟩ := unhide HOP (by intro e; rw [e] at hlt; simp at hlt)
      have e1 : wr.cell? ⟨b, o + i, none⟩ = some (.int .i64 (sz.getD i 0)) := by rw [(unhide HI).bel.cell hb]; exact hcell i hlt
      have i0 : (0 : Int) ≤ (i : Int) := by omega
      have i1 : (i : Int) < (sz.length : Int) := by omega
      obtain ⟨y, hy⟩ : ∃ y, sz.getD i 0 = y := ⟨_, rfl⟩
      rw [hy] at e1
      have HY := hide hy
      clear hcell hy hb
      by_cases hy0 : y < 0
      · have HB2 := hide ((unhide HB1).trans ((unhide HI).bel.mono (unhide HB1).size))
        clear HI HF HQ
        go_wp2
        go_ret
        exact ⟨rfl, unhide HB2⟩
      · by_cases hy1 : 600 < y
        · have HB2 := hide ((unhide HB1).trans ((unhide HI).bel.mono (unhide HB1).size))
          have z0 : decide (y < 0) = false := by simp; omega
          clear HI HF HQ
          go_wp2
          go_ret
          exact ⟨rfl, unhide HB2⟩
        · cases rb
          · obtain ⟨N, rfl⟩ : ∃ N : Nat, y = (N : Int) := ⟨y.toNat, by omega⟩
            have hN : N ≤ 600 := by omega
            obtain ⟨W, hmk, hrow, hbel⟩ := made_vals Et rfl wr .i64 .i64 N (N : Int) (N : Int) rfl rfl (by omega)
            have hNe : (sz.getD i 0).toNat = N := by rw [unhide HY]; exact Int.toNat_natCast N
            have HAP := hide (fun v' w' => (unhide HI).append (v' := v') (w' := w') hNe hrow hN hbel)
            have hbA : Below w.heap.size w (W.alloc (.cells #[.slice (some ⟨wr.heap.size, 0, none⟩) N N] 25)) := ((unhide HI).bel.trans (hbel.mono (unhide HI).bel.size)).alloc (Nat.le_trans (unhide HI).bel.size hbel.size) _
            have HO := hide (((unhide HI).own.below hbel).alloc (.cells #[.slice (some ⟨wr.heap.size, 0, none⟩) N N] 25))
            have HV := hide (vals_new W [.slice (some ⟨wr.heap.size, 0, none⟩) N N] 25)
            have Hs := hide hbA.size
            have Hl := hide (show vs.length + [Value.slice (some ⟨wr.heap.size, 0, none⟩) N N].length ≤ 1073741824 by rw [(unhide HI).len, List.length_singleton]; omega)
            have HF2 : Hid (∀ j, j < i + 1 → 0 ≤ sz.getD j 0 ∧ sz.getD j 0 ≤ 600) := fun j hj => by
              rcases Nat.lt_or_ge j i with h | h
              · exact unhide HF j h
              · obtain rfl : j = i := by omega
                rw [unhide HY]; omega
            have HQ2 : Hid (Tells false ((0 ≤ most ∧ most ≤ 255 ∧ sz.length ≤ 16) ∧ ∀ j, j < i + 1 → sz.getD j 0 = 256)) := by
              show false = true ↔ _
              constructor
              · intro h; cases h
              · intro h
                have := (unhide HQ).2 ⟨h.1, fun j hj => h.2 j (by omega)⟩
                cases this
            have nb : (N : Int) ≤ 600 := by omega
            have nb0 : (0 : Int) ≤ (N : Int) := by omega
            have z0 : decide ((N : Int) < 0) = false := by simp
            have z1 : decide (600 < (N : Int)) = false := by simp; omega
            have z1' : decide (600 < N) = false := by simp; omega
            clear hrow hbel hNe hbA HI HF HQ
            go_wp2_with (at_builtin; refine wpList_append_vals El rfl _ _ rfl w.heap.size _ _ vs [.slice (some ⟨wr.heap.size, 0, none⟩) N N] rfl (unhide HO) rfl (unhide HV) (by simp [Value.oneCell']) (unhide Hs) (unhide Hl) ?_
                         intro v2 w2 hO2 hg2 hbl2
                         have HI2 := hide (unhide HAP v2 w2 hO2 hg2 hbl2)
                         clear hO2 hg2 hbl2)
            go_roundw
            case rel =>
              first
                | exact ⟨i + 1, false, _, by omega, by go_num, rfl, HI2, HF2, HQ2⟩
                | ((repeat apply Exists.intro); exact ⟨⟨i + 1, false, _, by omega, by go_num, rfl, HI2, HF2, HQ2⟩, rfl⟩)
            case measure => simp [intOf]; omega
          · by_cases h256 : y = 256
            · obtain ⟨N, rfl⟩ : ∃ N : Nat, y = (N : Int) := ⟨y.toNat, by omega⟩
              have hN : N ≤ 600 := by omega
              obtain ⟨W, hmk, hrow, hbel⟩ := made_vals Et rfl wr .i64 .i64 N (N : Int) (N : Int) rfl rfl (by omega)
              have hNe : (sz.getD i 0).toNat = N := by rw [unhide HY]; exact Int.toNat_natCast N
              have HAP := hide (fun v' w' => (unhide HI).append (v' := v') (w' := w') hNe hrow hN hbel)
              have hbA : Below w.heap.size w (W.alloc (.cells #[.slice (some ⟨wr.heap.size, 0, none⟩) N N] 25)) := ((unhide HI).bel.trans (hbel.mono (unhide HI).bel.size)).alloc (Nat.le_trans (unhide HI).bel.size hbel.size) _
              have HO := hide (((unhide HI).own.below hbel).alloc (.cells #[.slice (some ⟨wr.heap.size, 0, none⟩) N N] 25))
              have HV := hide (vals_new W [.slice (some ⟨wr.heap.size, 0, none⟩) N N] 25)
              have Hs := hide hbA.size
              have Hl := hide (show vs.length + [Value.slice (some ⟨wr.heap.size, 0, none⟩) N N].length ≤ 1073741824 by rw [(unhide HI).len, List.length_singleton]; omega)
              have HF2 : Hid (∀ j, j < i + 1 → 0 ≤ sz.getD j 0 ∧ sz.getD j 0 ≤ 600) := fun j hj => by
                rcases Nat.lt_or_ge j i with h | h
                · exact unhide HF j h
                · obtain rfl : j = i := by omega
                  rw [unhide HY]; omega
              have HQ2 : Hid (Tells true ((0 ≤ most ∧ most ≤ 255 ∧ sz.length ≤ 16) ∧ ∀ j, j < i + 1 → sz.getD j 0 = 256)) := by
                show true = true ↔ _
                constructor
                · intro _
                  have := (unhide HQ).1 rfl
                  refine ⟨this.1, fun j hj => ?_⟩
                  rcases Nat.lt_or_ge j i with h | h
                  · exact this.2 j h
                  · obtain rfl : j = i := by omega
                    rw [unhide HY]; omega
                · intro _; rfl
              have qn : ((N : Int) == 256) = true := by simp; omega
              clear h256
              have nb : (N : Int) ≤ 600 := by omega
              have nb0 : (0 : Int) ≤ (N : Int) := by omega
              have z0 : decide ((N : Int) < 0) = false := by simp
              have z1 : decide (600 < (N : Int)) = false := by simp; omega
              have z1' : decide (600 < N) = false := by simp; omega
              clear hrow hbel hNe hbA HI HF HQ
              go_wp2_with (at_builtin; refine wpList_append_vals El rfl _ _ rfl w.heap.size _ _ vs [.slice (some ⟨wr.heap.size, 0, none⟩) N N] rfl (unhide HO) rfl (unhide HV) (by simp [Value.oneCell']) (unhide Hs) (unhide Hl) ?_
                           intro v2 w2 hO2 hg2 hbl2
                           have HI2 := hide (unhide HAP v2 w2 hO2 hg2 hbl2)
                           clear hO2 hg2 hbl2)
              go_roundw
              case rel =>
                first
                  | exact ⟨i + 1, true, _, by omega, by go_num, rfl, HI2, HF2, HQ2⟩
                  | ((repeat apply Exists.intro); exact ⟨⟨i + 1, true, _, by omega, by go_num, rfl, HI2, HF2, HQ2⟩, rfl⟩)
              case measure => simp [intOf]; omega
            · obtain ⟨N, rfl⟩ : ∃ N : Nat, y = (N : Int) := ⟨y.toNat, by omega⟩
              have hN : N ≤ 600 := by omega
              obtain ⟨W, hmk, hrow, hbel⟩ := made_vals Et rfl wr .i64 .i64 N (N : Int) (N : Int) rfl rfl (by omega)
              have hNe : (sz.getD i 0).toNat = N := by rw [unhide HY]; exact Int.toNat_natCast N
              have HAP := hide (fun v' w' => (unhide HI).append (v' := v') (w' := w') hNe hrow hN hbel)
              have hbA : Below w.heap.size w (W.alloc (.cells #[.slice (some ⟨wr.heap.size, 0, none⟩) N N] 25)) := ((unhide HI).bel.trans (hbel.mono (unhide HI).bel.size)).alloc (Nat.le_trans (unhide HI).bel.size hbel.size) _
              have HO := hide (((unhide HI).own.below hbel).alloc (.cells #[.slice (some ⟨wr.heap.size, 0, none⟩) N N] 25))
              have HV := hide (vals_new W [.slice (some ⟨wr.heap.size, 0, none⟩) N N] 25)
              have Hs := hide hbA.size
              have Hl := hide (show vs.length + [Value.slice (some ⟨wr.heap.size, 0, none⟩) N N].length ≤ 1073741824 by rw [(unhide HI).len, List.length_singleton]; omega)
              have HF2 : Hid (∀ j, j < i + 1 → 0 ≤ sz.getD j 0 ∧ sz.getD j 0 ≤ 600) := fun j hj => by
                rcases Nat.lt_or_ge j i with h | h
                · exact unhide HF j h
                · obtain rfl : j = i := by omega
                  rw [unhide HY]; omega
              have HQ2 : Hid (Tells false ((0 ≤ most ∧ most ≤ 255 ∧ sz.length ≤ 16) ∧ ∀ j, j < i + 1 → sz.getD j 0 = 256)) := by
                show false = true ↔ _
                constructor
                · intro h; cases h
                · intro h
                  have := h.2 i (by omega)
                  rw [unhide HY] at this
                  omega
              have qn : ((N : Int) == 256) = false := by simp; omega
              have nb : (N : Int) ≤ 600 := by omega
              have nb0 : (0 : Int) ≤ (N : Int) := by omega
              have z0 : decide ((N : Int) < 0) = false := by simp
              have z1 : decide (600 < (N : Int)) = false := by simp; omega
              have z1' : decide (600 < N) = false := by simp; omega
              clear hrow hbel hNe hbA HI HF HQ
              go_wp2_with (at_builtin; refine wpList_append_vals El rfl _ _ rfl w.heap.size _ _ vs [.slice (some ⟨wr.heap.size, 0, none⟩) N N] rfl (unhide HO) rfl (unhide HV) (by simp [Value.oneCell']) (unhide Hs) (unhide Hl) ?_
                           intro v2 w2 hO2 hg2 hbl2
                           have HI2 := hide (unhide HAP v2 w2 hO2 hg2 hbl2)
                           clear hO2 hg2 hbl2)
              go_roundw
              case rel =>
                first
                  | exact ⟨i + 1, false, _, by omega, by go_num, rfl, HI2, HF2, HQ2⟩
                  | ((repeat apply Exists.intro); exact ⟨⟨i + 1, false, _, by omega, by go_num, rfl, HI2, HF2, HQ2⟩, rfl⟩)
              case measure => simp [intOf]; omega
    · obtain rfl : i = sz.length := by omega
      have h0 : ∀ n ∈ sz, 0 ≤ n ∧ n ≤ 600 := fun n hn => by
        obtain ⟨j, hj, rfl⟩ := List.getElem_of_mem hn
        have := unhide HF j hj
        rwa [List.getD_eq_getElem?_getD, List.getElem?_eq_getElem hj] at this
      have hiff : Hintable most (noughts sz) ↔ rb = true := by
        have hq : rb = true ↔ _ := unhide HQ
        rw [noughts_hint sz most (fun n hn => (h0 n hn).1), hq]
        constructor
        · rintro ⟨a, b, c, d⟩
          exact ⟨⟨a, b, c⟩, fun j hj => by rw [List.getD_eq_getElem?_getD, List.getElem?_eq_getElem hj]; exact d _ (List.getElem_mem hj)⟩
        · rintro ⟨⟨a, b, c⟩, d⟩
          refine ⟨a, b, c, fun n hn => ?_⟩
          obtain ⟨j, hj, rfl⟩ := List.getElem_of_mem hn
          have := d j hj
          rwa [List.getD_eq_getElem?_getD, List.getElem?_eq_getElem hj] at this
      have HLs := hide (unhide HI).lists
      have HRo := hide ((unhide HC).below _ _ (unhide HR1) (unhide HI).bel)
      have HBo := hide ((unhide HB1).trans ((unhide HI).bel.mono (unhide HB1).size))
      have hnl : (noughts sz).length = sz.length := by simp [noughts]
      have h600 : ∀ l ∈ noughts sz, l.length ≤ 1000 := fun l hl => by
        obtain ⟨n, hn, rfl⟩ := List.mem_map.1 hl
        have := h0 n hn
        rw [List.length_replicate]; omega
      have H600 := hide h600
      have HIFF := hide hiff
      clear HI HF HQ h0 hiff h600
      go_wp2_with fail
      refine ((unhide HD).packH wr _ (noughts sz) most (unhide HRo) (unhide HLs) (by omega) (unhide H600)).mono ?_
      rintro e w2 (⟨hH, v2, rfl, hO2, hb2⟩ | ⟨hH, v2, rfl, hO2, hb2⟩)
      · obtain rfl : rb = true := (unhide HIFF).1 hH
        have m0 := hH.1
        have m1 := hH.2.1
        have hlen : (bvals (hintBytes most.toNat (noughts sz))).length = most.toNat + sz.length := by rw [len_bvals, len_hint (by rw [places_noughts]; simp), hnl]
        obtain ⟨sp2, c2, hv2⟩ := hO2.form
        rw [hlen] at hv2
        subst hv2
        obtain ⟨M, rfl⟩ : ∃ M : Nat, most = (M : Int) := ⟨most.toNat, by omega⟩
        rw [Int.toNat_natCast]
        have HB2 := hide ((unhide HBo).trans (hb2.mono (unhide HBo).size))
        have q1 : (((M + sz.length : Nat) : Int) == (M : Int) + (sz.length : Int)) = true := by simp
        have mb : (M : Int) ≤ 255 := by omega
        clear hO2 hb2 hH hlen HIFF HBo HRo HLs H600
        go_wp2
        go_ret
        exact ⟨rfl, unhide HB2⟩
      · have hrb : rb = false := by
          cases rb
          · rfl
          · exact absurd ((unhide HIFF).2 rfl) hH
        subst hrb
        obtain ⟨sp2, c2, rfl⟩ := hO2.form
        have HB2 := hide ((unhide HBo).trans (hb2.mono (unhide HBo).size))
        clear hO2 hb2 hH HIFF HBo HRo HLs H600
        go_wp2
        go_ret
        exact ⟨rfl, unhide HB2⟩
set_option maxRecDepth 100000 in
set_option maxHeartbeats 4000000 in
theorem short_d {R : World → Prop} (C : Round R) (D : RoundH R) (w0 : World) (hR : R w0) (x : Value) (sz : List Int) (hx : ValsAt w0 x (ivals sz)) (hl : sz.length ≤ 40) (most : Int) (h1 : ¬ 0 ≤ most) :
    Calls Try.prog 3 #[x, .int .i64 most] w0 fun e w' => e = .returned (.bool true) ∧ Below w0.heap.size w0 w' := by
  have HC := hide C
  have HD := hide D
  have HR := hide hR
  have HX := hide hx
  obtain ⟨sp, c, rfl, _⟩ := ints_open hx
  have dl : decide (40 < (sz.length : Int)) = false := by simp; omega
  have dl2 : decide (40 < sz.length) = false := by simp; omega
  have szb : (sz.length : Int) ≤ 40 := by omega
  have g1 : decide (0 ≤ most) = false := by simp; omega
  clear C D hR hx
  go_enter Try.func3, Try.ntmps3
  go_wp2_with fail
  refine (anchor_any (unhide HC) w0 (unhide HR)).mono ?_
  rintro e w ⟨rfl, hb1⟩
  have HR1 := hide ((unhide HC).below _ _ (unhide HR) hb1)
  have HB1 := hide hb1
  obtain ⟨sp1, c1, e1, _, _, hop⟩ := ints_open ((unhide HX).below hb1)
  simp only [Value.slice.injEq] at e1
  obtain ⟨rfl, _, rfl⟩ := e1
  have HOP := hide hop
  clear hb1 HR HX hop
  have HI : Hid (ShortIn w sz 0 (.slice none 0 0) [] w) := ⟨own_nil _ _ _, rfl, fun j hj => by omega, Below.refl _ _⟩
  have HQ0 : Hid (Tells false ((0 ≤ most ∧ most ≤ 255 ∧ sz.length ≤ 16) ∧ ∀ j, j < 0 → sz.getD j 0 = 256)) := ⟨fun h => (by cases h), fun h => by have := h.1.1; omega⟩
  go_wp2
  go_loopw [5, 6, 29] (fun rt v ii wr => ∃ (i : Nat) (rb : Bool) (vs : List Value), i ≤ sz.length ∧ ii = .int .i64 (i : Int) ∧ rt = .bool rb ∧ Hid (ShortIn w sz i v vs wr) ∧ Hid (∀ j, j < i → 0 ≤ sz.getD j 0 ∧ sz.getD j 0 ≤ 600) ∧ Hid (Tells rb ((0 ≤ most ∧ most ≤ 255 ∧ sz.length ≤ 16) ∧ ∀ j, j < i → sz.getD j 0 = 256))) (fun _ _ ii _ => sz.length - (intOf ii).toNat)
  case atStart => exact ⟨0, false, [], by omega, rfl, rfl, HI, fun j hj => by omega, HQ0⟩
  case round =>
    clear HI HQ0
    obtain ⟨i, rb, vs, hi, rfl, rfl, HI, HF, HQ⟩ := hrel
    by_cases hlt : i < sz.length
    · obtain ⟨b, o, rfl, hb, hcell⟩ := unhide HOP (by intro e; rw [e] at hlt; simp at hlt)
      have e1 : wr.cell? ⟨b, o + i, none⟩ = some (.int .i64 (sz.getD i 0)) := by rw [(unhide HI).bel.cell hb]; exact hcell i hlt
      have i0 : (0 : Int) ≤ (i : Int) := by omega
      have i1 : (i : Int) < (sz.length : Int) := by omega
      obtain ⟨y, hy⟩ : ∃ y, sz.getD i 0 = y := ⟨_, rfl⟩
      rw [hy] at e1
      have HY := hide hy
      clear hcell hy hb
      by_cases hy0 : y < 0
      · have HB2 := hide ((unhide HB1).trans ((unhide HI).bel.mono (unhide HB1).size))
        clear HI HF HQ
        go_wp2
        go_ret
        exact ⟨rfl, unhide HB2⟩
      · by_cases hy1 : 600 < y
        · have HB2 := hide ((unhide HB1).trans ((unhide HI).bel.mono (unhide HB1).size))
          have z0 : decide (y < 0) = false := by simp; omega
          clear HI HF HQ
          go_wp2
          go_ret
          exact ⟨rfl, unhide HB2⟩
        · cases rb
          · obtain ⟨N, rfl⟩ : ∃ N : Nat, y = (N : Int) := ⟨y.toNat, by omega⟩
            have hN : N ≤ 600 := by omega
            obtain ⟨W, hmk, hrow, hbel⟩ := made_vals Et rfl wr .i64 .i64 N (N : Int) (N : Int) rfl rfl (by omega)
            have hNe : (sz.getD i 0).toNat = N := by rw [unhide HY]; exact Int.toNat_natCast N
            have HAP := hide (fun v' w' => (unhide HI).append (v' := v') (w' := w') hNe hrow hN hbel)
            have hbA : Below w.heap.size w (W.alloc (.cells #[.slice (some ⟨wr.heap.size, 0, none⟩) N N] 25)) := ((unhide HI).bel.trans (hbel.mono (unhide HI).bel.size)).alloc (Nat.le_trans (unhide HI).bel.size hbel.size) _
            have HO := hide (((unhide HI).own.below hbel).alloc (.cells #[.slice (some ⟨wr.heap.size, 0, none⟩) N N] 25))
            have HV := hide (vals_new W [.slice (some ⟨wr.heap.size, 0, none⟩) N N] 25)
            have Hs := hide hbA.size
            have Hl := hide (show vs.length + [Value.slice (some ⟨wr.heap.size, 0, none⟩) N N].length ≤ 1073741824 by rw [(unhide HI).len, List.length_singleton]; omega)
            have HF2 : Hid (∀ j, j < i + 1 → 0 ≤ sz.getD j 0 ∧ sz.getD j 0 ≤ 600) := fun j hj => by
              rcases Nat.lt_or_ge j i with h | h
              · exact unhide HF j h
              · obtain rfl : j = i := by omega
                rw [unhide HY]; omega
            have HQ2 : Hid (Tells false ((0 ≤ most ∧ most ≤ 255 ∧ sz.length ≤ 16) ∧ ∀ j, j < i + 1 → sz.getD j 0 = 256)) := by
              show false = true ↔ _
              constructor
              · intro h; cases h
              · intro h
                have := (unhide HQ).2 ⟨h.1, fun j hj => h.2 j (by omega)⟩
                cases this
            have nb : (N : Int) ≤ 600 := by omega
            have nb0 : (0 : Int) ≤ (N : Int) := by omega
            have z0 : decide ((N : Int) < 0) = false := by simp
            have z1 : decide (600 < (N : Int)) = false := by simp; omega
            have z1' : decide (600 < N) = false := by simp; omega
            clear hrow hbel hNe hbA HI HF HQ
            go_wp2_with (at_builtin; refine wpList_append_vals El rfl _ _ rfl w.heap.size _ _ vs [.slice (some ⟨wr.heap.size, 0, none⟩) N N] rfl (unhide HO) rfl (unhide HV) (by simp [Value.oneCell']) (unhide Hs) (unhide Hl) ?_
                         intro v2 w2 hO2 hg2 hbl2
                         have HI2 := hide (unhide HAP v2 w2 hO2 hg2 hbl2)
                         clear hO2 hg2 hbl2)
            go_roundw
            case rel =>
              first
                | exact ⟨i + 1, false, _, by omega, by go_num, rfl, HI2, HF2, HQ2⟩
                | ((repeat apply Exists.intro); exact ⟨⟨i + 1, false, _, by omega, by go_num, rfl, HI2, HF2, HQ2⟩, rfl⟩)
            case measure => simp [intOf]; omega
          · by_cases h256 : y = 256
            · obtain ⟨N, rfl⟩ : ∃ N : Nat, y = (N : Int) := ⟨y.toNat, by omega⟩
              have hN : N ≤ 600 := by omega
              obtain ⟨W, hmk, hrow, hbel⟩ := made_vals Et rfl wr .i64 .i64 N (N : Int) (N : Int) rfl rfl (by omega)
              have hNe : (sz.getD i 0).toNat = N := by rw [unhide HY]; exact Int.toNat_natCast N
              have HAP := hide (fun v' w' => (unhide HI).append (v' := v') (w' := w') hNe hrow hN hbel)
              have hbA : Below w.heap.size w (W.alloc (.cells #[.slice (some ⟨wr.heap.size, 0, none⟩) N N] 25)) := ((unhide HI).bel.trans (hbel.mono (unhide HI).bel.size)).alloc (Nat.le_trans (unhide HI).bel.size hbel.size) _
              have HO := hide (((unhide HI).own.below hbel).alloc (.cells #[.slice (some ⟨wr.heap.size, 0, none⟩) N N] 25))
              have HV := hide (vals_new W [.slice (some ⟨wr.heap.size, 0, none⟩) N N] 25)
              have Hs := hide hbA.size
              have Hl := hide (show vs.length + [Value.slice (some ⟨wr.heap.size, 0, none⟩) N N].length ≤ 1073741824 by rw [(unhide HI).len, List.length_singleton]; omega)
              have HF2 : Hid (∀ j, j < i + 1 → 0 ≤ sz.getD j 0 ∧ sz.getD j 0 ≤ 600) := fun j hj => by
                rcases Nat.lt_or_ge j i with h | h
                · exact unhide HF j h
                · obtain rfl : j = i := by omega
                  rw [unhide HY]; omega
              have HQ2 : Hid (Tells true ((0 ≤ most ∧ most ≤ 255 ∧ sz.length ≤ 16) ∧ ∀ j, j < i + 1 → sz.getD j 0 = 256)) := by
                show true = true ↔ _
                constructor
                · intro _
                  have := (unhide HQ).1 rfl
                  refine ⟨this.1, fun j hj => ?_⟩
                  rcases Nat.lt_or_ge j i with h | h
                  · exact this.2 j h
                  · obtain rfl : j = i := by omega
                    rw [unhide HY]; omega
                · intro _; rfl
              have qn : ((N : Int) == 256) = true := by simp; omega
              clear h256
              have nb : (N : Int) ≤ 600 := by omega
              have nb0 : (0 : Int) ≤ (N : Int) := by omega
              have z0 : decide ((N : Int) < 0) = false := by simp
              have z1 : decide (600 < (N : Int)) = false := by simp; omega
              have z1' : decide (600 < N) = false := by simp; omega
              clear hrow hbel hNe hbA HI HF HQ
              go_wp2_with (at_builtin; refine wpList_append_vals El rfl _ _ rfl w.heap.size _ _ vs [.slice (some ⟨wr.heap.size, 0, none⟩) N N] rfl (unhide HO) rfl (unhide HV) (by simp [Value.oneCell']) (unhide Hs) (unhide Hl) ?_
                           intro v2 w2 hO2 hg2 hbl2
                           have HI2 := hide (unhide HAP v2 w2 hO2 hg2 hbl2)
                           clear hO2 hg2 hbl2)
              go_roundw
              case rel =>
                first
                  | exact ⟨i + 1, true, _, by omega, by go_num, rfl, HI2, HF2, HQ2⟩
                  | ((repeat apply Exists.intro); exact ⟨⟨i + 1, true, _, by omega, by go_num, rfl, HI2, HF2, HQ2⟩, rfl⟩)
              case measure => simp [intOf]; omega
            · obtain ⟨N, rfl⟩ : ∃ N : Nat, y = (N : Int) := ⟨y.toNat, by omega⟩
              have hN : N ≤ 600 := by omega
              obtain ⟨W, hmk, hrow, hbel⟩ := made_vals Et rfl wr .i64 .i64 N (N : Int) (N : Int) rfl rfl (by omega)
              have hNe : (sz.getD i 0).toNat = N := by rw [unhide HY]; exact Int.toNat_natCast N
              have HAP := hide (fun v' w' => (unhide HI).append (v' := v') (w' := w') hNe hrow hN hbel)
              have hbA : Below w.heap.size w (W.alloc (.cells #[.slice (some ⟨wr.heap.size, 0, none⟩) N N] 25)) := ((unhide HI).bel.trans (hbel.mono (unhide HI).bel.size)).alloc (Nat.le_trans (unhide HI).bel.size hbel.size) _
              have HO := hide (((unhide HI).own.below hbel).alloc (.cells #[.slice (some ⟨wr.heap.size, 0, none⟩) N N] 25))
              have HV := hide (vals_new W [.slice (some ⟨wr.heap.size, 0, none⟩) N N] 25)
              have Hs := hide hbA.size
              have Hl := hide (show vs.length + [Value.slice (some ⟨wr.heap.size, 0, none⟩) N N].length ≤ 1073741824 by rw [(unhide HI).len, List.length_singleton]; omega)
              have HF2 : Hid (∀ j, j < i + 1 → 0 ≤ sz.getD j 0 ∧ sz.getD j 0 ≤ 600) := fun j hj => by
                rcases Nat.lt_or_ge j i with h | h
                · exact unhide HF j h
                · obtain rfl : j = i := by omega
                  rw [unhide HY]; omega
              have HQ2 : Hid (Tells false ((0 ≤ most ∧ most ≤ 255 ∧ sz.length ≤ 16) ∧ ∀ j, j < i + 1 → sz.getD j 0 = 256)) := by
                show false = true ↔ _
                constructor
                · intro h; cases h
                · intro h
                  have := h.2 i (by omega)
                  rw [unhide HY] at this
                  omega
              have qn : ((N : Int) == 256) = false := by simp; omega
              have nb : (N : Int) ≤ 600 := by omega
              have nb0 : (0 : Int) ≤ (N : Int) := by omega
              have z0 : decide ((N : Int) < 0) = false := by simp
              have z1 : decide (600 < (N : Int)) = false := by simp; omega
              have z1' : decide (600 < N) = false := by simp; omega
              clear hrow hbel hNe hbA HI HF HQ
              go_wp2_with (at_builtin; refine wpList_append_vals El rfl _ _ rfl w.heap.size _ _ vs [.slice (some ⟨wr.heap.size, 0, none⟩) N N] rfl (unhide HO) rfl (unhide HV) (by simp [Value.oneCell']) (unhide Hs) (unhide Hl) ?_
                           intro v2 w2 hO2 hg2 hbl2
                           have HI2 := hide (unhide HAP v2 w2 hO2 hg2 hbl2)
                           clear hO2 hg2 hbl2)
              go_roundw
              case rel =>
                first
                  | exact ⟨i + 1, false, _, by omega, by go_num, rfl, HI2, HF2, HQ2⟩
                  | ((repeat apply Exists.intro); exact ⟨⟨i + 1, false, _, by omega, by go_num, rfl, HI2, HF2, HQ2⟩, rfl⟩)
              case measure => simp [intOf]; omega
    · obtain rfl : i = sz.length := by omega
      have h0 : ∀ n ∈ sz, 0 ≤ n ∧ n ≤ 600 := fun n hn => by
        obtain ⟨j, hj, rfl⟩ := List.getElem_of_mem hn
        have := unhide HF j hj
        rwa [List.getD_eq_getElem?_getD, List.getElem?_eq_getElem hj] at this
      have hiff : Hintable most (noughts sz) ↔ rb = true := by
        have hq : rb = true ↔ _ := unhide HQ
        rw [noughts_hint sz most (fun n hn => (h0 n hn).1), hq]
        constructor
        · rintro ⟨a, b, c, d⟩
          exact ⟨⟨a, b, c⟩, fun j hj => by rw [List.getD_eq_getElem?_getD, List.getElem?_eq_getElem hj]; exact d _ (List.getElem_mem hj)⟩
        · rintro ⟨⟨a, b, c⟩, d⟩
          refine ⟨a, b, c, fun n hn => ?_⟩
          obtain ⟨j, hj, rfl⟩ := List.getElem_of_mem hn
          have := d j hj
          rwa [List.getD_eq_getElem?_getD, List.getElem?_eq_getElem hj] at this
      have HLs := hide (unhide HI).lists
      have HRo := hide ((unhide HC).below _ _ (unhide HR1) (unhide HI).bel)
      have HBo := hide ((unhide HB1).trans ((unhide HI).bel.mono (unhide HB1).size))
      have hnl : (noughts sz).length = sz.length := by simp [noughts]
      have h600 : ∀ l ∈ noughts sz, l.length ≤ 1000 := fun l hl => by
        obtain ⟨n, hn, rfl⟩ := List.mem_map.1 hl
        have := h0 n hn
        rw [List.length_replicate]; omega
      have H600 := hide h600
      have HIFF := hide hiff
      clear HI HF HQ h0 hiff h600
      go_wp2_with fail
      refine ((unhide HD).packH wr _ (noughts sz) most (unhide HRo) (unhide HLs) (by omega) (unhide H600)).mono ?_
      rintro e w2 (⟨hH, v2, rfl, hO2, hb2⟩ | ⟨hH, v2, rfl, hO2, hb2⟩)
      · obtain rfl : rb = true := (unhide HIFF).1 hH
        have m0 := hH.1
        have m1 := hH.2.1
        have hlen : (bvals (hintBytes most.toNat (noughts sz))).length = most.toNat + sz.length := by rw [len_bvals, len_hint (by rw [places_noughts]; simp), hnl]
        obtain ⟨sp2, c2, hv2⟩ := hO2.form
        rw [hlen] at hv2
        subst hv2
        obtain ⟨M, rfl⟩ : ∃ M : Nat, most = (M : Int) := ⟨most.toNat, by omega⟩
        rw [Int.toNat_natCast]
        have HB2 := hide ((unhide HBo).trans (hb2.mono (unhide HBo).size))
        have q1 : (((M + sz.length : Nat) : Int) == (M : Int) + (sz.length : Int)) = true := by simp
        have mb : (M : Int) ≤ 255 := by omega
        clear hO2 hb2 hH hlen HIFF HBo HRo HLs H600
        go_wp2
        go_ret
        exact ⟨rfl, unhide HB2⟩
      · have hrb : rb = false := by
          cases rb
          · rfl
          · exact absurd ((unhide HIFF).2 rfl) hH
        subst hrb
        obtain ⟨sp2, c2, rfl⟩ := hO2.form
        have HB2 := hide ((unhide HBo).trans (hb2.mono (unhide HBo).size))
        clear hO2 hb2 hH HIFF HBo HRo HLs H600
        go_wp2
        go_ret
        exact ⟨rfl, unhide HB2⟩
set_option maxRecDepth 100000 in
set_option maxHeartbeats 2000000 in
theorem roundShort_any {R : World → Prop} (C : Round R) (D : RoundH R) (w : World) (hR : R w) (x : Value) (sz : List Int) (hx : ValsAt w x (ivals sz)) (most : Int) :
    Calls Try.prog 3 #[x, .int .i64 most] w fun e w' => e = .returned (.bool true) ∧ Below w.heap.size w w' := by
  by_cases hl : sz.length ≤ 40
  · by_cases h1 : 0 ≤ most
    · by_cases h2 : most ≤ 255
      · by_cases h3 : sz.length ≤ 16
        · exact short_a C D w hR x sz hx hl most h1 h2 h3
        · exact short_b C D w hR x sz hx hl most h1 h2 h3
      · exact short_c C D w hR x sz hx hl most h1 h2
    · exact short_d C D w hR x sz hx hl most h1
  · have HC := hide C
    have HR := hide hR
    obtain ⟨sp, c, rfl, _⟩ := ints_open hx
    have dl : decide (40 < (sz.length : Int)) = true := by simp; omega
    have dl2 : decide (40 < sz.length) = true := by simp; omega
    clear C D hR hx
    go_enter Try.func3, Try.ntmps3
    go_wp2_with fail
    refine (anchor_any (unhide HC) w (unhide HR)).mono ?_
    rintro e w1 ⟨rfl, hb1⟩
    have HB1 := hide hb1
    clear hb1
    go_wp2
    go_ret
    exact ⟨rfl, unhide HB1⟩
end Go.Proofs.Ythciafobknaipab
