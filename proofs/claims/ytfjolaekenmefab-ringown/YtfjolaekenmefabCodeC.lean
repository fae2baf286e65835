/-
  Numbers at the front of a block; the walks of Clone, part and join.
-/
import Derived.Test.YtfjolaekenmefabCodeB
import Derived.Test.YtfjolaekenmefabButt
import Derived.Lib.SliceRun
namespace Go.Proofs.Ytfjolaekenmefab
open Go.RowKit
/-- Numbers at the front of a block of their own; behind them whatever there is. -/
def RowAt (w : World) (B : Nat) (rest : List Value) (l : List Int) : Prop := w.heap[B]? = some (.cells (l.map nv ++ rest).toArray 3 (0, 0))
theorem RowAt.cell {w : World} {B : Nat} {rest : List Value} {l : List Int} (h : RowAt w B rest l) (i : Nat) (hi : i < l.length) : w.cell? ⟨B, i, none⟩ = some (.int .i64 (coef l i)) := by
  rw [cell_of_row w B i _ 3 (0, 0) h, List.getElem?_toArray, List.getElem?_append_left (by rw [List.length_map]; exact hi)]
  simp [nv, coef, List.getD_eq_getElem?_getD, hi]
theorem RowAt.frozen {w : World} {B : Nat} {rest : List Value} {l : List Int} (h : RowAt w B rest l) (i : Nat) : w.frozen? ⟨B, i, none⟩ = false := frozen_of_row w B i _ 3 h
theorem RowAt.set {w : World} {B : Nat} {rest : List Value} {l : List Int} (h : RowAt w B rest l) (i : Nat) (hi : i < l.length) (x : Int) : RowAt (w.setCell ⟨B, i, none⟩ (.int .i64 x)) B rest (l.set i x) := by
  unfold RowAt
  rw [heap_setCell_same w B i _ 3 _ h, List.setIfInBounds_toArray, List.set_append_left i _ (by rw [List.length_map]; exact hi), List.map_set]
  rfl
theorem RowAt.drew {w : World} {B : Nat} {rest : List Value} {l : List Int} (h : RowAt w B rest l) : RowAt w.drew B rest l := h
theorem RowAt.lt {w : World} {B : Nat} {rest : List Value} {l : List Int} (h : RowAt w B rest l) : B < w.heap.size := (Array.getElem?_eq_some_iff.1 h).1
theorem RowAt.own {w : World} {B base : Nat} {rest : List Value} {l : List Int} (h : RowAt w B rest l) (hB : base ≤ B) (n cap : Nat) (hl : l.length = n) (hc : n + rest.length = cap) (hm : cap ≤ maxLen) : OwnI w base (.slice (some ⟨B, 0, none⟩) n cap) l := by
  subst hl
  subst hc
  refine ⟨by simp, Or.inr ⟨B, l.length + rest.length, _, rfl, hB, h, by omega, hm, by simp, ?_⟩⟩
  rw [List.toList_toArray, Nat.mul_one]
  exact List.take_left' (by simp)
theorem OwnI.row {w : World} {base : Nat} {v : Value} {l : List Int} (h : OwnI w base v l) (hl : l.length = 256) : ∃ B rest cap, v = .slice (some ⟨B, 0, none⟩) 256 cap ∧ base ≤ B ∧ 256 + rest.length = cap ∧ cap ≤ maxLen ∧ RowAt w B rest l := by
  obtain ⟨_, h2⟩ := h
  rcases h2 with ⟨_, hn⟩ | ⟨b, cap, cur, rfl, hb, hh, hn, hm, hs, ht⟩
  · omega
  · rw [Nat.mul_one] at hs ht
    have e : cur = (l.map nv ++ cur.toList.drop l.length).toArray := by
      rw [← ht, List.take_append_drop, Array.toArray_toList]
    refine ⟨b, cur.toList.drop l.length, cap, by rw [hl], hb, ?_, hm, ?_⟩
    · rw [List.length_drop, Array.length_toList]; omega
    · unfold RowAt
      rw [← e]; exact hh
/-- Pairs of numbers h apart, the first k of them turned: f in place of the first, g of the second. -/
structure PairsTo (f g : Int → Int → Int) (p h k : Nat) (l l1 : List Int) : Prop where
  poly : Poly l1
  low : ∀ j, j < k → Eqv (coef l1 (p + j)) (f (coef l (p + j)) (coef l (p + j + h)))
  high : ∀ j, j < k → Eqv (coef l1 (p + j + h)) (g (coef l (p + j)) (coef l (p + j + h)))
  rest : ∀ t, t < p ∨ (p + k ≤ t ∧ t < p + h) ∨ p + h + k ≤ t → coef l1 t = coef l t
theorem pairs_start {f g : Int → Int → Int} {p h : Nat} {l : List Int} (hp : Poly l) : PairsTo f g p h 0 l l := ⟨hp, fun j hj => by omega, fun j hj => by omega, fun _ _ => rfl⟩
theorem PairsTo.step {f g : Int → Int → Int} {p h k : Nat} {l l1 : List Int} (H : PairsTo f g p h k l l1) (hk : k < h) (hph : p + 2 * h ≤ 256) (v1 v2 : Int) (a0 : 0 ≤ v1) (a1 : v1 < 8380417) (b0 : 0 ≤ v2) (b1 : v2 < 8380417)
    (e1 : Eqv v1 (f (coef l (p + k)) (coef l (p + k + h)))) (e2 : Eqv v2 (g (coef l (p + k)) (coef l (p + k + h)))) : PairsTo f g p h (k + 1) l ((l1.set (p + k) v1).set (p + h + k) v2) := by
  have hl : l1.length = 256 := H.poly.1
  have hc : ∀ t, coef ((l1.set (p + k) v1).set (p + h + k) v2) t = if t = p + h + k then v2 else if t = p + k then v1 else coef l1 t := fun t => by
    rw [coef_set _ _ _ (by rw [List.length_set]; omega), coef_set _ _ _ (by omega)]
  refine ⟨poly_set (poly_set H.poly _ _ a0 a1) _ _ b0 b1, fun j hj => ?_, fun j hj => ?_, fun t ht => ?_⟩
  · rw [hc, if_neg (by omega)]
    rcases Nat.lt_or_ge j k with h1 | h1
    · rw [if_neg (by omega)]; exact H.low j h1
    · obtain rfl : j = k := by omega
      rw [if_pos rfl]; exact e1
  · rw [hc]
    rcases Nat.lt_or_ge j k with h1 | h1
    · rw [if_neg (by omega), if_neg (by omega)]; exact H.high j h1
    · obtain rfl : j = k := by omega
      rw [if_pos (by omega)]; exact e2
  · rw [hc, if_neg (by omega), if_neg (by omega)]; exact H.rest t (by omega)
theorem grown_trans {a b c : World} {row : Option Nat} (h : a.grownBy b row) (k : b.grownBy c row) : a.grownBy c row :=
  ⟨k.os.trans h.os, k.tape.trans h.tape, k.output.trans h.output, Nat.le_trans h.size k.size, fun i hi hne => (k.block i (Nat.lt_of_lt_of_le hi h.size) hne).trans (h.block i hi hne)⟩
/-- What stands meanwhile. -/
structure PairsIn (w : World) (B : Nat) (rest : List Value) (f g : Int → Int → Int) (p h k : Nat) (l l1 : List Int) (wr : World) : Prop where
  row : RowAt wr B rest l1
  to : PairsTo f g p h k l l1
  grown : w.grownBy wr (some B)
set_option maxRecDepth 100000 in
set_option maxHeartbeats 1000000 in
theorem clone_any (w : World) (x : Value) (a : List Int) (hx : IntsAt w x a) (ha : Poly a) :
    Calls Try.prog 19 #[x] w fun e w' => ∃ v, e = .returned v ∧ OwnI w' w.heap.size v a ∧ Below w.heap.size w w' := by
  have hq : ∀ (w : World) (a : Option Addr) (n c n' c' : Nat), (binOp .eql 22 (.slice a n c) (.slice none n' c')).run Try.prog w = .ok (.bool a.isNone) w := fun w a n c n' c' => Lib.run_eql_slice_nil w _ _ a n c n' c' Try.underlying22
  have hbA : Below w.heap.size w (w.alloc (.cells #[] 3)) := (Below.refl _ _).alloc (Nat.le_refl _) _
  have HOA : Hid (OwnI (w.alloc (.cells #[] 3)) w.heap.size (.slice (some ⟨w.heap.size, 0, none⟩) 0 0) []) := ⟨rfl, Or.inr ⟨w.heap.size, 0, #[], rfl, Nat.le_refl _, heap_alloc_new w _, Nat.le_refl _, Nat.zero_le _, rfl, rfl⟩⟩
  have IaA := hide (hx.below hbA)
  have HbA := hide hbA
  obtain ⟨b, o, c, rfl, hc, hl, _⟩ := hx.polyCell ha
  have Ha := hide ha
  clear hbA hx ha
  go_enter Try.func19, Try.ntmps19
  go_wp2_with (at_builtin; refine wpList_append_bytes rfl _ _ rfl w.heap.size (.slice (some ⟨w.heap.size, 0, none⟩) 0 0) (.slice (some ⟨b, o, none⟩) 256 c) [] a rfl (unhide HOA) rfl (unhide IaA) (by simp) (by have := (unhide Ha).1; simp; omega) ?_; intro v2 w2 hO2 hg2)
  rw [List.nil_append] at hO2
  have hb2 : Below w.heap.size w w2 := Fresh.grown (unhide HOA) hg2 (unhide HbA) (by simp)
  go_ret
  exact ⟨v2, rfl, hO2, hb2⟩
set_option maxRecDepth 100000 in
set_option maxHeartbeats 2000000 in
theorem part_any (w : World) (B p h c1 c2 : Nat) (r : Int) (rest : List Value) (l : List Int) (hR : RowAt w B rest l) (hp : Poly l) (hph : p + 2 * h ≤ 256) (hr0 : 0 ≤ r) (hr : r < 8380417) :
    Calls Try.prog 21 #[.slice (some ⟨B, p, none⟩) h c1, .slice (some ⟨B, p + h, none⟩) h c2, .int .i64 r] w fun e w' => e = .returned (.tuple #[]) ∧ ∃ l', RowAt w' B rest l' ∧ PartOf p h r l l' ∧ w.grownBy w' (some B) := by
  have HI : Hid (PairsIn w B rest (fun x y => x + r * y) (fun x y => x - r * y) p h 0 l l w) := ⟨hR, pairs_start hp, World.grownBy.refl _ _⟩
  clear hR
  have Hp := hide hp
  clear hp
  go_enter Try.func21, Try.ntmps21
  go_wp2
  go_loopw [11] (fun i wr => ∃ (k : Nat) (l1 : List Int), k ≤ h ∧ i = .int .i64 (k : Int) ∧ PairsIn w B rest (fun x y => x + r * y) (fun x y => x - r * y) p h k l l1 wr) (fun i _ => h - (intOf i).toNat)
  case atStart => exact ⟨0, l, by omega, rfl, unhide HI⟩
  case round =>
    obtain ⟨k, l1, hk, rfl, hI⟩ := hrel
    clear HI
    have hh : (h : Int) ≤ 256 := by omega
    by_cases hlt : k < h
    · have hl1 : l1.length = 256 := hI.to.poly.1
      have e1 := hI.row.cell (p + k) (by omega)
      have e2 := hI.row.cell (p + h + k) (by omega)
      have f1 := hI.row.frozen (p + k)
      have f2 := hI.row.frozen (p + h + k)
      rw [hI.to.rest (p + k) (by omega)] at e1
      rw [hI.to.rest (p + h + k) (by omega)] at e2
      have b1 := (unhide Hp).bound (p + k)
      have b2 := (unhide Hp).bound (p + h + k)
      have HS : Hid (∀ v1 v2 : Int, 0 ≤ v1 → v1 < 8380417 → 0 ≤ v2 → v2 < 8380417 → Eqv v1 ((fun x y => x + r * y) (coef l (p + k)) (coef l (p + h + k))) → Eqv v2 ((fun x y => x - r * y) (coef l (p + k)) (coef l (p + h + k))) → PairsIn w B rest (fun x y => x + r * y) (fun x y => x - r * y) p h (k + 1) l ((l1.set (p + k) v1).set (p + h + k) v2) ((wr.setCell ⟨B, p + k, none⟩ (.int .i64 v1)).setCell ⟨B, p + h + k, none⟩ (.int .i64 v2))) := fun v1 v2 a0 a1 c0 c1 q1 q2 => by
        rw [show p + h + k = p + k + h by omega] at q1 q2
        exact ⟨(hI.row.set (p + k) (by omega) v1).set (p + h + k) (by rw [List.length_set]; omega) v2, hI.to.step hlt hph v1 v2 a0 a1 c0 c1 q1 q2, grown_setCell (grown_setCell hI.grown _ _ rfl) _ _ rfl⟩
      generalize coef l (p + k) = x at e1 b1 HS
      generalize coef l (p + h + k) = y at e2 b2 HS
      obtain ⟨x0, x1⟩ := b1
      obtain ⟨y0, y1⟩ := b2
      have k0 : (0 : Int) ≤ (k : Int) := by omega
      have k1 : (k : Int) < (h : Int) := by omega
      clear hI
      go_wp2_with fail
      refine (times_any y r y0 (by omega) hr0 hr wr).mono ?_
      rintro e w3 ⟨rfl, rfl⟩
      have HS1 : Hid (PairsIn w B rest (fun x y => x + r * y) (fun x y => x - r * y) p h (k + 1) l ((l1.set (p + k) ((x + y * r % 8380417) % 8380417)).set (p + h + k) ((x - y * r % 8380417) % 8380417)) ((w3.setCell ⟨B, p + k, none⟩ (.int .i64 ((x + y * r % 8380417) % 8380417))).setCell ⟨B, p + h + k, none⟩ (.int .i64 ((x - y * r % 8380417) % 8380417)))) := by
        refine unhide HS _ _ (by omega) (by omega) (by omega) (by omega) ((eqv_emod _).trans ((Eqv.refl x).add ((eqv_emod _).trans ?_))) ((eqv_emod _).trans ((Eqv.refl x).sub ((eqv_emod _).trans ?_)))
        · rw [Int.mul_comm]; exact Eqv.refl _
        · rw [Int.mul_comm]; exact Eqv.refl _
      have yb : 0 ≤ y * r % 8380417 ∧ y * r % 8380417 < 8380417 := by omega
      clear HS
      generalize y * r % 8380417 = Y at HS1 yb ⊢
      obtain ⟨Y0, Y1⟩ := yb
      obtain ⟨W2, hW2⟩ : ∃ W2, w3.setCell ⟨B, p + k, none⟩ (.int .i64 ((x + Y) % 8380417)) = W2 := ⟨_, rfl⟩
      have e3 : W2.cell? ⟨B, p + h + k, none⟩ = some (.int .i64 y) := by rw [← hW2, World.cell?_setCell_other _ _ _ _ (by intro e; simp only [Addr.mk.injEq] at e; omega)]; exact e2
      have f3 : W2.frozen? ⟨B, p + h + k, none⟩ = false := by rw [← hW2, World.frozen?_setCell]; exact f2
      rw [hW2] at HS1
      have HS2 := HS1
      clear HS1
      have w1 : IntKind.i64.wrap (x + Y) = x + Y := IntWalk.i64_in _ (by omega)
      have t1 : (x + Y).tmod 8380417 = (x + Y) % 8380417 := Int.tmod_eq_emod_of_nonneg (by omega)
      have w2 : IntKind.i64.wrap (x - Y) = x - Y := IntWalk.i64_in _ (by omega)
      have w4 : IntKind.i64.wrap (x - Y + 8380417) = x - Y + 8380417 := IntWalk.i64_in _ (by omega)
      have t2 : (x - Y + 8380417).tmod 8380417 = (x - Y + 8380417) % 8380417 := Int.tmod_eq_emod_of_nonneg (by omega)
      go_wp2
      go_roundw
      case rel =>
        first
          | exact ⟨k + 1, _, by omega, by go_num, unhide HS2⟩
          | ((repeat apply Exists.intro); exact ⟨⟨k + 1, _, by omega, by go_num, unhide HS2⟩, rfl⟩)
      case measure => simp [intOf]; omega
    · obtain rfl : k = h := by omega
      have HE : Hid (∃ l', RowAt wr B rest l' ∧ PartOf p k r l l' ∧ w.grownBy wr (some B)) := ⟨l1, hI.row, ⟨hI.to.poly, hI.to.low, hI.to.high, fun t ht => hI.to.rest t (by omega)⟩, hI.grown⟩
      clear hI
      go_wp2
      go_end0
      exact ⟨rfl, unhide HE⟩
set_option maxRecDepth 100000 in
set_option maxHeartbeats 2000000 in
theorem join_any (w : World) (B p h c1 c2 : Nat) (r : Int) (rest : List Value) (l : List Int) (hR : RowAt w B rest l) (hp : Poly l) (hph : p + 2 * h ≤ 256) (hr0 : 0 ≤ r) (hr : r < 8380417) :
    Calls Try.prog 23 #[.slice (some ⟨B, p, none⟩) h c1, .slice (some ⟨B, p + h, none⟩) h c2, .int .i64 r] w fun e w' => e = .returned (.tuple #[]) ∧ ∃ l', RowAt w' B rest l' ∧ JoinOf p h r l l' ∧ w.grownBy w' (some B) := by
  have HI : Hid (PairsIn w B rest (fun x y => x + y) (fun x y => (y - x) * r) p h 0 l l w) := ⟨hR, pairs_start hp, World.grownBy.refl _ _⟩
  clear hR
  have Hp := hide hp
  clear hp
  go_enter Try.func23, Try.ntmps23
  go_wp2
  go_loopw [11] (fun i wr => ∃ (k : Nat) (l1 : List Int), k ≤ h ∧ i = .int .i64 (k : Int) ∧ PairsIn w B rest (fun x y => x + y) (fun x y => (y - x) * r) p h k l l1 wr) (fun i _ => h - (intOf i).toNat)
  case atStart => exact ⟨0, l, by omega, rfl, unhide HI⟩
  case round =>
    obtain ⟨k, l1, hk, rfl, hI⟩ := hrel
    clear HI
    have hh : (h : Int) ≤ 256 := by omega
    by_cases hlt : k < h
    · have hl1 : l1.length = 256 := hI.to.poly.1
      have e1 := hI.row.cell (p + k) (by omega)
      have e2 := hI.row.cell (p + h + k) (by omega)
      have f1 := hI.row.frozen (p + k)
      have f2 := hI.row.frozen (p + h + k)
      rw [hI.to.rest (p + k) (by omega)] at e1
      rw [hI.to.rest (p + h + k) (by omega)] at e2
      have b1 := (unhide Hp).bound (p + k)
      have b2 := (unhide Hp).bound (p + h + k)
      have HS : Hid (∀ v1 v2 : Int, 0 ≤ v1 → v1 < 8380417 → 0 ≤ v2 → v2 < 8380417 → Eqv v1 ((fun x y => x + y) (coef l (p + k)) (coef l (p + h + k))) → Eqv v2 ((fun x y => (y - x) * r) (coef l (p + k)) (coef l (p + h + k))) → PairsIn w B rest (fun x y => x + y) (fun x y => (y - x) * r) p h (k + 1) l ((l1.set (p + k) v1).set (p + h + k) v2) ((wr.setCell ⟨B, p + k, none⟩ (.int .i64 v1)).setCell ⟨B, p + h + k, none⟩ (.int .i64 v2))) := fun v1 v2 a0 a1 c0 c1 q1 q2 => by
        rw [show p + h + k = p + k + h by omega] at q1 q2
        exact ⟨(hI.row.set (p + k) (by omega) v1).set (p + h + k) (by rw [List.length_set]; omega) v2, hI.to.step hlt hph v1 v2 a0 a1 c0 c1 q1 q2, grown_setCell (grown_setCell hI.grown _ _ rfl) _ _ rfl⟩
      generalize coef l (p + k) = x at e1 b1 HS
      generalize coef l (p + h + k) = y at e2 b2 HS
      obtain ⟨x0, x1⟩ := b1
      obtain ⟨y0, y1⟩ := b2
      have k0 : (0 : Int) ≤ (k : Int) := by omega
      have k1 : (k : Int) < (h : Int) := by omega
      clear hI
      have HS1 : Hid (PairsIn w B rest (fun x y => x + y) (fun x y => (y - x) * r) p h (k + 1) l ((l1.set (p + k) ((x + y) % 8380417)).set (p + h + k) ((y - x + 8380417) * r % 8380417)) ((wr.setCell ⟨B, p + k, none⟩ (.int .i64 ((x + y) % 8380417))).setCell ⟨B, p + h + k, none⟩ (.int .i64 ((y - x + 8380417) * r % 8380417)))) := by
        refine unhide HS _ _ (by omega) (by omega) (by omega) (by omega) (eqv_emod _) ((eqv_emod _).trans ?_)
        exact Eqv.mul ⟨1, by omega⟩ (Eqv.refl r)
      clear HS
      obtain ⟨W2, hW2⟩ : ∃ W2, wr.setCell ⟨B, p + k, none⟩ (.int .i64 ((x + y) % 8380417)) = W2 := ⟨_, rfl⟩
      have e3 : W2.cell? ⟨B, p + h + k, none⟩ = some (.int .i64 y) := by rw [← hW2, World.cell?_setCell_other _ _ _ _ (by intro e; simp only [Addr.mk.injEq] at e; omega)]; exact e2
      have f3 : W2.frozen? ⟨B, p + h + k, none⟩ = false := by rw [← hW2, World.frozen?_setCell]; exact f2
      rw [hW2] at HS1
      have w1 : IntKind.i64.wrap (x + y) = x + y := IntWalk.i64_in _ (by omega)
      have t1 : (x + y).tmod 8380417 = (x + y) % 8380417 := Int.tmod_eq_emod_of_nonneg (by omega)
      have w2 : IntKind.i64.wrap (y - x) = y - x := IntWalk.i64_in _ (by omega)
      have w4 : IntKind.i64.wrap (y - x + 8380417) = y - x + 8380417 := IntWalk.i64_in _ (by omega)
      go_wp2_with fail
      refine (times_any (y - x + 8380417) r (by omega) (by omega) hr0 hr W2).mono ?_
      rintro e w3 ⟨rfl, rfl⟩
      generalize (y - x + 8380417) * r % 8380417 = V at HS1 ⊢
      have HS2 := HS1
      clear HS1
      go_wp2
      go_roundw
      case rel =>
        first
          | exact ⟨k + 1, _, by omega, by go_num, unhide HS2⟩
          | ((repeat apply Exists.intro); exact ⟨⟨k + 1, _, by omega, by go_num, unhide HS2⟩, rfl⟩)
      case measure => simp [intOf]; omega
    · obtain rfl : k = h := by omega
      have HE : Hid (∃ l', RowAt wr B rest l' ∧ JoinOf p k r l l' ∧ w.grownBy wr (some B)) := ⟨l1, hI.row, ⟨hI.to.poly, hI.to.low, hI.to.high, fun t ht => hI.to.rest t (by omega)⟩, hI.grown⟩
      clear hI
      go_wp2
      go_end0
      exact ⟨rfl, unhide HE⟩
end Go.Proofs.Ytfjolaekenmefab
