/-
  What the program's functions are asked to do, as one record; out of it: the anchor.
-/
import Derived.Test.YtfjolaekenmefabRefT
namespace Go.Proofs.Ytfjolaekenmefab
open Go.RowKit
/-- The call answers a list of the call's own, and true. -/
def Gives (w : World) (f : FuncId) (args : Array Value) (P : List Int → Prop) : Prop :=
  Calls Try.prog f args w fun e w' => ∃ v out, e = .returned (.tuple #[v, .bool true]) ∧ OwnI w' w.heap.size v out ∧ P out ∧ Below w.heap.size w w'
/-- The call answers nothing, and false. -/
def Refuses (w : World) (f : FuncId) (args : Array Value) : Prop :=
  Calls Try.prog f args w fun e w' => ∃ v, e = .returned (.tuple #[v, .bool false]) ∧ IntsAt w' v [] ∧ Below w.heap.size w w'
/-- WHAT THE LAYER PROMISES. R: what the calls want of the world (tables). -/
structure Ring (R : World → Prop) : Prop where
  below : ∀ a b, R a → Below a.heap.size a b → R b
  add : ∀ w x y a b, R w → IntsAt w x a → IntsAt w y b → Poly a → Poly b → Gives w 7 #[x, y] (IsAdd a b)
  mul : ∀ w x y a b, R w → IntsAt w x a → IntsAt w y b → Poly a → Poly b → Gives w 6 #[x, y] (IsMul a b)
  there_ : ∀ w x a, R w → IntsAt w x a → Poly a → Gives w 8 #[x] (IsThere a)
  center : ∀ w n, R w → Calls Try.prog 13 #[.int .i64 n] w fun e w' => e = .returned (.int .i64 (center n)) ∧ Below w.heap.size w w'
theorem OutAt.ints {w : World} {B : Nat} {l : List Int} (h : OutAt w B l) (n : Nat) (hl : l.length = n) (hn : n ≤ 65536) : IntsAt w (.slice (some ⟨B, 0, none⟩) n n) l := (h.own (Nat.le_refl B) n hl hn).bytes
theorem minus_one : IsMul (zeros.set 255 1) (zeros.set 1 1) (zeros.set 0 8380416) := by
  refine ⟨poly_set poly_zeros 0 _ (by decide) (by decide), fun s hs => ?_⟩
  have e : ev (pt s) (zeros.set 0 8380416) = pt s ^ 0 * (8380416 - 0) := by
    rw [zeros, ev_set _ _ _ _ (by rw [List.length_replicate]; omega) List.length_replicate, ev_zero _ _ (coef_zeros 256), coef_zeros, Int.zero_add]
  rw [e, zeros, ev_power _ 255 (by omega), ev_power _ 1 (by omega), ← Int.pow_add]
  refine Eqv.trans ?_ (pt_half hs).symm
  exact ⟨1, by rw [Int.pow_zero]; omega⟩
theorem coef_minus : coef (zeros.set 0 8380416) 0 = 8380416 ∧ coef (zeros.set 0 8380416) 1 = 0 := by
  rw [coef_set _ _ _ (by rw [zeros, List.length_replicate]; omega), coef_set _ _ _ (by rw [zeros, List.length_replicate]; omega), if_pos rfl, if_neg (by omega), zeros, coef_zeros]
  exact ⟨rfl, rfl⟩
theorem there_x {t : List Int} (h : IsThere (zeros.set 1 1) t) : coef t 0 = 1753 ∧ coef t 1 = 8378664 := by
  have key : ∀ s, s < 256 → coef t s = pt s := fun s hs => by
    have e := h.2 s hs
    rw [zeros, ev_power _ 1 (by omega), Int.pow_succ, Int.pow_zero, Int.one_mul] at e
    exact e.eq (h.1.bound s).1 (h.1.bound s).2 (pt_bound s).1 (pt_bound s).2
  rw [key 0 (by omega), key 1 (by omega)]
  have := pt_first
  unfold pt
  rw [this.1, this.2]
  exact ⟨rfl, rfl⟩
theorem len_zset (k : Nat) (v : Int) : (zeros.set k v).length = 256 := by rw [List.length_set, zeros, List.length_replicate]
theorem OwnI.poly {w : World} {B : Nat} {v : Value} {l : List Int} (h : OwnI w B v l) (hl : l.length = 256) : ∃ b c, v = .slice (some ⟨b, 0, none⟩) 256 c ∧ B ≤ b ∧ b < w.heap.size ∧ ∀ j, j < 256 → w.cell? ⟨b, j, none⟩ = some (.int .i64 (coef l j)) := by
  have h' := h
  obtain ⟨_, h2⟩ := h'
  rcases h2 with ⟨_, hn⟩ | ⟨b, cap, cur, rfl, hb, hh, _⟩
  · omega
  · refine ⟨b, cap, by rw [hl], hb, (Array.getElem?_eq_some_iff.1 hh).1, fun j hj => ?_⟩
    rw [World.ownsRow.cellAt h j (by omega)]
    simp [nv, coef, List.getD_eq_getElem?_getD, hl, hj]
theorem center_last : center 8380416 = -1 := by decide +kernel
set_option maxRecDepth 100000 in
set_option maxHeartbeats 2000000 in
theorem anchor_any {R : World → Prop} (C : Ring R) (w : World) (hR : R w) :
    Calls Try.prog 4 #[] w fun e w' => e = .returned (.bool true) ∧ Below w.heap.size w w' := by
  have HC := hide C
  have HR := hide hR
  clear C hR
  go_enter Try.func4, Try.ntmps4
  go_wp2_with fail
  refine (power_any w 255 (by omega)).mono ?_
  rintro e w1 ⟨rfl, hO1, hb1⟩
  have HR1 := hide ((unhide HC).below _ _ (unhide HR) hb1)
  have HO1 := hide (hO1.ints 256 (len_zset _ _) (by omega))
  have HB1 := hide hb1
  clear hO1 hb1
  go_wp2_with fail
  refine (power_any w1 1 (by omega)).mono ?_
  rintro e w2 ⟨rfl, hO2, hb2⟩
  have HR2 := hide ((unhide HC).below _ _ (unhide HR1) hb2)
  have HO1' := hide ((unhide HO1).below hb2)
  have HO2 := hide (hO2.ints 256 (len_zset _ _) (by omega))
  have HB2 := hide ((unhide HB1).trans (hb2.mono (unhide HB1).size))
  clear hO2 hb2 HR1 HO1 HB1
  go_wp2_with fail
  refine ((unhide HC).mul w2 _ _ _ _ (unhide HR2) (unhide HO1') (unhide HO2) (poly_power 255) (poly_power 1)).mono ?_
  rintro e w3 ⟨v3, out3, rfl, hO3, hM3, hb3⟩
  obtain rfl := isMul_unique hM3 minus_one
  have HR3 := hide ((unhide HC).below _ _ (unhide HR2) hb3)
  have HO3 := hide hO3
  have HB3 := hide ((unhide HB2).trans (hb3.mono (unhide HB2).size))
  clear hO3 hb3 hM3 HR2 HO1' HO2 HB2
  go_wp2_with fail
  refine (power_any w3 1 (by omega)).mono ?_
  rintro e w4 ⟨rfl, hO4, hb4⟩
  have HR4 := hide ((unhide HC).below _ _ (unhide HR3) hb4)
  have HO3' := hide ((unhide HO3).below hb4)
  have HO4 := hide (hO4.ints 256 (len_zset _ _) (by omega))
  have HB4 := hide ((unhide HB3).trans (hb4.mono (unhide HB3).size))
  clear hO4 hb4 HR3 HO3 HB3
  go_wp2_with fail
  refine ((unhide HC).there_ w4 _ _ (unhide HR4) (unhide HO4) (poly_power 1)).mono ?_
  rintro e w5 ⟨v5, out5, rfl, hO5, hT5, hb5⟩
  have hx := there_x hT5
  obtain ⟨bt, ct, rfl, _, _, ht⟩ := hO5.poly hT5.1.1
  obtain ⟨bm, cm, rfl, _, _, hm⟩ := ((unhide HO3').below hb5).poly (len_zset _ _)
  have t0 := ht 0 (by omega)
  have t1 := ht 1 (by omega)
  have m0 := hm 0 (by omega)
  have m1 := hm 1 (by omega)
  rw [hx.1] at t0
  rw [hx.2] at t1
  rw [coef_minus.1] at m0
  rw [coef_minus.2] at m1
  have HR5 := hide ((unhide HC).below _ _ (unhide HR4) hb5)
  have HB5 := hide ((unhide HB4).trans (hb5.mono (unhide HB4).size))
  clear hO5 hT5 hb5 hx ht hm HR4 HO3' HO4 HB4
  go_wp2_with fail
  refine ((unhide HC).center w5 8380416 (unhide HR5)).mono ?_
  rw [center_last]
  rintro e w6 ⟨rfl, hb6⟩
  have HB6 := hide ((unhide HB5).trans (hb6.mono (unhide HB5).size))
  clear hb6
  go_wp2
  go_ret
  exact ⟨rfl, unhide HB6⟩
end Go.Proofs.Ytfjolaekenmefab
