/-
  The walks of the reference's small functions: Valid, power, few; what a make of 256 numbers lays.
-/
import Derived.Test.YtfjolaekenmefabSame
import Derived.Test.YtfjolaekenmefabMulp
namespace Go.Proofs.Ytfjolaekenmefab
open Go.RowKit
/-- Numbers in a block of their own. -/
def OutAt (w : World) (B : Nat) (l : List Int) : Prop := w.heap[B]? = some (.cells (l.map nv).toArray 3 (0, 0))
theorem OutAt.cell {w : World} {B : Nat} {l : List Int} (h : OutAt w B l) (i : Nat) (hi : i < l.length) : w.cell? ⟨B, i, none⟩ = some (.int .i64 (coef l i)) := by
  rw [cell_of_row w B i _ 3 (0, 0) h]
  simp [nv, coef, List.getD_eq_getElem?_getD, hi]
theorem OutAt.frozen {w : World} {B : Nat} {l : List Int} (h : OutAt w B l) (i : Nat) : w.frozen? ⟨B, i, none⟩ = false := frozen_of_row w B i _ 3 h
theorem OutAt.set {w : World} {B : Nat} {l : List Int} (h : OutAt w B l) (i : Nat) (x : Int) : OutAt (w.setCell ⟨B, i, none⟩ (.int .i64 x)) B (l.set i x) := by
  unfold OutAt
  rw [heap_setCell_same w B i _ 3 _ h, List.setIfInBounds_toArray, List.map_set]
  rfl
theorem OutAt.drew {w : World} {B : Nat} {l : List Int} (h : OutAt w B l) : OutAt w.drew B l := h
theorem OutAt.own {w : World} {B base : Nat} {l : List Int} (h : OutAt w B l) (hB : base ≤ B) (n : Nat) (hl : l.length = n) (hn : n ≤ 65536) : OwnI w base (.slice (some ⟨B, 0, none⟩) n n) l := by
  subst hl
  exact ⟨by simp, Or.inr ⟨B, l.length, _, rfl, hB, h, Nat.le_refl _, by simp only [maxLen]; omega, by simp, List.take_of_length_le (by simp)⟩⟩
def zeros : List Int := List.replicate 256 0
theorem made_ints (n : Nat) : madeCells (Value.int .i64 0).cells (n * 1) = (List.replicate n (nv 0)).toArray := by
  rw [Nat.mul_one]
  apply Array.ext
  · simp [madeCells]
  · intro j h1 h2
    simp [madeCells, Value.cells, Nat.mod_one, nv]
theorem made256 (w : World) : ∃ W, (Instr.makeSlice 22 (.int .i64 256) (.int .i64 256)).run Try.prog w = .ok (.slice (some ⟨w.heap.size, 0, none⟩) 256 256) W ∧ OutAt W w.heap.size zeros ∧ Below w.heap.size w W := by
  obtain ⟨i, hi, h0, hsz, hby⟩ := info3
  refine ⟨w.alloc (.cells (zeros.map nv).toArray 3), ?_, heap_alloc_new _ _, (Below.refl _ _).alloc (Nat.le_refl _) _⟩
  have h := run_make (P := Try.prog) w 22 3 i (.int .i64 0) Try.underlying22 hi h0 .i64 .i64 256 256 (by omega) (by omega) (by rw [hby]; decide) (by decide)
  rw [h, hsz]
  have e : madeCells (Value.int .i64 0).cells ((256 : Int).toNat * 1) = (zeros.map nv).toArray := by
    rw [zeros, List.map_replicate]
    exact made_ints 256
  rw [e]
  rfl
def validB (l : List Int) : Bool := decide (l.length = 256) && l.all fun x => decide (0 ≤ x ∧ x < 8380417)
theorem validB_iff (l : List Int) : validB l = true ↔ Poly l := by
  unfold validB Poly
  rw [Bool.and_eq_true, decide_eq_true_iff, List.all_eq_true]
  constructor
  · rintro ⟨h1, h2⟩; exact ⟨h1, fun x hx => of_decide_eq_true (h2 x hx)⟩
  · rintro ⟨h1, h2⟩; exact ⟨h1, fun x hx => decide_eq_true (h2 x hx)⟩
theorem poly_of_coef {l : List Int} (h : l.length = 256) (hb : ∀ t, t < 256 → 0 ≤ coef l t ∧ coef l t < 8380417) : Poly l := ⟨h, fun x hx => by
  obtain ⟨i, hi, rfl⟩ := List.getElem_of_mem hx
  have := hb i (by omega)
  simpa [coef, List.getD_eq_getElem?_getD, hi] using this⟩
theorem not_poly {l : List Int} (t : Nat) (h : ¬ (0 ≤ coef l t ∧ coef l t < 8380417)) : validB l = false := by
  rw [Bool.eq_false_iff]
  intro e
  exact h (((validB_iff l).1 e).bound t)
set_option maxRecDepth 100000 in
set_option maxHeartbeats 1000000 in
theorem valid_any (w : World) (x : Value) (l : List Int) (hx : IntsAt w x l) (_hl : l.length ≤ 4611686018427387904) :
    Calls Try.prog 5 #[x] w fun e w' => e = .returned (.bool (validB l)) ∧ w' = w := by
  by_cases hn : l.length = 256
  · obtain ⟨b, o, c, rfl, hc, hcell⟩ := hx.cell (by intro e; rw [e] at hn; simp at hn)
    have H := hide hcell
    clear hcell hx
    rw [hn] at hc ⊢
    go_enter Try.func5, Try.ntmps5
    go_wp2
    go_loopw [3] (fun i wr => ∃ k : Nat, k ≤ 256 ∧ i = .int .i64 (k : Int) ∧ Hid (w = wr) ∧ Hid (∀ t, t < k → 0 ≤ coef l t ∧ coef l t < 8380417)) (fun i _ => 256 - (intOf i).toNat)
    case atStart => exact ⟨0, by omega, rfl, rfl, fun t ht => by omega⟩
    case round =>
      obtain ⟨k, hk, rfl, hw, hb⟩ := hrel
      have hw' := unhide hw
      clear hw
      subst hw'
      by_cases hlt : k < 256
      · have ck := unhide H k (by omega)
        have hz : l.getD k 0 = coef l k := rfl
        rw [hz] at ck
        have k0 : (0 : Int) ≤ (k : Int) := by omega
        have k1 : (k : Int) < 256 := by omega
        by_cases h0 : coef l k < 0
        · have hv : validB l = false := not_poly k (by omega)
          have Hv := hide hv
          clear hv
          generalize coef l k = z at ck h0
          go_wp2
          go_ret
          exact ⟨by rw [unhide Hv]; rfl, rfl⟩
        · by_cases h1 : 8380417 ≤ coef l k
          · have hv : validB l = false := not_poly k (by omega)
            have Hv := hide hv
            clear hv
            generalize coef l k = z at ck h0 h1
            have d0 : decide (z < 0) = false := by simp; omega
            go_wp2
            go_ret
            exact ⟨by rw [unhide Hv]; rfl, rfl⟩
          · have Hn : Hid (∀ t, t < k + 1 → 0 ≤ coef l t ∧ coef l t < 8380417) := fun t ht => by
              rcases Nat.lt_or_ge t k with h | h
              · exact unhide hb t h
              · obtain rfl : t = k := by omega
                omega
            clear hb hz
            generalize coef l k = z at ck h0 h1
            have d0 : decide (z < 0) = false := by simp; omega
            have d1 : decide (8380417 ≤ z) = false := by simp; omega
            go_wp2
            go_roundw
            case rel =>
              first
                | exact ⟨k + 1, by omega, by go_num, trivial, Hn⟩
                | exact ⟨k + 1, by omega, by go_num, rfl, Hn⟩
                | ((repeat apply Exists.intro); exact ⟨⟨k + 1, by omega, by go_num, trivial, Hn⟩, rfl⟩)
            case measure => simp [intOf]; omega
      · obtain rfl : k = 256 := by omega
        have Hv := hide ((validB_iff l).2 (poly_of_coef hn (unhide hb)))
        clear hb
        go_wp2
        go_ret
        exact ⟨by rw [unhide Hv]; rfl, rfl⟩
  · have hv : validB l = false := by unfold validB; simp [hn]
    obtain ⟨sp, c, rfl, _⟩ := hx
    have d : ((l.length : Int) == 256) = false := by simp; omega
    have Hv := hide hv
    clear hv
    go_enter Try.func5, Try.ntmps5
    go_wp2
    go_ret
    exact ⟨by rw [unhide Hv]; rfl, rfl⟩
theorem power_any (w : World) (k : Nat) (hk : k < 256) : Calls Try.prog 12 #[.int .i64 (k : Int)] w fun e w' => e = .returned (.slice (some ⟨w.heap.size, 0, none⟩) 256 256) ∧ OutAt w' w.heap.size (zeros.set k 1) ∧ Below w.heap.size w w' := by
  obtain ⟨W, hmk, hO, hb⟩ := made256 w
  have f := hO.frozen k
  have c := hO.cell k (by rw [zeros, List.length_replicate]; exact hk)
  have k0 : (0 : Int) ≤ (k : Int) := by omega
  have k1 : (k : Int) < 256 := by omega
  have HO := hide (hO.set k 1)
  have HB := hide (hb.setCell (p := ⟨w.heap.size, k, none⟩) (Nat.le_refl _) (.int .i64 1))
  clear hO hb
  go_enter Try.func12, Try.ntmps12
  go_wp2
  go_ret
  exact ⟨rfl, unhide HO, unhide HB⟩
end Go.Proofs.Ytfjolaekenmefab
