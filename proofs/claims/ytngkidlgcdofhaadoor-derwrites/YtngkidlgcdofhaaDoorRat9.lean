/-
  The reader of the reference: its block, its place.
-/
import Derived.Test.YtngkidlgcdofhaaDoorTold9
namespace Go.Proofs.YtngkidlgcdofhaaDoor
open Go.RowKit
/-- A reader lies in block K: its bytes, its place, its end. -/
structure RAt (w : World) (K : Nat) (sb : Option Addr) (cb : Nat) (b : Bs) (s en : Nat) : Prop where
  row : w.heap[K]? = some (.cells #[.slice sb b.length cb, .int .i64 (s : Int), .int .i64 (en : Int)] 52 (0, 0))
  bytes : BytesAt w (.slice sb b.length cb) b
  apart : b ≠ [] → ∀ a, sb = some a → a.block ≠ K
  le : s ≤ en
  fit : en ≤ b.length
  small : b.length ≤ 65536
theorem RAt.c {w : World} {K : Nat} {sb : Option Addr} {cb : Nat} {b : Bs} {s en : Nat} (h : RAt w K sb cb b s en) : w.cell? ⟨K, 0, none⟩ = some (.slice sb b.length cb) ∧ w.cell? ⟨K, 1, none⟩ = some (.int .i64 (s : Int)) ∧ w.cell? ⟨K, 2, none⟩ = some (.int .i64 (en : Int)) ∧ w.frozen? ⟨K, 1, none⟩ = false := by
  refine ⟨?_, ?_, ?_, frozen_of_row _ _ _ _ 52 h.row⟩ <;> (rw [cell_of_row _ _ _ _ 52 (0, 0) h.row]; rfl)
theorem RAt.drew {w : World} {K : Nat} {sb : Option Addr} {cb : Nat} {b : Bs} {s en : Nat} (h : RAt w K sb cb b s en) : RAt w.drew K sb cb b s en := ⟨h.row, h.bytes.drew, h.apart, h.le, h.fit, h.small⟩
theorem RAt.set {w : World} {K : Nat} {sb : Option Addr} {cb : Nat} {b : Bs} {s en : Nat} (h : RAt w K sb cb b s en) (s' : Nat) (hs : s' ≤ en) : RAt (w.setCell ⟨K, 1, none⟩ (.int .i64 (s' : Int))) K sb cb b s' en := by
  refine ⟨?_, ?_, h.apart, hs, h.fit, h.small⟩
  · rw [heap_setCell_same w K 1 _ 52 _ h.row]; rfl
  · by_cases hb : b = []
    · subst hb
      obtain ⟨sp, c, e, g1, g2, _⟩ := h.bytes
      exact ⟨sp, c, e, g1, g2, fun hn => absurd rfl hn⟩
    · refine ValsAt.grown h.bytes (g := K) (grown_setCell (World.grownBy.refl _ _) ⟨K, 1, none⟩ _ rfl) (fun e => ?_)
      cases sb with
      | none => cases e
      | some a =>
        simp only [Value.ownBlock, Option.some.injEq] at e
        exact h.apart hb a rfl e
/-- The bytes from the place on. -/
def leftB (b : Bs) (s en : Nat) : Bs := (b.take en).drop s
theorem len_leftB {b : Bs} {s en : Nat} (he : en ≤ b.length) : (leftB b s en).length = en - s := by unfold leftB; rw [List.length_drop, List.length_take]; omega
theorem left_nil {b : Bs} {s en : Nat} (h : en ≤ s) : leftB b s en = [] := by unfold leftB; rw [List.drop_eq_nil_iff, List.length_take]; omega
theorem left_cons {b : Bs} {s en : Nat} (h : s < en) (he : en ≤ b.length) : leftB b s en = b.getD s 0 :: leftB b (s + 1) en := by
  have hl : s < (b.take en).length := by rw [List.length_take]; omega
  unfold leftB
  rw [List.drop_eq_getElem_cons hl]
  congr 1
  rw [List.getElem_take, List.getD_eq_getElem?_getD, List.getElem?_eq_getElem (by omega)]
  rfl
theorem left_drop {b : Bs} {s en k : Nat} : (leftB b s en).drop k = leftB b (s + k) en := by unfold leftB; rw [List.drop_drop]
theorem left_getD {b : Bs} {s en i : Nat} (h : s + i < en) : (leftB b s en).getD i 0 = b.getD (s + i) 0 := by
  unfold leftB
  rw [List.getD_eq_getElem?_getD, List.getElem?_drop, List.getElem?_take, if_pos h, ← List.getD_eq_getElem?_getD]
theorem numB_take {l : Bs} {k : Nat} (h : k < l.length) : numB (l.take (k + 1)) = 256 * numB (l.take k) + (l.getD k 0).toNat := by
  rw [List.take_add_one, List.getElem?_eq_getElem h, List.getD_eq_getElem?_getD, List.getElem?_eq_getElem h]
  exact numB_snoc _ _
theorem RAt.byte {w : World} {K : Nat} {sb : Option Addr} {cb : Nat} {b : Bs} {s en : Nat} (h : RAt w K sb cb b s en) (hs : s < en) : ∃ ba oa, sb = some ⟨ba, oa, none⟩ ∧ w.cell? ⟨ba, oa + s, none⟩ = some (.int .u8 ((b.getD s 0).toNat : Int)) := by
  obtain ⟨sp, c, e, _, _, hc⟩ := bytes_open h.bytes
  simp only [Value.slice.injEq] at e
  obtain ⟨rfl, _, _⟩ := e
  have hf := h.fit
  obtain ⟨ba, oa, e2, _, hcell⟩ := hc (fun e => by rw [e] at hf; simp at hf; omega)
  exact ⟨ba, oa, e2, hcell s (by omega)⟩
end Go.Proofs.YtngkidlgcdofhaaDoor
