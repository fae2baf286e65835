/-
  Plain words on the rules of a value's bytes, for the landed code (tags 1 to 6, 10, 12, 19, 22, 23, 24).
-/
import Derived.Test.YtcofnockikninabGreatDoorTold9
import Derived.BigRegion
import Derived.Shelf.Abstract
namespace Go.Proofs.YtcofnockikninabGreatDoor
open Go.RowKit
namespace K
theorem u8_dec (c : UInt8) (n : Nat) (h : n < 256) : decide (c = UInt8.ofNat n) = decide (c.toNat = n) := by
  have e : (UInt8.ofNat n).toNat = n := by rw [UInt8.toNat_ofNat']; omega
  by_cases hc : c.toNat = n
  · rw [decide_eq_true hc, decide_eq_true (UInt8.toNat_inj.1 (by rw [e]; exact hc))]
  · rw [decide_eq_false hc, decide_eq_false (fun h2 => hc (by rw [h2]; exact e))]
theorem right1 (b : Bs) : rightP 1 b = (decide (b.length = 1) && (decide ((b.getD 0 0).toNat = 0) || decide ((b.getD 0 0).toNat = 255))) := by
  unfold rightP
  rw [if_pos rfl, ← u8_dec _ 0 (by omega), ← u8_dec _ 255 (by omega)]
  rfl
theorem right2 {t : Nat} (ht : t = 2 ∨ t = 10) (b : Bs) : rightP t b = (decide (b.length = 1) || (decide (1 < b.length) && (!decide ((b.getD 0 0).toNat = 0) || decide (128 ≤ (b.getD 1 0).toNat)) && (!decide ((b.getD 0 0).toNat = 255) || decide ((b.getD 1 0).toNat < 128)))) := by
  unfold rightP
  rw [if_neg (by omega), if_pos ht, ← u8_dec _ 0 (by omega), ← u8_dec _ 255 (by omega)]
  rfl
theorem right3 (b : Bs) : rightP 3 b = (if b.length = 0 ∨ 7 < (b.getD 0 0).toNat then false else if b.length = 1 then decide ((b.getD 0 0).toNat = 0) else decide ((b.getD (b.length - 1) 0).toNat % 2 ^ (b.getD 0 0).toNat = 0)) := by
  unfold rightP
  rw [if_neg (by omega), if_neg (by omega), if_pos rfl, ← u8_dec _ 0 (by omega)]
  rfl
theorem right5 (b : Bs) : rightP 5 b = decide (b.length = 0) := by
  unfold rightP
  rw [if_neg (by omega), if_neg (by omega), if_neg (by omega), if_pos rfl]
theorem right4 (b : Bs) : rightP 4 b = true := by
  unfold rightP
  rw [if_neg (by omega), if_neg (by omega), if_neg (by omega), if_neg (by omega), if_neg (by omega), if_neg (by omega), if_neg (by omega), if_neg (by omega), if_neg (by omega), if_neg (by omega)]
/-- The byte at a place, as a letter. -/
theorem byte_at {w : World} {sp : Option Addr} {N c : Nat} {b : Bs} (h : BytesAt w (.slice sp N c) b) (hN : b.length = N) (k : Nat) (hk : k < N) : ∃ ba oa p, sp = some ⟨ba, oa, none⟩ ∧ (b.getD k 0).toNat = p ∧ p < 256 ∧ w.cell? ⟨ba, oa + k, none⟩ = some (.int .u8 (p : Int)) := by
  obtain ⟨s, c', e, _, _, hc⟩ := bytes_open h
  simp only [Value.slice.injEq] at e
  obtain ⟨rfl, _, _⟩ := e
  obtain ⟨ba, oa, e2, _, hcell⟩ := hc (fun e => by rw [e] at hN; simp at hN; omega)
  exact ⟨ba, oa, _, e2, rfl, (b.getD k 0).toNat_lt, hcell k (by omega)⟩
theorem right19 (b : Bs) : rightP 19 b = b.all printP := by
  unfold rightP
  rw [if_neg (by omega), if_neg (by omega), if_neg (by omega), if_neg (by omega), if_neg (by omega), if_neg (by omega), if_pos rfl]
theorem right22 (b : Bs) : rightP 22 b = b.all fun c => decide (c.toNat < 128) := by
  unfold rightP
  rw [if_neg (by omega), if_neg (by omega), if_neg (by omega), if_neg (by omega), if_neg (by omega), if_neg (by omega), if_neg (by omega), if_pos rfl]
theorem right6 (b : Bs) : rightP 6 b = oidP b := by
  unfold rightP
  rw [if_neg (by omega), if_neg (by omega), if_neg (by omega), if_neg (by omega), if_pos rfl]
theorem all_not {b : Bs} {f : UInt8 → Bool} {k : Nat} (hk : k < b.length) (h : f (b.getD k 0) = false) : b.all f = false := by
  rw [List.all_eq_false]
  refine ⟨b.getD k 0, ?_, by rw [h]; simp⟩
  rw [List.getD_eq_getElem?_getD, List.getElem?_eq_getElem hk, Option.getD_some]
  exact List.getElem_mem hk
theorem all_all {b : Bs} {f : UInt8 → Bool} (h : ∀ k, k < b.length → f (b.getD k 0) = true) : b.all f = true := by
  rw [List.all_eq_true]
  intro c hc
  obtain ⟨k, hk, rfl⟩ := List.getElem_of_mem hc
  have := h k hk
  rwa [List.getD_eq_getElem?_getD, List.getElem?_eq_getElem hk, Option.getD_some] at this
/-- A group's beginning that is nought. -/
def badAt (b : Bs) (i : Nat) : Bool := decide ((b.getD i 0).toNat = 128) && (decide (i = 0) || decide ((b.getD (i - 1) 0).toNat < 128))
theorem oidP_eq (b : Bs) : oidP b = (((List.range b.length).all fun i => !badAt b i) && decide (0 < b.length) && decide ((b.getD (b.length - 1) 0).toNat < 128)) := by
  unfold oidP badAt
  congr 2
  congr 1
  funext i
  rw [← u8_dec _ 128 (by omega)]
  rfl
theorem oid_bad {b : Bs} {k : Nat} (hk : k < b.length) (h : badAt b k = true) : oidP b = false := by
  rw [oidP_eq]
  have : ((List.range b.length).all fun i => !badAt b i) = false := by
    rw [List.all_eq_false]
    exact ⟨k, List.mem_range.2 hk, by rw [h]; simp⟩
  rw [this]
  rfl
theorem oid_good {b : Bs} (h : ∀ k, k < b.length → badAt b k = false) : oidP b = (decide (0 < b.length) && decide ((b.getD (b.length - 1) 0).toNat < 128)) := by
  rw [oidP_eq]
  have : ((List.range b.length).all fun i => !badAt b i) = true := by
    rw [List.all_eq_true]
    intro k hk
    rw [h k (List.mem_range.1 hk)]
    rfl
  rw [this]
  rfl
/-- A rule of bytes: function f tells whether they are right. -/
def BFn (R : World → Prop) (f : Nat) (g : Bs → Bool) : Prop := ∀ (w : World) (x : Value) (b : Bs), R w → BytesAt w x b → b.length ≤ 1000000 → Calls Tryz.prog f #[x] w fun e w' => e = .returned (.bool (g b)) ∧ Below w.heap.size w w'
end K
end Go.Proofs.YtcofnockikninabGreatDoor
