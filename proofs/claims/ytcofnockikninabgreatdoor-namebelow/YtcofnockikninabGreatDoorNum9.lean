/-
  Plain words on numbers as integers.
-/
import Derived.Test.YtcofnockikninabGreatDoorTold9
namespace Go.Proofs.YtcofnockikninabGreatDoor
open Go.RowKit
theorem len_tagB_le (c t : Nat) (m : Bool) : (tagB c t m).length ≤ 4 := by
  unfold tagB
  split
  · simp
  · simp only [List.length_cons, List.length_append, List.length_nil]
    split <;> split <;> simp
/-- The byte number j of a number, the highest first. -/
def byteAt (n : Int) (j : Nat) : UInt8 := UInt8.ofNat (n / 2 ^ (56 - 8 * j) % 256).toNat
def numTo (n : Int) : Nat → Bs
  | 0 => []
  | j + 1 => numTo n j ++ [byteAt n j]
theorem len_numTo (n : Int) : ∀ j, (numTo n j).length = j
  | 0 => rfl
  | j + 1 => by simp [numTo, len_numTo n j]
theorem byteAt_toNat (n : Int) (j : Nat) : ((byteAt n j).toNat : Int) = n / 2 ^ (56 - 8 * j) % 256 := by
  unfold byteAt
  rw [UInt8.toNat_ofNat']
  omega
/-- The first byte tells the sign. -/
def Sgn (n : Int) (l : Bs) : Prop := (0 ≤ n ∧ (l.getD 0 0).toNat < 128) ∨ (n < 0 ∧ 128 ≤ (l.getD 0 0).toNat)
theorem sgn_all {n : Int} (h1 : -9223372036854775808 ≤ n) (h2 : n ≤ 9223372036854775807) : Sgn n (numTo n 8) := by
  have e : (numTo n 8).getD 0 0 = byteAt n 0 := rfl
  have hb := byteAt_toNat n 0
  rw [show 56 - 8 * 0 = 56 from rfl, show (2 : Int) ^ 56 = 72057594037927936 from rfl] at hb
  unfold Sgn
  rw [e]
  omega
theorem right_num {t : Nat} (ht : t = 2 ∨ t = 10) {l : Bs} (hl : 1 ≤ l.length) (h : l.length = 1 ∨ ¬ ((l.getD 0 0).toNat = 0 ∧ (l.getD 1 0).toNat < 128) ∧ ¬ ((l.getD 0 0).toNat = 255 ∧ 128 ≤ (l.getD 1 0).toNat)) : rightP t l = true := by
  have e0 : ∀ (x : UInt8), x = 0 ↔ x.toNat = 0 := fun x => ⟨fun h => by rw [h]; rfl, fun h => UInt8.toNat_inj.1 h⟩
  have e255 : ∀ (x : UInt8), x = 255 ↔ x.toNat = 255 := fun x => ⟨fun h => by rw [h]; rfl, fun h => UInt8.toNat_inj.1 h⟩
  unfold rightP
  rw [if_neg (by omega), if_pos ht]
  simp only [e0, e255, Bool.or_eq_true, Bool.and_eq_true, decide_eq_true_eq, Bool.not_eq_true', decide_eq_false_iff_not]
  omega
theorem wrong_num {t : Nat} (ht : t = 2 ∨ t = 10) {n : Int} {l : Bs} (hl : 1 ≤ l.length) (h : Sgn n l) (s : UInt8) (hs : s.toNat = if 0 ≤ n then 0 else 255) : rightP t (s :: l) = false := by
  have e0 : ∀ (x : UInt8), x = 0 ↔ x.toNat = 0 := fun x => ⟨fun h => by rw [h]; rfl, fun h => UInt8.toNat_inj.1 h⟩
  have e255 : ∀ (x : UInt8), x = 255 ↔ x.toNat = 255 := fun x => ⟨fun h => by rw [h]; rfl, fun h => UInt8.toNat_inj.1 h⟩
  obtain ⟨a, r, rfl⟩ : ∃ a r, l = a :: r := by cases l with | nil => simp at hl | cons a r => exact ⟨a, r, rfl⟩
  unfold Sgn at h
  simp only [List.getD_cons_zero] at h
  unfold rightP
  rw [if_neg (by omega), if_pos ht]
  simp only [e0, e255, List.getD_cons_zero, List.getD_cons_succ, List.length_cons]
  have h1 : decide (r.length + 1 + 1 = 1) = false := by simp
  rw [h1, Bool.false_or]
  rcases h with ⟨h0, hb⟩ | ⟨h0, hb⟩
  · rw [if_pos h0] at hs
    rw [hs]
    have : decide (128 ≤ a.toNat) = false := by simp; omega
    rw [this]
    simp
  · rw [if_neg (by omega)] at hs
    rw [hs]
    have : decide (a.toNat < 128) = false := by simp; omega
    rw [this]
    simp
theorem form_num {t : Nat} (ht : t = 2 ∨ t = 10) (l : Bs) : formD 0 t false l = if rightP t l = true then 0 else 24 := by
  unfold formD
  rw [if_neg (by omega)]
  rcases ht with rfl | rfl
  · cases rightP 2 l <;> rfl
  · cases rightP 10 l <;> rfl
theorem top_num {t : Nat} (ht : t = 2 ∨ t = 10) {l : Bs} (hl : l.length ≤ 100) (h : rightP t l = true) : writeTop formD (.mk 0 t false l []) = .yes (tagB 0 t false ++ lenB l.length ++ l) := by
  have hw : writeP formD 17 (.mk 0 t false l []) = .yes (tagB 0 t false ++ lenB l.length ++ l) := by
    unfold writeP
    rw [if_neg (by omega)]
    rw [show (0 : Int).toNat = 0 from rfl, Int.toNat_natCast, form_num ht, h, if_pos rfl, if_neg (by omega), if_neg (by simp)]
    simp [allP, fallsP]
  unfold writeTop
  rw [hw]
  simp only []
  rw [if_neg]
  have h1 : (tagB 0 t false).length = 1 := by unfold tagB; rw [if_pos (by omega)]; rfl
  have h2 : (lenB l.length).length = 1 := by unfold lenB; rw [if_pos (by omega)]; rfl
  simp only [List.length_append, h1, h2]
  omega
theorem top_num_no {t : Nat} (ht : t = 2 ∨ t = 10) {l : Bs} (h : rightP t l = false) : writeTop formD (.mk 0 t false l []) = .no 24 := by
  unfold writeTop writeP
  rw [if_neg (by omega)]
  rw [show (0 : Int).toNat = 0 from rfl, Int.toNat_natCast, form_num ht, h]
  simp
end Go.Proofs.YtcofnockikninabGreatDoor
