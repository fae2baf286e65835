/-
  Plain words on values within values: sixteen may be around one, not seventeen.
-/
import Derived.Test.YtngkidlgcdofhabDoorTold9
namespace Go.Proofs.YtngkidlgcdofhabDoor
def nest (c : Nat) : Nat → DV
  | 0 => .mk 0 5 false [] []
  | d + 1 => .mk c 16 true [] [nest c d]
def nestB (c : Nat) : Nat → Bs
  | 0 => [5, 0]
  | d + 1 => UInt8.ofNat (64 * c + 48) :: UInt8.ofNat (2 * d + 2) :: nestB c d
theorem len_nestB (c : Nat) : ∀ d, (nestB c d).length = 2 * d + 2
  | 0 => rfl
  | d + 1 => by simp only [nestB, List.length_cons, len_nestB c d]; omega
theorem form_nest (c : Nat) : formD c 16 true [] = 0 := by
  unfold formD
  split
  · rfl
  · rfl
theorem tag_nest (c : Nat) : tagB c 16 true = [UInt8.ofNat (64 * c + 48)] := by
  unfold tagB
  rw [if_pos (by omega), if_pos rfl]
theorem len_nest {n : Nat} (h : n < 128) : lenB n = [UInt8.ofNat n] := by unfold lenB; rw [if_pos h]
theorem weight_nest (c : Nat) : ∀ d, weight (nest c d) = d + 1
  | 0 => rfl
  | d + 1 => by simp only [nest, weight, weights, weight_nest c d, List.length_nil]; omega
theorem write_nest {c : Nat} (hc : c ≤ 3) : ∀ (d f : Nat), d ≤ f → d ≤ 60 → writeP formD (f + 1) (nest c d) = .yes (nestB c d)
  | 0, f, _, _ => by
    unfold nest writeP
    rfl
  | d + 1, 0, h, _ => by omega
  | d + 1, f + 1, h, h60 => by
    unfold nest writeP
    rw [if_neg (by omega)]
    simp only [Int.toNat_natCast]
    rw [show (16 : Int).toNat = 16 from rfl, form_nest, if_neg (by omega), if_neg (by simp)]
    unfold allP
    rw [write_nest hc d f (by omega) (by omega)]
    simp only [allP]
    rw [if_neg (by simp [fallsP])]
    simp only [List.nil_append, List.flatten_cons, List.flatten_nil, List.append_nil, len_nestB]
    rw [tag_nest, len_nest (by omega)]
    rfl
theorem deep_nest {c : Nat} (hc : c ≤ 3) : ∀ (d f : Nat), f < d → writeP formD (f + 1) (nest c d) = .no 23
  | 0, f, h => by omega
  | d + 1, f, h => by
    unfold nest writeP
    rw [if_neg (by omega)]
    simp only [Int.toNat_natCast]
    rw [show (16 : Int).toNat = 16 from rfl, form_nest, if_neg (by omega), if_neg (by simp)]
    unfold allP
    cases f with
    | zero => rfl
    | succ f => rw [deep_nest hc d f (by omega)]
theorem deep_read {c : Nat} (hc : c ≤ 3) : ∀ (d f : Nat) (r : Bs), f < d → d ≤ 60 → valueP formD (f + 1) (nestB c d ++ r) = .no 23
  | 0, f, r, h, _ => by omega
  | d + 1, f, r, h, h60 => by
    unfold nestB valueP
    have e : UInt8.ofNat (64 * c + 48) :: UInt8.ofNat (2 * d + 2) :: nestB c d ++ r = tagB c 16 true ++ (lenB (2 * d + 2) ++ (nestB c d ++ r)) := by
      rw [tag_nest, len_nest (by omega)]; rfl
    rw [e, tag_there true (by omega) (by omega)]
    simp only []
    rw [len_there (by omega)]
    simp only []
    rw [if_neg (by rw [List.length_append, len_nestB]; omega)]
    simp only [if_true]
    rw [form_nest, if_neg (by simp), if_neg (by simp)]
    have ht : (nestB c d ++ r).take (2 * d + 2) = nestB c d := by
      rw [← len_nestB c d, List.take_left']
      rfl
    rw [ht]
    have hk : kidsP (valueP formD f) (2 * d + 2) (nestB c d) = .no 23 := by
      have hv : valueP formD f (nestB c d) = .no 23 := by
        cases f with
        | zero => rfl
        | succ f =>
          have := deep_read hc d f [] (by omega) (by omega)
          rwa [List.append_nil] at this
      cases hn : nestB c d with
      | nil => have := len_nestB c d; rw [hn] at this; simp at this
      | cons a l =>
        rw [hn] at hv
        show kidsP (valueP formD f) ((2 * d + 1) + 1) (a :: l) = _
        unfold kidsP
        rw [hv]
    rw [hk]
theorem top_nest {c d : Nat} (hc : c ≤ 3) (hd : d ≤ 16) : writeTop formD (nest c d) = .yes (nestB c d) := by
  unfold writeTop
  rw [write_nest hc d 16 hd (by omega)]
  simp only []
  rw [if_neg (by rw [len_nestB]; omega)]
theorem top_deep {c d : Nat} (hc : c ≤ 3) (hd : 16 < d) : writeTop formD (nest c d) = .no 23 := by
  unfold writeTop
  rw [deep_nest hc d 16 hd]
theorem read_deep {c d : Nat} (hc : c ≤ 3) (hd : 16 < d) (h60 : d ≤ 60) : readP formD (nestB c d) = .no 23 := by
  unfold readP
  have := deep_read hc d 16 [] hd h60
  rw [List.append_nil] at this
  rw [if_neg (by rw [len_nestB]; omega), this]
/-- The first k heads. -/
def heads (c d : Nat) : Nat → Bs
  | 0 => []
  | k + 1 => heads c d k ++ [UInt8.ofNat (64 * c + 48), UInt8.ofNat (2 * (d - k))]
theorem heads_len (c d : Nat) : ∀ k, (heads c d k).length = 2 * k
  | 0 => rfl
  | k + 1 => by simp only [heads, List.length_append, heads_len c d k, List.length_cons, List.length_nil]; omega
theorem heads_nest (c d : Nat) : ∀ k, k ≤ d → heads c d k ++ nestB c (d - k) = nestB c d
  | 0, _ => rfl
  | k + 1, h => by
    have ih := heads_nest c d k (by omega)
    obtain ⟨m, hm⟩ : ∃ m, d - k = m + 1 := ⟨d - k - 1, by omega⟩
    rw [hm] at ih
    unfold heads
    rw [hm, show d - (k + 1) = m by omega, List.append_assoc, ← ih]
    show _ = heads c d k ++ (UInt8.ofNat (64 * c + 48) :: UInt8.ofNat (2 * m + 2) :: nestB c m)
    rw [show 2 * (m + 1) = 2 * m + 2 by omega]
    rfl
theorem heads_all (c d : Nat) : heads c d d ++ [5, 0] = nestB c d := by
  have := heads_nest c d d (Nat.le_refl _)
  rw [Nat.sub_self] at this
  exact this
end Go.Proofs.YtngkidlgcdofhabDoor
