/-
  Plain words on packed hints: the lists are told by their bytes.
-/
import Derived.Test.YthciafobknaipaaRefHints
namespace Go.Proofs.Ythciafobknaipaa
/-- Where a list's places end, and begin, by the bytes. -/
def endB (b : List Nat) (m i : Nat) : Nat := b.getD (m + i) 0
def fromB (b : List Nat) (m i : Nat) : Nat := if i = 0 then 0 else endB b m (i - 1)
/-- One list: true at the places that stand from f on ahead of e (and of m). -/
def listB (b : List Nat) (m f e : Nat) : List Bool := (List.range 256).map fun k => (List.range m).any fun t => decide (f ≤ t) && decide (t < e) && b.getD t 0 == k
def outB (b : List Nat) (n m : Nat) : List (List Bool) := (List.range n).map fun i => listB b m (fromB b m i) (endB b m i)
theorem len_outB (b : List Nat) (n m : Nat) : (outB b n m).length = n := by simp [outB]
theorem outB_get (b : List Nat) (n m i : Nat) (hi : i < n) : (outB b n m).getD i [] = listB b m (fromB b m i) (endB b m i) := by simp [outB, List.getD_eq_getElem?_getD, hi]
theorem len_listB (b : List Nat) (m f e : Nat) : (listB b m f e).length = 256 := by simp [listB]
theorem ends_get (L : List (List Bool)) (i : Nat) (hi : i < L.length) : (endsOf L).getD i 0 = (placesAll (L.take (i + 1))).length := by simp [endsOf, List.getD_eq_getElem?_getD, hi]
theorem getD_left {a b : List Nat} {t : Nat} (h : t < a.length) : (a ++ b).getD t 0 = a.getD t 0 := by rw [List.getD_eq_getElem?_getD, List.getElem?_append_left h, List.getD_eq_getElem?_getD]
theorem getD_right {a b : List Nat} {t : Nat} : (a ++ b).getD (a.length + t) 0 = b.getD t 0 := by rw [List.getD_eq_getElem?_getD, List.getElem?_append_right (by omega), Nat.add_sub_cancel_left, List.getD_eq_getElem?_getD]
theorem end_hint {m : Nat} {L : List (List Bool)} (h : (placesAll L).length ≤ m) (i : Nat) (hi : i < L.length) : endB (hintBytes m L) m i = (placesAll (L.take (i + 1))).length := by
  unfold endB hintBytes
  have e := front_len h
  conv => lhs; rw [show m + i = (placesAll L ++ List.replicate (m - (placesAll L).length) 0).length + i by rw [e]]
  rw [getD_right, ends_get L i hi]
theorem from_hint {m : Nat} {L : List (List Bool)} (h : (placesAll L).length ≤ m) (i : Nat) (hi : i < L.length) : fromB (hintBytes m L) m i = (placesAll (L.take i)).length := by
  unfold fromB
  split
  · rename_i e; subst e; simp [placesAll]
  · rw [end_hint h (i - 1) (by omega), show i - 1 + 1 = i by omega]
theorem mem_places {l : List Bool} (h : l.length = 256) (k : Nat) : k ∈ placesOf l ↔ l.getD k false = true := by
  unfold placesOf
  rw [List.mem_filter, List.mem_range, h]
  constructor
  · exact fun h => h.2
  · intro hk
    refine ⟨?_, hk⟩
    rcases Nat.lt_or_ge k 256 with h1 | h1
    · exact h1
    · rw [List.getD_eq_getElem?_getD, List.getElem?_eq_none (by omega)] at hk
      simp at hk
/-- A place of the list i. -/
theorem place_hint {m : Nat} {L : List (List Bool)} (_h : (placesAll L).length ≤ m) (i : Nat) (hi : i < L.length) (j : Nat) (hj : j < (placesOf (L.getD i [])).length) : (hintBytes m L).getD ((placesAll (L.take i)).length + j) 0 = (placesOf (L.getD i [])).getD j 0 := by
  have hs := placesAll_snoc L i hi
  have hm := placesAll_mono L (i + 1)
  have hlt : (placesAll (L.take i)).length + j < (placesAll L).length := by rw [hs, List.length_append] at hm; omega
  have e1 : (hintBytes m L).getD ((placesAll (L.take i)).length + j) 0 = (placesAll L).getD ((placesAll (L.take i)).length + j) 0 := by
    unfold hintBytes
    rw [List.append_assoc, getD_left hlt]
  have e2 : placesAll L = placesAll (L.take (i + 1)) ++ placesAll (L.drop (i + 1)) := by
    conv => lhs; rw [← List.take_append_drop (i + 1) L]
    unfold placesAll
    rw [List.flatMap_append]
  rw [e1, e2, hs, List.append_assoc, getD_right, getD_left hj]
theorem list_hint {m : Nat} {L : List (List Bool)} (h : (placesAll L).length ≤ m) (i : Nat) (hi : i < L.length) (h256 : (L.getD i []).length = 256) : listB (hintBytes m L) m (fromB (hintBytes m L) m i) (endB (hintBytes m L) m i) = L.getD i [] := by
  rw [from_hint h i hi, end_hint h i hi]
  have hs := placesAll_snoc L i hi
  have hm := placesAll_mono L (i + 1)
  have hp := place_hint h i hi
  generalize L.getD i [] = l at h256 hs hp ⊢
  generalize hF : (placesAll (L.take i)).length = F at hp ⊢
  have hE : (placesAll (L.take (i + 1))).length = F + (placesOf l).length := by rw [hs, List.length_append, hF]
  rw [hE] at hm ⊢
  apply List.ext_getElem
  · rw [len_listB, h256]
  · intro k h1 h2
    rw [len_listB] at h1
    simp only [listB, List.getElem_map, List.getElem_range]
    have hk : l[k] = l.getD k false := by rw [List.getD_eq_getElem?_getD, List.getElem?_eq_getElem h2]; rfl
    rw [hk]
    rw [Bool.eq_iff_iff, ← mem_places h256, List.any_eq_true]
    constructor
    · rintro ⟨t, ht, hc⟩
      simp only [Bool.and_eq_true, decide_eq_true_eq, beq_iff_eq] at hc
      obtain ⟨⟨c1, c2⟩, c3⟩ := hc
      have hj : t - F < (placesOf l).length := by omega
      have hq := hp _ hj
      rw [show F + (t - F) = t by omega, c3] at hq
      rw [hq, List.getD_eq_getElem?_getD, List.getElem?_eq_getElem hj]
      exact List.getElem_mem hj
    · intro hmem
      obtain ⟨j, hj, he⟩ := List.getElem_of_mem hmem
      have hq := hp j hj
      refine ⟨F + j, List.mem_range.2 (by omega), ?_⟩
      simp only [Bool.and_eq_true, decide_eq_true_eq, beq_iff_eq]
      refine ⟨⟨by omega, by omega⟩, ?_⟩
      rw [hq, List.getD_eq_getElem?_getD, List.getElem?_eq_getElem hj]
      exact he
/-- THE LISTS ARE TOLD BY THEIR BYTES. -/
theorem outB_hint {m : Nat} {L : List (List Bool)} (h : (placesAll L).length ≤ m) (h256 : ∀ l ∈ L, l.length = 256) : outB (hintBytes m L) L.length m = L := by
  apply List.ext_getElem
  · rw [len_outB]
  · intro i h1 h2
    have e1 : (outB (hintBytes m L) L.length m)[i] = (outB (hintBytes m L) L.length m).getD i [] := by rw [List.getD_eq_getElem?_getD, List.getElem?_eq_getElem h1]; rfl
    have e2 : L[i] = L.getD i [] := by rw [List.getD_eq_getElem?_getD, List.getElem?_eq_getElem h2]; rfl
    rw [e1, outB_get _ _ _ _ h2, list_hint h i h2 (by rw [← e2]; exact h256 _ (List.getElem_mem h2)), ← e2]
/-- The bytes are lists of hints. -/
def HintsOf (b : List Nat) (n m : Int) (L : List (List Bool)) : Prop := Hintable m L ∧ (L.length : Int) = n ∧ b = hintBytes m.toNat L
theorem hintsOf_only {b : List Nat} {n m : Int} {L : List (List Bool)} (h : HintsOf b n m L) : L = outB b n.toNat m.toNat := by
  obtain ⟨⟨h0, _, _, h3, h4⟩, h5, rfl⟩ := h
  rw [show n.toNat = L.length by omega]
  exact (outB_hint (by omega) h3).symm
end Go.Proofs.Ythciafobknaipaa
