/-
  Plain words on packed hints: bytes are lists of hints just if each list's places rise, the counts rise up to the greatest, and noughts stand behind the last place.
-/
import Derived.Test.YthciafobknaipaaRefUnH
namespace Go.Proofs.Ythciafobknaipaa
theorem sorted_ext : ∀ (a b : List Nat), a.Pairwise (· < ·) → b.Pairwise (· < ·) → (∀ x, x ∈ a ↔ x ∈ b) → a = b
  | [], [], _, _, _ => rfl
  | [], y :: b, _, _, h => by have := (h y).2 (by simp); simp at this
  | x :: a, [], _, _, h => by have := (h x).1 (by simp); simp at this
  | x :: a, y :: b, ha, hb, h => by
    rw [List.pairwise_cons] at ha hb
    have hxy : x = y := by
      have h1 := (h x).1 (by simp)
      have h2 := (h y).2 (by simp)
      rw [List.mem_cons] at h1 h2
      rcases h1 with h1 | h1
      · exact h1
      · rcases h2 with h2 | h2
        · exact h2.symm
        · have := ha.1 y h2
          have := hb.1 x h1
          omega
    subst hxy
    rw [sorted_ext a b ha.2 hb.2 (fun z => ?_)]
    constructor
    · intro hz
      have := (h z).1 (by simp [hz])
      rw [List.mem_cons] at this
      rcases this with e | e
      · have := ha.1 z hz; omega
      · exact e
    · intro hz
      have := (h z).2 (by simp [hz])
      rw [List.mem_cons] at this
      rcases this with e | e
      · have := hb.1 z hz; omega
      · exact e
/-- The bytes rise from f on ahead of e. -/
def RiseB (b : List Nat) (f e : Nat) : Prop := ∀ t, f < t → t < e → b.getD (t - 1) 0 < b.getD t 0
theorem RiseB.mono {b : List Nat} {f e : Nat} (h : RiseB b f e) (s : Nat) (hs : f ≤ s) : ∀ d, s + d + 1 < e → b.getD s 0 < b.getD (s + d + 1) 0
  | 0, hd => by have := h (s + 0 + 1) (by omega) hd; simpa using this
  | d + 1, hd => by
    have h1 := RiseB.mono h s hs d (by omega)
    have h2 := h (s + (d + 1) + 1) (by omega) hd
    rw [show s + (d + 1) + 1 - 1 = s + d + 1 by omega] at h2
    omega
def segB (b : List Nat) (f e : Nat) : List Nat := (b.drop f).take (e - f)
theorem segB_get {b : List Nat} {f e : Nat} (t : Nat) (ht : t < e - f) : (segB b f e).getD t 0 = b.getD (f + t) 0 := by
  unfold segB
  rw [List.getD_eq_getElem?_getD, List.getElem?_take, if_pos ht, List.getElem?_drop, List.getD_eq_getElem?_getD]
theorem len_segB {b : List Nat} {f e : Nat} (hf : f ≤ e) (he : e ≤ b.length) : (segB b f e).length = e - f := by
  unfold segB
  rw [List.length_take, List.length_drop]
  omega
theorem seg_sorted {b : List Nat} {f e : Nat} (hf : f ≤ e) (he : e ≤ b.length) (h : RiseB b f e) : (segB b f e).Pairwise (· < ·) := by
  rw [List.pairwise_iff_getElem]
  intro i j hi hj hij
  have hl := len_segB hf he
  have gi : (segB b f e)[i] = (segB b f e).getD i 0 := by rw [List.getD_eq_getElem?_getD, List.getElem?_eq_getElem hi]; rfl
  have gj : (segB b f e)[j] = (segB b f e).getD j 0 := by rw [List.getD_eq_getElem?_getD, List.getElem?_eq_getElem hj]; rfl
  rw [gi, gj, segB_get i (by omega), segB_get j (by omega)]
  have := h.mono (f + i) (by omega) (j - i - 1) (by omega)
  rwa [show f + i + (j - i - 1) + 1 = f + j by omega] at this
theorem mem_seg {b : List Nat} {f e : Nat} (hf : f ≤ e) (he : e ≤ b.length) (x : Nat) : x ∈ segB b f e ↔ ∃ t, f ≤ t ∧ t < e ∧ b.getD t 0 = x := by
  have hl := len_segB hf he
  constructor
  · intro h
    obtain ⟨j, hj, hx⟩ := List.getElem_of_mem h
    refine ⟨f + j, by omega, by omega, ?_⟩
    rw [← segB_get (e := e) j (by omega), List.getD_eq_getElem?_getD, List.getElem?_eq_getElem hj]
    exact hx
  · rintro ⟨t, h1, h2, rfl⟩
    have := segB_get (b := b) (f := f) (e := e) (t - f) (by omega)
    rw [show f + (t - f) = t by omega] at this
    rw [← this, List.getD_eq_getElem?_getD, List.getElem?_eq_getElem (by omega)]
    exact List.getElem_mem _
theorem places_sorted (l : List Bool) : (placesOf l).Pairwise (· < ·) := List.Pairwise.filter _ List.pairwise_lt_range
theorem mem_listB {b : List Nat} {m f e : Nat} (hem : e ≤ m) (h8 : ∀ t, f ≤ t → t < e → b.getD t 0 < 256) (x : Nat) : x ∈ placesOf (listB b m f e) ↔ ∃ t, f ≤ t ∧ t < e ∧ b.getD t 0 = x := by
  rw [mem_places (len_listB b m f e)]
  rcases Nat.lt_or_ge x 256 with hx | hx
  · rw [listB_get b m f e x hx, List.any_eq_true]
    constructor
    · rintro ⟨t, _, hc⟩
      simp only [Bool.and_eq_true, decide_eq_true_eq, beq_iff_eq] at hc
      exact ⟨t, hc.1.1, hc.1.2, hc.2⟩
    · rintro ⟨t, h1, h2, h3⟩
      exact ⟨t, List.mem_range.2 (by omega), by simp only [Bool.and_eq_true, decide_eq_true_eq, beq_iff_eq]; exact ⟨⟨h1, h2⟩, h3⟩⟩
  · constructor
    · intro h
      rw [List.getD_eq_getElem?_getD, List.getElem?_eq_none (by rw [len_listB]; exact hx)] at h
      simp at h
    · rintro ⟨t, h1, h2, h3⟩
      have := h8 t h1 h2
      omega
theorem places_listB {b : List Nat} {m f e : Nat} (hf : f ≤ e) (hem : e ≤ m) (hm : m ≤ b.length) (h8 : ∀ t, f ≤ t → t < e → b.getD t 0 < 256) (h : RiseB b f e) : placesOf (listB b m f e) = segB b f e :=
  sorted_ext _ _ (places_sorted _) (seg_sorted hf (by omega) h) fun x => by rw [mem_listB hem h8, mem_seg hf (by omega)]
/-- The lists ahead of i are such. -/
def GoodTo (b : List Nat) (m i : Nat) : Prop := ∀ j, j < i → fromB b m j ≤ endB b m j ∧ endB b m j ≤ m ∧ RiseB b (fromB b m j) (endB b m j)
theorem from_succ (b : List Nat) (m i : Nat) : fromB b m (i + 1) = endB b m i := by unfold fromB; rw [if_neg (by omega), Nat.add_sub_cancel]
theorem from_le {b : List Nat} {m i : Nat} (h : GoodTo b m i) : fromB b m i ≤ m := by
  cases i with
  | zero => simp [fromB]
  | succ i => rw [from_succ]; exact (h i (by omega)).2.1
theorem places_out {b : List Nat} {n m : Nat} (hl : b.length = m + n) (h8 : ∀ z ∈ b, z < 256) (h : GoodTo b m n) : ∀ i, i ≤ n → placesAll ((outB b n m).take i) = b.take (fromB b m i)
  | 0, _ => by simp [placesAll, fromB]
  | i + 1, hi => by
    have ih := places_out hl h8 h i (by omega)
    obtain ⟨h1, h2, h3⟩ := h i (by omega)
    rw [placesAll_snoc _ i (by rw [len_outB]; omega), ih, outB_get b n m i (by omega), places_listB h1 h2 (by omega) (fun t _ _ => by
      rw [List.getD_eq_getElem?_getD, List.getElem?_eq_getElem (by omega)]; exact h8 _ (List.getElem_mem _)) h3, from_succ]
    unfold segB
    rw [← List.take_add, show fromB b m i + (endB b m i - fromB b m i) = endB b m i by omega]
theorem hints_yes {b : List Nat} {n m : Nat} (hn : n ≤ 16) (hm : m ≤ 255) (hl : b.length = m + n) (h8 : ∀ z ∈ b, z < 256) (h : GoodTo b m n) (h0 : ∀ t, fromB b m n ≤ t → t < m → b.getD t 0 = 0) : HintsOf b (n : Int) (m : Int) (outB b n m) := by
  have hF := from_le h
  have hpa : placesAll (outB b n m) = b.take (fromB b m n) := by
    have := places_out hl h8 h n (Nat.le_refl _)
    rwa [List.take_of_length_le (by rw [len_outB]; exact Nat.le_refl _)] at this
  have hlp : (placesAll (outB b n m)).length = fromB b m n := by rw [hpa, List.length_take]; omega
  refine ⟨⟨by omega, by omega, by rw [len_outB]; exact hn, fun l hl' => ?_, by omega⟩, by rw [len_outB], ?_⟩
  · obtain ⟨i, hi, rfl⟩ := List.getElem_of_mem hl'
    rw [len_outB] at hi
    have := outB_get b n m i hi
    rw [List.getD_eq_getElem?_getD, List.getElem?_eq_getElem (by rw [len_outB]; exact hi), Option.getD_some] at this
    rw [this, len_listB]
  · rw [Int.toNat_natCast]
    unfold hintBytes
    rw [hlp, hpa]
    have e1 : List.replicate (m - fromB b m n) 0 = (b.drop (fromB b m n)).take (m - fromB b m n) := by
      apply List.ext_getElem
      · rw [List.length_replicate, List.length_take, List.length_drop]; omega
      · intro t h1 h2
        rw [List.length_replicate] at h1
        rw [List.getElem_replicate, List.getElem_take, List.getElem_drop]
        have := h0 (fromB b m n + t) (by omega) (by omega)
        rw [List.getD_eq_getElem?_getD, List.getElem?_eq_getElem (by omega), Option.getD_some] at this
        exact this.symm
    have e2 : endsOf (outB b n m) = b.drop m := by
      apply List.ext_getElem
      · rw [len_ends, len_outB, List.length_drop]; omega
      · intro i h1 h2
        rw [len_ends, len_outB] at h1
        have g : (endsOf (outB b n m))[i]'(by rw [len_ends, len_outB]; exact h1) = (endsOf (outB b n m)).getD i 0 := by rw [List.getD_eq_getElem?_getD, List.getElem?_eq_getElem (by rw [len_ends, len_outB]; exact h1)]; rfl
        rw [g, ends_get _ i (by rw [len_outB]; exact h1), places_out hl h8 h (i + 1) (by omega), from_succ, List.length_take, List.getElem_drop]
        have h2 := (h i h1).2.1
        have e : endB b m i = b[m + i] := by unfold endB; rw [List.getD_eq_getElem?_getD, List.getElem?_eq_getElem (by omega)]; rfl
        omega
    rw [e1, e2, ← List.take_add, show fromB b m n + (m - fromB b m n) = m by omega, List.take_append_drop]
theorem hints_good {b : List Nat} {n m : Nat} {L : List (List Bool)} (h : HintsOf b (n : Int) (m : Int) L) : GoodTo b m n ∧ ∀ t, fromB b m n ≤ t → t < m → b.getD t 0 = 0 := by
  obtain ⟨⟨_, _, _, h3, h4⟩, h5, h6⟩ := h
  rw [Int.toNat_natCast] at h6
  have hn : L.length = n := by omega
  have hp : (placesAll L).length ≤ m := by omega
  subst hn
  refine ⟨fun j hj => ?_, fun t h1 h2 => ?_⟩
  · have hs := placesAll_snoc L j hj
    have hmo := placesAll_mono L (j + 1)
    have hpl := place_hint hp j hj
    have hlen : (placesAll (L.take (j + 1))).length = (placesAll (L.take j)).length + (placesOf (L.getD j [])).length := by rw [hs, List.length_append]
    rw [h6, from_hint hp j hj, end_hint hp j hj]
    refine ⟨by omega, by omega, fun t t1 t2 => ?_⟩
    obtain ⟨k, rfl⟩ : ∃ k, t = (placesAll (L.take j)).length + (k + 1) := ⟨t - (placesAll (L.take j)).length - 1, by omega⟩
    rw [show (placesAll (L.take j)).length + (k + 1) - 1 = (placesAll (L.take j)).length + k by omega, hpl k (by omega), hpl (k + 1) (by omega)]
    have hk : k + 1 < (placesOf (L.getD j [])).length := by omega
    have hso := places_sorted (L.getD j [])
    generalize placesOf (L.getD j []) = q at hk hso
    rw [List.pairwise_iff_getElem] at hso
    have := hso k (k + 1) (by omega) hk (by omega)
    have g1 : q.getD k 0 = q[k] := by rw [List.getD_eq_getElem?_getD, List.getElem?_eq_getElem (by omega)]; rfl
    have g2 : q.getD (k + 1) 0 = q[k + 1] := by rw [List.getD_eq_getElem?_getD, List.getElem?_eq_getElem hk]; rfl
    rw [g1, g2]
    exact this
  · have hF : fromB b m L.length = (placesAll L).length := by
      rcases Nat.eq_zero_or_pos L.length with e | e
      · rw [e]
        have : L = [] := List.eq_nil_of_length_eq_zero e
        rw [this]
        simp [fromB, placesAll]
      · obtain ⟨i, hi⟩ : ∃ i, L.length = i + 1 := ⟨L.length - 1, by omega⟩
        rw [hi, from_succ, h6, end_hint hp i (by omega), List.take_of_length_le (by omega)]
    rw [hF] at h1
    rw [h6]
    unfold hintBytes
    rw [List.append_assoc, show t = (placesAll L).length + (t - (placesAll L).length) by omega, getD_right, getD_left (by rw [List.length_replicate]; omega), List.getD_eq_getElem?_getD, List.getElem?_replicate, if_pos (by omega)]
    rfl
end Go.Proofs.Ythciafobknaipaa
