/-
  Plain words on an object that is told bytes: its three parts, one byte more, many; what a piece does that fits into what is left of the block, and one that fills it. No program is named here.
-/
import Derived.Test.YtodcpcdhkghgnaaDoorRound
namespace Go.Proofs.YtodcpcdhkghgnaaDoor
/-- The state, what was told behind the last whole block, how many bytes were told. -/
structure HS where
  st : List UInt32
  last : List UInt8
  told : Nat
def HS.ok (s : HS) : Prop := s.st.length = 8 ∧ s.last.length = 64
def step1 (s : HS) (c : UInt8) : HS :=
  ⟨if (s.told + 1) % 64 = 0 then mixed s.st (s.last.set (s.told % 64) c) else s.st, s.last.set (s.told % 64) c, s.told + 1⟩
def feed (s : HS) (bs : List UInt8) : HS := bs.foldl step1 s
def hs0 : HS := ⟨hTab, List.replicate 64 0, 0⟩
theorem length_mixed (st : List UInt32) (l : List UInt8) (h : st.length = 8) : (mixed st l).length = 8 := by simp [mixed, St8.list, h]
theorem step1_ok (s : HS) (c : UInt8) (h : s.ok) : (step1 s c).ok := by
  obtain ⟨h1, h2⟩ := h
  unfold step1
  refine ⟨?_, by simp [h2]⟩
  dsimp only
  split
  · exact length_mixed _ _ h1
  · exact h1
theorem feed_ok (s : HS) (bs : List UInt8) (h : s.ok) : (feed s bs).ok := by
  induction bs generalizing s with
  | nil => exact h
  | cons c r ih => exact ih _ (step1_ok s c h)
theorem hs0_ok : hs0.ok := ⟨rfl, rfl⟩
theorem feed_append (s : HS) (a b : List UInt8) : feed s (a ++ b) = feed (feed s a) b := by simp [feed, List.foldl_append]
theorem feed_told (s : HS) (bs : List UInt8) : (feed s bs).told = s.told + bs.length := by
  induction bs generalizing s with
  | nil => rfl
  | cons c r ih => show (feed (step1 s c) r).told = _; rw [ih]; simp [step1]; omega
theorem feed_part (s : HS) (bs : List UInt8) (h : s.last.length = 64) (hl : s.told % 64 + bs.length < 64) :
    feed s bs = ⟨s.st, s.last.take (s.told % 64) ++ bs ++ s.last.drop (s.told % 64 + bs.length), s.told + bs.length⟩ := by
  induction bs generalizing s with
  | nil => simp [feed]
  | cons c r ih =>
    simp only [List.length_cons] at hl
    have hm : (s.told + 1) % 64 = s.told % 64 + 1 := by omega
    have e : step1 s c = ⟨s.st, s.last.set (s.told % 64) c, s.told + 1⟩ := by
      unfold step1; rw [if_neg (by omega)]
    show feed (step1 s c) r = _
    rw [ih (step1 s c) (by rw [e]; simpa using h) (by rw [e]; dsimp only; omega), e]
    dsimp only
    rw [hm]
    have e1 : (s.last.set (s.told % 64) c).take (s.told % 64 + 1) = s.last.take (s.told % 64) ++ [c] := by
      rw [List.take_add_one, List.take_set_of_le (Nat.le_refl _), List.getElem?_set_self (by omega)]; rfl
    have e2 : (s.last.set (s.told % 64) c).drop (s.told % 64 + 1 + r.length) = s.last.drop (s.told % 64 + (r.length + 1)) := by
      rw [List.drop_set_of_lt (by omega)]; congr 1; omega
    rw [e1, e2]
    simp; omega
theorem feed_fill (s : HS) (bs : List UInt8) (h : s.last.length = 64) (hl : s.told % 64 + bs.length = 64) :
    feed s bs = ⟨mixed s.st (s.last.take (s.told % 64) ++ bs), s.last.take (s.told % 64) ++ bs, s.told + bs.length⟩ := by
  have hne : bs ≠ [] := by intro e; subst e; simp at hl; omega
  obtain ⟨r, c, rfl⟩ : ∃ r c, bs = r ++ [c] := ⟨bs.dropLast, bs.getLast hne, (List.dropLast_concat_getLast hne).symm⟩
  simp only [List.length_append, List.length_singleton] at hl
  rw [feed_append, feed_part s r h (by omega)]
  have hm : (s.told + r.length) % 64 = 63 := by omega
  have ho : s.told % 64 + r.length = 63 := by omega
  show step1 _ c = _
  unfold step1
  dsimp only
  rw [if_pos (by omega), hm, ho]
  have e : (s.last.take (s.told % 64) ++ r ++ s.last.drop 63).set 63 c = s.last.take (s.told % 64) ++ (r ++ [c]) := by
    rw [List.set_append_right _ _ (by simp [h]; omega)]
    have h63 : 63 - (s.last.take (s.told % 64) ++ r).length = 0 := by simp [h]; omega
    obtain ⟨x, hx⟩ : ∃ x, s.last.drop 63 = [x] := List.length_eq_one_iff.1 (by simp [h])
    rw [h63, hx]
    simp
  rw [e]
  simp; omega
/-- The object's cells. -/
def hcells (s : HS) : List Value := s.st.map wv ++ s.last.map bv ++ [.int .i64 (s.told : Int)]
theorem length_hcells (s : HS) (h : s.ok) : (hcells s).length = 73 := by obtain ⟨h1, h2⟩ := h; simp [hcells, h1, h2]
theorem hcells_splice (s : HS) (h : s.ok) (o : Nat) (bs : List UInt8) (hl : o + bs.length ≤ 64) :
    (hcells s).take (8 + o) ++ bs.map bv ++ (hcells s).drop (8 + o + bs.length) = hcells ⟨s.st, s.last.take o ++ bs ++ s.last.drop (o + bs.length), s.told⟩ := by
  obtain ⟨h1, h2⟩ := h
  have e1 : (hcells s).take (8 + o) = s.st.map wv ++ (s.last.take o).map bv := by
    unfold hcells
    rw [List.append_assoc, List.take_append, List.take_of_length_le (by simp [h1]), List.length_map, h1, Nat.add_sub_cancel_left, List.take_append_of_le_length (by simp [h2]; omega), List.map_take]
  have e2 : (hcells s).drop (8 + o + bs.length) = (s.last.drop (o + bs.length)).map bv ++ [.int .i64 (s.told : Int)] := by
    unfold hcells
    rw [List.append_assoc, List.drop_append, List.drop_of_length_le (by simp [h1]; omega), List.length_map, h1, List.nil_append, show 8 + o + bs.length - 8 = o + bs.length from by omega, List.drop_append_of_le_length (by simp [h2]; omega), List.map_drop]
  rw [e1, e2]
  simp [hcells]
theorem hcells_told (s : HS) (h : s.ok) (t : Nat) : (hcells s).toArray.setIfInBounds 72 (.int .i64 (t : Int)) = (hcells ⟨s.st, s.last, t⟩).toArray := by
  obtain ⟨h1, h2⟩ := h
  rw [List.setIfInBounds_toArray]
  congr 1
  unfold hcells
  rw [List.set_append_right _ _ (by simp [h1, h2])]
  simp [h1, h2]
theorem hcells_get_told (s : HS) (h : s.ok) : (hcells s).toArray[72]? = some (.int .i64 (s.told : Int)) := by
  obtain ⟨h1, h2⟩ := h
  rw [List.getElem?_toArray]
  unfold hcells
  rw [List.getElem?_append_right (by simp [h1, h2])]
  simp [h1, h2]
theorem hcells_get_st (s : HS) (h : s.ok) (i : Nat) (hi : i < 8) : (hcells s).toArray[i]? = some (.int .u32 (iv (s.st.getD i 0))) := by
  obtain ⟨h1, h2⟩ := h
  rw [List.getElem?_toArray]
  unfold hcells
  rw [List.append_assoc, List.getElem?_append_left (by simp [h1, hi])]
  have := getD_map_wv s.st i (by omega)
  rwa [List.getElem?_toArray] at this
theorem hcells_get_last (s : HS) (h : s.ok) (i : Nat) (hi : i < 64) : (hcells s).toArray[8 + i]? = (s.last.map bv)[i]? := by
  obtain ⟨h1, h2⟩ := h
  rw [List.getElem?_toArray]
  unfold hcells
  rw [List.append_assoc, List.getElem?_append_right (by simp [h1]), List.getElem?_append_left (by simp [h1, h2]; omega)]
  simp [h1]
end Go.Proofs.YtodcpcdhkghgnaaDoor
