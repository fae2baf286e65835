/-
  Plain words on sets: turned round; what is written of them.
-/
import Derived.Test.YtngkidlgcdofhabDoorKset
namespace Go.Proofs.YtngkidlgcdofhabDoor
open K
theorem chain_pw : ∀ l : List Bs, chainP l = true ↔ l.Pairwise (fun a b => befP a b = true)
  | [] => by simp [chainP]
  | [a] => by simp [chainP]
  | a :: b :: l => by
    rw [chain_two, Bool.and_eq_true, chain_pw (b :: l)]
    constructor
    · rintro ⟨h1, h2⟩
      refine List.pairwise_cons.2 ⟨fun x hx => ?_, h2⟩
      rcases List.mem_cons.1 hx with rfl | hx
      · exact h1
      · exact bef_trans h1 ((List.pairwise_cons.1 h2).1 x hx)
    · intro h
      have h3 := List.pairwise_cons.1 h
      exact ⟨h3.1 b (by simp), h3.2⟩
theorem chain_rev (l : List Bs) : chainP l.reverse = true ↔ l.Pairwise (fun a b => befP b a = true) := by rw [chain_pw, List.pairwise_reverse]
/-- Turned round they stand right just if the first and the last are alike. -/
theorem chain_turned (a : Bs) (m : List Bs) (z : Bs) (h : chainP (a :: (m ++ [z])) = true) : chainP (a :: (m ++ [z])).reverse = decide (a = z) := by
  have hp := (chain_pw _).1 h
  rw [List.pairwise_cons] at hp
  by_cases e : a = z
  · rw [decide_eq_true e, chain_rev, List.pairwise_cons]
    have hz : ∀ x ∈ m ++ [z], befP x z = true := fun x hx => by
      rcases List.mem_append.1 hx with hx | hx
      · exact (List.pairwise_append.1 hp.2).2.2 x hx z (by simp)
      · rw [List.mem_singleton.1 hx]; exact bef_self z
    have hall : ∀ x ∈ m ++ [z], x = a := fun x hx => bef_eq (by rw [e]; exact hz x hx) (hp.1 x hx)
    refine ⟨fun x hx => by rw [hall x hx]; exact bef_self a, ?_⟩
    exact List.pairwise_iff_forall_sublist.2 fun {x y} hs => by
      have hx := hall x (hs.subset (by simp))
      have hy := hall y (hs.subset (by simp))
      rw [hx, hy]
      exact bef_self a
  · rw [decide_eq_false e]
    cases hc : chainP (a :: (m ++ [z])).reverse with
    | false => rfl
    | true =>
      rw [chain_rev, List.pairwise_cons] at hc
      exact absurd (bef_eq (hp.1 z (by simp)) (hc.1 z (by simp))) e
/-- A value of bytes. -/
def leafV (b : Bs) : DV := .mk 0 4 false b []
theorem write_leaf (f : Nat) {b : Bs} (hb : b.length < 128) : writeP formD (f + 1) (leafV b) = .yes (encB b) := by
  unfold leafV
  rw [write_unf, if_neg (by omega)]
  have hf : formD (0 : Int).toNat (4 : Int).toNat false b = 0 := by
    show formD 0 4 false b = 0
    unfold formD
    rw [if_neg (by omega), if_neg (by decide), if_neg (by rw [show rightP 4 b = true from rfl]; simp)]
  rw [hf, if_neg (by omega), if_neg (by simp), all_end]
  have ht : tagB (0 : Int).toNat (4 : Int).toNat false = [4] := by decide
  simp only [fallsP, Bool.false_and, Bool.false_eq_true, if_false, List.flatten_nil, List.append_nil, ht]
  unfold lenB encB
  rw [if_pos hb]
  rfl
theorem all_leaves (f : Nat) : ∀ l : List Bs, (∀ b ∈ l, b.length < 128) → allP (writeP formD (f + 1)) (l.map leafV) = .yes (l.map encB)
  | [], _ => all_end _
  | b :: l, h => by
    rw [List.map_cons, all_cons, write_leaf f (h b (by simp)), all_leaves f l (fun x hx => h x (List.mem_cons_of_mem _ hx))]
    rfl
theorem flat_len : ∀ l : List Bs, (∀ b ∈ l, b.length ≤ 100) → (l.map encB).flatten.length ≤ 102 * l.length
  | [], _ => by simp
  | b :: l, h => by
    have h1 := flat_len l (fun x hx => h x (List.mem_cons_of_mem _ hx))
    have h2 := h b (by simp)
    simp only [List.map_cons, List.flatten_cons, List.length_append, List.length_cons, encB]
    omega
/-- A set (17) or a sequence (16) of values of bytes. -/
theorem write_made {t : Int} (ht : t = 16 ∨ t = 17) {l : List Bs} (hl : l.length ≤ 20) (hb : ∀ b ∈ l, b.length ≤ 100) :
    writeTop formD (.mk 0 t true [] (l.map leafV)) = if t = 17 ∧ chainP l = false then .no 25 else .yes (tagB 0 t.toNat true ++ lenB (l.map encB).flatten.length ++ (l.map encB).flatten) := by
  have hf : formD (0 : Int).toNat t.toNat true [] = 0 := by rcases ht with rfl | rfl <;> decide
  have h128 : ∀ b ∈ l, b.length < 128 := fun b h => by have := hb b h; omega
  have hw : writeP formD 17 (.mk 0 t true [] (l.map leafV)) = if t = 17 ∧ chainP l = false then .no 25 else .yes (tagB 0 t.toNat true ++ lenB (l.map encB).flatten.length ++ (l.map encB).flatten) := by
    rw [write_unf, if_neg (by omega), hf, if_neg (by omega), if_neg (by simp), all_leaves 15 l h128]
    simp only [falls_chain l h128, decide_true, Bool.and_true, List.nil_append, Bool.and_eq_true, Bool.not_eq_true', decide_eq_true_eq]
    by_cases h : t = 17 ∧ chainP l = false
    · rw [if_pos h, if_pos ⟨h.2, h.1⟩]
    · rw [if_neg h, if_neg (fun e => h ⟨e.2, e.1⟩)]
      rfl
  unfold writeTop
  rw [hw]
  by_cases h : t = 17 ∧ chainP l = false
  · rw [if_pos h]
  · rw [if_neg h]
    simp only []
    have h1 := flat_len l hb
    have h2 := len_tagB_le 0 t.toNat true
    have h3 := lenB_le (n := (l.map encB).flatten.length) (by omega)
    rw [if_neg (by simp only [List.length_append]; omega)]
end Go.Proofs.YtngkidlgcdofhabDoor
