/-
  Plain words on sets: values of bytes, sorted by length and then byte by byte; their forms don't fall just then.
-/
import Derived.Test.YtngkidlgcdofhabDoorKq
namespace Go.Proofs.YtngkidlgcdofhabDoor
open K
theorem less_cons (a b : UInt8) (l m : Bs) : lessP (a :: l) (b :: m) = if a = b then lessP l m else decide (a < b) := rfl
theorem less_self : ∀ a : Bs, lessP a a = false
  | [] => rfl
  | x :: l => by rw [less_cons, if_pos rfl]; exact less_self l
theorem less_asymm : ∀ a b : Bs, lessP a b = true → lessP b a = false
  | [], [], h => by simp [lessP] at h
  | [], _ :: _, _ => rfl
  | _ :: _, [], h => by simp [lessP] at h
  | x :: l, y :: m, h => by
    rw [less_cons] at h ⊢
    by_cases e : x = y
    · rw [if_pos e] at h
      rw [if_pos e.symm]
      exact less_asymm l m h
    · rw [if_neg e] at h
      rw [if_neg (fun e2 => e e2.symm)]
      simp only [decide_eq_true_eq, decide_eq_false_iff_not, UInt8.lt_iff_toNat_lt] at h ⊢
      omega
theorem less_eq : ∀ a b : Bs, lessP a b = false → lessP b a = false → a = b
  | [], [], _, _ => rfl
  | [], _ :: _, h, _ => by simp [lessP] at h
  | _ :: _, [], _, h => by simp [lessP] at h
  | x :: l, y :: m, h, h2 => by
    rw [less_cons] at h h2
    by_cases e : x = y
    · rw [if_pos e] at h
      rw [if_pos e.symm] at h2
      rw [e, less_eq l m h h2]
    · rw [if_neg e] at h
      rw [if_neg (fun e2 => e e2.symm)] at h2
      simp only [decide_eq_false_iff_not, UInt8.lt_iff_toNat_lt] at h h2
      exact absurd (UInt8.toNat_inj.1 (by omega)) e
theorem less_trans : ∀ a b c : Bs, lessP b a = false → lessP c b = false → lessP c a = false
  | [], b, c, h1, h2 => by
    cases c with
    | nil => rfl
    | cons z n => rfl
  | x :: l, [], c, h1, _ => by simp [lessP] at h1
  | x :: l, y :: m, [], _, h2 => by simp [lessP] at h2
  | x :: l, y :: m, z :: n, h1, h2 => by
    rw [less_cons] at h1 h2 ⊢
    by_cases e1 : y = x
    · rw [if_pos e1] at h1
      by_cases e2 : z = y
      · rw [if_pos e2] at h2
        rw [if_pos (e2.trans e1)]
        exact less_trans l m n h1 h2
      · rw [if_neg e2] at h2
        rw [if_neg (fun e => e2 (e.trans e1.symm)), ← e1]
        exact h2
    · rw [if_neg e1] at h1
      by_cases e2 : z = y
      · rw [if_neg (fun e => e1 (e2.symm.trans e)), e2]
        exact h1
      · rw [if_neg e2] at h2
        simp only [decide_eq_false_iff_not, UInt8.lt_iff_toNat_lt] at h1 h2
        have n1 : y.toNat ≠ x.toNat := fun e => e1 (UInt8.toNat_inj.1 e)
        have n2 : z.toNat ≠ y.toNat := fun e => e2 (UInt8.toNat_inj.1 e)
        rw [if_neg (fun e => by rw [e] at h2 n2; omega)]
        simp only [decide_eq_false_iff_not, UInt8.lt_iff_toNat_lt]
        omega
/-- A value of bytes, in bytes. -/
def encB (b : Bs) : Bs := 4 :: UInt8.ofNat b.length :: b
theorem less_enc {a b : Bs} (ha : a.length < 128) (hb : b.length < 128) : lessP (encB a) (encB b) = (decide (a.length < b.length) || (decide (a.length = b.length) && lessP a b)) := by
  unfold encB
  have na : (UInt8.ofNat a.length).toNat = a.length := by rw [UInt8.toNat_ofNat']; omega
  have nb : (UInt8.ofNat b.length).toNat = b.length := by rw [UInt8.toNat_ofNat']; omega
  rw [less_cons, if_pos rfl, less_cons]
  by_cases e : a.length = b.length
  · rw [if_pos (by rw [e]), decide_eq_false (by omega : ¬ a.length < b.length), decide_eq_true e]; rfl
  · rw [if_neg (fun h => e (by rw [← na, ← nb, h])), decide_eq_false e]
    simp only [UInt8.lt_iff_toNat_lt, na, nb, Bool.false_and, Bool.or_false]
/-- The one may stand ahead of the other. -/
def befP (a b : Bs) : Bool := decide (a.length < b.length) || (decide (a.length = b.length) && !lessP b a)
theorem bef_enc {a b : Bs} (ha : a.length < 128) (hb : b.length < 128) : lessP (encB b) (encB a) = !befP a b := by
  rw [less_enc hb ha]
  unfold befP
  rcases Nat.lt_trichotomy a.length b.length with h | h | h
  · rw [decide_eq_false (by omega : ¬ b.length < a.length), decide_eq_false (by omega : ¬ b.length = a.length), decide_eq_true h]; rfl
  · rw [decide_eq_false (by omega : ¬ b.length < a.length), decide_eq_true (by omega : b.length = a.length), decide_eq_false (by omega : ¬ a.length < b.length), decide_eq_true h]; simp
  · rw [decide_eq_true h, decide_eq_false (by omega : ¬ a.length < b.length), decide_eq_false (by omega : ¬ a.length = b.length)]; rfl
theorem bef_iff {a b : Bs} : befP a b = true ↔ a.length < b.length ∨ (a.length = b.length ∧ lessP b a = false) := by
  unfold befP
  simp
theorem bef_total {a b : Bs} (h : befP a b = false) : befP b a = true := by
  rw [bef_iff]
  have h' : ¬ (a.length < b.length ∨ (a.length = b.length ∧ lessP b a = false)) := fun e => by rw [bef_iff.2 e] at h; cases h
  rcases Nat.lt_trichotomy a.length b.length with h1 | h1 | h1
  · exact absurd (Or.inl h1) h'
  · refine Or.inr ⟨h1.symm, ?_⟩
    cases hl : lessP b a with
    | false => exact absurd (Or.inr ⟨h1, hl⟩) h'
    | true => exact less_asymm b a hl
  · exact Or.inl h1
theorem bef_eq {a b : Bs} (h1 : befP a b = true) (h2 : befP b a = true) : a = b := by
  rw [bef_iff] at h1 h2
  rcases h1 with h1 | h1
  · rcases h2 with h2 | h2 <;> omega
  · rcases h2 with h2 | h2
    · omega
    · exact less_eq a b h2.2 h1.2
theorem bef_self (a : Bs) : befP a a = true := bef_iff.2 (Or.inr ⟨rfl, less_self a⟩)
theorem bef_trans {a b c : Bs} (h1 : befP a b = true) (h2 : befP b c = true) : befP a c = true := by
  rw [bef_iff] at h1 h2 ⊢
  rcases h1 with h1 | h1
  · rcases h2 with h2 | h2 <;> exact Or.inl (by omega)
  · rcases h2 with h2 | h2
    · exact Or.inl (by omega)
    · exact Or.inr ⟨by omega, less_trans a b c h1.2 h2.2⟩
/-- One behind the other as they may stand. -/
def chainP : List Bs → Bool
  | [] => true
  | [_] => true
  | a :: b :: l => befP a b && chainP (b :: l)
theorem chain_two (a b : Bs) (l : List Bs) : chainP (a :: b :: l) = (befP a b && chainP (b :: l)) := rfl
theorem falls_chain : ∀ l : List Bs, (∀ b ∈ l, b.length < 128) → fallsP (l.map encB) = !chainP l
  | [], _ => rfl
  | [_], _ => rfl
  | a :: b :: l, h => by
    have ih := falls_chain (b :: l) (fun x hx => h x (List.mem_cons_of_mem _ hx))
    rw [chain_two, Bool.not_and, ← ih, ← bef_enc (h a (by simp)) (h b (by simp))]
    rfl
/-- One more, where it may stand. -/
def insP (b : Bs) : List Bs → List Bs
  | [] => [b]
  | k :: l => if befP k b = true then k :: insP b l else b :: k :: l
theorem ins_cons (b k : Bs) (l : List Bs) : insP b (k :: l) = if befP k b = true then k :: insP b l else b :: k :: l := rfl
theorem chain_ins (b : Bs) : ∀ l : List Bs, chainP l = true → chainP (insP b l) = true
  | [], _ => rfl
  | [k], _ => by
    rw [ins_cons]
    split
    · rename_i h; simp only [insP, chain_two, h, chainP, Bool.and_self]
    · rename_i h; rw [chain_two, bef_total (by simpa using h)]; rfl
  | k :: k2 :: l, h => by
    rw [chain_two, Bool.and_eq_true] at h
    have ih := chain_ins b (k2 :: l) h.2
    rw [ins_cons]
    split
    · rename_i hb
      rw [ins_cons] at ih ⊢
      split
      · rename_i hb2
        rw [if_pos hb2] at ih
        rw [chain_two, h.1, ih]; rfl
      · rename_i hb2
        rw [if_neg hb2] at ih
        rw [chain_two, hb, ih]; rfl
    · rename_i hb
      rw [chain_two, bef_total (by simpa using hb), chain_two, h.1, h.2]; rfl
end Go.Proofs.YtngkidlgcdofhabDoor
