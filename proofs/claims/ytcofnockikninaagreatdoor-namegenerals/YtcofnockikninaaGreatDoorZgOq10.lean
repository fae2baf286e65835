/- Parts of the walk. -/
import Derived.Test.YtcofnockikninaaGreatDoorZgPF
import Derived.Lib.SplitLaws
namespace Go.Proofs.YtcofnockikninaaGreatDoor
open Go.Lib (decDigits)
def splitD : Bs → List Bs
 | [] => [[]]
 | c :: l => if c = 46 then [] :: splitD l else match splitD l with
  | [] => [[c]]
  | p :: ps => (c :: p) :: ps
theorem splitD_form : ∀ l : Bs, ∃ p ps, splitD l = p :: ps
 | [] => ⟨[], [], rfl⟩
 | c :: l => by
  obtain ⟨p, ps, h⟩ := splitD_form l
  unfold splitD
  rw [h]
  by_cases hc : c = 46
  ·rw [if_pos hc]; exact ⟨_, _, rfl⟩
  ·rw [if_neg hc]; exact ⟨_, _, rfl⟩
theorem splitD_ne {c : UInt8} {l p : Bs} {ps : List Bs} (hc : ¬ c = 46) (h : splitD l = p :: ps) : splitD (c :: l) = (c :: p) :: ps := by rw [splitD, if_neg hc, h]
theorem splitD_eq (l : Bs) : splitD (46 :: l) = [] :: splitD l := by rw [splitD, if_pos rfl]
def joinD : List Bs → Bs
 | [] => []
 | p :: ps => p ++ ps.flatMap fun q => 46 :: q
theorem join_split : ∀ s : Bs, joinD (splitD s) = s
 | [] => rfl
 | c :: l => by
  have ih := join_split l
  obtain ⟨p, ps, h⟩ := splitD_form l
  by_cases hc : c = 46
  ·subst hc
   rw [splitD_eq]
   rw [h] at ih ⊢
   simp only [joinD, List.flatMap_cons, List.nil_append, List.cons_append] at ih ⊢
   rw [ih]
  ·rw [splitD_ne hc h]
   rw [h] at ih
   simp only [joinD, List.cons_append] at ih ⊢
   rw [ih]
theorem splitD_app : ∀ (a b : Bs) {ps qs : List Bs} {p q : Bs}, splitD a = ps ++ [p] → splitD b = q :: qs → splitD (a ++ b) = ps ++ (p ++ q) :: qs
 | [], b, ps, qs, p, q, ha, hb => by
  have : ps = [] ∧ p = [] := by
   cases ps with
   | nil => simp [splitD] at ha; exact ⟨rfl, ha⟩
   | cons x l => simp [splitD] at ha
  obtain ⟨rfl, rfl⟩ := this
  simpa using hb
 | c :: a, b, ps, qs, p, q, ha, hb => by
  obtain ⟨x, xs, hx⟩ := splitD_form a
  by_cases hc : c = 46
  ·subst hc
   rw [splitD_eq] at ha
   rw [List.cons_append, splitD_eq]
   cases ps with
   | nil =>
    simp only [List.nil_append, List.cons.injEq] at ha
    rw [hx] at ha
    cases ha.2
   | cons y l =>
    simp only [List.cons_append, List.cons.injEq] at ha
    rw [splitD_app a b ha.2 hb, ← ha.1]
    rfl
  ·rw [splitD_ne hc hx] at ha
   rw [List.cons_append]
   cases ps with
   | nil =>
    simp only [List.nil_append, List.cons.injEq] at ha
    obtain ⟨rfl, rfl⟩ := ha
    have := splitD_app a b (ps := []) (p := x) (by rw [hx]; rfl) hb
    simp only [List.nil_append] at this ⊢
    rw [splitD_ne hc this]
    rfl
   | cons y l =>
    simp only [List.cons_append, List.cons.injEq] at ha
    obtain ⟨rfl, rfl⟩ := ha
    have := splitD_app a b (ps := x :: l) (p := p) (by rw [hx]; rfl) hb
    simp only [List.cons_append] at this ⊢
    rw [splitD_ne hc this]
theorem splitD_plain : ∀ (a : Bs), (∀ c ∈ a, ¬ c = 46) → splitD a = [a]
 | [], _ => rfl
 | c :: a, h => splitD_ne (h c List.mem_cons_self) (splitD_plain a fun x hx => h x (List.mem_cons_of_mem _ hx))
theorem splitD_point (p b : Bs) (h : ∀ c ∈ p, ¬ c = 46) : splitD (p ++ 46 :: b) = p :: splitD b := by
 have := splitD_app p (46 :: b) (ps := []) (p := p) (q := []) (qs := splitD b) (by rw [splitD_plain p h]; rfl) (splitD_eq b)
 simpa using this
theorem splitK_one : ∀ (k : Nat) (s : Bs), ((splitD s).length ≤ k + 1 → Lib.splitK [46] 0 k s = splitD s) ∧ (k + 1 < (splitD s).length → (Lib.splitK [46] 0 k s).length = k + 1) := fun k => by
 have hidx : ∀ s : Bs, (Lib.index s [46] = -1 ∧ ∀ c ∈ s, ¬ c = 46) ∨ ∃ a b : Bs, s = a ++ 46 :: b ∧ (∀ c ∈ a, ¬ c = 46) ∧ Lib.index s [46] = (a.length : Int) := fun s => by
  induction s with
  | nil => exact Or.inl ⟨by simp [Lib.index], fun c hc => by cases hc⟩
  | cons c l ih =>
   by_cases hc : c = 46
   ·subst hc
    exact Or.inr ⟨[], l, rfl, by simp, by rw [Lib.index]; simp [List.isPrefixOf]⟩
   ·have hp : ([46] : List UInt8).isPrefixOf (c :: l) = false := by simp [List.isPrefixOf, Ne.symm hc]
    have hix : Lib.index (c :: l) [46] = if Lib.index l [46] == -1 then -1 else Lib.index l [46] + 1 := by rw [Lib.index, hp]; simp
    rcases ih with ⟨h1, h2⟩ | ⟨a, b, rfl, h2, h3⟩
    ·exact Or.inl ⟨by rw [hix, h1]; rfl, fun x hx => by rcases List.mem_cons.1 hx with rfl | hx; exact hc; exact h2 x hx⟩
    ·refine Or.inr ⟨c :: a, b, rfl, fun x hx => by rcases List.mem_cons.1 hx with rfl | hx; exact hc; exact h2 x hx, ?_⟩
     rw [hix, h3]
     have : ¬ ((a.length : Int) == -1) = true := by simp
     rw [if_neg this]
     simp
 induction k with
 | zero =>
  intro s
  refine ⟨fun h => ?_, fun h => rfl⟩
  obtain ⟨p, ps, hp⟩ := splitD_form s
  rw [hp] at h
  have : ps = [] := by cases ps with
   | nil => rfl
   | cons _ _ => simp at h
  have hj := join_split s
  rw [hp, this] at hj ⊢
  simp [joinD] at hj
  rw [hj]
  rfl
 | succ k ih =>
  intro s
  rcases hidx s with ⟨h1, h2⟩ | ⟨a, b, rfl, h2, h3⟩
  ·have e : Lib.splitK [46] 0 (k + 1) s = [s] := by rw [Lib.splitK, h1]; rfl
   rw [e, splitD_plain s h2]
   exact ⟨fun _ => rfl, fun h => by simp at h⟩
  ·have hm : ¬ (Lib.index (a ++ 46 :: b) [46] == -1) = true := by rw [h3]; simp
   have e : Lib.splitK [46] 0 (k + 1) (a ++ 46 :: b) = a :: Lib.splitK [46] 0 k b := by
    rw [Lib.splitK, if_neg hm, h3]
    simp only [Int.toNat_natCast, Nat.add_zero, List.length_singleton]
    rw [List.take_left, show a ++ 46 :: b = (a ++ [46]) ++ b by simp, List.drop_left' (by simp)]
   rw [e, splitD_point a b h2]
   obtain ⟨i1, i2⟩ := ih b
   exact ⟨fun h => by rw [i1 (by simpa using h)], fun h => by rw [List.length_cons, i2 (by simpa using h)]⟩
def digC (c : UInt8) : Bool := decide (48 ≤ c.toNat) && decide (c.toNat ≤ 57)
theorem digC_iff (c : UInt8) : digC c = true ↔ 48 ≤ c.toNat ∧ c.toNat ≤ 57 := by unfold digC; simp
def numS (a : Nat) (c : UInt8) : Nat := 10 * a + (c.toNat - 48)
def numV (p : Bs) : Nat := p.foldl numS 0
theorem numV_snoc (p : Bs) (c : UInt8) : numV (p ++ [c]) = 10 * numV p + (c.toNat - 48) := by unfold numV; rw [List.foldl_append]; rfl
theorem numS_ge : ∀ (l : Bs) (a : Nat), a * 10 ^ l.length ≤ l.foldl numS a
 | [], a => by simp
 | c :: l, a => by
  have := numS_ge l (numS a c)
  rw [List.foldl_cons, List.length_cons, Nat.pow_succ]
  refine Nat.le_trans ?_ this
  unfold numS
  rw [Nat.mul_comm (10 ^ l.length) 10, ← Nat.mul_assoc]
  exact Nat.mul_le_mul_right _ (by omega)
theorem numS_lt : ∀ (l : Bs) (a : Nat), l.all digC = true → l.foldl numS a < (a + 1) * 10 ^ l.length
 | [], a, _ => by simp
 | c :: l, a, h => by
  simp only [List.all_cons, Bool.and_eq_true] at h
  have hc := (digC_iff c).1 h.1
  have := numS_lt l (numS a c) h.2
  rw [List.foldl_cons, List.length_cons, Nat.pow_succ]
  refine Nat.lt_of_lt_of_le this ?_
  unfold numS
  rw [Nat.mul_comm (10 ^ l.length) 10, ← Nat.mul_assoc]
  exact Nat.mul_le_mul_right _ (by omega)
theorem numV_lt {p : Bs} (h : p.all digC = true) {k : Nat} (hk : p.length ≤ k) : numV p < 10 ^ k := by
 have h1 := numS_lt p 0 h
 have h2 : 10 ^ p.length ≤ 10 ^ k := Nat.pow_le_pow_right (by omega) hk
 unfold numV
 omega
theorem numV_take (p : Bs) (k : Nat) : numV (p.take k) ≤ numV p := by
 have h1 := numS_ge (p.drop k) (numV (p.take k))
 have h2 : (p.drop k).foldl numS (numV (p.take k)) = numV p := by unfold numV; rw [← List.foldl_append, List.take_append_drop]
 rw [h2] at h1
 have h3 : 1 ≤ 10 ^ (p.drop k).length := Nat.pos_of_ne_zero (by simp)
 exact Nat.le_trans (by have := Nat.mul_le_mul_left (numV (p.take k)) h3; omega) h1
theorem numV_low {c : UInt8} {l : Bs} (h : 49 ≤ c.toNat) : 10 ^ l.length ≤ numV (c :: l) := by
 have h1 := numS_ge l (numS 0 c)
 unfold numV
 rw [List.foldl_cons]
 refine Nat.le_trans ?_ h1
 have : 1 ≤ numS 0 c := by unfold numS; omega
 have := Nat.mul_le_mul_right (10 ^ l.length) this
 omega
def numOk (p : Bs) : Bool := !decide (p = []) && p.all digC && (decide (p.length ≤ 1) || !decide (p.getD 0 0 = 48)) && decide (numV p < 1099511627776)
theorem numOk_iff (p : Bs) : numOk p = true ↔ p ≠ [] ∧ p.all digC = true ∧ (p.length ≤ 1 ∨ ¬ p.getD 0 0 = 48) ∧ numV p < 1099511627776 := by
 unfold numOk
 simp only [Bool.and_eq_true, Bool.or_eq_true, Bool.not_eq_true', decide_eq_false_iff_not, decide_eq_true_eq, ne_eq, and_assoc]
theorem ofNat_dig {c : UInt8} (h : digC c = true) : UInt8.ofNat (48 + (c.toNat - 48)) = c := by
 have := (digC_iff c).1 h
 apply UInt8.toNat_inj.1
 rw [UInt8.toNat_ofNat']
 omega
theorem dig_toN {d : Nat} (h : d < 10) : (UInt8.ofNat (48 + d)).toNat = 48 + d := by rw [UInt8.toNat_ofNat']; omega
theorem dec_num : ∀ (k n : Nat), n < k → numV (decDigits n) = n ∧ (decDigits n).all digC = true ∧ decDigits n ≠ [] ∧ (0 < n → ∃ c l, decDigits n = c :: l ∧ 49 ≤ c.toNat)
 | 0, n, h => absurd h (by omega)
 | k + 1, n, h => by
  by_cases h10 : n < 10
  ·rw [Lib.decDigits_one h10]
   have e := dig_toN h10
   refine ⟨?_, ?_, by simp, fun h0 => ⟨_, _, rfl, by omega⟩⟩
   ·show numS 0 _ = _
    unfold numS
    omega
   ·simp only [List.all_cons, List.all_nil, Bool.and_true]
    exact (digC_iff _).2 (by omega)
  ·obtain ⟨i1, i2, i3, i4⟩ := dec_num k (n / 10) (by omega)
   rw [decDigits, dif_neg h10]
   have e := dig_toN (d := n % 10) (by omega)
   refine ⟨?_, ?_, by simp, fun h0 => ?_⟩
   ·rw [numV_snoc, i1, e]; omega
   ·rw [List.all_append, i2]
    simp only [List.all_cons, List.all_nil, Bool.and_true, Bool.true_and]
    exact (digC_iff _).2 (by omega)
   ·obtain ⟨c, l, hl, hc⟩ := i4 (by omega)
    exact ⟨c, l ++ [UInt8.ofNat (48 + n % 10)], by rw [hl]; rfl, hc⟩
theorem dec_ok {n : Nat} (h : n < 1099511627776) : numOk (decDigits n) = true := by
 obtain ⟨h1, h2, h3, h4⟩ := dec_num (n + 1) n (by omega)
 refine (numOk_iff _).2 ⟨h3, h2, ?_, by rw [h1]; exact h⟩
 by_cases h0 : n = 0
 ·subst h0
  left
  rw [Lib.decDigits_one (by omega)]
  simp
 ·obtain ⟨c, l, hl, hc⟩ := h4 (by omega)
  right
  rw [hl]
  intro e
  have : c = 48 := e
  rw [this] at hc
  revert hc
  decide
theorem dec_numV (n : Nat) : numV (decDigits n) = n := (dec_num (n + 1) n (by omega)).1
theorem dec_plain (n : Nat) : ∀ c ∈ decDigits n, ¬ c = 46 := fun c hc e => by
 have h := (dec_num (n + 1) n (by omega)).2.1
 rw [List.all_eq_true] at h
 have := (digC_iff c).1 (h c hc)
 rw [e] at this
 revert this
 decide
theorem num_dec : ∀ (k : Nat) (p : Bs), p.length = k → p ≠ [] → p.all digC = true → (p.length ≤ 1 ∨ ¬ p.getD 0 0 = 48) → decDigits (numV p) = p
 | 0, p, hk, h0, _, _ => absurd (List.eq_nil_of_length_eq_zero hk) h0
 | k + 1, p, hk, h0, h1, h2 => by
  obtain ⟨q, c, rfl⟩ : ∃ q c, p = q ++ [c] := ⟨p.dropLast, p.getLast h0, (List.dropLast_concat_getLast h0).symm⟩
  rw [List.all_append, Bool.and_eq_true] at h1
  have hc : digC c = true := by simpa using h1.2
  have hc2 := (digC_iff c).1 hc
  rw [numV_snoc]
  by_cases hq : q = []
  ·subst hq
   rw [show numV [] = 0 from rfl, Lib.decDigits_one (by omega), show 10 * 0 + (c.toNat - 48) = c.toNat - 48 by omega, ofNat_dig hc]
   rfl
  ·have hql : 0 < q.length := List.length_pos_iff.2 hq
   have hh : ¬ q.getD 0 0 = 48 := by
    rcases h2 with h2 | h2
    ·rw [List.length_append, List.length_singleton] at h2; omega
    ·intro e
     apply h2
     rw [List.getD_eq_getElem?_getD, List.getElem?_append_left hql, ← List.getD_eq_getElem?_getD]
     exact e
   have ih := num_dec k q (by simp at hk; omega) hq h1.1 (Or.inr hh)
   have hpos : 1 ≤ numV q := by
    cases q with
    | nil => exact absurd rfl hq
    | cons x l =>
     have hx : digC x = true := by simp only [List.all_cons, Bool.and_eq_true] at h1; exact h1.1.1
     have hx2 := (digC_iff x).1 hx
     have hx3 : ¬ x = 48 := hh
     have : x.toNat ≠ 48 := fun e => hx3 (UInt8.toNat_inj.1 e)
     have := numV_low (l := l) (c := x) (by omega)
     have : 1 ≤ 10 ^ l.length := Nat.pos_of_ne_zero (by simp)
     omega
   rw [decDigits, dif_neg (by omega), show (10 * numV q + (c.toNat - 48)) / 10 = numV q by omega, show (10 * numV q + (c.toNat - 48)) % 10 = c.toNat - 48 by omega, ih, ofNat_dig hc]
theorem numOk_dec {p : Bs} (h : numOk p = true) : decDigits (numV p) = p := by
 obtain ⟨h1, h2, h3, _⟩ := (numOk_iff p).1 h
 exact num_dec p.length p rfl h1 h2 h3
theorem numOk_long {p : Bs} (h : 13 < p.length) : numOk p = false := by
 cases hk : numOk p with
 | false => rfl
 | true =>
  obtain ⟨_, h2, h3, h4⟩ := (numOk_iff p).1 hk
  cases p with
  | nil => simp at h
  | cons c l =>
   have hc := (digC_iff c).1 (by simp only [List.all_cons, Bool.and_eq_true] at h2; exact h2.1)
   have hn : c.toNat ≠ 48 := fun e => by
    rcases h3 with h3 | h3
    ·omega
    ·exact h3 (UInt8.toNat_inj.1 e)
   have := numV_low (l := l) (c := c) (by omega)
   have h13 : 10 ^ 13 ≤ 10 ^ l.length := Nat.pow_le_pow_right (by omega) (by simp at h; omega)
   omega
theorem getD_mem {p : Bs} {k : Nat} (hk : k < p.length) : p.getD k 0 ∈ p := by
 rw [List.getD_eq_getElem?_getD, List.getElem?_eq_getElem hk]
 exact List.getElem_mem hk
theorem take_snocQ {p : Bs} {k : Nat} (hk : k < p.length) : p.take (k + 1) = p.take k ++ [p.getD k 0] := by
 rw [List.take_add_one, List.getElem?_eq_getElem hk, List.getD_eq_getElem?_getD, List.getElem?_eq_getElem hk]; rfl
theorem numV_succ {p : Bs} {k : Nat} (hk : k < p.length) : numV (p.take (k + 1)) = 10 * numV (p.take k) + ((p.getD k 0).toNat - 48) := by rw [take_snocQ hk, numV_snoc]
theorem num_bad {p : Bs} {k : Nat} (hk : k < p.length) (h : digC (p.getD k 0) = false) : numOk p = false := by
 cases ho : numOk p with
 | false => rfl
 | true =>
  have h2 := ((numOk_iff p).1 ho).2.1
  rw [List.all_eq_true] at h2
  rw [h2 _ (getD_mem hk)] at h
  cases h
theorem num_great {p : Bs} {k : Nat} (h : 1099511627776 ≤ numV (p.take k)) : numOk p = false := by
 cases ho : numOk p with
 | false => rfl
 | true =>
  have h2 := ((numOk_iff p).1 ho).2.2.2
  have := numV_take p k
  omega
theorem num_nought {p : Bs} {k : Nat} (h0 : 0 < k) (hk : k < p.length) (hz : numV (p.take k) = 0) : numOk p = false := by
 cases ho : numOk p with
 | false => rfl
 | true =>
  obtain ⟨_, h2, h3, _⟩ := (numOk_iff p).1 ho
  cases p with
  | nil => simp at hk
  | cons c l =>
   have hc := (digC_iff c).1 (by simp only [List.all_cons, Bool.and_eq_true] at h2; exact h2.1)
   have hn : c.toNat ≠ 48 := fun e => by
    rcases h3 with h3 | h3
    ·omega
    ·exact h3 (UInt8.toNat_inj.1 e)
   obtain ⟨j, rfl⟩ : ∃ j, k = j + 1 := ⟨k - 1, by omega⟩
   rw [List.take_succ_cons] at hz
   have := numV_low (l := l.take j) (c := c) (by omega)
   have : 1 ≤ 10 ^ (l.take j).length := Nat.pos_of_ne_zero (by simp)
   omega
theorem num_head {p : Bs} {k : Nat} (h0 : 0 < k) (hk : k ≤ p.length) (hz : numV (p.take k) ≠ 0) (hh : 2 ≤ k → ¬ p.getD 0 0 = 48) : ¬ p.getD 0 0 = 48 := by
 by_cases h2 : 2 ≤ k
 ·exact hh h2
 ·have : k = 1 := by omega
  subst this
  intro e
  apply hz
  rw [numV_succ (by omega), e, List.take_zero]
  rfl
theorem num_end {p : Bs} (h1 : p ≠ []) (h2 : p.all digC = true) (h3 : 2 ≤ p.length → ¬ p.getD 0 0 = 48) (h4 : numV p < 1099511627776) : numOk p = true :=
 (numOk_iff p).2 ⟨h1, h2, by by_cases h : 2 ≤ p.length; exact Or.inr (h3 h); exact Or.inl (by omega), h4⟩
def firstG : List Nat → Option (List Nat)
 | a :: b :: r => if a ≤ 2 ∧ (a < 2 → b < 40) ∧ b + 40 * a < 1099511627776 then some ((b + 40 * a) :: r) else none
 | _ => none
theorem firstG_cons (a b : Nat) (r : List Nat) : firstG (a :: b :: r) = if a ≤ 2 ∧ (a < 2 → b < 40) ∧ b + 40 * a < 1099511627776 then some ((b + 40 * a) :: r) else none := rfl
def oidVP (s : Bs) : Option (List Nat) := if (splitD s).length ≤ 20 ∧ (splitD s).all numOk = true then firstG ((splitD s).map numV) else none
def hiR (m : Nat) : Bs := if _h : m = 0 then [] else hiR (m / 128) ++ [UInt8.ofNat (128 + m % 128)]
termination_by m
decreasing_by omega
def putG (n : Nat) : Bs := hiR (n / 128) ++ [UInt8.ofNat (n % 128)]
def bytesG (gs : List Nat) : Bs := gs.flatMap putG
def oidDV (gs : List Nat) : DV := .mk 0 6 false (bytesG gs) []
theorem hiR_zero : hiR 0 = [] := by rw [hiR, dif_pos rfl]
theorem hiR_pos {m : Nat} (h : 0 < m) : hiR m = hiR (m / 128) ++ [UInt8.ofNat (128 + m % 128)] := by rw [hiR, dif_neg (by omega)]
theorem bytesG_snoc (gs : List Nat) (n : Nat) : bytesG (gs ++ [n]) = bytesG gs ++ putG n := by unfold bytesG; simp
theorem hi_toN (m : Nat) : (UInt8.ofNat (128 + m % 128)).toNat = 128 + m % 128 := by rw [UInt8.toNat_ofNat']; omega
theorem lo_toN (m : Nat) : (UInt8.ofNat (m % 128)).toNat = m % 128 := by rw [UInt8.toNat_ofNat']; omega
theorem gFrom_one (st : List Nat × Nat) (c : UInt8) : gFrom (some st) [c] = gStep st c := rfl
theorem gFrom_hi : ∀ (k m : Nat) (gs : List Nat), m < k → m < 1099511627776 → gFrom (some (gs, 0)) (hiR m) = some (gs, m)
 | 0, m, _, h, _ => absurd h (by omega)
 | k + 1, m, gs, h, hm => by
  by_cases h0 : m = 0
  ·subst h0; rw [hiR_zero]; rfl
  ·rw [hiR_pos (by omega), gFrom_append, gFrom_hi k (m / 128) gs (by omega) (by omega), gFrom_one]
   unfold gStep
   have e := hi_toN m
   simp only
   rw [e, if_neg (by omega), if_neg (by omega)]
   congr 2
   omega
theorem gFrom_put {n : Nat} (gs : List Nat) (hn : n < 1099511627776) : gFrom (some (gs, 0)) (putG n) = some (gs ++ [n], 0) := by
 unfold putG
 rw [gFrom_append, gFrom_hi (n + 1) (n / 128) gs (by omega) (by omega), gFrom_one]
 unfold gStep
 have e := lo_toN n
 simp only
 rw [e, if_neg (by omega), if_pos (by omega)]
 congr 2
 congr 2
 omega
theorem gFrom_bytes : ∀ (gs hs : List Nat), (∀ g ∈ gs, g < 1099511627776) → gFrom (some (hs, 0)) (bytesG gs) = some (hs ++ gs, 0)
 | [], hs, _ => by simp [bytesG, gFrom]
 | g :: gs, hs, h => by
  have e : bytesG (g :: gs) = putG g ++ bytesG gs := by unfold bytesG; simp
  rw [e, gFrom_append, gFrom_put hs (h g List.mem_cons_self), gFrom_bytes gs (hs ++ [g]) (fun x hx => h x (List.mem_cons_of_mem _ hx))]
  simp
def lastB (b : Bs) : Nat := (b.getD (b.length - 1) 0).toNat
theorem lastB_snoc (b : Bs) (c : UInt8) : lastB (b ++ [c]) = c.toNat := by
 unfold lastB
 rw [List.length_append, List.length_singleton, Nat.add_sub_cancel, List.getD_eq_getElem?_getD, List.getElem?_append_right (Nat.le_refl _)]
 simp
def okR (b : Bs) : Bool := (List.range b.length).all fun i => !(decide (b.getD i 0 = 128) && (decide (i = 0) || decide ((b.getD (i - 1) 0).toNat < 128)))
theorem oidP_okR (b : Bs) : oidP b = (okR b && decide (0 < b.length) && decide (lastB b < 128)) := rfl
theorem okR_snoc (b : Bs) (c : UInt8) : okR (b ++ [c]) = true ↔ okR b = true ∧ ¬ (c = 128 ∧ (b = [] ∨ lastB b < 128)) := by
 unfold okR
 rw [List.length_append, List.length_singleton, List.range_succ, List.all_append, Bool.and_eq_true]
 have e1 : ((List.range b.length).all fun i => !(decide ((b ++ [c]).getD i 0 = 128) && (decide (i = 0) || decide (((b ++ [c]).getD (i - 1) 0).toNat < 128)))) = ((List.range b.length).all fun i => !(decide (b.getD i 0 = 128) && (decide (i = 0) || decide ((b.getD (i - 1) 0).toNat < 128)))) := by
  rw [Bool.eq_iff_iff, List.all_eq_true, List.all_eq_true]
  refine forall_congr' fun i => ?_
  refine forall_congr' fun hi => ?_
  have hi := List.mem_range.1 hi
  have g : ∀ j, j < b.length → (b ++ [c]).getD j 0 = b.getD j 0 := fun j hj => by simp only [List.getD_eq_getElem?_getD]; rw [List.getElem?_append_left hj]
  rw [g i hi, g (i - 1) (by omega)]
 rw [e1]
 have e2 : (b ++ [c]).getD b.length 0 = c := by simp [List.getD_eq_getElem?_getD]
 have e3 : b ≠ [] → (b ++ [c]).getD (b.length - 1) 0 = b.getD (b.length - 1) 0 := fun hb => by
  have : 0 < b.length := List.length_pos_iff.2 hb
  simp only [List.getD_eq_getElem?_getD]
  rw [List.getElem?_append_left (by omega)]
 refine and_congr_right fun _ => ?_
 simp only [List.all_cons, List.all_nil, Bool.and_true, Bool.not_eq_true', Bool.and_eq_false_iff, Bool.or_eq_false_iff, decide_eq_false_iff_not]
 rw [e2]
 by_cases hb : b = []
 ·subst hb
  simp
 ·rw [e3 hb]
  have hl : ¬ b.length = 0 := fun e => hb (List.eq_nil_of_length_eq_zero e)
  show (¬ c = 128 ∨ ¬ b.length = 0 ∧ ¬ lastB b < 128) ↔ ¬ (c = 128 ∧ (b = [] ∨ lastB b < 128))
  constructor
  ·rintro h ⟨h1, h2⟩
   rcases h with h | h
   ·exact h h1
   ·rcases h2 with h2 | h2
    ·exact hb h2
    ·exact h.2 h2
  ·intro h
   by_cases hc : c = 128
   ·exact Or.inr ⟨hl, fun h2 => h ⟨hc, Or.inr h2⟩⟩
   ·exact Or.inl hc
theorem bytesG_last : ∀ (gs : List Nat), gs ≠ [] → bytesG gs ≠ [] ∧ lastB (bytesG gs) < 128 := fun gs h => by
 obtain ⟨hs, n, rfl⟩ : ∃ hs n, gs = hs ++ [n] := ⟨gs.dropLast, gs.getLast h, (List.dropLast_concat_getLast h).symm⟩
 rw [bytesG_snoc]
 unfold putG
 rw [← List.append_assoc]
 refine ⟨by simp, ?_⟩
 rw [lastB_snoc, lo_toN]
 omega
theorem ofNat_128 {m : Nat} (h : UInt8.ofNat (128 + m % 128) = 128) : m % 128 = 0 := by
 have := congrArg UInt8.toNat h
 rw [hi_toN] at this
 have e : (128 : UInt8).toNat = 128 := by decide
 omega
theorem gFold_back : ∀ (k : Nat) (a : Bs) {gs : List Nat} {m : Nat}, a.length = k → okR a = true → gFold a = some (gs, m) → a = bytesG gs ++ hiR m
 | 0, a, gs, m, hk, _, h => by
  have := List.eq_nil_of_length_eq_zero hk
  subst this
  have h' : some (([] : List Nat), 0) = some (gs, m) := h
  simp only [Option.some.injEq, Prod.mk.injEq] at h'
  obtain ⟨rfl, rfl⟩ := h'
  rw [hiR_zero]
  rfl
 | k + 1, a, gs, m, hk, ho, h => by
  have hne : a ≠ [] := fun e => by rw [e] at hk; simp at hk
  obtain ⟨b, c, rfl⟩ : ∃ b c, a = b ++ [c] := ⟨a.dropLast, a.getLast hne, (List.dropLast_concat_getLast hne).symm⟩
  obtain ⟨o1, o2⟩ := (okR_snoc b c).1 ho
  unfold gFold at h
  rw [gFrom_append] at h
  cases hb : gFrom (some ([], 0)) b with
  | none => rw [hb, gFrom_none] at h; cases h
  | some s2 =>
   obtain ⟨hs, x⟩ := s2
   have ih := gFold_back k b (gs := hs) (m := x) (by simp at hk; omega) o1 hb
   rw [hb, gFrom_one] at h
   unfold gStep at h
   simp only at h
   split at h
   ·cases h
   ·by_cases hc : c.toNat < 128
    ·rw [if_pos hc] at h
     simp only [Option.some.injEq, Prod.mk.injEq] at h
     obtain ⟨rfl, rfl⟩ := h
     rw [hiR_zero, List.append_nil, bytesG_snoc, ih]
     unfold putG
     rw [show (128 * x + c.toNat % 128) / 128 = x by omega, show (128 * x + c.toNat % 128) % 128 = c.toNat by omega, UInt8.ofNat_toNat, List.append_assoc]
    ·rw [if_neg hc] at h
     simp only [Option.some.injEq, Prod.mk.injEq] at h
     obtain ⟨rfl, rfl⟩ := h
     have hlt : c.toNat < 256 := c.toNat_lt
     have hpos : 0 < 128 * x + c.toNat % 128 := by
      refine Nat.pos_of_ne_zero fun e => o2 ?_
      have hx : x = 0 := by omega
      have hc0 : c.toNat = 128 := by omega
      refine ⟨UInt8.toNat_inj.1 hc0, ?_⟩
      rw [hx, hiR_zero, List.append_nil] at ih
      by_cases hg : hs = []
      ·left; rw [ih, hg]; rfl
      ·right; rw [ih]; exact (bytesG_last hs hg).2
     rw [hiR_pos hpos, show (128 * x + c.toNat % 128) / 128 = x by omega, show 128 + (128 * x + c.toNat % 128) % 128 = c.toNat by omega, UInt8.ofNat_toNat, ← List.append_assoc, ← ih]
theorem hiR_last {m : Nat} (h : 0 < m) (b : Bs) : b ++ hiR m ≠ [] ∧ ¬ lastB (b ++ hiR m) < 128 := by
 rw [hiR_pos h, ← List.append_assoc]
 refine ⟨by simp, ?_⟩
 rw [lastB_snoc, hi_toN]
 omega
theorem okR_hi : ∀ (k m : Nat) (b : Bs), m < k → okR b = true → okR (b ++ hiR m) = true
 | 0, m, _, h, _ => absurd h (by omega)
 | k + 1, m, b, h, hb => by
  by_cases h0 : m = 0
  ·subst h0; rw [hiR_zero, List.append_nil]; exact hb
  ·rw [hiR_pos (by omega), ← List.append_assoc]
   refine (okR_snoc _ _).2 ⟨okR_hi k (m / 128) b (by omega) hb, ?_⟩
   rintro ⟨h1, h2⟩
   have := ofNat_128 h1
   have h3 := hiR_last (m := m / 128) (by omega) b
   rcases h2 with h2 | h2
   ·exact h3.1 h2
   ·exact h3.2 h2
theorem okR_put {n : Nat} {b : Bs} (hb : okR b = true) : okR (b ++ putG n) = true := by
 unfold putG
 rw [← List.append_assoc]
 refine (okR_snoc _ _).2 ⟨okR_hi (n / 128 + 1) (n / 128) b (by omega) hb, ?_⟩
 rintro ⟨h1, _⟩
 have := congrArg UInt8.toNat h1
 rw [lo_toN] at this
 have e : (128 : UInt8).toNat = 128 := by decide
 omega
theorem okR_bytes : ∀ (gs : List Nat) (b : Bs), okR b = true → okR (b ++ bytesG gs) = true
 | [], b, h => by simpa [bytesG] using h
 | g :: gs, b, h => by
  have e : bytesG (g :: gs) = putG g ++ bytesG gs := by unfold bytesG; simp
  rw [e, ← List.append_assoc]
  exact okR_bytes gs _ (okR_put h)
theorem oidP_bytes {gs : List Nat} (h : gs ≠ []) : oidP (bytesG gs) = true := by
 have h1 := okR_bytes gs [] rfl
 have h2 := bytesG_last gs h
 have h3 : 0 < (bytesG gs).length := List.length_pos_iff.2 h2.1
 rw [List.nil_append] at h1
 rw [oidP_okR, h1, decide_eq_true h3, decide_eq_true h2.2]
 rfl
theorem hiR_len : ∀ (k m : Nat), m < 128 ^ k → (hiR m).length ≤ k
 | 0, m, h => by
  have : m = 0 := by simpa using h
  rw [this, hiR_zero]
  simp
 | k + 1, m, h => by
  by_cases h0 : m = 0
  ·rw [h0, hiR_zero]; simp
  ·rw [hiR_pos (by omega), List.length_append, List.length_singleton]
   have := hiR_len k (m / 128) (by rw [Nat.pow_succ] at h; omega)
   omega
theorem putG_len {n : Nat} (h : n < 1099511627776) : (putG n).length ≤ 6 := by
 unfold putG
 rw [List.length_append, List.length_singleton]
 have := hiR_len 5 (n / 128) (by omega)
 omega
theorem bytesG_len : ∀ (gs : List Nat), (∀ g ∈ gs, g < 1099511627776) → (bytesG gs).length ≤ 6 * gs.length
 | [], _ => by simp [bytesG]
 | g :: gs, h => by
  have e : bytesG (g :: gs) = putG g ++ bytesG gs := by unfold bytesG; simp
  rw [e, List.length_append, List.length_cons]
  have := putG_len (h g List.mem_cons_self)
  have := bytesG_len gs (fun x hx => h x (List.mem_cons_of_mem _ hx))
  omega
theorem right_oidleaf {b : Bs} (hr : oidP b = true) (hl : b.length < 128) : rightV (.mk 0 6 false b []) = true := by
 have hrr : rightP 6 b = true := by simpa [rightP] using hr
 have hf : formD 0 6 false b = 0 := by
  unfold formD
  rw [if_neg (by simp), if_neg (by decide), if_neg (by rw [hrr]; simp)]
 have hw : writeP formD 17 (.mk 0 6 false b []) = .yes (tagB 0 6 false ++ lenB b.length ++ b) := by
  have e6 : Int.toNat 6 = 6 := rfl
  simp only [writeP, e6, Int.toNat_zero, hf, allP]
  rw [if_neg (by omega), if_neg (by omega), if_neg (by simp)]
  simp
 unfold rightV writeTop
 rw [hw]
 have hlen : ¬ 65536 < (tagB 0 6 false ++ lenB b.length ++ b).length := by
  rw [List.length_append, List.length_append]
  have : (lenB b.length).length = 1 := by unfold lenB; rw [if_pos hl]; rfl
  have : (tagB 0 6 false).length = 1 := rfl
  omega
 simp only [if_neg hlen]
theorem split_rest : ∀ (r : List Nat) (p : Bs), (∀ c ∈ p, ¬ c = 46) → splitD (p ++ restT r) = p :: r.map decDigits
 | [], p, h => by
  have : restT [] = [] := rfl
  rw [this, List.append_nil, splitD_plain p h]
  rfl
 | n :: r, p, h => by
  have e : restT (n :: r) = 46 :: (decDigits n ++ restT r) := by unfold restT; simp
  rw [e, splitD_point p _ h, split_rest r (decDigits n) (dec_plain n)]
  rfl
theorem split_text (g : Nat) (r : List Nat) : splitD (oidTextG (g :: r)) = decDigits (min (g / 40) 2) :: decDigits (g - 40 * min (g / 40) 2) :: r.map decDigits := by
 have e : oidTextG (g :: r) = decDigits (min (g / 40) 2) ++ 46 :: (decDigits (g - 40 * min (g / 40) 2) ++ restT r) := by unfold oidTextG; simp
 rw [e, splitD_point _ _ (dec_plain _), split_rest r _ (dec_plain _)]
theorem map_dec (r : List Nat) : (r.map decDigits).map numV = r := by
 rw [List.map_map]
 have : (numV ∘ decDigits) = id := by funext n; exact dec_numV n
 rw [this, List.map_id]
theorem oidG_open {b : Bs} {gs : List Nat} (h : oidG b = some gs) (hp : oidP b = true) : gs.length ≤ 19 ∧ gs ≠ [] ∧ (∀ g ∈ gs, g < 1099511627776) ∧ b = bytesG gs := by
 unfold oidG at h
 cases hf : gFold b with
 | none => rw [hf] at h; cases h
 | some stt =>
  obtain ⟨hs, m⟩ := stt
  rw [hf] at h
  simp only at h
  split at h
  ·rename_i h19
   injection h with h
   subst h
   obtain ⟨e1, e2⟩ := oidG_end hp hf
   subst e1
   rw [oidP_okR] at hp
   simp only [Bool.and_eq_true] at hp
   have := gFold_back b.length b rfl hp.1.1 hf
   rw [hiR_zero, List.append_nil] at this
   exact ⟨h19, e2, (gFold_lt b hf).2, this⟩
  ·cases h
theorem oid_back {v : DV} {s : Bs} (h : oidT v = some s) : ∃ gs, oidVP s = some gs ∧ oidDV gs = v := by
 obtain ⟨gs, e1, e2, e3, rfl, _⟩ := oidT_yes h
 obtain ⟨k1, k2, k3, k4⟩ := oidG_open e3 e2
 cases gs with
 | nil => exact absurd rfl k2
 | cons g r =>
  have hg := k3 g List.mem_cons_self
  refine ⟨g :: r, ?_, ?_⟩
  ·unfold oidVP
   rw [split_text]
   have hall : (decDigits (min (g / 40) 2) :: decDigits (g - 40 * min (g / 40) 2) :: r.map decDigits).all numOk = true := by
    rw [List.all_cons, List.all_cons, dec_ok (by omega), dec_ok (by omega), Bool.true_and, Bool.true_and, List.all_eq_true]
    intro x hx
    obtain ⟨n, hn, rfl⟩ := List.mem_map.1 hx
    exact dec_ok (k3 n (List.mem_cons_of_mem _ hn))
   rw [if_pos ⟨by simp at k1 ⊢; omega, hall⟩, List.map_cons, List.map_cons, map_dec, dec_numV, dec_numV]
   rw [firstG_cons, if_pos ⟨by omega, by omega, by omega⟩]
   congr 2
   omega
  ·unfold oidDV
   rw [← k4, ← e1]
theorem join_dec : ∀ (r : List Bs), r.all numOk = true → (r.flatMap fun q => 46 :: q) = restT (r.map numV)
 | [], _ => rfl
 | p :: r, h => by
  rw [List.all_cons, Bool.and_eq_true] at h
  have e : restT ((p :: r).map numV) = 46 :: decDigits (numV p) ++ restT (r.map numV) := by unfold restT; simp
  rw [e, numOk_dec h.1, ← join_dec r h.2]
  simp
theorem oidVP_open {s : Bs} {gs : List Nat} (h : oidVP s = some gs) : gs.length ≤ 19 ∧ gs ≠ [] ∧ (∀ g ∈ gs, g < 1099511627776) ∧ oidTextG gs = s := by
 unfold oidVP at h
 split at h
 ·rename_i hc
  obtain ⟨hl, ha⟩ := hc
  have hj := join_split s
  obtain ⟨p, ps, hp⟩ := splitD_form s
  rw [hp] at h hl ha hj
  cases ps with
  | nil => cases h
  | cons q r =>
   rw [List.map_cons, List.map_cons] at h
   rw [firstG_cons] at h
   split at h
   ·rename_i hf
    obtain ⟨f1, f2, f3⟩ := hf
    injection h with h
    subst h
    rw [List.all_cons, List.all_cons, Bool.and_eq_true, Bool.and_eq_true] at ha
    obtain ⟨a1, a2, a3⟩ := ha
    refine ⟨by simp at hl ⊢; omega, by simp, ?_, ?_⟩
    ·intro g hg
     rcases List.mem_cons.1 hg with rfl | hg
     ·exact f3
     ·obtain ⟨x, hx, rfl⟩ := List.mem_map.1 hg
      rw [List.all_eq_true] at a3
      exact ((numOk_iff x).1 (a3 x hx)).2.2.2
    ·have hmin : min ((numV q + 40 * numV p) / 40) 2 = numV p := by
      by_cases h2 : numV p < 2
      ·have := f2 h2; omega
      ·omega
     show decDigits (min ((numV q + 40 * numV p) / 40) 2) ++ 46 :: decDigits (numV q + 40 * numV p - 40 * min ((numV q + 40 * numV p) / 40) 2) ++ restT (r.map numV) = s
     rw [hmin, show numV q + 40 * numV p - 40 * numV p = numV q by omega, numOk_dec a1, numOk_dec a2, ← join_dec r a3]
     simp only [joinD, List.flatMap_cons] at hj
     rw [← hj]
     simp
   ·cases h
 ·cases h
theorem oid_there {s : Bs} {gs : List Nat} (h : oidVP s = some gs) : oidT (oidDV gs) = some s ∧ (bytesG gs).length ≤ 114 := by
 obtain ⟨h1, h2, h3, h4⟩ := oidVP_open h
 have hlen : (bytesG gs).length ≤ 114 := Nat.le_trans (bytesG_len gs h3) (by omega)
 have hP := oidP_bytes h2
 have hr : rightV (oidDV gs) = true := right_oidleaf hP (by omega)
 have hG : oidG (bytesG gs) = some gs := by
  have hf : gFold (bytesG gs) = some (gs, 0) := by have := gFrom_bytes gs [] h3; rw [List.nil_append] at this; exact this
  unfold oidG
  rw [hf]
  simp only
  rw [if_pos h1]
 refine ⟨?_, hlen⟩
 unfold oidT
 rw [if_pos ⟨rfl, rfl, hr⟩]
 show (oidG (bytesG gs)).map oidTextG = some s
 rw [hG, Option.map_some, h4]
end Go.Proofs.YtcofnockikninaaGreatDoor
