/- Parts of the walk. -/
import Derived.Test.YtcofnockikninaaGreatDoorZgDright
import Derived.Test.YtcofnockikninaaGreatDoorZgDwhole
import Derived.Lib.ItoaNum
namespace Go.Proofs.YtcofnockikninaaGreatDoor
def accK (y : Nat) (b : Bs) (i k : Nat) : Nat := digsP (((b.take i).drop (atK y k)).take (lenK y k))
def kOf (y i : Nat) : Nat := if y ≤ i then 1 + (i - y) / 2 else 0
theorem digs_snoc (l : Bs) (c : UInt8) : digsP (l ++ [c]) = 10 * digsP l + (c.toNat - 48) := by simp [digsP]
theorem win_before {b : Bs} {i a n : Nat} (h : i + 1 ≤ a) : ((b.take (i + 1)).drop a).take n = ((b.take i).drop a).take n := by
 rw [List.drop_eq_nil_of_le (by rw [List.length_take]; omega), List.drop_eq_nil_of_le (by rw [List.length_take]; omega)]
theorem _root_.List.take_append_of_length_le' {l : Bs} {c : UInt8} {n : Nat} (h : l.length < n) (_ : 0 < n) : (l ++ [c]).take n = l.take n ++ [c] := by
 rw [List.take_of_length_le (l := l ++ [c]) (by rw [List.length_append, List.length_singleton]; omega), List.take_of_length_le (l := l) (by omega)]
theorem win_here {b : Bs} {i a n : Nat} (hi : i < b.length) (h1 : a ≤ i) (h2 : i < a + n) : ((b.take (i + 1)).drop a).take n = ((b.take i).drop a).take n ++ [b.getD i 0] := by
 have e : b.take (i + 1) = b.take i ++ [b.getD i 0] := by
  rw [List.take_add_one, List.getElem?_eq_getElem hi, List.getD_eq_getElem?_getD, List.getElem?_eq_getElem hi]; rfl
 have hl : (b.take i).length = i := by rw [List.length_take]; omega
 have h3 : ((b.take i).drop a).length = i - a := by rw [List.length_drop, hl]
 rw [e, List.drop_append_of_le_length (by omega), List.take_append_of_length_le' (by omega) (by omega)]
theorem win_behind {b : Bs} {i a n : Nat} (h : a + n ≤ i) : ((b.take i).drop a).take n = (b.drop a).take n := by
 rw [List.drop_take, List.take_take, Nat.min_eq_left (by omega)]
theorem accK_zero (y : Nat) (b : Bs) (k : Nat) : accK y b 0 k = 0 := by unfold accK; simp [digsP]
theorem accK_here {y : Nat} {b : Bs} {i : Nat} (hi : i < b.length) : accK y b (i + 1) (kOf y i) = 10 * accK y b i (kOf y i) + ((b.getD i 0).toNat - 48) := by
 unfold accK
 rw [win_here hi, digs_snoc]
 ·unfold kOf atK; split <;> split <;> omega
 ·unfold kOf atK lenK; split <;> split <;> omega
theorem accK_other {y : Nat} {b : Bs} {i k : Nat} (hk : k ≠ kOf y i) : accK y b (i + 1) k = accK y b i k := by
 unfold accK
 have h : i + 1 ≤ atK y k ∨ atK y k + lenK y k ≤ i := by
  revert hk
  unfold kOf atK lenK
  split <;> split <;> omega
 rcases h with h | h
 ·rw [win_before h]
 ·rw [win_behind h, win_behind (Nat.le_succ_of_le h)]
theorem accK_end {y : Nat} {b : Bs} {k : Nat} (hk : k ≤ 5) : accK y b (y + 10) k = partK y b k := by
 unfold accK partK
 rw [win_behind]
 unfold atK lenK
 split <;> omega
theorem digs_lt (l : Bs) : ∀ k, k ≤ l.length → (l.take k).all isDig = true → digsP (l.take k) < 10 ^ k := fun k => by
 induction k with
 | zero => intro _ _; simp [digsP]
 | succ k ih =>
  intro hk h
  have e : l.take (k + 1) = l.take k ++ [l.getD k 0] := by
   rw [List.take_add_one, List.getElem?_eq_getElem hk, List.getD_eq_getElem?_getD, List.getElem?_eq_getElem hk]; rfl
  rw [e, List.all_append, Bool.and_eq_true] at h
  have h1 := ih (by omega) h.1
  have h2 : isDig (l.getD k 0) = true := by simpa using h.2
  simp only [isDig, Bool.and_eq_true, decide_eq_true_eq] at h2
  rw [e, digs_snoc, Nat.pow_succ]
  omega
theorem all_win {b : Bs} {i a n : Nat} (h : (b.take i).all isDig = true) : (((b.take i).drop a).take n).all isDig = true := by
 rw [List.all_eq_true] at h ⊢
 exact fun c hc => h c (List.mem_of_mem_drop (List.mem_of_mem_take hc))
theorem accK_lt {y : Nat} (hy : y = 2 ∨ y = 4) {b : Bs} {i : Nat} (h : (b.take i).all isDig = true) (k : Nat) : accK y b i k ≤ 9999 := by
 have h1 := digs_lt (((b.take i).drop (atK y k)).take (lenK y k)) _ (Nat.le_refl _) (by rw [List.take_length]; exact all_win h)
 rw [List.take_length] at h1
 have h2 : (((b.take i).drop (atK y k)).take (lenK y k)).length ≤ 4 := by
  rw [List.length_take]
  have : lenK y k ≤ 4 := by unfold lenK; split <;> omega
  omega
 have h3 := Nat.pow_le_pow_right (show 0 < 10 by omega) h2
 unfold accK
 omega
theorem all_succ {b : Bs} {i : Nat} (hi : i < b.length) : (b.take (i + 1)).all isDig = ((b.take i).all isDig && isDig (b.getD i 0)) := by
 have e : b.take (i + 1) = b.take i ++ [b.getD i 0] := by
  rw [List.take_add_one, List.getElem?_eq_getElem hi, List.getD_eq_getElem?_getD, List.getElem?_eq_getElem hi]; rfl
 rw [e, List.all_append]
 simp
theorem time_notdig {y : Nat} {b : Bs} {i : Nat} (hi : i < b.length) (hy : i < y + 10) (h : isDig (b.getD i 0) = false) : timeP y b = false := by
 have : (b.take (y + 10)).all isDig = false := by
  rw [List.all_eq_false]
  refine ⟨b.getD i 0, ?_, by rw [h]; simp⟩
  rw [List.getD_eq_getElem?_getD, List.getElem?_eq_getElem hi, Option.getD_some]
  exact List.mem_take_iff_getElem.2 ⟨i, by omega, rfl⟩
 unfold timeP
 rw [this]
 simp
theorem time_len {y : Nat} {b : Bs} (h : b.length ≠ y + 11) : timeP y b = false := by unfold timeP; simp [h]
theorem time_z {y : Nat} {b : Bs} (h : (b.getD (y + 10) 0).toNat ≠ 90) : timeP y b = false := by
 unfold timeP
 have : decide (b.getD (y + 10) 0 = 90) = false := decide_eq_false fun e => h (by rw [e]; rfl)
 rw [this]
 simp
theorem time_digs {y : Nat} {b : Bs} (h1 : b.length = y + 11) (h2 : (b.getD (y + 10) 0).toNat = 90) (h3 : (b.take (y + 10)).all isDig = true) : timeP y b = calP (yearK y b) (partK y b 1) (partK y b 2) (partK y b 3) (partK y b 4) (partK y b 5) := by
 unfold timeP
 have : b.getD (y + 10) 0 = 90 := UInt8.toNat_inj.1 (by rw [h2]; rfl)
 simp only [h1, this, h3, decide_true, Bool.true_and]
def leapsP (y : Nat) : Nat := (y - 1) / 4 - (y - 1) / 100 + (y - 1) / 400
def isLeap (y : Nat) : Prop := (y % 4 = 0 ∧ ¬ y % 100 = 0) ∨ y % 400 = 0
instance (y : Nat) : Decidable (isLeap y) := by unfold isLeap; infer_instance
theorem leaps_succ (y : Nat) (h : 1 ≤ y) : leapsP (y + 1) = leapsP y + if isLeap y then 1 else 0 := by
 by_cases hl : isLeap y
 ·rw [if_pos hl]
  unfold isLeap at hl
  unfold leapsP
  omega
 ·rw [if_neg hl]
  unfold isLeap at hl
  unfold leapsP
  omega
def monthsTo (y : Nat) : Nat → Nat
 | 0 => 0
 | 1 => 0
 | m + 2 => monthsTo y (m + 1) + daysP y (m + 1)
theorem monthsTo_succ (y m : Nat) (h : 1 ≤ m) : monthsTo y (m + 1) = monthsTo y m + daysP y m := by
 obtain ⟨k, rfl⟩ : ∃ k, m = k + 1 := ⟨m - 1, by omega⟩
 rfl
def yearLen (y : Nat) : Nat := if isLeap y then 366 else 365
theorem months13 (y : Nat) : monthsTo y 13 = yearLen y := by
 unfold yearLen
 simp only [monthsTo, daysP]
 by_cases h : isLeap y
 ·rw [if_pos h]
  unfold isLeap at h
  simp [h]
 ·rw [if_neg h]
  unfold isLeap at h
  simp [h]
def yearsTo (y : Nat) : Nat := 365 * (y - 1970) + leapsP y - leapsP 1970
theorem leaps_mono {a b : Nat} (h1 : 1 ≤ a) (h : a ≤ b) : leapsP a ≤ leapsP b := by
 unfold leapsP
 omega
theorem yearsTo_succ (y : Nat) (h : 1970 ≤ y) : yearsTo (y + 1) = yearsTo y + yearLen y := by
 have h1 := leaps_succ y (by omega)
 have h2 := leaps_mono (a := 1970) (by omega) h
 unfold yearsTo yearLen
 rw [h1]
 split <;> omega
theorem yearLen_pos (y : Nat) : 365 ≤ yearLen y ∧ yearLen y ≤ 366 := by unfold yearLen; split <;> omega
theorem yearsTo_mono {a b : Nat} (h1 : 1970 ≤ a) (h : a ≤ b) : yearsTo a ≤ yearsTo b := by
 induction b with
 | zero => omega
 | succ b ih =>
  by_cases e : a = b + 1
  ·subst e; exact Nat.le_refl _
  ·have := ih (by omega)
   rw [yearsTo_succ b (by omega)]
   omega
theorem yearsTo_le {y : Nat} (h : 1970 ≤ y) : yearsTo y ≤ 366 * (y - 1970) := by
 induction y with
 | zero => omega
 | succ y ih =>
  by_cases e : y + 1 = 1970
  ·rw [e]; decide
  ·have := ih (by omega)
   rw [yearsTo_succ y (by omega)]
   have := yearLen_pos y
   omega
theorem daysP_pos (y m : Nat) : 28 ≤ daysP y m ∧ daysP y m ≤ 31 := by unfold daysP; split <;> (try split) <;> (try split) <;> omega
theorem monthsTo_mono {y a b : Nat} (h1 : 1 ≤ a) (h : a ≤ b) : monthsTo y a ≤ monthsTo y b := by
 induction b with
 | zero => omega
 | succ b ih =>
  by_cases e : a = b + 1
  ·subst e; exact Nat.le_refl _
  ·have := ih (by omega)
   rw [monthsTo_succ y b (by omega)]
   omega
theorem monthsTo_le (y : Nat) : ∀ m, 1 ≤ m → monthsTo y m ≤ 31 * (m - 1) := fun m => by
 induction m with
 | zero => omega
 | succ m ih =>
  intro h
  by_cases e : m = 0
  ·subst e; simp [monthsTo]
  ·have := ih (by omega)
   rw [monthsTo_succ y m (by omega)]
   have := daysP_pos y m
   omega
structure DateIs (n y m d : Nat) : Prop where
 y0 : 1970 ≤ y
 m0 : 1 ≤ m
 m1 : m ≤ 12
 d0 : 1 ≤ d
 d1 : d ≤ daysP y m
 eq : yearsTo y + monthsTo y m + d = n + 1
theorem DateIs.year {n y m d : Nat} (h : DateIs n y m d) : yearsTo y ≤ n ∧ n < yearsTo (y + 1) := by
 have h1 := h.eq
 have h2 := monthsTo_mono (y := y) (a := m + 1) (b := 13) (by omega) (by have := h.m1; omega)
 rw [monthsTo_succ y m h.m0, months13] at h2
 rw [yearsTo_succ y h.y0]
 have := h.d0; have := h.d1
 omega
theorem DateIs.one {n y m d y' m' d' : Nat} (h : DateIs n y m d) (k : DateIs n y' m' d') : y = y' ∧ m = m' ∧ d = d' := by
 have hy : y = y' := by
  obtain ⟨a1, a2⟩ := h.year
  obtain ⟨b1, b2⟩ := k.year
  rcases Nat.lt_trichotomy y y' with e | e | e
  ·have := yearsTo_mono (a := y + 1) (b := y') (by have := h.y0; omega) (by omega)
   omega
  ·exact e
  ·have := yearsTo_mono (a := y' + 1) (b := y) (by have := k.y0; omega) (by omega)
   omega
 subst hy
 have h1 := h.eq; have k1 := k.eq
 have := h.d0; have := h.d1; have := k.d0; have := k.d1
 have hm : m = m' := by
  rcases Nat.lt_trichotomy m m' with e | e | e
  ·have := monthsTo_mono (y := y) (a := m + 1) (b := m') (by omega) (by omega)
   rw [monthsTo_succ y m h.m0] at this
   omega
  ·exact e
  ·have := monthsTo_mono (y := y) (a := m' + 1) (b := m) (by omega) (by omega)
   rw [monthsTo_succ y m' k.m0] at this
   omega
 subst hm
 exact ⟨rfl, rfl, by omega⟩
theorem DateIs.last {n y m d : Nat} (h : DateIs n y m d) (hn : n ≤ 2932896) : y ≤ 9999 := by
 have h1 := h.year.1
 rcases Nat.lt_or_ge 9999 y with e | e
 ·have := yearsTo_mono (a := 10000) (b := y) (by omega) (by omega)
  have e2 : yearsTo 10000 = 2932897 := by decide
  omega
 ·exact e
def secondsP (y m d h mi s : Nat) : Nat := 86400 * (yearsTo y + monthsTo y m + d - 1) + 3600 * h + 60 * mi + s
open Go.Lib (decDigits)
def rightV (v : DV) : Bool := match writeTop formD v with | .yes _ => true | .no _ => false
def gStep (st : List Nat × Nat) (c : UInt8) : Option (List Nat × Nat) :=
 if 1099511627776 ≤ 128 * st.2 + c.toNat % 128 then none else some (if c.toNat < 128 then (st.1 ++ [128 * st.2 + c.toNat % 128], 0) else (st.1, 128 * st.2 + c.toNat % 128))
def gFrom (o : Option (List Nat × Nat)) (b : Bs) : Option (List Nat × Nat) := b.foldl (fun o c => o.bind fun st => gStep st c) o
def gFold (b : Bs) : Option (List Nat × Nat) := gFrom (some ([], 0)) b
theorem gFrom_none (b : Bs) : gFrom none b = none := by
 unfold gFrom
 induction b with
 | nil => rfl
 | cons c b ih => exact ih
theorem gFrom_append (o : Option (List Nat × Nat)) (a b : Bs) : gFrom o (a ++ b) = gFrom (gFrom o a) b := by unfold gFrom; rw [List.foldl_append]
theorem gFold_take {b : Bs} {i : Nat} (hi : i < b.length) : gFold (b.take (i + 1)) = (gFold (b.take i)).bind fun st => gStep st (b.getD i 0) := by
 have e : b.take (i + 1) = b.take i ++ [b.getD i 0] := by
  rw [List.take_add_one, List.getElem?_eq_getElem hi, List.getD_eq_getElem?_getD, List.getElem?_eq_getElem hi]; rfl
 unfold gFold
 rw [e, gFrom_append]
 rfl
theorem gFold_no {b : Bs} {i : Nat} (h : gFold (b.take i) = none) : gFold b = none := by
 rw [← List.take_append_drop i b]
 unfold gFold at *
 rw [gFrom_append, h, gFrom_none]
theorem gStep_grows {st st' : List Nat × Nat} {c : UInt8} (h : gStep st c = some st') : st.1.length ≤ st'.1.length := by
 unfold gStep at h
 split at h
 ·cases h
 ·injection h with h
  subst h
  split <;> simp
theorem gFrom_grows : ∀ (b : Bs) {st st' : List Nat × Nat}, gFrom (some st) b = some st' → st.1.length ≤ st'.1.length
 | [], st, st', h => by injection h with h; subst h; exact Nat.le_refl _
 | c :: b, st, st', h => by
  have h' : gFrom (gStep st c) b = some st' := h
  cases hs : gStep st c with
  | none => rw [hs, gFrom_none] at h'; cases h'
  | some s2 =>
   rw [hs] at h'
   exact Nat.le_trans (gStep_grows hs) (gFrom_grows b h')
def oidG (b : Bs) : Option (List Nat) := match gFold b with
 | none => none
 | some st => if st.1.length ≤ 19 then some st.1 else none
theorem oidG_no {b : Bs} {i : Nat} (h : gFold (b.take i) = none) : oidG b = none := by unfold oidG; rw [gFold_no h]
theorem oidP_last {b : Bs} (h : oidP b = true) : 0 < b.length ∧ (b.getD (b.length - 1) 0).toNat < 128 := by
 unfold oidP at h
 simp only [Bool.and_eq_true, decide_eq_true_eq] at h
 exact ⟨h.1.2, h.2⟩
theorem oidG_many {b : Bs} {i : Nat} {gs : List Nat} {n : Nat} (hr : oidP b = true) (hi : i < b.length) (h : gFold (b.take i) = some (gs, n)) (hl : gs.length = 19) : oidG b = none := by
 obtain ⟨h0, h1⟩ := oidP_last hr
 unfold oidG
 cases hb : gFold b with
 | none => rfl
 | some st =>
  have e : b = b.take (b.length - 1 + 1) := by rw [List.take_of_length_le (by omega)]
  have hb2 := hb
  rw [e, gFold_take (by omega)] at hb2
  cases hm : gFold (b.take (b.length - 1)) with
  | none => rw [hm] at hb2; cases hb2
  | some s2 =>
   rw [hm] at hb2
   have h2 : gStep s2 (b.getD (b.length - 1) 0) = some st := hb2
   have e2 : b.take (b.length - 1) = b.take i ++ (b.drop i).take (b.length - 1 - i) := by
    rw [← List.take_append_drop i (b.take (b.length - 1)), List.take_take, Nat.min_eq_left (by omega), List.drop_take]
   unfold gFold at hm h
   rw [e2, gFrom_append, h] at hm
   have h3 := gFrom_grows _ hm
   unfold gStep at h2
   split at h2
   ·cases h2
   ·injection h2 with h2
    subst h2
    simp only [List.length_append, List.length_singleton] at h3 ⊢
    rw [if_neg (by omega)]
theorem oidG_end {b : Bs} {gs : List Nat} {n : Nat} (hr : oidP b = true) (h : gFold b = some (gs, n)) : n = 0 ∧ gs ≠ [] := by
 obtain ⟨h0, h1⟩ := oidP_last hr
 have e : b = b.take (b.length - 1 + 1) := by rw [List.take_of_length_le (by omega)]
 rw [e, gFold_take (by omega)] at h
 cases hm : gFold (b.take (b.length - 1)) with
 | none => rw [hm] at h; cases h
 | some s2 =>
  rw [hm] at h
  have h2 : gStep s2 (b.getD (b.length - 1) 0) = some (gs, n) := h
  unfold gStep at h2
  split at h2
  ·cases h2
  ·injection h2 with h2
   simp only [Prod.mk.injEq] at h2
   exact ⟨h2.2.symm, by rw [← h2.1]; simp⟩
theorem gFold_lt : ∀ (b : Bs) {gs : List Nat} {n : Nat}, gFold b = some (gs, n) → n < 1099511627776 ∧ ∀ g ∈ gs, g < 1099511627776 := fun b => by
 have key : ∀ (b : Bs) (st st' : List Nat × Nat), st.2 < 1099511627776 → (∀ g ∈ st.1, g < 1099511627776) → gFrom (some st) b = some st' → st'.2 < 1099511627776 ∧ ∀ g ∈ st'.1, g < 1099511627776 := fun b => by
  induction b with
  | nil => intro st st' h1 h2 h; injection h with h; subst h; exact ⟨h1, h2⟩
  | cons c b ih =>
   intro st st' h1 h2 h
   have h' : gFrom (gStep st c) b = some st' := h
   cases hs : gStep st c with
   | none => rw [hs, gFrom_none] at h'; cases h'
   | some s2 =>
    rw [hs] at h'
    unfold gStep at hs
    split at hs
    ·cases hs
    ·rename_i hn
     injection hs with hs
     subst hs
     refine ih _ st' ?_ ?_ h'
     ·split
      ·simp
      ·simp only; omega
     ·split
      ·intro g hg
       simp only [List.mem_append, List.mem_singleton] at hg
       rcases hg with hg | hg
       ·exact h2 g hg
       ·omega
      ·exact h2
 intro gs n h
 exact key b ([], 0) (gs, n) (by simp) (by simp) h
def restT (gs : List Nat) : Bs := gs.flatMap fun n => 46 :: decDigits n
def oidTextG : List Nat → Bs
 | [] => []
 | g :: r => decDigits (min (g / 40) 2) ++ 46 :: decDigits (g - 40 * min (g / 40) 2) ++ restT r
theorem restT_snoc (gs : List Nat) (n : Nat) : restT (gs ++ [n]) = restT gs ++ 46 :: decDigits n := by unfold restT; simp
def oidT (v : DV) : Option Bs := if v.cls = 0 ∧ v.tag = 6 ∧ rightV v = true then (oidG v.bytes).map oidTextG else none
theorem right_form {v : DV} (h : rightV v = true) (hc : v.cls = 0) : ∃ t : Nat, v.tag = (t : Int) ∧ formD 0 t v.made v.bytes = 0 ∧ (v.made = true → v.bytes = []) ∧ (v.made = false → v.kids = []) := by
 unfold rightV writeTop at h
 obtain ⟨c, t, m, b, ks⟩ := v
 simp only [DV.cls] at hc
 subst hc
 cases hw : writeP formD 17 (.mk 0 t m b ks) with
 | no e => rw [hw] at h; simp at h
 | yes w =>
  obtain ⟨_, _, h3, _, h5, h6, h7, _⟩ := write_open hw
  exact ⟨t.toNat, by simp only [DV.tag]; omega, h5, h6, h7⟩
theorem form_plain {t : Nat} {m : Bool} {b : Bs} (hp : plainT t = true) (hm : madeT t = false) (h : formD 0 t m b = 0) : m = false ∧ rightP t b = true := by
 unfold formD at h
 rw [if_neg (by simp)] at h
 split at h
 ·cases h
 ·rename_i h1
  split at h
  ·cases h
  ·rename_i h2
   constructor
   ·cases m
    ·rfl
    ·exact absurd (Or.inr (by rw [hm]; simp)) h1
   ·cases hr : rightP t b
    ·exact absurd ⟨hp, hr⟩ h2
    ·rfl
theorem right_oid {v : DV} (h : rightV v = true) (hc : v.cls = 0) (ht : v.tag = 6) : v = .mk 0 6 false v.bytes [] ∧ oidP v.bytes = true := by
 obtain ⟨t, h1, h2, h3, h4⟩ := right_form h hc
 have : t = 6 := by omega
 subst this
 obtain ⟨hm, hr⟩ := form_plain (by decide) (by decide) h2
 have hk := h4 hm
 refine ⟨?_, ?_⟩
 ·rw [v.eta]
  simp only [DV.bytes, hc, ht, hm, hk]
 ·simpa [rightP] using hr
theorem oidT_yes {v : DV} {s : Bs} (h : oidT v = some s) : ∃ gs, v = .mk 0 6 false v.bytes [] ∧ oidP v.bytes = true ∧ oidG v.bytes = some gs ∧ s = oidTextG gs ∧ rightV v = true := by
 unfold oidT at h
 split at h
 ·rename_i hv
  obtain ⟨h1, h2, h3⟩ := hv
  obtain ⟨e1, e2⟩ := right_oid h3 h1 h2
  cases hg : oidG v.bytes with
  | none => rw [hg] at h; cases h
  | some gs =>
   rw [hg] at h
   injection h with h
   exact ⟨gs, e1, e2, rfl, h.symm, h3⟩
 ·cases h
structure Gen where
 kind : Int
 text : Bs
 dir : List (Bs × Bs)
def kindP (k : Int) : Bool := decide (k = 1) || decide (k = 2) || decide (k = 4) || decide (k = 6) || decide (k = 7)
def bitAt (b : Bs) (i : Nat) : Bool := decide ((b.getD (i / 8) 0).toNat / 2 ^ (7 - i % 8) % 2 = 1)
def maskTo (b : Bs) (n : Nat) : Bool := (List.range n).all fun i => decide (i = 0) || !bitAt b i || bitAt b (i - 1)
def maskP (b : Bs) : Bool := maskTo b (8 * b.length)
theorem maskTo_succ (b : Bs) (n : Nat) : maskTo b (n + 1) = (maskTo b n && (decide (n = 0) || !bitAt b n || bitAt b (n - 1))) := by
 unfold maskTo
 rw [List.range_succ, List.all_append]
 simp
theorem maskTo_no {b : Bs} {n m : Nat} (h : n ≤ m) (hf : maskTo b n = false) : maskTo b m = false := by
 induction m with
 | zero => have : n = 0 := by omega
           subst this; exact hf
 | succ m ih =>
  by_cases e : n = m + 1
  ·subst e; exact hf
  ·rw [maskTo_succ, ih (by omega)]; rfl
def addrP (limit : Bool) (s : Bs) : Bool := if limit = false then decide (s.length = 4) || decide (s.length = 16) else (decide (s.length = 8) || decide (s.length = 32)) && maskP (s.drop (s.length / 2))
def ascP (s : Bs) : Bool := s.all fun c => decide (c.toNat < 128)
def namedP (g : Gen) (limit : Bool) : Bool :=
 if g.kind = 4 then limit || decide (0 < g.dir.length) else if g.kind = 7 then addrP limit g.text else (limit || !decide (g.text = [])) && decide (g.text.length ≤ 64) && ascP g.text
def formG (g : Gen) : Bool := kindP g.kind && (decide (g.kind = 4) || decide (g.dir.length = 0)) && (!decide (g.kind = 4) || decide (g.text = []))
def genV (dn : List (Bs × Bs) → Told DV) (g : Gen) (limit : Bool) : Told DV :=
 if formG g = false then .no 30 else if namedP g limit = false then .no 31 else
 if g.kind = 4 then (match dn g.dir with | .no _ => .no 31 | .yes d => .yes (.mk 2 4 true [] [d])) else .yes (.mk 2 g.kind false g.text [])
def twoAt (b : Bs) (k : Nat) : Nat := 10 * ((b.getD k 0).toNat - 48) + ((b.getD (k + 1) 0).toNat - 48)
theorem digs_two {b : Bs} {k : Nat} (h : k + 2 ≤ b.length) : digsP ((b.drop k).take 2) = twoAt b k := by
 have e : (b.drop k).take 2 = [b.getD k 0, b.getD (k + 1) 0] := by
  have h1 : b.drop k = b.getD k 0 :: b.drop (k + 1) := by
   rw [List.drop_eq_getElem_cons (by omega), List.getD_eq_getElem?_getD, List.getElem?_eq_getElem (by omega)]; rfl
  have h2 : b.drop (k + 1) = b.getD (k + 1) 0 :: b.drop (k + 2) := by
   rw [List.drop_eq_getElem_cons (by omega), List.getD_eq_getElem?_getD, List.getElem?_eq_getElem (by omega)]; rfl
  rw [h1, h2]
  rfl
 rw [e]
 simp only [digsP, List.foldl_cons, List.foldl_nil, twoAt]
 omega
theorem digs_four {b : Bs} (h : 4 ≤ b.length) : digsP (b.take 4) = 100 * twoAt b 0 + twoAt b 2 := by
 have e : b.take 4 = [b.getD 0 0, b.getD 1 0, b.getD 2 0, b.getD 3 0] := by
  match b, h with
  | a :: c :: d :: e :: r, _ => rfl
 rw [e]
 simp only [digsP, List.foldl_cons, List.foldl_nil, twoAt, Nat.zero_add, Nat.reduceAdd]
 omega
def momT (y : Nat) (b : Bs) : Bs := if y = 2 then (if partK 2 b 0 < 50 then [50, 48] else [49, 57]) ++ b else b
theorem twoAt_app (a : Bs) (b : Bs) (h : a.length = 2) (k : Nat) : twoAt (a ++ b) (k + 2) = twoAt b k := by
 unfold twoAt
 simp only [List.getD_eq_getElem?_getD]
 rw [List.getElem?_append_right (by omega), List.getElem?_append_right (by omega), h, show k + 2 - 2 = k by omega, show k + 2 + 1 - 2 = k + 1 by omega]
theorem time_open {y : Nat} {b : Bs} (h : timeP y b = true) : b.length = y + 11 ∧ (b.take (y + 10)).all isDig = true ∧ b.getD (y + 10) 0 = 90 ∧ calP (yearK y b) (partK y b 1) (partK y b 2) (partK y b 3) (partK y b 4) (partK y b 5) = true := by
 unfold timeP at h
 simp only [Bool.and_eq_true, decide_eq_true_eq] at h
 exact ⟨h.1.1.1, h.1.2, h.1.1.2, h.2⟩
theorem part_two {y : Nat} {b : Bs} (hl : b.length = y + 11) {k : Nat} (h1 : 1 ≤ k) (h5 : k ≤ 5) : partK y b k = twoAt b (y + 2 * (k - 1)) := by
 unfold partK atK lenK
 rw [if_neg (by omega), if_neg (by omega)]
 exact digs_two (by omega)
theorem mom_part {y : Nat} (hy : y = 2 ∨ y = 4) {b : Bs} (hl : b.length = y + 11) {k : Nat} (h1 : 1 ≤ k) (h5 : k ≤ 5) : twoAt (momT y b) (2 * (k + 1)) = partK y b k := by
 rw [part_two hl h1 h5]
 unfold momT
 rcases hy with rfl | rfl
 ·rw [if_pos rfl, show 2 * (k + 1) = (2 + 2 * (k - 1)) + 2 by omega, twoAt_app _ _ (by split <;> rfl)]
 ·rw [if_neg (by omega), show 2 * (k + 1) = 4 + 2 * (k - 1) by omega]
theorem mom_year {y : Nat} (hy : y = 2 ∨ y = 4) {b : Bs} (hl : b.length = y + 11) : 100 * twoAt (momT y b) 0 + twoAt (momT y b) 2 = yearK y b := by
 rcases hy with rfl | rfl
 ·have e : partK 2 b 0 = twoAt b 0 := by
   unfold partK atK lenK
   rw [if_pos rfl, if_pos rfl]
   exact digs_two (by omega)
  unfold momT yearK
  rw [if_pos rfl, if_pos rfl]
  have e2 : ∀ a : Bs, a.length = 2 → twoAt (a ++ b) 2 = twoAt b 0 := fun a ha => twoAt_app a b ha 0
  rw [e2 _ (by split <;> rfl), ← e]
  split
  ·have : twoAt ([50, 48] ++ b) 0 = 20 := rfl
   rw [this]; omega
  ·have : twoAt ([49, 57] ++ b) 0 = 19 := rfl
   rw [this]; omega
 ·unfold momT yearK partK atK lenK
  rw [if_neg (by omega), if_neg (by omega), if_pos rfl, if_pos rfl, List.drop_zero]
  exact (digs_four (by omega)).symm
theorem all_at {l : Bs} {n i : Nat} (h : (l.take n).all isDig = true) (hi : i < n) (hl : i < l.length) : isDig (l.getD i 0) = true := by
 rw [List.all_eq_true] at h
 refine h _ ?_
 rw [List.getD_eq_getElem?_getD, List.getElem?_eq_getElem hl, Option.getD_some]
 exact List.mem_take_iff_getElem.2 ⟨i, by omega, rfl⟩
theorem mom_digits {y : Nat} (hy : y = 2 ∨ y = 4) {b : Bs} (hl : b.length = y + 11) (hd : (b.take (y + 10)).all isDig = true) (i : Nat) (hi : i < 14) : isDig ((momT y b).getD i 0) = true := by
 rcases hy with rfl | rfl
 ·unfold momT
  rw [if_pos rfl]
  rcases (by omega : i = 0 ∨ i = 1 ∨ 2 ≤ i) with rfl | rfl | h2
  ·split <;> rfl
  ·split <;> rfl
  ·obtain ⟨j, rfl⟩ : ∃ j, i = j + 2 := ⟨i - 2, by omega⟩
   have e : ∀ a : Bs, a.length = 2 → (a ++ b).getD (j + 2) 0 = b.getD j 0 := fun a ha => by
    simp only [List.getD_eq_getElem?_getD]
    rw [List.getElem?_append_right (by omega), ha, Nat.add_sub_cancel]
   rw [e _ (by split <;> rfl)]
   exact all_at hd (by omega) (by omega)
 ·unfold momT
  rw [if_neg (by omega)]
  exact all_at hd (by omega) (by omega)
theorem mom_len {y : Nat} (hy : y = 2 ∨ y = 4) {b : Bs} (hl : b.length = y + 11) : (momT y b).length = 15 := by
 unfold momT
 rcases hy with rfl | rfl
 ·rw [if_pos rfl, List.length_append, hl]
  split <;> rfl
 ·rw [if_neg (by omega), hl]
theorem digit_le {c : UInt8} (h : isDig c = true) : c.toNat - 48 ≤ 9 ∧ 48 ≤ c.toNat := by
 simp only [isDig, Bool.and_eq_true, decide_eq_true_eq] at h
 omega
theorem mom_99 {y : Nat} (hy : y = 2 ∨ y = 4) {b : Bs} (hl : b.length = y + 11) (hd : (b.take (y + 10)).all isDig = true) (k : Nat) (hk : k < 7) : twoAt (momT y b) (2 * k) ≤ 99 := by
 have h1 := digit_le (mom_digits hy hl hd (2 * k) (by omega))
 have h2 := digit_le (mom_digits hy hl hd (2 * k + 1) (by omega))
 unfold twoAt
 omega
theorem cent_less {b : Bs} (hl : b.length = 13) (hd : (b.take 12).all isDig = true) : Op.bytesLess b [53, 48] = decide (partK 2 b 0 < 50) := by
 have e : partK 2 b 0 = twoAt b 0 := by
  unfold partK atK lenK
  rw [if_pos rfl, if_pos rfl]
  exact digs_two (by omega)
 rw [e]
 match b, hl with
 | p :: q :: r, hl =>
  have h1 := digit_le (all_at (l := p :: q :: r) hd (i := 0) (by omega) (by simp))
  have h2 := digit_le (all_at (l := p :: q :: r) hd (i := 1) (by omega) (by simp))
  have h1' : p.toNat - 48 ≤ 9 ∧ 48 ≤ p.toNat := h1
  have h2' : q.toNat - 48 ≤ 9 ∧ 48 ≤ q.toNat := h2
  have k1 : decide (p < 53) = decide (p.toNat < 53) := rfl
  have k2 : decide (q < 48) = false := by
   have : decide (q < 48) = decide (q.toNat < 48) := rfl
   rw [this]
   exact decide_eq_false (by omega)
  have e2 : twoAt (p :: q :: r) 0 = 10 * (p.toNat - 48) + (q.toNat - 48) := rfl
  rw [e2]
  simp only [Op.bytesLess, k1, k2, Bool.and_false, Bool.or_false]
  rw [decide_eq_decide]
  omega
def timeT (v : DV) : Nat × Nat :=
 if v.cls = 0 ∧ (v.tag = 23 ∨ v.tag = 24) ∧ rightV v = true then
  (let y := if v.tag = 23 then 2 else 4
   if yearK y v.bytes < 1970 ∨ (v.tag = 24 ∧ yearK y v.bytes < 2050) then (0, 32)
   else (secondsP (yearK y v.bytes) (partK y v.bytes 1) (partK y v.bytes 2) (partK y v.bytes 3) (partK y v.bytes 4) (partK y v.bytes 5), 0))
 else (0, 30)
theorem right_time {v : DV} (h : rightV v = true) (hc : v.cls = 0) (ht : v.tag = 23 ∨ v.tag = 24) : v = .mk 0 v.tag false v.bytes [] ∧ timeP (if v.tag = 23 then 2 else 4) v.bytes = true := by
 obtain ⟨t, h1, h2, h3, h4⟩ := right_form h hc
 have ht2 : t = 23 ∨ t = 24 := by omega
 obtain ⟨hm, hr⟩ := form_plain (by rcases ht2 with rfl | rfl <;> decide) (by rcases ht2 with rfl | rfl <;> decide) h2
 refine ⟨?_, ?_⟩
 ·have := v.eta
  rw [hc, hm, h4 hm] at this
  exact this
 ·rcases ht2 with rfl | rfl
  ·rw [if_pos (by omega)]
   simpa [rightP] using hr
  ·rw [if_neg (by omega)]
   simpa [rightP] using hr
end Go.Proofs.YtcofnockikninaaGreatDoor
