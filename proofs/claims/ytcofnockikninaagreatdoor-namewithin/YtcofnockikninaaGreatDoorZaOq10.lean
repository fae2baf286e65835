/- Parts of the walk. -/
import Derived.Test.YtcofnockikninaaGreatDoorZaDright
import Derived.Test.YtcofnockikninaaGreatDoorZaDwhole
import Derived.Lib.ItoaNum
import Derived.Lib.SplitLaws
namespace Go.Proofs.YtcofnockikninaaGreatDoor
theorem digs_snoc (l : Bs) (c : UInt8) : digsP (l ++ [c]) = 10 * digsP l + (c.toNat - 48) := by simp [digsP]
theorem digs_lt (l : Bs) : ∀ k, k ≤ l.length → (l.take k).all isDig = true → digsP (l.take k) < 10 ^ k := fun k => by
 induction k with
 | zero => intro _ _; simp [digsP]
 | succ k ih =>
  intro hk h
  have e : l.take (k + 1) = l.take k ++ [l.getD k 0] := by
   rw [List.take_add_one, List.getElem?_eq_getElem hk, List.getD_eq_getElem?_getD, List.getElem?_eq_getElem hk]; rfl
  rw [e, List.all_append, Bool.and_eq_true] at h
  have h1 := ih (by omega) h.1
  have h2 : isDig (l.getD k 0) = true := by simpa using h.2
  simp only [isDig, Bool.and_eq_true, decide_eq_true_eq] at h2
  rw [e, digs_snoc, Nat.pow_succ]
  omega
theorem all_win {b : Bs} {i a n : Nat} (h : (b.take i).all isDig = true) : (((b.take i).drop a).take n).all isDig = true := by
 rw [List.all_eq_true] at h ⊢
 exact fun c hc => h c (List.mem_of_mem_drop (List.mem_of_mem_take hc))
def leapsP (y : Nat) : Nat := (y - 1) / 4 - (y - 1) / 100 + (y - 1) / 400
def isLeap (y : Nat) : Prop := (y % 4 = 0 ∧ ¬ y % 100 = 0) ∨ y % 400 = 0
instance (y : Nat) : Decidable (isLeap y) := by unfold isLeap; infer_instance
theorem leaps_succ (y : Nat) (h : 1 ≤ y) : leapsP (y + 1) = leapsP y + if isLeap y then 1 else 0 := by
 by_cases hl : isLeap y
 ·rw [if_pos hl]
  unfold isLeap at hl
  unfold leapsP
  omega
 ·rw [if_neg hl]
  unfold isLeap at hl
  unfold leapsP
  omega
def monthsTo (y : Nat) : Nat → Nat
 | 0 => 0
 | 1 => 0
 | m + 2 => monthsTo y (m + 1) + daysP y (m + 1)
theorem monthsTo_succ (y m : Nat) (h : 1 ≤ m) : monthsTo y (m + 1) = monthsTo y m + daysP y m := by
 obtain ⟨k, rfl⟩ : ∃ k, m = k + 1 := ⟨m - 1, by omega⟩
 rfl
def yearLen (y : Nat) : Nat := if isLeap y then 366 else 365
theorem months13 (y : Nat) : monthsTo y 13 = yearLen y := by
 unfold yearLen
 simp only [monthsTo, daysP]
 by_cases h : isLeap y
 ·rw [if_pos h]
  unfold isLeap at h
  simp [h]
 ·rw [if_neg h]
  unfold isLeap at h
  simp [h]
def yearsTo (y : Nat) : Nat := 365 * (y - 1970) + leapsP y - leapsP 1970
theorem leaps_mono {a b : Nat} (h1 : 1 ≤ a) (h : a ≤ b) : leapsP a ≤ leapsP b := by
 unfold leapsP
 omega
theorem yearsTo_succ (y : Nat) (h : 1970 ≤ y) : yearsTo (y + 1) = yearsTo y + yearLen y := by
 have h1 := leaps_succ y (by omega)
 have h2 := leaps_mono (a := 1970) (by omega) h
 unfold yearsTo yearLen
 rw [h1]
 split <;> omega
theorem yearLen_pos (y : Nat) : 365 ≤ yearLen y ∧ yearLen y ≤ 366 := by unfold yearLen; split <;> omega
theorem yearsTo_mono {a b : Nat} (h1 : 1970 ≤ a) (h : a ≤ b) : yearsTo a ≤ yearsTo b := by
 induction b with
 | zero => omega
 | succ b ih =>
  by_cases e : a = b + 1
  ·subst e; exact Nat.le_refl _
  ·have := ih (by omega)
   rw [yearsTo_succ b (by omega)]
   omega
theorem yearsTo_le {y : Nat} (h : 1970 ≤ y) : yearsTo y ≤ 366 * (y - 1970) := by
 induction y with
 | zero => omega
 | succ y ih =>
  by_cases e : y + 1 = 1970
  ·rw [e]; decide
  ·have := ih (by omega)
   rw [yearsTo_succ y (by omega)]
   have := yearLen_pos y
   omega
theorem daysP_pos (y m : Nat) : 28 ≤ daysP y m ∧ daysP y m ≤ 31 := by unfold daysP; split <;> (try split) <;> (try split) <;> omega
theorem monthsTo_mono {y a b : Nat} (h1 : 1 ≤ a) (h : a ≤ b) : monthsTo y a ≤ monthsTo y b := by
 induction b with
 | zero => omega
 | succ b ih =>
  by_cases e : a = b + 1
  ·subst e; exact Nat.le_refl _
  ·have := ih (by omega)
   rw [monthsTo_succ y b (by omega)]
   omega
theorem monthsTo_le (y : Nat) : ∀ m, 1 ≤ m → monthsTo y m ≤ 31 * (m - 1) := fun m => by
 induction m with
 | zero => omega
 | succ m ih =>
  intro h
  by_cases e : m = 0
  ·subst e; simp [monthsTo]
  ·have := ih (by omega)
   rw [monthsTo_succ y m (by omega)]
   have := daysP_pos y m
   omega
structure DateIs (n y m d : Nat) : Prop where
 y0 : 1970 ≤ y
 m0 : 1 ≤ m
 m1 : m ≤ 12
 d0 : 1 ≤ d
 d1 : d ≤ daysP y m
 eq : yearsTo y + monthsTo y m + d = n + 1
theorem DateIs.year {n y m d : Nat} (h : DateIs n y m d) : yearsTo y ≤ n ∧ n < yearsTo (y + 1) := by
 have h1 := h.eq
 have h2 := monthsTo_mono (y := y) (a := m + 1) (b := 13) (by omega) (by have := h.m1; omega)
 rw [monthsTo_succ y m h.m0, months13] at h2
 rw [yearsTo_succ y h.y0]
 have := h.d0; have := h.d1
 omega
theorem DateIs.one {n y m d y' m' d' : Nat} (h : DateIs n y m d) (k : DateIs n y' m' d') : y = y' ∧ m = m' ∧ d = d' := by
 have hy : y = y' := by
  obtain ⟨a1, a2⟩ := h.year
  obtain ⟨b1, b2⟩ := k.year
  rcases Nat.lt_trichotomy y y' with e | e | e
  ·have := yearsTo_mono (a := y + 1) (b := y') (by have := h.y0; omega) (by omega)
   omega
  ·exact e
  ·have := yearsTo_mono (a := y' + 1) (b := y) (by have := k.y0; omega) (by omega)
   omega
 subst hy
 have h1 := h.eq; have k1 := k.eq
 have := h.d0; have := h.d1; have := k.d0; have := k.d1
 have hm : m = m' := by
  rcases Nat.lt_trichotomy m m' with e | e | e
  ·have := monthsTo_mono (y := y) (a := m + 1) (b := m') (by omega) (by omega)
   rw [monthsTo_succ y m h.m0] at this
   omega
  ·exact e
  ·have := monthsTo_mono (y := y) (a := m' + 1) (b := m) (by omega) (by omega)
   rw [monthsTo_succ y m' k.m0] at this
   omega
 subst hm
 exact ⟨rfl, rfl, by omega⟩
theorem DateIs.last {n y m d : Nat} (h : DateIs n y m d) (hn : n ≤ 2932896) : y ≤ 9999 := by
 have h1 := h.year.1
 rcases Nat.lt_or_ge 9999 y with e | e
 ·have := yearsTo_mono (a := 10000) (b := y) (by omega) (by omega)
  have e2 : yearsTo 10000 = 2932897 := by decide
  omega
 ·exact e
def secondsP (y m d h mi s : Nat) : Nat := 86400 * (yearsTo y + monthsTo y m + d - 1) + 3600 * h + 60 * mi + s
open Go.Lib (decDigits)
def rightV (v : DV) : Bool := match writeTop formD v with | .yes _ => true | .no _ => false
def gStep (st : List Nat × Nat) (c : UInt8) : Option (List Nat × Nat) :=
 if 1099511627776 ≤ 128 * st.2 + c.toNat % 128 then none else some (if c.toNat < 128 then (st.1 ++ [128 * st.2 + c.toNat % 128], 0) else (st.1, 128 * st.2 + c.toNat % 128))
def gFrom (o : Option (List Nat × Nat)) (b : Bs) : Option (List Nat × Nat) := b.foldl (fun o c => o.bind fun st => gStep st c) o
def gFold (b : Bs) : Option (List Nat × Nat) := gFrom (some ([], 0)) b
theorem gFrom_none (b : Bs) : gFrom none b = none := by
 unfold gFrom
 induction b with
 | nil => rfl
 | cons c b ih => exact ih
theorem gFrom_append (o : Option (List Nat × Nat)) (a b : Bs) : gFrom o (a ++ b) = gFrom (gFrom o a) b := by unfold gFrom; rw [List.foldl_append]
theorem gFold_take {b : Bs} {i : Nat} (hi : i < b.length) : gFold (b.take (i + 1)) = (gFold (b.take i)).bind fun st => gStep st (b.getD i 0) := by
 have e : b.take (i + 1) = b.take i ++ [b.getD i 0] := by
  rw [List.take_add_one, List.getElem?_eq_getElem hi, List.getD_eq_getElem?_getD, List.getElem?_eq_getElem hi]; rfl
 unfold gFold
 rw [e, gFrom_append]
 rfl
theorem gFold_no {b : Bs} {i : Nat} (h : gFold (b.take i) = none) : gFold b = none := by
 rw [← List.take_append_drop i b]
 unfold gFold at *
 rw [gFrom_append, h, gFrom_none]
theorem gStep_grows {st st' : List Nat × Nat} {c : UInt8} (h : gStep st c = some st') : st.1.length ≤ st'.1.length := by
 unfold gStep at h
 split at h
 ·cases h
 ·injection h with h
  subst h
  split <;> simp
theorem gFrom_grows : ∀ (b : Bs) {st st' : List Nat × Nat}, gFrom (some st) b = some st' → st.1.length ≤ st'.1.length
 | [], st, st', h => by injection h with h; subst h; exact Nat.le_refl _
 | c :: b, st, st', h => by
  have h' : gFrom (gStep st c) b = some st' := h
  cases hs : gStep st c with
  | none => rw [hs, gFrom_none] at h'; cases h'
  | some s2 =>
   rw [hs] at h'
   exact Nat.le_trans (gStep_grows hs) (gFrom_grows b h')
def oidG (b : Bs) : Option (List Nat) := match gFold b with
 | none => none
 | some st => if st.1.length ≤ 19 then some st.1 else none
theorem oidG_no {b : Bs} {i : Nat} (h : gFold (b.take i) = none) : oidG b = none := by unfold oidG; rw [gFold_no h]
theorem oidP_last {b : Bs} (h : oidP b = true) : 0 < b.length ∧ (b.getD (b.length - 1) 0).toNat < 128 := by
 unfold oidP at h
 simp only [Bool.and_eq_true, decide_eq_true_eq] at h
 exact ⟨h.1.2, h.2⟩
theorem oidG_many {b : Bs} {i : Nat} {gs : List Nat} {n : Nat} (hr : oidP b = true) (hi : i < b.length) (h : gFold (b.take i) = some (gs, n)) (hl : gs.length = 19) : oidG b = none := by
 obtain ⟨h0, h1⟩ := oidP_last hr
 unfold oidG
 cases hb : gFold b with
 | none => rfl
 | some st =>
  have e : b = b.take (b.length - 1 + 1) := by rw [List.take_of_length_le (by omega)]
  have hb2 := hb
  rw [e, gFold_take (by omega)] at hb2
  cases hm : gFold (b.take (b.length - 1)) with
  | none => rw [hm] at hb2; cases hb2
  | some s2 =>
   rw [hm] at hb2
   have h2 : gStep s2 (b.getD (b.length - 1) 0) = some st := hb2
   have e2 : b.take (b.length - 1) = b.take i ++ (b.drop i).take (b.length - 1 - i) := by
    rw [← List.take_append_drop i (b.take (b.length - 1)), List.take_take, Nat.min_eq_left (by omega), List.drop_take]
   unfold gFold at hm h
   rw [e2, gFrom_append, h] at hm
   have h3 := gFrom_grows _ hm
   unfold gStep at h2
   split at h2
   ·cases h2
   ·injection h2 with h2
    subst h2
    simp only [List.length_append, List.length_singleton] at h3 ⊢
    rw [if_neg (by omega)]
theorem oidG_end {b : Bs} {gs : List Nat} {n : Nat} (hr : oidP b = true) (h : gFold b = some (gs, n)) : n = 0 ∧ gs ≠ [] := by
 obtain ⟨h0, h1⟩ := oidP_last hr
 have e : b = b.take (b.length - 1 + 1) := by rw [List.take_of_length_le (by omega)]
 rw [e, gFold_take (by omega)] at h
 cases hm : gFold (b.take (b.length - 1)) with
 | none => rw [hm] at h; cases h
 | some s2 =>
  rw [hm] at h
  have h2 : gStep s2 (b.getD (b.length - 1) 0) = some (gs, n) := h
  unfold gStep at h2
  split at h2
  ·cases h2
  ·injection h2 with h2
   simp only [Prod.mk.injEq] at h2
   exact ⟨h2.2.symm, by rw [← h2.1]; simp⟩
theorem gFold_lt : ∀ (b : Bs) {gs : List Nat} {n : Nat}, gFold b = some (gs, n) → n < 1099511627776 ∧ ∀ g ∈ gs, g < 1099511627776 := fun b => by
 have key : ∀ (b : Bs) (st st' : List Nat × Nat), st.2 < 1099511627776 → (∀ g ∈ st.1, g < 1099511627776) → gFrom (some st) b = some st' → st'.2 < 1099511627776 ∧ ∀ g ∈ st'.1, g < 1099511627776 := fun b => by
  induction b with
  | nil => intro st st' h1 h2 h; injection h with h; subst h; exact ⟨h1, h2⟩
  | cons c b ih =>
   intro st st' h1 h2 h
   have h' : gFrom (gStep st c) b = some st' := h
   cases hs : gStep st c with
   | none => rw [hs, gFrom_none] at h'; cases h'
   | some s2 =>
    rw [hs] at h'
    unfold gStep at hs
    split at hs
    ·cases hs
    ·rename_i hn
     injection hs with hs
     subst hs
     refine ih _ st' ?_ ?_ h'
     ·split
      ·simp
      ·simp only; omega
     ·split
      ·intro g hg
       simp only [List.mem_append, List.mem_singleton] at hg
       rcases hg with hg | hg
       ·exact h2 g hg
       ·omega
      ·exact h2
 intro gs n h
 exact key b ([], 0) (gs, n) (by simp) (by simp) h
def restT (gs : List Nat) : Bs := gs.flatMap fun n => 46 :: decDigits n
def oidTextG : List Nat → Bs
 | [] => []
 | g :: r => decDigits (min (g / 40) 2) ++ 46 :: decDigits (g - 40 * min (g / 40) 2) ++ restT r
theorem restT_snoc (gs : List Nat) (n : Nat) : restT (gs ++ [n]) = restT gs ++ 46 :: decDigits n := by unfold restT; simp
def oidT (v : DV) : Option Bs := if v.cls = 0 ∧ v.tag = 6 ∧ rightV v = true then (oidG v.bytes).map oidTextG else none
theorem right_form {v : DV} (h : rightV v = true) (hc : v.cls = 0) : ∃ t : Nat, v.tag = (t : Int) ∧ formD 0 t v.made v.bytes = 0 ∧ (v.made = true → v.bytes = []) ∧ (v.made = false → v.kids = []) := by
 unfold rightV writeTop at h
 obtain ⟨c, t, m, b, ks⟩ := v
 simp only [DV.cls] at hc
 subst hc
 cases hw : writeP formD 17 (.mk 0 t m b ks) with
 | no e => rw [hw] at h; simp at h
 | yes w =>
  obtain ⟨_, _, h3, _, h5, h6, h7, _⟩ := write_open hw
  exact ⟨t.toNat, by simp only [DV.tag]; omega, h5, h6, h7⟩
theorem form_plain {t : Nat} {m : Bool} {b : Bs} (hp : plainT t = true) (hm : madeT t = false) (h : formD 0 t m b = 0) : m = false ∧ rightP t b = true := by
 unfold formD at h
 rw [if_neg (by simp)] at h
 split at h
 ·cases h
 ·rename_i h1
  split at h
  ·cases h
  ·rename_i h2
   constructor
   ·cases m
    ·rfl
    ·exact absurd (Or.inr (by rw [hm]; simp)) h1
   ·cases hr : rightP t b
    ·exact absurd ⟨hp, hr⟩ h2
    ·rfl
theorem right_oid {v : DV} (h : rightV v = true) (hc : v.cls = 0) (ht : v.tag = 6) : v = .mk 0 6 false v.bytes [] ∧ oidP v.bytes = true := by
 obtain ⟨t, h1, h2, h3, h4⟩ := right_form h hc
 have : t = 6 := by omega
 subst this
 obtain ⟨hm, hr⟩ := form_plain (by decide) (by decide) h2
 have hk := h4 hm
 refine ⟨?_, ?_⟩
 ·rw [v.eta]
  simp only [DV.bytes, hc, ht, hm, hk]
 ·simpa [rightP] using hr
structure Gen where
 kind : Int
 text : Bs
 dir : List (Bs × Bs)
def kindP (k : Int) : Bool := decide (k = 1) || decide (k = 2) || decide (k = 4) || decide (k = 6) || decide (k = 7)
def bitAt (b : Bs) (i : Nat) : Bool := decide ((b.getD (i / 8) 0).toNat / 2 ^ (7 - i % 8) % 2 = 1)
def maskTo (b : Bs) (n : Nat) : Bool := (List.range n).all fun i => decide (i = 0) || !bitAt b i || bitAt b (i - 1)
def maskP (b : Bs) : Bool := maskTo b (8 * b.length)
theorem maskTo_succ (b : Bs) (n : Nat) : maskTo b (n + 1) = (maskTo b n && (decide (n = 0) || !bitAt b n || bitAt b (n - 1))) := by
 unfold maskTo
 rw [List.range_succ, List.all_append]
 simp
theorem maskTo_no {b : Bs} {n m : Nat} (h : n ≤ m) (hf : maskTo b n = false) : maskTo b m = false := by
 induction m with
 | zero => have : n = 0 := by omega
           subst this; exact hf
 | succ m ih =>
  by_cases e : n = m + 1
  ·subst e; exact hf
  ·rw [maskTo_succ, ih (by omega)]; rfl
def addrP (limit : Bool) (s : Bs) : Bool := if limit = false then decide (s.length = 4) || decide (s.length = 16) else (decide (s.length = 8) || decide (s.length = 32)) && maskP (s.drop (s.length / 2))
def ascP (s : Bs) : Bool := s.all fun c => decide (c.toNat < 128)
def namedP (g : Gen) (limit : Bool) : Bool :=
 if g.kind = 4 then limit || decide (0 < g.dir.length) else if g.kind = 7 then addrP limit g.text else (limit || !decide (g.text = [])) && decide (g.text.length ≤ 64) && ascP g.text
def formG (g : Gen) : Bool := kindP g.kind && (decide (g.kind = 4) || decide (g.dir.length = 0)) && (!decide (g.kind = 4) || decide (g.text = []))
def genV (dn : List (Bs × Bs) → Told DV) (g : Gen) (limit : Bool) : Told DV :=
 if formG g = false then .no 30 else if namedP g limit = false then .no 31 else
 if g.kind = 4 then (match dn g.dir with | .no _ => .no 31 | .yes d => .yes (.mk 2 4 true [] [d])) else .yes (.mk 2 g.kind false g.text [])
def twoAt (b : Bs) (k : Nat) : Nat := 10 * ((b.getD k 0).toNat - 48) + ((b.getD (k + 1) 0).toNat - 48)
theorem digs_two {b : Bs} {k : Nat} (h : k + 2 ≤ b.length) : digsP ((b.drop k).take 2) = twoAt b k := by
 have e : (b.drop k).take 2 = [b.getD k 0, b.getD (k + 1) 0] := by
  have h1 : b.drop k = b.getD k 0 :: b.drop (k + 1) := by
   rw [List.drop_eq_getElem_cons (by omega), List.getD_eq_getElem?_getD, List.getElem?_eq_getElem (by omega)]; rfl
  have h2 : b.drop (k + 1) = b.getD (k + 1) 0 :: b.drop (k + 2) := by
   rw [List.drop_eq_getElem_cons (by omega), List.getD_eq_getElem?_getD, List.getElem?_eq_getElem (by omega)]; rfl
  rw [h1, h2]
  rfl
 rw [e]
 simp only [digsP, List.foldl_cons, List.foldl_nil, twoAt]
 omega
theorem digs_four {b : Bs} (h : 4 ≤ b.length) : digsP (b.take 4) = 100 * twoAt b 0 + twoAt b 2 := by
 have e : b.take 4 = [b.getD 0 0, b.getD 1 0, b.getD 2 0, b.getD 3 0] := by
  match b, h with
  | a :: c :: d :: e :: r, _ => rfl
 rw [e]
 simp only [digsP, List.foldl_cons, List.foldl_nil, twoAt, Nat.zero_add, Nat.reduceAdd]
 omega
def momT (y : Nat) (b : Bs) : Bs := if y = 2 then (if partK 2 b 0 < 50 then [50, 48] else [49, 57]) ++ b else b
theorem twoAt_app (a : Bs) (b : Bs) (h : a.length = 2) (k : Nat) : twoAt (a ++ b) (k + 2) = twoAt b k := by
 unfold twoAt
 simp only [List.getD_eq_getElem?_getD]
 rw [List.getElem?_append_right (by omega), List.getElem?_append_right (by omega), h, show k + 2 - 2 = k by omega, show k + 2 + 1 - 2 = k + 1 by omega]
theorem time_open {y : Nat} {b : Bs} (h : timeP y b = true) : b.length = y + 11 ∧ (b.take (y + 10)).all isDig = true ∧ b.getD (y + 10) 0 = 90 ∧ calP (yearK y b) (partK y b 1) (partK y b 2) (partK y b 3) (partK y b 4) (partK y b 5) = true := by
 unfold timeP at h
 simp only [Bool.and_eq_true, decide_eq_true_eq] at h
 exact ⟨h.1.1.1, h.1.2, h.1.1.2, h.2⟩
theorem part_two {y : Nat} {b : Bs} (hl : b.length = y + 11) {k : Nat} (h1 : 1 ≤ k) (h5 : k ≤ 5) : partK y b k = twoAt b (y + 2 * (k - 1)) := by
 unfold partK atK lenK
 rw [if_neg (by omega), if_neg (by omega)]
 exact digs_two (by omega)
theorem mom_part {y : Nat} (hy : y = 2 ∨ y = 4) {b : Bs} (hl : b.length = y + 11) {k : Nat} (h1 : 1 ≤ k) (h5 : k ≤ 5) : twoAt (momT y b) (2 * (k + 1)) = partK y b k := by
 rw [part_two hl h1 h5]
 unfold momT
 rcases hy with rfl | rfl
 ·rw [if_pos rfl, show 2 * (k + 1) = (2 + 2 * (k - 1)) + 2 by omega, twoAt_app _ _ (by split <;> rfl)]
 ·rw [if_neg (by omega), show 2 * (k + 1) = 4 + 2 * (k - 1) by omega]
theorem mom_year {y : Nat} (hy : y = 2 ∨ y = 4) {b : Bs} (hl : b.length = y + 11) : 100 * twoAt (momT y b) 0 + twoAt (momT y b) 2 = yearK y b := by
 rcases hy with rfl | rfl
 ·have e : partK 2 b 0 = twoAt b 0 := by
   unfold partK atK lenK
   rw [if_pos rfl, if_pos rfl]
   exact digs_two (by omega)
  unfold momT yearK
  rw [if_pos rfl, if_pos rfl]
  have e2 : ∀ a : Bs, a.length = 2 → twoAt (a ++ b) 2 = twoAt b 0 := fun a ha => twoAt_app a b ha 0
  rw [e2 _ (by split <;> rfl), ← e]
  split
  ·have : twoAt ([50, 48] ++ b) 0 = 20 := rfl
   rw [this]; omega
  ·have : twoAt ([49, 57] ++ b) 0 = 19 := rfl
   rw [this]; omega
 ·unfold momT yearK partK atK lenK
  rw [if_neg (by omega), if_neg (by omega), if_pos rfl, if_pos rfl, List.drop_zero]
  exact (digs_four (by omega)).symm
theorem all_at {l : Bs} {n i : Nat} (h : (l.take n).all isDig = true) (hi : i < n) (hl : i < l.length) : isDig (l.getD i 0) = true := by
 rw [List.all_eq_true] at h
 refine h _ ?_
 rw [List.getD_eq_getElem?_getD, List.getElem?_eq_getElem hl, Option.getD_some]
 exact List.mem_take_iff_getElem.2 ⟨i, by omega, rfl⟩
theorem mom_digits {y : Nat} (hy : y = 2 ∨ y = 4) {b : Bs} (hl : b.length = y + 11) (hd : (b.take (y + 10)).all isDig = true) (i : Nat) (hi : i < 14) : isDig ((momT y b).getD i 0) = true := by
 rcases hy with rfl | rfl
 ·unfold momT
  rw [if_pos rfl]
  rcases (by omega : i = 0 ∨ i = 1 ∨ 2 ≤ i) with rfl | rfl | h2
  ·split <;> rfl
  ·split <;> rfl
  ·obtain ⟨j, rfl⟩ : ∃ j, i = j + 2 := ⟨i - 2, by omega⟩
   have e : ∀ a : Bs, a.length = 2 → (a ++ b).getD (j + 2) 0 = b.getD j 0 := fun a ha => by
    simp only [List.getD_eq_getElem?_getD]
    rw [List.getElem?_append_right (by omega), ha, Nat.add_sub_cancel]
   rw [e _ (by split <;> rfl)]
   exact all_at hd (by omega) (by omega)
 ·unfold momT
  rw [if_neg (by omega)]
  exact all_at hd (by omega) (by omega)
theorem mom_len {y : Nat} (hy : y = 2 ∨ y = 4) {b : Bs} (hl : b.length = y + 11) : (momT y b).length = 15 := by
 unfold momT
 rcases hy with rfl | rfl
 ·rw [if_pos rfl, List.length_append, hl]
  split <;> rfl
 ·rw [if_neg (by omega), hl]
theorem digit_le {c : UInt8} (h : isDig c = true) : c.toNat - 48 ≤ 9 ∧ 48 ≤ c.toNat := by
 simp only [isDig, Bool.and_eq_true, decide_eq_true_eq] at h
 omega
theorem mom_99 {y : Nat} (hy : y = 2 ∨ y = 4) {b : Bs} (hl : b.length = y + 11) (hd : (b.take (y + 10)).all isDig = true) (k : Nat) (hk : k < 7) : twoAt (momT y b) (2 * k) ≤ 99 := by
 have h1 := digit_le (mom_digits hy hl hd (2 * k) (by omega))
 have h2 := digit_le (mom_digits hy hl hd (2 * k + 1) (by omega))
 unfold twoAt
 omega
theorem cent_less {b : Bs} (hl : b.length = 13) (hd : (b.take 12).all isDig = true) : Op.bytesLess b [53, 48] = decide (partK 2 b 0 < 50) := by
 have e : partK 2 b 0 = twoAt b 0 := by
  unfold partK atK lenK
  rw [if_pos rfl, if_pos rfl]
  exact digs_two (by omega)
 rw [e]
 match b, hl with
 | p :: q :: r, hl =>
  have h1 := digit_le (all_at (l := p :: q :: r) hd (i := 0) (by omega) (by simp))
  have h2 := digit_le (all_at (l := p :: q :: r) hd (i := 1) (by omega) (by simp))
  have h1' : p.toNat - 48 ≤ 9 ∧ 48 ≤ p.toNat := h1
  have h2' : q.toNat - 48 ≤ 9 ∧ 48 ≤ q.toNat := h2
  have k1 : decide (p < 53) = decide (p.toNat < 53) := rfl
  have k2 : decide (q < 48) = false := by
   have : decide (q < 48) = decide (q.toNat < 48) := rfl
   rw [this]
   exact decide_eq_false (by omega)
  have e2 : twoAt (p :: q :: r) 0 = 10 * (p.toNat - 48) + (q.toNat - 48) := rfl
  rw [e2]
  simp only [Op.bytesLess, k1, k2, Bool.and_false, Bool.or_false]
  rw [decide_eq_decide]
  omega
def timeT (v : DV) : Nat × Nat :=
 if v.cls = 0 ∧ (v.tag = 23 ∨ v.tag = 24) ∧ rightV v = true then
  (let y := if v.tag = 23 then 2 else 4
   if yearK y v.bytes < 1970 ∨ (v.tag = 24 ∧ yearK y v.bytes < 2050) then (0, 32)
   else (secondsP (yearK y v.bytes) (partK y v.bytes 1) (partK y v.bytes 2) (partK y v.bytes 3) (partK y v.bytes 4) (partK y v.bytes 5), 0))
 else (0, 30)
theorem right_time {v : DV} (h : rightV v = true) (hc : v.cls = 0) (ht : v.tag = 23 ∨ v.tag = 24) : v = .mk 0 v.tag false v.bytes [] ∧ timeP (if v.tag = 23 then 2 else 4) v.bytes = true := by
 obtain ⟨t, h1, h2, h3, h4⟩ := right_form h hc
 have ht2 : t = 23 ∨ t = 24 := by omega
 obtain ⟨hm, hr⟩ := form_plain (by rcases ht2 with rfl | rfl <;> decide) (by rcases ht2 with rfl | rfl <;> decide) h2
 refine ⟨?_, ?_⟩
 ·have := v.eta
  rw [hc, hm, h4 hm] at this
  exact this
 ·rcases ht2 with rfl | rfl
  ·rw [if_pos (by omega)]
   simpa [rightP] using hr
  ·rw [if_neg (by omega)]
   simpa [rightP] using hr
open Go.Lib (decDigits)
def splitD : Bs → List Bs
 | [] => [[]]
 | c :: l => if c = 46 then [] :: splitD l else match splitD l with
  | [] => [[c]]
  | p :: ps => (c :: p) :: ps
theorem splitD_form : ∀ l : Bs, ∃ p ps, splitD l = p :: ps
 | [] => ⟨[], [], rfl⟩
 | c :: l => by
  obtain ⟨p, ps, h⟩ := splitD_form l
  unfold splitD
  rw [h]
  by_cases hc : c = 46
  ·rw [if_pos hc]; exact ⟨_, _, rfl⟩
  ·rw [if_neg hc]; exact ⟨_, _, rfl⟩
theorem splitD_ne {c : UInt8} {l p : Bs} {ps : List Bs} (hc : ¬ c = 46) (h : splitD l = p :: ps) : splitD (c :: l) = (c :: p) :: ps := by rw [splitD, if_neg hc, h]
theorem splitD_eq (l : Bs) : splitD (46 :: l) = [] :: splitD l := by rw [splitD, if_pos rfl]
def joinD : List Bs → Bs
 | [] => []
 | p :: ps => p ++ ps.flatMap fun q => 46 :: q
theorem join_split : ∀ s : Bs, joinD (splitD s) = s
 | [] => rfl
 | c :: l => by
  have ih := join_split l
  obtain ⟨p, ps, h⟩ := splitD_form l
  by_cases hc : c = 46
  ·subst hc
   rw [splitD_eq]
   rw [h] at ih ⊢
   simp only [joinD, List.flatMap_cons, List.nil_append, List.cons_append] at ih ⊢
   rw [ih]
  ·rw [splitD_ne hc h]
   rw [h] at ih
   simp only [joinD, List.cons_append] at ih ⊢
   rw [ih]
theorem splitD_app : ∀ (a b : Bs) {ps qs : List Bs} {p q : Bs}, splitD a = ps ++ [p] → splitD b = q :: qs → splitD (a ++ b) = ps ++ (p ++ q) :: qs
 | [], b, ps, qs, p, q, ha, hb => by
  have : ps = [] ∧ p = [] := by
   cases ps with
   | nil => simp [splitD] at ha; exact ⟨rfl, ha⟩
   | cons x l => simp [splitD] at ha
  obtain ⟨rfl, rfl⟩ := this
  simpa using hb
 | c :: a, b, ps, qs, p, q, ha, hb => by
  obtain ⟨x, xs, hx⟩ := splitD_form a
  by_cases hc : c = 46
  ·subst hc
   rw [splitD_eq] at ha
   rw [List.cons_append, splitD_eq]
   cases ps with
   | nil =>
    simp only [List.nil_append, List.cons.injEq] at ha
    rw [hx] at ha
    cases ha.2
   | cons y l =>
    simp only [List.cons_append, List.cons.injEq] at ha
    rw [splitD_app a b ha.2 hb, ← ha.1]
    rfl
  ·rw [splitD_ne hc hx] at ha
   rw [List.cons_append]
   cases ps with
   | nil =>
    simp only [List.nil_append, List.cons.injEq] at ha
    obtain ⟨rfl, rfl⟩ := ha
    have := splitD_app a b (ps := []) (p := x) (by rw [hx]; rfl) hb
    simp only [List.nil_append] at this ⊢
    rw [splitD_ne hc this]
    rfl
   | cons y l =>
    simp only [List.cons_append, List.cons.injEq] at ha
    obtain ⟨rfl, rfl⟩ := ha
    have := splitD_app a b (ps := x :: l) (p := p) (by rw [hx]; rfl) hb
    simp only [List.cons_append] at this ⊢
    rw [splitD_ne hc this]
theorem splitD_plain : ∀ (a : Bs), (∀ c ∈ a, ¬ c = 46) → splitD a = [a]
 | [], _ => rfl
 | c :: a, h => splitD_ne (h c List.mem_cons_self) (splitD_plain a fun x hx => h x (List.mem_cons_of_mem _ hx))
theorem splitD_point (p b : Bs) (h : ∀ c ∈ p, ¬ c = 46) : splitD (p ++ 46 :: b) = p :: splitD b := by
 have := splitD_app p (46 :: b) (ps := []) (p := p) (q := []) (qs := splitD b) (by rw [splitD_plain p h]; rfl) (splitD_eq b)
 simpa using this
theorem splitK_one : ∀ (k : Nat) (s : Bs), ((splitD s).length ≤ k + 1 → Lib.splitK [46] 0 k s = splitD s) ∧ (k + 1 < (splitD s).length → (Lib.splitK [46] 0 k s).length = k + 1) := fun k => by
 have hidx : ∀ s : Bs, (Lib.index s [46] = -1 ∧ ∀ c ∈ s, ¬ c = 46) ∨ ∃ a b : Bs, s = a ++ 46 :: b ∧ (∀ c ∈ a, ¬ c = 46) ∧ Lib.index s [46] = (a.length : Int) := fun s => by
  induction s with
  | nil => exact Or.inl ⟨by simp [Lib.index], fun c hc => by cases hc⟩
  | cons c l ih =>
   by_cases hc : c = 46
   ·subst hc
    exact Or.inr ⟨[], l, rfl, by simp, by rw [Lib.index]; simp [List.isPrefixOf]⟩
   ·have hp : ([46] : List UInt8).isPrefixOf (c :: l) = false := by simp [List.isPrefixOf, Ne.symm hc]
    have hix : Lib.index (c :: l) [46] = if Lib.index l [46] == -1 then -1 else Lib.index l [46] + 1 := by rw [Lib.index, hp]; simp
    rcases ih with ⟨h1, h2⟩ | ⟨a, b, rfl, h2, h3⟩
    ·exact Or.inl ⟨by rw [hix, h1]; rfl, fun x hx => by rcases List.mem_cons.1 hx with rfl | hx; exact hc; exact h2 x hx⟩
    ·refine Or.inr ⟨c :: a, b, rfl, fun x hx => by rcases List.mem_cons.1 hx with rfl | hx; exact hc; exact h2 x hx, ?_⟩
     rw [hix, h3]
     have : ¬ ((a.length : Int) == -1) = true := by simp
     rw [if_neg this]
     simp
 induction k with
 | zero =>
  intro s
  refine ⟨fun h => ?_, fun h => rfl⟩
  obtain ⟨p, ps, hp⟩ := splitD_form s
  rw [hp] at h
  have : ps = [] := by cases ps with
   | nil => rfl
   | cons _ _ => simp at h
  have hj := join_split s
  rw [hp, this] at hj ⊢
  simp [joinD] at hj
  rw [hj]
  rfl
 | succ k ih =>
  intro s
  rcases hidx s with ⟨h1, h2⟩ | ⟨a, b, rfl, h2, h3⟩
  ·have e : Lib.splitK [46] 0 (k + 1) s = [s] := by rw [Lib.splitK, h1]; rfl
   rw [e, splitD_plain s h2]
   exact ⟨fun _ => rfl, fun h => by simp at h⟩
  ·have hm : ¬ (Lib.index (a ++ 46 :: b) [46] == -1) = true := by rw [h3]; simp
   have e : Lib.splitK [46] 0 (k + 1) (a ++ 46 :: b) = a :: Lib.splitK [46] 0 k b := by
    rw [Lib.splitK, if_neg hm, h3]
    simp only [Int.toNat_natCast, Nat.add_zero, List.length_singleton]
    rw [List.take_left, show a ++ 46 :: b = (a ++ [46]) ++ b by simp, List.drop_left' (by simp)]
   rw [e, splitD_point a b h2]
   obtain ⟨i1, i2⟩ := ih b
   exact ⟨fun h => by rw [i1 (by simpa using h)], fun h => by rw [List.length_cons, i2 (by simpa using h)]⟩
def digC (c : UInt8) : Bool := decide (48 ≤ c.toNat) && decide (c.toNat ≤ 57)
theorem digC_iff (c : UInt8) : digC c = true ↔ 48 ≤ c.toNat ∧ c.toNat ≤ 57 := by unfold digC; simp
def numS (a : Nat) (c : UInt8) : Nat := 10 * a + (c.toNat - 48)
def numV (p : Bs) : Nat := p.foldl numS 0
theorem numV_snoc (p : Bs) (c : UInt8) : numV (p ++ [c]) = 10 * numV p + (c.toNat - 48) := by unfold numV; rw [List.foldl_append]; rfl
theorem numS_ge : ∀ (l : Bs) (a : Nat), a * 10 ^ l.length ≤ l.foldl numS a
 | [], a => by simp
 | c :: l, a => by
  have := numS_ge l (numS a c)
  rw [List.foldl_cons, List.length_cons, Nat.pow_succ]
  refine Nat.le_trans ?_ this
  unfold numS
  rw [Nat.mul_comm (10 ^ l.length) 10, ← Nat.mul_assoc]
  exact Nat.mul_le_mul_right _ (by omega)
theorem numS_lt : ∀ (l : Bs) (a : Nat), l.all digC = true → l.foldl numS a < (a + 1) * 10 ^ l.length
 | [], a, _ => by simp
 | c :: l, a, h => by
  simp only [List.all_cons, Bool.and_eq_true] at h
  have hc := (digC_iff c).1 h.1
  have := numS_lt l (numS a c) h.2
  rw [List.foldl_cons, List.length_cons, Nat.pow_succ]
  refine Nat.lt_of_lt_of_le this ?_
  unfold numS
  rw [Nat.mul_comm (10 ^ l.length) 10, ← Nat.mul_assoc]
  exact Nat.mul_le_mul_right _ (by omega)
theorem numV_lt {p : Bs} (h : p.all digC = true) {k : Nat} (hk : p.length ≤ k) : numV p < 10 ^ k := by
 have h1 := numS_lt p 0 h
 have h2 : 10 ^ p.length ≤ 10 ^ k := Nat.pow_le_pow_right (by omega) hk
 unfold numV
 omega
theorem numV_take (p : Bs) (k : Nat) : numV (p.take k) ≤ numV p := by
 have h1 := numS_ge (p.drop k) (numV (p.take k))
 have h2 : (p.drop k).foldl numS (numV (p.take k)) = numV p := by unfold numV; rw [← List.foldl_append, List.take_append_drop]
 rw [h2] at h1
 have h3 : 1 ≤ 10 ^ (p.drop k).length := Nat.pos_of_ne_zero (by simp)
 exact Nat.le_trans (by have := Nat.mul_le_mul_left (numV (p.take k)) h3; omega) h1
theorem numV_low {c : UInt8} {l : Bs} (h : 49 ≤ c.toNat) : 10 ^ l.length ≤ numV (c :: l) := by
 have h1 := numS_ge l (numS 0 c)
 unfold numV
 rw [List.foldl_cons]
 refine Nat.le_trans ?_ h1
 have : 1 ≤ numS 0 c := by unfold numS; omega
 have := Nat.mul_le_mul_right (10 ^ l.length) this
 omega
def numOk (p : Bs) : Bool := !decide (p = []) && p.all digC && (decide (p.length ≤ 1) || !decide (p.getD 0 0 = 48)) && decide (numV p < 1099511627776)
theorem numOk_iff (p : Bs) : numOk p = true ↔ p ≠ [] ∧ p.all digC = true ∧ (p.length ≤ 1 ∨ ¬ p.getD 0 0 = 48) ∧ numV p < 1099511627776 := by
 unfold numOk
 simp only [Bool.and_eq_true, Bool.or_eq_true, Bool.not_eq_true', decide_eq_false_iff_not, decide_eq_true_eq, ne_eq, and_assoc]
theorem ofNat_dig {c : UInt8} (h : digC c = true) : UInt8.ofNat (48 + (c.toNat - 48)) = c := by
 have := (digC_iff c).1 h
 apply UInt8.toNat_inj.1
 rw [UInt8.toNat_ofNat']
 omega
theorem num_dec : ∀ (k : Nat) (p : Bs), p.length = k → p ≠ [] → p.all digC = true → (p.length ≤ 1 ∨ ¬ p.getD 0 0 = 48) → decDigits (numV p) = p
 | 0, p, hk, h0, _, _ => absurd (List.eq_nil_of_length_eq_zero hk) h0
 | k + 1, p, hk, h0, h1, h2 => by
  obtain ⟨q, c, rfl⟩ : ∃ q c, p = q ++ [c] := ⟨p.dropLast, p.getLast h0, (List.dropLast_concat_getLast h0).symm⟩
  rw [List.all_append, Bool.and_eq_true] at h1
  have hc : digC c = true := by simpa using h1.2
  have hc2 := (digC_iff c).1 hc
  rw [numV_snoc]
  by_cases hq : q = []
  ·subst hq
   rw [show numV [] = 0 from rfl, Lib.decDigits_one (by omega), show 10 * 0 + (c.toNat - 48) = c.toNat - 48 by omega, ofNat_dig hc]
   rfl
  ·have hql : 0 < q.length := List.length_pos_iff.2 hq
   have hh : ¬ q.getD 0 0 = 48 := by
    rcases h2 with h2 | h2
    ·rw [List.length_append, List.length_singleton] at h2; omega
    ·intro e
     apply h2
     rw [List.getD_eq_getElem?_getD, List.getElem?_append_left hql, ← List.getD_eq_getElem?_getD]
     exact e
   have ih := num_dec k q (by simp at hk; omega) hq h1.1 (Or.inr hh)
   have hpos : 1 ≤ numV q := by
    cases q with
    | nil => exact absurd rfl hq
    | cons x l =>
     have hx : digC x = true := by simp only [List.all_cons, Bool.and_eq_true] at h1; exact h1.1.1
     have hx2 := (digC_iff x).1 hx
     have hx3 : ¬ x = 48 := hh
     have : x.toNat ≠ 48 := fun e => hx3 (UInt8.toNat_inj.1 e)
     have := numV_low (l := l) (c := x) (by omega)
     have : 1 ≤ 10 ^ l.length := Nat.pos_of_ne_zero (by simp)
     omega
   rw [decDigits, dif_neg (by omega), show (10 * numV q + (c.toNat - 48)) / 10 = numV q by omega, show (10 * numV q + (c.toNat - 48)) % 10 = c.toNat - 48 by omega, ih, ofNat_dig hc]
theorem numOk_dec {p : Bs} (h : numOk p = true) : decDigits (numV p) = p := by
 obtain ⟨h1, h2, h3, _⟩ := (numOk_iff p).1 h
 exact num_dec p.length p rfl h1 h2 h3
theorem numOk_long {p : Bs} (h : 13 < p.length) : numOk p = false := by
 cases hk : numOk p with
 | false => rfl
 | true =>
  obtain ⟨_, h2, h3, h4⟩ := (numOk_iff p).1 hk
  cases p with
  | nil => simp at h
  | cons c l =>
   have hc := (digC_iff c).1 (by simp only [List.all_cons, Bool.and_eq_true] at h2; exact h2.1)
   have hn : c.toNat ≠ 48 := fun e => by
    rcases h3 with h3 | h3
    ·omega
    ·exact h3 (UInt8.toNat_inj.1 e)
   have := numV_low (l := l) (c := c) (by omega)
   have h13 : 10 ^ 13 ≤ 10 ^ l.length := Nat.pow_le_pow_right (by omega) (by simp at h; omega)
   omega
theorem getD_mem {p : Bs} {k : Nat} (hk : k < p.length) : p.getD k 0 ∈ p := by
 rw [List.getD_eq_getElem?_getD, List.getElem?_eq_getElem hk]
 exact List.getElem_mem hk
theorem take_snocQ {p : Bs} {k : Nat} (hk : k < p.length) : p.take (k + 1) = p.take k ++ [p.getD k 0] := by
 rw [List.take_add_one, List.getElem?_eq_getElem hk, List.getD_eq_getElem?_getD, List.getElem?_eq_getElem hk]; rfl
theorem numV_succ {p : Bs} {k : Nat} (hk : k < p.length) : numV (p.take (k + 1)) = 10 * numV (p.take k) + ((p.getD k 0).toNat - 48) := by rw [take_snocQ hk, numV_snoc]
theorem num_bad {p : Bs} {k : Nat} (hk : k < p.length) (h : digC (p.getD k 0) = false) : numOk p = false := by
 cases ho : numOk p with
 | false => rfl
 | true =>
  have h2 := ((numOk_iff p).1 ho).2.1
  rw [List.all_eq_true] at h2
  rw [h2 _ (getD_mem hk)] at h
  cases h
theorem num_great {p : Bs} {k : Nat} (h : 1099511627776 ≤ numV (p.take k)) : numOk p = false := by
 cases ho : numOk p with
 | false => rfl
 | true =>
  have h2 := ((numOk_iff p).1 ho).2.2.2
  have := numV_take p k
  omega
theorem num_nought {p : Bs} {k : Nat} (h0 : 0 < k) (hk : k < p.length) (hz : numV (p.take k) = 0) : numOk p = false := by
 cases ho : numOk p with
 | false => rfl
 | true =>
  obtain ⟨_, h2, h3, _⟩ := (numOk_iff p).1 ho
  cases p with
  | nil => simp at hk
  | cons c l =>
   have hc := (digC_iff c).1 (by simp only [List.all_cons, Bool.and_eq_true] at h2; exact h2.1)
   have hn : c.toNat ≠ 48 := fun e => by
    rcases h3 with h3 | h3
    ·omega
    ·exact h3 (UInt8.toNat_inj.1 e)
   obtain ⟨j, rfl⟩ : ∃ j, k = j + 1 := ⟨k - 1, by omega⟩
   rw [List.take_succ_cons] at hz
   have := numV_low (l := l.take j) (c := c) (by omega)
   have : 1 ≤ 10 ^ (l.take j).length := Nat.pos_of_ne_zero (by simp)
   omega
theorem num_head {p : Bs} {k : Nat} (h0 : 0 < k) (hk : k ≤ p.length) (hz : numV (p.take k) ≠ 0) (hh : 2 ≤ k → ¬ p.getD 0 0 = 48) : ¬ p.getD 0 0 = 48 := by
 by_cases h2 : 2 ≤ k
 ·exact hh h2
 ·have : k = 1 := by omega
  subst this
  intro e
  apply hz
  rw [numV_succ (by omega), e, List.take_zero]
  rfl
theorem num_end {p : Bs} (h1 : p ≠ []) (h2 : p.all digC = true) (h3 : 2 ≤ p.length → ¬ p.getD 0 0 = 48) (h4 : numV p < 1099511627776) : numOk p = true :=
 (numOk_iff p).2 ⟨h1, h2, by by_cases h : 2 ≤ p.length; exact Or.inr (h3 h); exact Or.inl (by omega), h4⟩
def firstG : List Nat → Option (List Nat)
 | a :: b :: r => if a ≤ 2 ∧ (a < 2 → b < 40) ∧ b + 40 * a < 1099511627776 then some ((b + 40 * a) :: r) else none
 | _ => none
theorem firstG_cons (a b : Nat) (r : List Nat) : firstG (a :: b :: r) = if a ≤ 2 ∧ (a < 2 → b < 40) ∧ b + 40 * a < 1099511627776 then some ((b + 40 * a) :: r) else none := rfl
def oidVP (s : Bs) : Option (List Nat) := if (splitD s).length ≤ 20 ∧ (splitD s).all numOk = true then firstG ((splitD s).map numV) else none
def hiR (m : Nat) : Bs := if _h : m = 0 then [] else hiR (m / 128) ++ [UInt8.ofNat (128 + m % 128)]
termination_by m
decreasing_by omega
def putG (n : Nat) : Bs := hiR (n / 128) ++ [UInt8.ofNat (n % 128)]
def bytesG (gs : List Nat) : Bs := gs.flatMap putG
def oidDV (gs : List Nat) : DV := .mk 0 6 false (bytesG gs) []
theorem hiR_zero : hiR 0 = [] := by rw [hiR, dif_pos rfl]
theorem hiR_pos {m : Nat} (h : 0 < m) : hiR m = hiR (m / 128) ++ [UInt8.ofNat (128 + m % 128)] := by rw [hiR, dif_neg (by omega)]
theorem bytesG_snoc (gs : List Nat) (n : Nat) : bytesG (gs ++ [n]) = bytesG gs ++ putG n := by unfold bytesG; simp
theorem hiR_len : ∀ (k m : Nat), m < 128 ^ k → (hiR m).length ≤ k
 | 0, m, h => by
  have : m = 0 := by simpa using h
  rw [this, hiR_zero]
  simp
 | k + 1, m, h => by
  by_cases h0 : m = 0
  ·rw [h0, hiR_zero]; simp
  ·rw [hiR_pos (by omega), List.length_append, List.length_singleton]
   have := hiR_len k (m / 128) (by rw [Nat.pow_succ] at h; omega)
   omega
theorem putG_len {n : Nat} (h : n < 1099511627776) : (putG n).length ≤ 6 := by
 unfold putG
 rw [List.length_append, List.length_singleton]
 have := hiR_len 5 (n / 128) (by omega)
 omega
theorem bytesG_len : ∀ (gs : List Nat), (∀ g ∈ gs, g < 1099511627776) → (bytesG gs).length ≤ 6 * gs.length
 | [], _ => by simp [bytesG]
 | g :: gs, h => by
  have e : bytesG (g :: gs) = putG g ++ bytesG gs := by unfold bytesG; simp
  rw [e, List.length_append, List.length_cons]
  have := putG_len (h g List.mem_cons_self)
  have := bytesG_len gs (fun x hx => h x (List.mem_cons_of_mem _ hx))
  omega
theorem join_dec : ∀ (r : List Bs), r.all numOk = true → (r.flatMap fun q => 46 :: q) = restT (r.map numV)
 | [], _ => rfl
 | p :: r, h => by
  rw [List.all_cons, Bool.and_eq_true] at h
  have e : restT ((p :: r).map numV) = 46 :: decDigits (numV p) ++ restT (r.map numV) := by unfold restT; simp
  rw [e, numOk_dec h.1, ← join_dec r h.2]
  simp
theorem oidVP_open {s : Bs} {gs : List Nat} (h : oidVP s = some gs) : gs.length ≤ 19 ∧ gs ≠ [] ∧ (∀ g ∈ gs, g < 1099511627776) ∧ oidTextG gs = s := by
 unfold oidVP at h
 split at h
 ·rename_i hc
  obtain ⟨hl, ha⟩ := hc
  have hj := join_split s
  obtain ⟨p, ps, hp⟩ := splitD_form s
  rw [hp] at h hl ha hj
  cases ps with
  | nil => cases h
  | cons q r =>
   rw [List.map_cons, List.map_cons] at h
   rw [firstG_cons] at h
   split at h
   ·rename_i hf
    obtain ⟨f1, f2, f3⟩ := hf
    injection h with h
    subst h
    rw [List.all_cons, List.all_cons, Bool.and_eq_true, Bool.and_eq_true] at ha
    obtain ⟨a1, a2, a3⟩ := ha
    refine ⟨by simp at hl ⊢; omega, by simp, ?_, ?_⟩
    ·intro g hg
     rcases List.mem_cons.1 hg with rfl | hg
     ·exact f3
     ·obtain ⟨x, hx, rfl⟩ := List.mem_map.1 hg
      rw [List.all_eq_true] at a3
      exact ((numOk_iff x).1 (a3 x hx)).2.2.2
    ·have hmin : min ((numV q + 40 * numV p) / 40) 2 = numV p := by
      by_cases h2 : numV p < 2
      ·have := f2 h2; omega
      ·omega
     show decDigits (min ((numV q + 40 * numV p) / 40) 2) ++ 46 :: decDigits (numV q + 40 * numV p - 40 * min ((numV q + 40 * numV p) / 40) 2) ++ restT (r.map numV) = s
     rw [hmin, show numV q + 40 * numV p - 40 * numV p = numV q by omega, numOk_dec a1, numOk_dec a2, ← join_dec r a3]
     simp only [joinD, List.flatMap_cons] at hj
     rw [← hj]
     simp
   ·cases h
 ·cases h
end Go.Proofs.YtcofnockikninaaGreatDoor
