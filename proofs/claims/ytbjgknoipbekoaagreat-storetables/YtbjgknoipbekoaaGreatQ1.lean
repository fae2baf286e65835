/-
  Plain words on logs (layer 14): numbers in bytes, a record's sectors, the record that sectors begin with.
  Plain words on logs (layer 14): all records that are there; what an attempt to write one more leaves.
  Plain words on logs (layer 14): a record that is written on a plate, sector by sector, and what a crash keeps of it.
  Plain words on logs (layer 14): what an append leaves on a plate; lives of a log.
-/
import Derived.Test.YtbjgknoipbekoaaGreatQ0
namespace Go.Proofs.YtbjgknoipbekoaaGreat
def bigB : Nat → Nat → Bs
  | _, 0 => []
  | n, k + 1 => bigB (n / 256) k ++ [UInt8.ofNat n]
def numB (b : Bs) : Nat := b.foldl (fun n x => 256 * n + x.toNat) 0
theorem big_len : ∀ (n k : Nat), (bigB n k).length = k
  | _, 0 => rfl
  | n, k + 1 => by unfold bigB; rw [List.length_append, big_len]; rfl
theorem num_snoc (b : Bs) (x : UInt8) : numB (b ++ [x]) = 256 * numB b + x.toNat := by unfold numB; rw [List.foldl_append]; rfl
theorem num_big : ∀ (k n : Nat), n < 256 ^ k → numB (bigB n k) = n
  | 0, n, h => by simp at h; subst h; rfl
  | k + 1, n, h => by
    unfold bigB
    have h1 : n / 256 < 256 ^ k := by
      rw [Nat.pow_succ] at h
      exact Nat.div_lt_of_lt_mul (by rw [Nat.mul_comm]; exact h)
    rw [num_snoc, num_big k _ h1, UInt8.toNat_ofNat']
    omega
def needs (n : Nat) : Nat := (n + 4 + 47) / 48
theorem needs_pos (n : Nat) : 1 ≤ needs n := by unfold needs; omega
theorem needs_fit (n : Nat) : 4 + n ≤ 48 * needs n := by unfold needs; omega
theorem needs_most {n : Nat} (h : n ≤ 65536) : needs n ≤ 1366 := by unfold needs; omega
def bodyOf (b : Bs) : Bs := bigB b.length 4 ++ (b ++ List.replicate (48 * needs b.length - (4 + b.length)) 0)
theorem body_len (b : Bs) : (bodyOf b).length = 48 * needs b.length := by
  have := needs_fit b.length
  unfold bodyOf
  simp only [List.length_append, big_len, List.length_replicate]
  omega
def headS (g o m i k : Nat) : Bs := bigB g 4 ++ (bigB o 4 ++ (bigB m 4 ++ (bigB i 2 ++ bigB k 2)))
theorem head_len (g o m i k : Nat) : (headS g o m i k).length = 16 := by unfold headS; simp [big_len]
def partS (b : Bs) (g o m i : Nat) : Bs := headS g o m i (needs b.length - 1) ++ ((bodyOf b).drop (48 * i)).take 48
def recS (b : Bs) (g o m : Nat) : List Bs := (List.range (needs b.length)).map (partS b g o m)
theorem rec_len (b : Bs) (g o m : Nat) : (recS b g o m).length = needs b.length := by unfold recS; simp
theorem rec_at (b : Bs) (g o m : Nat) {i : Nat} (h : i < needs b.length) : (recS b g o m)[i]? = some (partS b g o m i) := by unfold recS; rw [List.getElem?_map, List.getElem?_range h]; rfl
/-- A sector's numbers. -/
def genF (s : Bs) : Nat := numB (s.take 4)
def opF (s : Bs) : Nat := numB ((s.drop 4).take 4)
def numF (s : Bs) : Nat := numB ((s.drop 8).take 4)
def placeF (s : Bs) : Nat := numB ((s.drop 12).take 2)
def lastF (s : Bs) : Nat := numB ((s.drop 14).take 2)
theorem fields (g o m i k : Nat) (r : Bs) : (headS g o m i k ++ r).take 4 = bigB g 4 ∧ ((headS g o m i k ++ r).drop 4).take 4 = bigB o 4 ∧ ((headS g o m i k ++ r).drop 8).take 4 = bigB m 4 ∧ ((headS g o m i k ++ r).drop 12).take 2 = bigB i 2 ∧ ((headS g o m i k ++ r).drop 14).take 2 = bigB k 2 ∧ (headS g o m i k ++ r).drop 16 = r := by
  unfold headS
  have l1 := big_len g 4
  have l2 := big_len o 4
  have l3 := big_len m 4
  have l4 := big_len i 2
  have l5 := big_len k 2
  have d4 : ∀ (a x : Bs) (j : Nat), a.length = j → (a ++ x).drop j = x := fun a x j h => by rw [← h]; simp
  have t4 : ∀ (a x : Bs) (j : Nat), a.length = j → (a ++ x).take j = a := fun a x j h => by rw [← h]; simp
  simp only [List.append_assoc]
  refine ⟨t4 _ _ _ l1, ?_, ?_, ?_, ?_, ?_⟩
  · rw [d4 _ _ _ l1, t4 _ _ _ l2]
  · rw [show 8 = 4 + 4 from rfl, ← List.drop_drop, d4 _ _ _ l1, d4 _ _ _ l2, t4 _ _ _ l3]
  · rw [show 12 = 4 + (4 + 4) from rfl, ← List.drop_drop, d4 _ _ _ l1, ← List.drop_drop, d4 _ _ _ l2, d4 _ _ _ l3, t4 _ _ _ l4]
  · rw [show 14 = 4 + (4 + (4 + 2)) from rfl, ← List.drop_drop, d4 _ _ _ l1, ← List.drop_drop, d4 _ _ _ l2, ← List.drop_drop, d4 _ _ _ l3, d4 _ _ _ l4, t4 _ _ _ l5]
  · rw [show 16 = 4 + (4 + (4 + (2 + 2))) from rfl, ← List.drop_drop, d4 _ _ _ l1, ← List.drop_drop, d4 _ _ _ l2, ← List.drop_drop, d4 _ _ _ l3, ← List.drop_drop, d4 _ _ _ l4, d4 _ _ _ l5]
theorem part_fields {b : Bs} {g o m i : Nat} (hg : g < 4294967296) (ho : o < 4294967296) (hm : m < 4294967296) (hb : b.length ≤ 65536) (hi : i < needs b.length) : genF (partS b g o m i) = g ∧ opF (partS b g o m i) = o ∧ numF (partS b g o m i) = m ∧ placeF (partS b g o m i) = i ∧ lastF (partS b g o m i) = needs b.length - 1 := by
  have hn := needs_most hb
  obtain ⟨h1, h2, h3, h4, h5, _⟩ := fields g o m i (needs b.length - 1) (((bodyOf b).drop (48 * i)).take 48)
  unfold genF opF numF placeF lastF partS
  rw [h1, h2, h3, h4, h5]
  exact ⟨num_big 4 _ (by omega), num_big 4 _ (by omega), num_big 4 _ (by omega), num_big 2 _ (by omega), num_big 2 _ (by omega)⟩
theorem part_body (b : Bs) (g o m i : Nat) : (partS b g o m i).drop 16 = ((bodyOf b).drop (48 * i)).take 48 := (fields _ _ _ _ _ _).2.2.2.2.2
theorem part_len {b : Bs} (g o m : Nat) {i : Nat} (hi : i < needs b.length) : (partS b g o m i).length = 64 := by
  unfold partS
  rw [List.length_append, head_len, List.length_take, List.length_drop, body_len]
  omega
/-- The bodies of a record's sectors, one behind the other. -/
theorem chunks (x : Bs) : ∀ n, x.length = 48 * n → ((List.range n).map fun i => (x.drop (48 * i)).take 48).flatten = x := by
  have key : ∀ n, n * 48 ≤ x.length → ((List.range n).map fun i => (x.drop (48 * i)).take 48).flatten = x.take (48 * n) := by
    intro n
    induction n with
    | zero => intro _; simp
    | succ n ih =>
      intro h
      rw [List.range_succ, List.map_append, List.flatten_append, ih (by omega)]
      simp only [List.map_cons, List.map_nil, List.flatten_cons, List.flatten_nil, List.append_nil]
      rw [show 48 * (n + 1) = 48 * n + 48 by omega, List.take_add]
  intro n hn
  rw [key n (by omega), List.take_of_length_le (by omega)]
theorem rec_body (b : Bs) (g o m : Nat) : ((recS b g o m).map (·.drop 16)).flatten = bodyOf b := by
  unfold recS
  rw [List.map_map]
  have : ((fun s : Bs => s.drop 16) ∘ partS b g o m) = fun i => ((bodyOf b).drop (48 * i)).take 48 := funext fun i => part_body b g o m i
  rw [this]
  exact chunks _ _ (body_len b)
theorem body_size (b : Bs) (hb : b.length ≤ 65536) : numB ((bodyOf b).take 4) = b.length ∧ ((bodyOf b).drop 4).take b.length = b := by
  have h4 := big_len b.length 4
  unfold bodyOf
  constructor
  · have : (bigB b.length 4 ++ (b ++ List.replicate (48 * needs b.length - (4 + b.length)) 0)).take 4 = bigB b.length 4 := by
      rw [List.take_append_of_le_length (by omega), List.take_of_length_le (by omega)]
    rw [this]
    exact num_big 4 _ (by omega)
  · have : (bigB b.length 4 ++ (b ++ List.replicate (48 * needs b.length - (4 + b.length)) 0)).drop 4 = b ++ List.replicate (48 * needs b.length - (4 + b.length)) 0 := by
      rw [List.drop_append_of_le_length (by omega), List.drop_of_length_le (by omega), List.nil_append]
    rw [this, List.take_append_of_le_length (Nat.le_refl _), List.take_of_length_le (Nat.le_refl _)]
/-- The record with a number that sectors begin with. -/
def oneP (l : List Bs) (g low m : Nat) : Option Bs :=
  match l with
  | [] => none
  | s :: _ =>
    if opF s < low ∨ l.length < lastF s + 1 then none
    else if 65536 < numB ((((l.take (lastF s + 1)).map (·.drop 16)).flatten).take 4) ∨ needs (numB ((((l.take (lastF s + 1)).map (·.drop 16)).flatten).take 4)) ≠ lastF s + 1 then none
    else if recS (((((l.take (lastF s + 1)).map (·.drop 16)).flatten).drop 4).take (numB ((((l.take (lastF s + 1)).map (·.drop 16)).flatten).take 4))) g (opF s) m = l.take (lastF s + 1) then some (((((l.take (lastF s + 1)).map (·.drop 16)).flatten).drop 4).take (numB ((((l.take (lastF s + 1)).map (·.drop 16)).flatten).take 4)))
    else none
/-- The sectors begin with this record, of this opening. -/
structure Begins (l : List Bs) (g low m : Nat) (b : Bs) (o : Nat) : Prop where
  low : low ≤ o
  op : o < 4294967296
  big : b.length ≤ 65536
  fits : needs b.length ≤ l.length
  here : l.take (needs b.length) = recS b g o m
theorem one_yes {l : List Bs} {g low m : Nat} {b : Bs} {o : Nat} (hg : g < 4294967296) (hm : m < 4294967296) (h : Begins l g low m b o) : oneP l g low m = some b := by
  have hp := needs_pos b.length
  have h0 : (recS b g o m)[0]? = some (partS b g o m 0) := rec_at b g o m (by omega)
  rw [← h.here, List.getElem?_take, if_pos (by omega)] at h0
  cases l with
  | nil => simp at h0
  | cons s r =>
    simp only [List.getElem?_cons_zero, Option.some.injEq] at h0
    obtain ⟨_, f2, _, _, f5⟩ := part_fields (b := b) (i := 0) hg h.op hm h.big (by omega)
    rw [← h0] at f2 f5
    have hl : lastF s + 1 = needs b.length := by omega
    obtain ⟨s1, s2⟩ := body_size b h.big
    unfold oneP
    simp only
    rw [hl, f2, h.here, rec_body, s1, s2, if_neg (by have := h.low; have := h.fits; omega), if_neg (by have := h.big; omega), if_pos rfl]
theorem num_lt : ∀ (b : Bs), numB b < 256 ^ b.length := by
  intro b
  have key : ∀ (b : Bs) (a : Nat), b.foldl (fun n x => 256 * n + x.toNat) a < (a + 1) * 256 ^ b.length := by
    intro b
    induction b with
    | nil => intro a; simp
    | cons x b ih =>
      intro a
      rw [List.foldl_cons, List.length_cons]
      have h1 := ih (256 * a + x.toNat)
      have hx := x.toNat_lt
      have h2 : (256 * a + x.toNat + 1) * 256 ^ b.length ≤ ((a + 1) * 256) * 256 ^ b.length := Nat.mul_le_mul_right _ (by omega)
      rw [Nat.pow_succ, Nat.mul_comm (256 ^ b.length) 256, ← Nat.mul_assoc]
      omega
  have := key b 0
  simpa [numB] using this
theorem one_open {l : List Bs} {g low m : Nat} {b : Bs} (hl : ∀ s ∈ l, s.length = 64) (h : oneP l g low m = some b) : ∃ o, Begins l g low m b o := by
  cases l with
  | nil => cases h
  | cons s r =>
    unfold oneP at h
    simp only at h
    split at h
    · cases h
    · rename_i h1
      split at h
      · cases h
      · rename_i h2
        split at h
        · rename_i h3
          injection h with h
          have hs : s.length = 64 := hl s List.mem_cons_self
          rw [h] at h3
          have hn := congrArg List.length h3
          rw [rec_len, List.length_take, Nat.min_eq_left (by omega)] at hn
          have hop : opF s < 4294967296 := by
            have := num_lt ((s.drop 4).take 4)
            rw [show ((s.drop 4).take 4).length = 4 from by rw [List.length_take, List.length_drop]; omega] at this
            exact this
          have hb : b.length ≤ 65536 := by
            rw [← h, List.length_take]
            omega
          exact ⟨opF s, by omega, hop, hb, by omega, by rw [hn]; exact h3.symm⟩
        · cases h
theorem one_none {l : List Bs} {g low m : Nat} (hl : ∀ s ∈ l, s.length = 64) (h : ∀ b o, ¬ Begins l g low m b o) : oneP l g low m = none := by
  cases hq : oneP l g low m with
  | none => rfl
  | some b => obtain ⟨o, ho⟩ := one_open hl hq; exact absurd ho (h b o)
end Go.Proofs.YtbjgknoipbekoaaGreat
namespace Go.Proofs.YtbjgknoipbekoaaGreat
/-- The records that are there, with their openings, and nothing behind them. -/
def Stands (g : Nat) : List Bs → Nat → Nat → List (Bs × Nat) → Prop
  | l, low, m, [] => oneP l g low m = none
  | l, low, m, (b, o) :: rs => Begins l g low m b o ∧ Stands g (l.drop (needs b.length)) o (m + 1) rs
def usedR : List (Bs × Nat) → Nat
  | [] => 0
  | (b, _) :: rs => needs b.length + usedR rs
/-- Its numbers are of a part, of the generation g (a record has at most 1366 parts). -/
def isPart (g : Nat) (s : Bs) : Prop := genF s = g ∧ 0 < numF s ∧ placeF s ≤ lastF s ∧ lastF s < 1366
instance (g : Nat) (s : Bs) : Decidable (isPart g s) := by unfold isPart; exact inferInstance
/-- Sectors whose parts (of the generation g) were written by openings up to T. -/
def Upto (g T : Nat) (l : List Bs) : Prop := ∀ s ∈ l, s.length = 64 ∧ (isPart g s → opF s ≤ T)
/-- The greatest opening that stands there. -/
def topP (g : Nat) (l : List Bs) : Nat := l.foldl (fun t s => if isPart g s ∧ t < opF s then opF s else t) 0
theorem top_ge (g : Nat) : ∀ (l : List Bs) (t : Nat), t ≤ l.foldl (fun t s => if isPart g s ∧ t < opF s then opF s else t) t ∧ ∀ s ∈ l, isPart g s → opF s ≤ l.foldl (fun t s => if isPart g s ∧ t < opF s then opF s else t) t
  | [], t => ⟨Nat.le_refl _, fun s hs => by cases hs⟩
  | x :: l, t => by
    obtain ⟨h1, h2⟩ := top_ge g l (if isPart g x ∧ t < opF x then opF x else t)
    rw [List.foldl_cons]
    have h3 : t ≤ (if isPart g x ∧ t < opF x then opF x else t) := by split <;> omega
    refine ⟨Nat.le_trans h3 h1, fun s hs hp => ?_⟩
    rcases List.mem_cons.1 hs with rfl | hs
    · refine Nat.le_trans ?_ h1
      by_cases hc : isPart g s ∧ t < opF s
      · rw [if_pos hc]; omega
      · rw [if_neg hc]
        have : ¬ t < opF s := fun h => hc ⟨hp, h⟩
        omega
    · exact h2 s hs hp
theorem upto_top {g : Nat} {l : List Bs} (h : ∀ s ∈ l, s.length = 64) : Upto g (topP g l) l := fun s hs => ⟨h s hs, (top_ge g l 0).2 s hs⟩
theorem part_isPart {b : Bs} {g o m i : Nat} (hg : g < 4294967296) (ho : o < 4294967296) (hm0 : 1 ≤ m) (hm : m < 4294967296) (hb : b.length ≤ 65536) (hi : i < needs b.length) : isPart g (partS b g o m i) := by
  obtain ⟨f1, _, f3, f4, f5⟩ := part_fields (b := b) (i := i) hg ho hm hb hi
  have := needs_most hb
  exact ⟨f1, by omega, by omega, by omega⟩
theorem Upto.mono {g T T' : Nat} {l : List Bs} (h : Upto g T l) (hT : T ≤ T') : Upto g T' l := fun s hs => ⟨(h s hs).1, fun e => Nat.le_trans ((h s hs).2 e) hT⟩
theorem Upto.drop {g T : Nat} {l : List Bs} (h : Upto g T l) (n : Nat) : Upto g T (l.drop n) := fun s hs => h s (List.mem_of_mem_drop hs)
/-- What is kept of an attempt: of the record's sectors those that K tells of, the elder ones else. -/
def mixS (K : Nat → Bool) (new old : List Bs) : List Bs := (List.range old.length).map fun i => if i < new.length ∧ K i = true then new.getD i [] else old.getD i []
theorem mix_len (K : Nat → Bool) (new old : List Bs) : (mixS K new old).length = old.length := by unfold mixS; simp
theorem mix_at (K : Nat → Bool) (new old : List Bs) {i : Nat} (h : i < old.length) : (mixS K new old)[i]? = some (if i < new.length ∧ K i = true then new.getD i [] else old.getD i []) := by unfold mixS; rw [List.getElem?_map, List.getElem?_range h]; rfl
theorem mix_old {K : Nat → Bool} {new old : List Bs} {i : Nat} (h : i < old.length) (hk : ¬ (i < new.length ∧ K i = true)) : (mixS K new old)[i]? = old[i]? := by
  rw [mix_at K new old h, if_neg hk, List.getD_eq_getElem?_getD, List.getElem?_eq_getElem h]; rfl
theorem mix_new {K : Nat → Bool} {new old : List Bs} {i : Nat} (h : i < old.length) (hi : i < new.length) (hk : K i = true) : (mixS K new old)[i]? = new[i]? := by
  rw [mix_at K new old h, if_pos ⟨hi, hk⟩, List.getD_eq_getElem?_getD, List.getElem?_eq_getElem hi]; rfl
theorem rec_all {b : Bs} {g o m : Nat} {s : Bs} (hg : g < 4294967296) (ho : o < 4294967296) (hm : m < 4294967296) (hb : b.length ≤ 65536) (hs : s ∈ recS b g o m) : genF s = g ∧ opF s = o ∧ s.length = 64 ∧ lastF s = needs b.length - 1 := by
  unfold recS at hs
  obtain ⟨i, hi, rfl⟩ := List.mem_map.1 hs
  have hi' := List.mem_range.1 hi
  obtain ⟨f1, f2, _, _, f5⟩ := part_fields (b := b) (i := i) hg ho hm hb hi'
  exact ⟨f1, f2, part_len g o m hi', f5⟩
theorem Upto.mix {g T o m : Nat} {K : Nat → Bool} {b : Bs} {old : List Bs} (h : Upto g T old) (hg : g < 4294967296) (ho : o < 4294967296) (hm : m < 4294967296) (hb : b.length ≤ 65536) (hT : T ≤ o) : Upto g o (mixS K (recS b g o m) old) := by
  intro s hs
  obtain ⟨i, hi, e⟩ := List.getElem_of_mem hs
  rw [mix_len] at hi
  have hq : (mixS K (recS b g o m) old)[i]? = some s := by rw [List.getElem?_eq_getElem (by rw [mix_len]; exact hi), e]
  by_cases hk : i < (recS b g o m).length ∧ K i = true
  · rw [mix_new hi hk.1 hk.2] at hq
    obtain ⟨_, f2, f3, _⟩ := rec_all hg ho hm hb (List.mem_of_getElem? hq)
    exact ⟨f3, fun _ => by omega⟩
  · rw [mix_old hi hk] at hq
    have := h s (List.mem_of_getElem? hq)
    exact ⟨this.1, fun e => Nat.le_trans (this.2 e) hT⟩
/-- Where not all is kept no other record is there than ahead. -/
theorem mix_none {g T o m low : Nat} {K : Nat → Bool} {b : Bs} {old : List Bs} (h : Upto g T old) (hg : g < 4294967296) (ho : o < 4294967296) (hm0 : 1 ≤ m) (hm : m < 4294967296) (hb : b.length ≤ 65536) (hT : T < o) (hold : oneP old g low m = none) (hk : ∃ i, i < needs b.length ∧ K i = false) : oneP (mixS K (recS b g o m) old) g low m = none := by
  have hup := h.mix (K := K) (b := b) (m := m) hg ho hm hb (Nat.le_of_lt hT)
  refine one_none (fun s hs => (hup s hs).1) fun b' o' hB => ?_
  have hfit := hB.fits
  rw [mix_len] at hfit
  -- each sector of the record that is there
  have hat : ∀ i, i < needs b'.length → (mixS K (recS b g o m) old)[i]? = some (partS b' g o' m i) := fun i hi => by
    have h1 : ((mixS K (recS b g o m) old).take (needs b'.length))[i]? = (recS b' g o' m)[i]? := by rw [hB.here]
    rw [List.getElem?_take, if_pos hi, rec_at b' g o' m hi] at h1
    exact h1
  have hfl := fun (i : Nat) (hi : i < needs b'.length) => part_fields (b := b') (g := g) (o := o') (m := m) (i := i) hg hB.op hm hB.big hi
  by_cases he : o' = o
  · subst he
    have hall : ∀ i, i < needs b'.length → i < (recS b g o' m).length ∧ K i = true := fun i hi => by
      refine Decidable.byContradiction fun hn => ?_
      have h1 := hat i hi
      rw [mix_old (by omega) hn] at h1
      have h2 := h _ (List.mem_of_getElem? h1)
      obtain ⟨_, f2, _⟩ := hfl i hi
      have := h2.2 (part_isPart hg hB.op hm0 hm hB.big hi)
      omega
    have hp := needs_pos b'.length
    have h0 := hat 0 (by omega)
    obtain ⟨q1, q2⟩ := hall 0 (by omega)
    rw [mix_new (by omega) q1 q2] at h0
    obtain ⟨_, _, _, f4⟩ := rec_all hg ho hm hb (List.mem_of_getElem? h0)
    obtain ⟨_, _, _, _, f5⟩ := hfl 0 (by omega)
    have hpb := needs_pos b.length
    obtain ⟨i, hi, hki⟩ := hk
    have := (hall i (by omega)).2
    rw [hki] at this
    cases this
  · have hno : ∀ i, i < needs b'.length → ¬ (i < (recS b g o m).length ∧ K i = true) := fun i hi hn => by
      have h1 := hat i hi
      rw [mix_new (by omega) hn.1 hn.2] at h1
      obtain ⟨_, f2, _, _⟩ := rec_all hg ho hm hb (List.mem_of_getElem? h1)
      obtain ⟨_, f2', _⟩ := hfl i hi
      omega
    have hsame : old.take (needs b'.length) = recS b' g o' m := by
      refine List.ext_getElem? fun i => ?_
      by_cases hi : i < needs b'.length
      · rw [List.getElem?_take, if_pos hi, rec_at b' g o' m hi, ← mix_old (K := K) (new := recS b g o m) (by omega) (hno i hi)]
        exact hat i hi
      · rw [List.getElem?_take, if_neg hi, List.getElem?_eq_none (by rw [rec_len]; omega)]
    have := one_yes (low := low) hg hm ⟨hB.low, hB.op, hB.big, hfit, hsame⟩
    rw [hold] at this
    cases this
/-- Where all is kept the record is there, and none behind it. -/
theorem mix_whole {g T o m low : Nat} {K : Nat → Bool} {b : Bs} {old : List Bs} (h : Upto g T old) (hg : g < 4294967296) (ho : o < 4294967296) (hm : m + 1 < 4294967296) (hb : b.length ≤ 65536) (hT : T < o) (hlow : low ≤ o) (hfit : needs b.length ≤ old.length) (hk : ∀ i, i < needs b.length → K i = true) :
    Begins (mixS K (recS b g o m) old) g low m b o ∧ oneP ((mixS K (recS b g o m) old).drop (needs b.length)) g o (m + 1) = none := by
  refine ⟨⟨hlow, ho, hb, by rw [mix_len]; exact hfit, ?_⟩, ?_⟩
  · refine List.ext_getElem? fun i => ?_
    by_cases hi : i < needs b.length
    · rw [List.getElem?_take, if_pos hi, mix_new (by omega) (by rw [rec_len]; exact hi) (hk i hi)]
    · rw [List.getElem?_take, if_neg hi, List.getElem?_eq_none (by rw [rec_len]; omega)]
  · have hup := h.mix (K := K) (b := b) (m := m) hg ho (by omega) hb (Nat.le_of_lt hT)
    refine one_none (fun s hs => (hup.drop _ s hs).1) fun b' o' hB => ?_
    have hp := needs_pos b'.length
    have h0 : (recS b' g o' (m + 1))[0]? = some (partS b' g o' (m + 1) 0) := rec_at _ _ _ _ (by omega)
    rw [← hB.here, List.getElem?_take, if_pos (by omega), List.getElem?_drop] at h0
    have hlt : needs b.length + 0 < old.length := by
      have := hB.fits
      rw [List.length_drop, mix_len] at this
      omega
    rw [mix_old hlt (by rw [rec_len]; omega)] at h0
    obtain ⟨_, f2, _⟩ := part_fields (b := b') (g := g) (o := o') (m := m + 1) (i := 0) hg hB.op hm hB.big (by omega)
    have := (h _ (List.mem_of_getElem? h0)).2 (part_isPart hg hB.op (by omega) hm hB.big (by omega))
    have := hB.low
    omega
/-- An attempt to write one more record behind those that are there. -/
def triedS (K : Nat → Bool) (b : Bs) (g o m used : Nat) (l : List Bs) : List Bs := l.take used ++ mixS K (recS b g o m) (l.drop used)
theorem used_le {g : Nat} : ∀ {rs : List (Bs × Nat)} {l : List Bs} {low m : Nat}, Stands g l low m rs → usedR rs ≤ l.length
  | [], _, _, _, _ => Nat.zero_le _
  | (b, o) :: rs, l, low, m, h => by
    have h1 := used_le h.2
    have h2 := h.1.fits
    rw [List.length_drop] at h1
    unfold usedR
    omega
theorem tried {g T o : Nat} {K : Nat → Bool} {b : Bs} (hg : g < 4294967296) (ho : o < 4294967296) (hb : b.length ≤ 65536) (hT : T < o) : ∀ {rs : List (Bs × Nat)} {l : List Bs} {low m : Nat}, Upto g T (l.drop (usedR rs)) → Stands g l low m rs → 1 ≤ m → m + rs.length + 1 < 4294967296 → low ≤ o → (∀ x ∈ rs, x.2 ≤ o) → needs b.length ≤ l.length - usedR rs →
    Stands g (triedS K b g o (m + rs.length) (usedR rs) l) low m (if ∀ i, i < needs b.length → K i = true then rs ++ [(b, o)] else rs)
  | [], l, low, m, hu, hs, hm0, hm, hlow, _, hfit => by
    have e : triedS K b g o (m + ([] : List (Bs × Nat)).length) (usedR []) l = mixS K (recS b g o m) l := by unfold triedS usedR; simp
    rw [e]
    rw [show l.drop (usedR []) = l from rfl] at hu
    by_cases hk : ∀ i, i < needs b.length → K i = true
    · rw [if_pos hk]
      exact mix_whole hu hg ho (by simpa using hm) hb hT hlow (by simpa [usedR] using hfit) hk
    · rw [if_neg hk]
      refine mix_none hu hg ho hm0 (by simp at hm; omega) hb hT hs ?_
      obtain ⟨i, hi⟩ := Classical.not_forall.1 hk
      obtain ⟨h1, h2⟩ := Classical.not_imp.1 hi
      exact ⟨i, h1, by simpa using h2⟩
  | (c, p) :: rs, l, low, m, hu, hs, hm0, hm, hlow, hr, hfit => by
    have hcl := hs.1.fits
    have hfit' : needs b.length ≤ (l.drop (needs c.length)).length - usedR rs := by
      rw [List.length_drop]
      unfold usedR at hfit
      omega
    have ih := tried (K := K) (b := b) (T := T) hg ho hb hT (rs := rs) (l := l.drop (needs c.length)) (low := p) (m := m + 1) (by rw [List.drop_drop]; exact hu) hs.2 (by omega) (by simp only [List.length_cons] at hm; omega) (hr (c, p) List.mem_cons_self) (fun x hx => hr x (List.mem_cons_of_mem _ hx)) hfit'
    have e1 : (triedS K b g o (m + ((c, p) :: rs).length) (usedR ((c, p) :: rs)) l).take (needs c.length) = l.take (needs c.length) := by
      unfold triedS usedR
      rw [List.take_append_of_le_length (by rw [List.length_take]; have := used_le hs; unfold usedR at this; omega), List.take_take, Nat.min_eq_left (by omega)]
    have e2 : (triedS K b g o (m + ((c, p) :: rs).length) (usedR ((c, p) :: rs)) l).drop (needs c.length) = triedS K b g o (m + 1 + rs.length) (usedR rs) (l.drop (needs c.length)) := by
      have hU : usedR ((c, p) :: rs) = needs c.length + usedR rs := rfl
      have hul := used_le hs
      unfold triedS
      rw [hU] at hul ⊢
      rw [List.drop_append_of_le_length (by rw [List.length_take]; omega), List.drop_take, List.drop_drop, List.length_cons, show m + (rs.length + 1) = m + 1 + rs.length by omega, show needs c.length + usedR rs - needs c.length = usedR rs by omega]
    have e3 : needs c.length ≤ (triedS K b g o (m + ((c, p) :: rs).length) (usedR ((c, p) :: rs)) l).length := by
      unfold triedS usedR
      rw [List.length_append, List.length_take, mix_len, List.length_drop]
      omega
    have hB : Begins (triedS K b g o (m + ((c, p) :: rs).length) (usedR ((c, p) :: rs)) l) g low m c p := ⟨hs.1.low, hs.1.op, hs.1.big, e3, by rw [e1]; exact hs.1.here⟩
    rw [← e2] at ih
    by_cases hk : ∀ i, i < needs b.length → K i = true
    · rw [if_pos hk] at ih ⊢
      exact ⟨hB, ih⟩
    · rw [if_neg hk] at ih ⊢
      exact ⟨hB, ih⟩
theorem Upto.tried {g T o m used : Nat} {K : Nat → Bool} {b : Bs} {l : List Bs} (h : Upto g T l) (hg : g < 4294967296) (ho : o < 4294967296) (hm : m < 4294967296) (hb : b.length ≤ 65536) (hT : T ≤ o) : Upto g o (triedS K b g o m used l) := by
  intro s hs
  unfold triedS at hs
  rcases List.mem_append.1 hs with hs | hs
  · exact h.mono hT s (List.mem_of_mem_take hs)
  · exact (h.drop used).mix (K := K) hg ho hm hb hT s hs
end Go.Proofs.YtbjgknoipbekoaaGreat
namespace Go.Proofs.YtbjgknoipbekoaaGreat
namespace W
theorem kept_next : ∀ {l : List (Nat × Bs)} {ks : List Bool} {i : Nat} {y : Nat × Bs} {k : Bool}, l[i]? = some y → ks[i]? = some k → keptL (l.take (i + 1)) ks = keptL (l.take i) ks ++ (if k then [y] else [])
  | [], ks, i, y, k, h, _ => by simp at h
  | x :: l, [], i, y, k, _, h => by simp at h
  | x :: l, q :: ks, 0, y, k, h1, h2 => by
    simp only [List.getElem?_cons_zero, Option.some.injEq] at h1 h2
    subst h1
    subst h2
    cases q <;> simp [keptL]
  | x :: l, q :: ks, i + 1, y, k, h1, h2 => by
    have ih := kept_next (l := l) (ks := ks) (i := i) (y := y) (k := k) (by simpa using h1) (by simpa using h2)
    rw [List.take_succ_cons, List.take_succ_cons]
    unfold keptL
    cases q <;> simp [ih]
theorem kept_short : ∀ {l : List (Nat × Bs)} {ks : List Bool} {i : Nat}, i = min l.length ks.length → keptL (l.take i) ks = keptL l ks
  | [], ks, i, h => by simp
  | x :: l, [], i, h => by
    cases i with
    | zero => cases l <;> rfl
    | succ i => simp at h
  | x :: l, q :: ks, i, h => by
    cases i with
    | zero => simp at h
    | succ i =>
      have ih := kept_short (l := l) (ks := ks) (i := i) (by simp only [List.length_cons] at h; omega)
      rw [List.take_succ_cons]
      unfold keptL
      rw [ih]
theorem kept_zero (l : List (Nat × Bs)) (ks : List Bool) : keptL (l.take 0) ks = [] := by cases l <;> cases ks <;> rfl
theorem kept_over : ∀ {l : List (Nat × Bs)} {ks : List Bool} {i : Nat}, ks.length ≤ i → keptL (l.take (i + 1)) ks = keptL (l.take i) ks
  | [], ks, i, h => by simp
  | x :: l, [], i, h => by cases i <;> simp [keptL]
  | x :: l, q :: ks, 0, h => by simp at h
  | x :: l, q :: ks, i + 1, h => by
    have ih := kept_over (l := l) (ks := ks) (i := i) (by simpa using h)
    rw [List.take_succ_cons, List.take_succ_cons]
    unfold keptL
    rw [ih]
/-- Sectors at their places. -/
def placed (a : Nat) (xs : List Bs) : List (Nat × Bs) := (List.range xs.length).map fun i => (a + i, xs.getD i [])
theorem placed_len (a : Nat) (xs : List Bs) : (placed a xs).length = xs.length := by unfold placed; simp
theorem placed_at (a : Nat) (xs : List Bs) {i : Nat} (h : i < xs.length) : (placed a xs)[i]? = some (a + i, xs.getD i []) := by unfold placed; rw [List.getElem?_map, List.getElem?_range h]; rfl
theorem kept_at (sf : List Bs) (a : Nat) (xs : List Bs) (keep : List Bool) : ∀ (i j : Nat), i ≤ xs.length → a + i ≤ sf.length → j < sf.length → (applyL sf (keptL ((placed a xs).take i) keep))[j]? = if (a ≤ j ∧ j < a + i) ∧ keep.getD (j - a) false = true then some (xs.getD (j - a) []) else sf[j]?
  | 0, j, _, _, _ => by rw [kept_zero, if_neg (by omega)]; rfl
  | i + 1, j, hi, hf, hj => by
    have ih := kept_at sf a xs keep i j (by omega) (by omega) hj
    by_cases hk : i < keep.length
    · have hkk : keep[i]? = some keep[i] := List.getElem?_eq_getElem hk
      have hkd : keep.getD i false = keep[i] := by rw [List.getD_eq_getElem?_getD, hkk]; rfl
      rw [kept_next (placed_at a xs (by omega)) hkk]
      cases hki : keep[i] with
      | false =>
        rw [if_neg (by decide), List.append_nil, ih]
        by_cases h2 : (a ≤ j ∧ j < a + i) ∧ keep.getD (j - a) false = true
        · rw [if_pos h2, if_pos ⟨⟨by omega, by omega⟩, h2.2⟩]
        · rw [if_neg h2, if_neg]
          rintro ⟨h3, h4⟩
          by_cases hij : j - a = i
          · rw [hij, hkd, hki] at h4; cases h4
          · exact h2 ⟨⟨by omega, by omega⟩, h4⟩
      | true =>
        rw [if_pos rfl, apply_app, apply_one]
        by_cases hij : j = a + i
        · subst hij
          rw [List.getElem?_set_self (by rw [apply_len]; exact hj), if_pos ⟨⟨by omega, by omega⟩, by rw [show a + i - a = i by omega, hkd, hki]⟩, show a + i - a = i by omega]
        · rw [List.getElem?_set_ne (by simp only; omega), ih]
          by_cases h2 : (a ≤ j ∧ j < a + i) ∧ keep.getD (j - a) false = true
          · rw [if_pos h2, if_pos ⟨⟨by omega, by omega⟩, h2.2⟩]
          · rw [if_neg h2, if_neg]
            rintro ⟨h3, h4⟩
            exact h2 ⟨⟨by omega, by omega⟩, h4⟩
    · rw [kept_over (by omega), ih]
      by_cases h2 : (a ≤ j ∧ j < a + i) ∧ keep.getD (j - a) false = true
      · rw [if_pos h2, if_pos ⟨⟨by omega, by omega⟩, h2.2⟩]
      · rw [if_neg h2, if_neg]
        rintro ⟨h3, h4⟩
        by_cases hij : j - a = i
        · rw [hij, List.getD_eq_getElem?_getD, List.getElem?_eq_none (by omega)] at h4; cases h4
        · exact h2 ⟨⟨by omega, by omega⟩, h4⟩
theorem all_at (sf : List Bs) (a : Nat) (xs : List Bs) : ∀ (i j : Nat), i ≤ xs.length → a + i ≤ sf.length → j < sf.length → (applyL sf ((placed a xs).take i))[j]? = if a ≤ j ∧ j < a + i then some (xs.getD (j - a) []) else sf[j]?
  | 0, j, _, _, _ => by rw [if_neg (by omega)]; rfl
  | i + 1, j, hi, hf, hj => by
    have ih := all_at sf a xs i j (by omega) (by omega) hj
    rw [List.take_add_one, placed_at a xs (by omega)]
    show (applyL sf ((placed a xs).take i ++ [_]))[j]? = _
    rw [apply_app, apply_one]
    by_cases hij : j = a + i
    · subst hij
      rw [List.getElem?_set_self (by rw [apply_len]; exact hj), if_pos ⟨by omega, by omega⟩, show a + i - a = i by omega]
    · rw [List.getElem?_set_ne (by simp only; omega), ih]
      by_cases h2 : a ≤ j ∧ j < a + i
      · rw [if_pos h2, if_pos ⟨by omega, by omega⟩]
      · rw [if_neg h2, if_neg (by omega)]
/-- The log's sectors. -/
def partOf (sf : List Bs) (from_ n : Nat) : List Bs := (sf.drop from_).take n
theorem partOf_len {sf : List Bs} {from_ n : Nat} (h : from_ + n ≤ sf.length) : (partOf sf from_ n).length = n := by unfold partOf; rw [List.length_take, List.length_drop]; omega
theorem partOf_at (sf : List Bs) {from_ n j : Nat} (h : j < n) : (partOf sf from_ n)[j]? = sf[from_ + j]? := by unfold partOf; rw [List.getElem?_take, if_pos h, List.getElem?_drop]
/-- What a crash leaves of a record of which k sectors were written. -/
theorem crash_part {sf : List Bs} {from_ n used k : Nat} {xs : List Bs} {keep : List Bool} (hfit : from_ + n ≤ sf.length) (hu : used + xs.length ≤ n) (hk : k ≤ xs.length) :
    partOf (applyL sf (keptL ((placed (from_ + used) xs).take k) keep)) from_ n = (partOf sf from_ n).take used ++ mixS (fun i => decide (i < k) && keep.getD i false) xs ((partOf sf from_ n).drop used) := by
  have hl := partOf_len (n := n) hfit
  have hl2 : (partOf (applyL sf (keptL ((placed (from_ + used) xs).take k) keep)) from_ n).length = n := partOf_len (by rw [apply_len]; exact hfit)
  refine List.ext_getElem? fun j => ?_
  by_cases hj : j < n
  · rw [partOf_at _ hj, kept_at sf (from_ + used) xs keep k (from_ + j) hk (by omega) (by omega)]
    by_cases hju : j < used
    · rw [if_neg (by omega), List.getElem?_append_left (by rw [List.length_take, hl]; omega), List.getElem?_take, if_pos hju, partOf_at _ hj]
    · have htl : ((partOf sf from_ n).take used).length = used := by rw [List.length_take, hl]; omega
      rw [List.getElem?_append_right (by rw [htl]; omega), htl, mix_at _ _ _ (by rw [List.length_drop, hl]; omega)]
      have e1 : from_ + j - (from_ + used) = j - used := by omega
      have e2 : ((partOf sf from_ n).drop used).getD (j - used) [] = sf.getD (from_ + j) [] := by
        rw [List.getD_eq_getElem?_getD, List.getElem?_drop, show used + (j - used) = j by omega, partOf_at _ hj, ← List.getD_eq_getElem?_getD]
      rw [e1, e2]
      by_cases hc : (from_ + used ≤ from_ + j ∧ from_ + j < from_ + used + k) ∧ keep.getD (j - used) false = true
      · rw [if_pos hc, if_pos ⟨by omega, by rw [decide_eq_true (by omega), hc.2]; rfl⟩]
      · rw [if_neg hc, if_neg]
        · rw [List.getD_eq_getElem?_getD, List.getElem?_eq_getElem (by omega)]; rfl
        · rintro ⟨h1, h2⟩
          simp only [Bool.and_eq_true, decide_eq_true_eq] at h2
          exact hc ⟨by omega, h2.2⟩
  · rw [List.getElem?_eq_none (by omega), List.getElem?_eq_none]
    rw [List.length_append, List.length_take, mix_len, List.length_drop, hl]
    omega
/-- .. and where all was synced. -/
theorem sync_part {sf : List Bs} {from_ n used : Nat} {xs : List Bs} (hfit : from_ + n ≤ sf.length) (hu : used + xs.length ≤ n) :
    partOf (applyL sf (placed (from_ + used) xs)) from_ n = (partOf sf from_ n).take used ++ mixS (fun _ => true) xs ((partOf sf from_ n).drop used) := by
  have hl := partOf_len (n := n) hfit
  have hall := all_at sf (from_ + used) xs xs.length
  rw [List.take_of_length_le (by rw [placed_len]; omega)] at hall
  have hl2 : (partOf (applyL sf (placed (from_ + used) xs)) from_ n).length = n := partOf_len (by rw [apply_len]; exact hfit)
  refine List.ext_getElem? fun j => ?_
  by_cases hj : j < n
  · rw [partOf_at _ hj, hall (from_ + j) (Nat.le_refl _) (by omega) (by omega)]
    by_cases hju : j < used
    · rw [if_neg (by omega), List.getElem?_append_left (by rw [List.length_take, hl]; omega), List.getElem?_take, if_pos hju, partOf_at _ hj]
    · have htl : ((partOf sf from_ n).take used).length = used := by rw [List.length_take, hl]; omega
      rw [List.getElem?_append_right (by rw [htl]; omega), htl, mix_at _ _ _ (by rw [List.length_drop, hl]; omega)]
      have e1 : from_ + j - (from_ + used) = j - used := by omega
      have e2 : ((partOf sf from_ n).drop used).getD (j - used) [] = sf.getD (from_ + j) [] := by
        rw [List.getD_eq_getElem?_getD, List.getElem?_drop, show used + (j - used) = j by omega, partOf_at _ hj, ← List.getD_eq_getElem?_getD]
      rw [e1, e2]
      by_cases hc : from_ + used ≤ from_ + j ∧ from_ + j < from_ + used + xs.length
      · rw [if_pos hc, if_pos ⟨by omega, rfl⟩]
      · rw [if_neg hc, if_neg (by omega), List.getD_eq_getElem?_getD, List.getElem?_eq_getElem (by omega)]; rfl
  · rw [List.getElem?_eq_none (by omega), List.getElem?_eq_none]
    rw [List.length_append, List.length_take, mix_len, List.length_drop, hl]
    omega
/-- Writing sectors one behind the other, then a sync: the plate behind it, and the error. -/
def putAll : PS → Nat → List Bs → PS × Int
  | s, _, [] => (syncS s, syncE s)
  | s, a, x :: xs => if writeE s (a : Int) x = 0 then putAll (writeS s (a : Int) x) (a + 1) xs else (writeS s (a : Int) x, writeE s (a : Int) x)
end W
end Go.Proofs.YtbjgknoipbekoaaGreat
namespace Go.Proofs.YtbjgknoipbekoaaGreat
namespace W
theorem placed_cons (a : Nat) (x : Bs) (xs : List Bs) : placed a (x :: xs) = (a, x) :: placed (a + 1) xs := by
  unfold placed
  rw [List.length_cons, List.range_succ_eq_map, List.map_cons, List.map_map]
  refine List.cons_eq_cons.2 ⟨rfl, List.map_congr_left fun i _ => ?_⟩
  show (a + (i + 1), (x :: xs).getD (i + 1) []) = (a + 1 + i, xs.getD i [])
  rw [show a + (i + 1) = a + 1 + i by omega]
  rfl
theorem write_right {s : PS} {a : Nat} {x : Bs} (hx : x.length = 64) (ha : a < s.safe.length) : (rightAt s (a : Int) && decide (x.length = 64)) = true := by unfold rightAt; rw [decide_eq_true hx]; simp; omega
theorem write_go {s : PS} {a : Nat} {x : Bs} (hd : s.down = false) (hl : s.left ≠ 0) (hx : x.length = 64) (ha : a < s.safe.length) : writeE s (a : Int) x = 0 ∧ writeS s (a : Int) x = ⟨s.safe, s.loose ++ [(a, x)], (tickS s).left, false⟩ := by
  have hr := write_right hx ha
  have ht : (tickS s).down = false := by show (if s.left = 0 then true else s.down) = false; rw [if_neg hl]; exact hd
  constructor
  · unfold writeE; rw [hd, hr, ht]; rfl
  · unfold writeS
    rw [hd, hr, ht]
    show (⟨s.safe, s.loose ++ [((a : Int).toNat, x)], (tickS s).left, false⟩ : PS) = _
    rw [Int.toNat_natCast]
theorem write_stop {s : PS} {a : Nat} {x : Bs} (hd : s.down = false) (hl : s.left = 0) (hx : x.length = 64) (ha : a < s.safe.length) : writeE s (a : Int) x = 50 ∧ writeS s (a : Int) x = ⟨s.safe, s.loose, 0, true⟩ := by
  have hr := write_right hx ha
  have ht : (tickS s).down = true := by show (if s.left = 0 then true else s.down) = true; rw [if_pos hl]
  constructor
  · unfold writeE; rw [hd, hr, ht]; rfl
  · unfold writeS
    rw [hd, hr, ht]
    show tickS s = _
    unfold tickS
    rw [hl, if_neg (by omega), if_pos rfl]
def leftBy (k : Int) (n : Nat) : Int := if k < 0 then k else k - n
/-- All is written, and synced. -/
theorem put_ok : ∀ {xs : List Bs} {s : PS} {a : Nat}, s.down = false → (s.left < 0 ∨ (xs.length : Int) + 1 ≤ s.left) → (∀ x ∈ xs, x.length = 64) → a + xs.length ≤ s.safe.length → putAll s a xs = (⟨applyL s.safe (s.loose ++ placed a xs), [], leftBy s.left (xs.length + 1), false⟩, 0)
  | [], s, a, hd, hl, _, _ => by
    have ht : (tickS s).down = false := by show (if s.left = 0 then true else s.down) = false; rw [if_neg (by simp at hl; omega)]; exact hd
    have htl : (tickS s).left = leftBy s.left 1 := by
      show (if 0 < s.left then s.left - 1 else s.left) = _
      unfold leftBy
      simp at hl
      by_cases h : s.left < 0
      · rw [if_pos h, if_neg (by omega)]
      · rw [if_neg h, if_pos (by omega)]; rfl
    unfold putAll syncS syncE
    rw [hd, ht, htl]
    simp [placed]
  | x :: xs, s, a, hd, hl, hx, hf => by
    rw [List.length_cons] at hl hf
    obtain ⟨e1, e2⟩ := write_go (a := a) (x := x) hd (by omega) (hx x List.mem_cons_self) (by omega)
    have htl : (tickS s).left = leftBy s.left 1 := by
      show (if 0 < s.left then s.left - 1 else s.left) = _
      unfold leftBy
      by_cases h : s.left < 0
      · rw [if_pos h, if_neg (by omega)]
      · rw [if_neg h, if_pos (by omega)]; rfl
    unfold putAll
    rw [if_pos e1, e2, htl]
    have hlb : leftBy s.left 1 < 0 ∨ (xs.length : Int) + 1 ≤ leftBy s.left 1 := by unfold leftBy; split <;> omega
    rw [put_ok (s := ⟨s.safe, s.loose ++ [(a, x)], leftBy s.left 1, false⟩) rfl hlb (fun y hy => hx y (List.mem_cons_of_mem _ hy)) (by show a + 1 + xs.length ≤ s.safe.length; omega)]
    have e3 : leftBy (leftBy s.left 1) (xs.length + 1) = leftBy s.left (xs.length + 1 + 1) := by
      unfold leftBy
      by_cases h : s.left < 0
      · rw [if_pos h, if_pos h, if_pos h]
      · rw [if_neg h, if_neg (by omega), if_neg h]; omega
    show ((⟨applyL s.safe (s.loose ++ [(a, x)] ++ placed (a + 1) xs), [], leftBy (leftBy s.left 1) (xs.length + 1), false⟩ : PS), (0 : Int)) = _
    rw [e3, placed_cons, List.append_assoc]
    rfl
/-- The plate goes down behind so many. -/
theorem put_down : ∀ {xs : List Bs} {s : PS} {a k : Nat}, s.down = false → s.left = (k : Int) → k ≤ xs.length → (∀ x ∈ xs, x.length = 64) → a + xs.length ≤ s.safe.length → putAll s a xs = (⟨s.safe, s.loose ++ (placed a xs).take k, 0, true⟩, 50)
  | [], s, a, k, hd, hl, hk, _, _ => by
    obtain rfl : k = 0 := by simpa using hk
    have ht : (tickS s).down = true := by show (if s.left = 0 then true else s.down) = true; rw [if_pos (by simpa using hl)]
    have hts : tickS s = ⟨s.safe, s.loose, 0, true⟩ := by
      have hl0 : s.left = 0 := by simpa using hl
      unfold tickS
      rw [hl0, if_neg (by omega), if_pos rfl]
    unfold putAll syncS syncE
    rw [hd, ht, hts]
    simp [placed]
  | x :: xs, s, a, 0, hd, hl, hk, hx, hf => by
    rw [List.length_cons] at hf
    obtain ⟨e1, e2⟩ := write_stop (a := a) (x := x) hd (by simpa using hl) (hx x List.mem_cons_self) (by omega)
    unfold putAll
    rw [e1, if_neg (by decide), e2]
    simp
  | x :: xs, s, a, k + 1, hd, hl, hk, hx, hf => by
    rw [List.length_cons] at hf hk
    obtain ⟨e1, e2⟩ := write_go (a := a) (x := x) hd (by omega) (hx x List.mem_cons_self) (by omega)
    have htl : (tickS s).left = (k : Int) := by
      show (if 0 < s.left then s.left - 1 else s.left) = _
      rw [hl, if_pos (by omega)]; omega
    unfold putAll
    rw [if_pos e1, e2, htl, put_down (s := ⟨s.safe, s.loose ++ [(a, x)], (k : Int), false⟩) (k := k) rfl rfl (by omega) (fun y hy => hx y (List.mem_cons_of_mem _ hy)) (by show a + 1 + xs.length ≤ s.safe.length; omega), placed_cons, List.take_succ_cons]
    show ((⟨s.safe, s.loose ++ [(a, x)] ++ (placed (a + 1) xs).take k, 0, true⟩ : PS), (50 : Int)) = _
    rw [List.append_assoc]
    rfl
end W
theorem begins_op {l : List Bs} {g low m : Nat} {b : Bs} {o : Nat} (hg : g < 4294967296) (hm : m < 4294967296) (h : Begins l g low m b o) : ∃ s, l[0]? = some s ∧ opF s = o ∧ s = partS b g o m 0 := by
  have hp := needs_pos b.length
  have h0 : (recS b g o m)[0]? = some (partS b g o m 0) := rec_at b g o m (by omega)
  rw [← h.here, List.getElem?_take, if_pos (by omega)] at h0
  exact ⟨_, h0, (part_fields (b := b) (i := 0) hg h.op hm h.big (by omega)).2.1, rfl⟩
/-- .. and no others. -/
theorem stands_one {g : Nat} (hg : g < 4294967296) : ∀ {rs rs' : List (Bs × Nat)} {l : List Bs} {low m : Nat}, m + rs.length < 4294967296 → Stands g l low m rs → Stands g l low m rs' → rs = rs'
  | [], [], _, _, _, _, _, _ => rfl
  | [], (b, o) :: rs', l, low, m, hm, h, h' => by
    have := one_yes hg (by simpa using hm) h'.1
    rw [show oneP l g low m = none from h] at this
    cases this
  | (b, o) :: rs, [], l, low, m, hm, h, h' => by
    have := one_yes hg (by simp at hm; omega) h.1
    rw [show oneP l g low m = none from h'] at this
    cases this
  | (b, o) :: rs, (b', o') :: rs', l, low, m, hm, h, h' => by
    simp only [List.length_cons] at hm
    have h1 := one_yes hg (by omega) h.1
    rw [one_yes hg (by omega) h'.1] at h1
    injection h1 with h1
    subst h1
    obtain ⟨s, e1, e2, _⟩ := begins_op hg (by omega) h.1
    obtain ⟨s', e1', e2', _⟩ := begins_op hg (by omega) h'.1
    rw [e1] at e1'
    injection e1' with e
    subst e
    obtain rfl : o = o' := by omega
    rw [stands_one hg (by omega) h.2 h'.2]
theorem stands_top {g T : Nat} (hg : g < 4294967296) : ∀ {rs : List (Bs × Nat)} {l : List Bs} {low m : Nat}, 1 ≤ m → m + rs.length < 4294967296 → Upto g T l → Stands g l low m rs → ∀ x ∈ rs, x.2 ≤ T
  | [], _, _, _, _, _, _, _ => fun x hx => by cases hx
  | (b, o) :: rs, l, low, m, hm0, hm, hu, h => by
    simp only [List.length_cons] at hm
    intro x hx
    rcases List.mem_cons.1 hx with rfl | hx
    · obtain ⟨s, e1, e2, e3⟩ := begins_op hg (by omega) h.1
      have hp := needs_pos b.length
      have := (hu s (List.mem_of_getElem? e1)).2 (by rw [e3]; exact part_isPart hg h.1.op hm0 (by omega) h.1.big (by omega))
      show o ≤ T
      omega
    · exact stands_top hg (by omega) (by omega) (hu.drop _) h.2 x hx
end Go.Proofs.YtbjgknoipbekoaaGreat
