/-
  Plain words on stores (layer 15): a plate at rest on which a store stands; commits that are appended, whole or cut off.
  Plain words on stores (layer 15): a generation begins.
  Plain words on stores (layer 15): a generation begins: done as a whole, or cut off anywhere.
  Plain words on stores (layer 15): a generation begins: done as a whole, or cut off anywhere.
  Plain words on stores (layer 15): a generation that begins is cut off.
  Plain words on stores (layer 15): a generation that begins is cut off anywhere: the old one stands, or the new one.
-/
import Derived.Test.YtbjgknoipbekoaaGreatQ15
import Derived.Test.YtbjgknoipbekoaaGreatQ2
namespace Go.Proofs.YtbjgknoipbekoaaGreat
/-- Where a generation's half begins. -/
def fromG (h g : Nat) : Nat := 2 + h * ((g + 1) % 2)
theorem from_le (h g : Nat) : 2 ≤ fromG h g ∧ fromG h g + h ≤ 2 + 2 * h := by
  unfold fromG
  rcases Nat.mod_two_eq_zero_or_one (g + 1) with e | e <;> rw [e] <;> omega
/-- Two generations, one behind the other, have two halves. -/
theorem from_apart (h g : Nat) : fromG h g + h ≤ fromG h (g + 1) ∨ fromG h (g + 1) + h ≤ fromG h g := by
  unfold fromG
  rcases Nat.mod_two_eq_zero_or_one (g + 1) with e | e
  · have e2 : (g + 1 + 1) % 2 = 1 := by omega
    rw [e, e2]; omega
  · have e2 : (g + 1 + 1) % 2 = 0 := by omega
    rw [e, e2]; omega
/-- The pairs that records lead to. -/
def leadP : List (Bs × Bs) → List (Bs × Nat) → Option (List (Bs × Bs))
  | ps, [] => some ps
  | ps, x :: rs => match chsOf x.1 with
    | none => none
    | some l => leadP (withP ps l) rs
theorem lead_snoc {b : Bs} {o : Nat} {l : List Ch} (hl : chsOf b = some l) : ∀ {rs : List (Bs × Nat)} {ps qs : List (Bs × Bs)}, leadP ps rs = some qs → leadP ps (rs ++ [(b, o)]) = some (withP qs l)
  | [], ps, qs, h => by
    simp only [leadP, Option.some.injEq] at h
    subst h
    show leadP ps [(b, o)] = _
    simp only [leadP, hl]
  | x :: rs, ps, qs, h => by
    rw [List.cons_append]
    unfold leadP at h ⊢
    cases hx : chsOf x.1 with
    | none => rw [hx] at h; cases h
    | some m =>
      rw [hx] at h
      simp only at h ⊢
      exact lead_snoc hl h
theorem lead_sorted : ∀ {rs : List (Bs × Nat)} {ps qs : List (Bs × Bs)}, SortedP ps → leadP ps rs = some qs → SortedP qs
  | [], ps, qs, hs, h => by simp only [leadP, Option.some.injEq] at h; subst h; exact hs
  | x :: rs, ps, qs, hs, h => by
    unfold leadP at h
    cases hx : chsOf x.1 with
    | none => rw [hx] at h; cases h
    | some m =>
      rw [hx] at h
      exact lead_sorted (with_sorted _ _ hs) h
/-- A part of the sectors that is as it was. -/
theorem part_same {sf sf' : List Bs} {a n : Nat} (h : ∀ j, a ≤ j → j < a + n → sf'[j]? = sf[j]?) : W.partOf sf' a n = W.partOf sf a n := by
  refine List.ext_getElem? fun i => ?_
  by_cases hi : i < n
  · rw [W.partOf_at _ hi, W.partOf_at _ hi]
    exact h (a + i) (by omega) (by omega)
  · have e : ∀ (l : List Bs), (W.partOf l a n).length ≤ n := fun l => by unfold W.partOf; rw [List.length_take]; omega
    rw [List.getElem?_eq_none (by have := e sf'; omega), List.getElem?_eq_none (by have := e sf; omega)]
/-- A store stands on a plate at rest: h sectors a half, the generation g, its log's records; no opening of its parts, and of the next generation's, is above T. -/
structure StOn (h g T : Nat) (s : PS) (rs : List (Bs × Nat)) (ps : List (Bs × Bs)) : Prop where
  rest : Rest g (fromG h g) h T s rs
  ne : rs ≠ []
  g0 : 1 ≤ g
  g1 : g < 2147483648
  h1 : 1 ≤ h
  fit : 2 + 2 * h ≤ s.safe.length
  mark : marksG (s.safe.getD (g % 2) []) = g
  other : marksG (s.safe.getD ((g + 1) % 2) []) < g
  next : Upto (g + 1) T (W.partOf s.safe (fromG h (g + 1)) h)
  low : ∀ x ∈ W.partOf s.safe (fromG h g) h, genF x ≤ g
  lowN : ∀ x ∈ W.partOf s.safe (fromG h (g + 1)) h, genF x ≤ g + 1
  lead : leadP [] rs = some ps
  right : RightP ps
theorem StOn.sorted {h g T : Nat} {s : PS} {rs : List (Bs × Nat)} {ps : List (Bs × Bs)} (H : StOn h g T s rs ps) : SortedP ps := lead_sorted List.Pairwise.nil H.lead
/-- Only the log's own half turned. -/
theorem StOn.turned {h g T T' : Nat} {s s' : PS} {rs rs' : List (Bs × Nat)} {ps ps' : List (Bs × Bs)} (H : StOn h g T s rs ps) (hr : Rest g (fromG h g) h T' s' rs') (hT : T ≤ T') (hne : rs' ≠ []) (hl : s'.safe.length = s.safe.length) (ho : ∀ j, j < fromG h g ∨ fromG h g + h ≤ j → s'.safe[j]? = s.safe[j]?) (hlow : ∀ x ∈ W.partOf s'.safe (fromG h g) h, genF x ≤ g) (hlead : leadP [] rs' = some ps') (hright : RightP ps') : StOn h g T' s' rs' ps' := by
  obtain ⟨f1, f2⟩ := from_le h g
  have hm : ∀ i, i < 2 → s'.safe.getD i [] = s.safe.getD i [] := fun i hi => by rw [List.getD_eq_getElem?_getD, List.getD_eq_getElem?_getD, ho i (Or.inl (by omega))]
  have hp : W.partOf s'.safe (fromG h (g + 1)) h = W.partOf s.safe (fromG h (g + 1)) h := part_same fun j h1 h2 => ho j (by rcases from_apart h g with h3 | h3 <;> omega)
  refine ⟨hr, hne, H.g0, H.g1, H.h1, by rw [hl]; exact H.fit, by rw [hm _ (Nat.mod_lt _ (by omega))]; exact H.mark, by rw [hm _ (Nat.mod_lt _ (by omega))]; exact H.other, ?_, hlow, ?_, hlead, hright⟩
  · rw [hp]; exact H.next.mono hT
  · rw [hp]; exact H.lowN
section
variable {L : LS} {s : PS} {b : Bs}
theorem ok_outside (h : LogI L s) (hs : L.shut = false) (hb : b.length ≤ 65536) (hr : usedR L.rs + needs b.length ≤ L.size) (hl : s.left < 0 ∨ (needs b.length : Int) + 1 ≤ s.left) {j : Nat} (hj : j < L.start ∨ L.start + L.size ≤ j) : (appendP L s b).safe.length = s.safe.length ∧ (appendP L s b).safe[j]? = s.safe[j]? := by
  have hlen : (nextS L b).length = needs b.length := rec_len _ _ _ _
  have hfit := h.fit
  have hput : putL L s b = (⟨applyL s.safe (s.loose ++ W.placed (L.start + usedR L.rs) (nextS L b)), [], W.leftBy s.left (needs b.length + 1), false⟩, 0) := by
    unfold putL
    rw [W.put_ok h.down (by rw [hlen]; exact hl) (next_64 L b) (by rw [hlen]; omega), hlen]
  have hp : (appendP L s b).safe = applyL s.safe (W.placed (L.start + usedR L.rs) (nextS L b)) := by
    unfold appendP
    rw [hs, hput, if_neg (by decide), if_neg (by omega), if_neg (by omega), h.loose]
    rfl
  have hpl : (W.placed (L.start + usedR L.rs) (nextS L b)).length = needs b.length := by unfold W.placed; rw [List.length_map, List.length_range, hlen]
  rw [hp, apply_len]
  refine ⟨rfl, ?_⟩
  by_cases hjl : j < s.safe.length
  · have := W.all_at s.safe (L.start + usedR L.rs) (nextS L b) (needs b.length) j (by omega) (by omega) hjl
    rw [List.take_of_length_le (by omega)] at this
    rw [this, if_neg (by omega)]
  · rw [List.getElem?_eq_none (by rw [apply_len]; omega), List.getElem?_eq_none (by omega)]
theorem cut_outside (h : LogI L s) (hs : L.shut = false) (hb : b.length ≤ 65536) (hr : usedR L.rs + needs b.length ≤ L.size) {k : Nat} (hl : s.left = (k : Int)) (hk : k ≤ needs b.length) (keep : List Bool) {j : Nat} (hj : j < L.start ∨ L.start + L.size ≤ j) : (reviveS (appendP L s b) keep).safe.length = s.safe.length ∧ (reviveS (appendP L s b) keep).safe[j]? = s.safe[j]? := by
  obtain ⟨f1, _⟩ := cut_form h hs hb hr hl hk
  have hlen : (nextS L b).length = needs b.length := rec_len _ _ _ _
  have hfit := h.fit
  have hp : (reviveS (appendP L s b) keep).safe = applyL s.safe (keptL ((W.placed (L.start + usedR L.rs) (nextS L b)).take k) keep) := by rw [f1]; rfl
  rw [hp, apply_len]
  refine ⟨rfl, ?_⟩
  by_cases hjl : j < s.safe.length
  · rw [W.kept_at s.safe (L.start + usedR L.rs) (nextS L b) keep k j (by omega) (by omega) hjl, if_neg (by omega)]
  · rw [List.getElem?_eq_none (by rw [apply_len]; omega), List.getElem?_eq_none (by omega)]
end
/-- What was written is the record's, or what was there. -/
theorem part_from {sf sf' xs : List Bs} {a n : Nat} (h : ∀ j, a ≤ j → j < a + n → ∀ x, sf'[j]? = some x → sf[j]? = some x ∨ x ∈ xs) {P : Bs → Prop} (h1 : ∀ x ∈ W.partOf sf a n, P x) (h2 : ∀ x ∈ xs, P x) : ∀ x ∈ W.partOf sf' a n, P x := fun x hx => by
  obtain ⟨i, hi, e⟩ := List.getElem_of_mem hx
  have hin : i < n := by have : (W.partOf sf' a n).length ≤ n := by unfold W.partOf; rw [List.length_take]; omega
                         omega
  have hq : (W.partOf sf' a n)[i]? = some x := by rw [List.getElem?_eq_getElem hi, e]
  rw [W.partOf_at _ hin] at hq
  rcases h (a + i) (by omega) (by omega) x hq with h3 | h3
  · refine h1 x (List.mem_of_getElem? (i := i) ?_)
    rw [W.partOf_at _ hin]; exact h3
  · exact h2 x h3
theorem next_gen {L : LS} {s : PS} {b : Bs} (h : LogI L s) (hb : b.length ≤ 65536) : ∀ x ∈ nextS L b, genF x = L.gen := fun x hx => by
  have hst := used_le h.st
  have hfew := few_used L.rs
  have hlen : (W.partOf s.safe L.start L.size).length ≤ s.safe.length := by unfold W.partOf; rw [List.length_take, List.length_drop]; omega
  have := h.ok.few
  exact (rec_all (by have := h.gen; omega) h.op (by omega) hb hx).1
theorem ok_inside {L : LS} {s : PS} {b : Bs} (h : LogI L s) (hs : L.shut = false) (hb : b.length ≤ 65536) (hr : usedR L.rs + needs b.length ≤ L.size) (hl : s.left < 0 ∨ (needs b.length : Int) + 1 ≤ s.left) {j : Nat} {x : Bs} (hx : (appendP L s b).safe[j]? = some x) : s.safe[j]? = some x ∨ x ∈ nextS L b := by
  have hlen : (nextS L b).length = needs b.length := rec_len _ _ _ _
  have hfit := h.fit
  have hput : putL L s b = (⟨applyL s.safe (s.loose ++ W.placed (L.start + usedR L.rs) (nextS L b)), [], W.leftBy s.left (needs b.length + 1), false⟩, 0) := by
    unfold putL
    rw [W.put_ok h.down (by rw [hlen]; exact hl) (next_64 L b) (by rw [hlen]; omega), hlen]
  have hp : (appendP L s b).safe = applyL s.safe (W.placed (L.start + usedR L.rs) (nextS L b)) := by
    unfold appendP
    rw [hs, hput, if_neg (by decide), if_neg (by omega), if_neg (by omega), h.loose]
    rfl
  have hpl : (W.placed (L.start + usedR L.rs) (nextS L b)).length = needs b.length := by unfold W.placed; rw [List.length_map, List.length_range, hlen]
  rw [hp] at hx
  have hjl : j < s.safe.length := by
    have := (List.getElem?_eq_some_iff.1 hx).1
    rwa [apply_len] at this
  have h1 := W.all_at s.safe (L.start + usedR L.rs) (nextS L b) (needs b.length) j (by omega) (by omega) hjl
  rw [List.take_of_length_le (by omega), hx] at h1
  split at h1
  · rename_i hc
    rw [List.getD_eq_getElem?_getD, List.getElem?_eq_getElem (by omega)] at h1
    simp only [Option.getD_some, Option.some.injEq] at h1
    exact Or.inr (by rw [h1]; exact List.getElem_mem _)
  · exact Or.inl h1.symm
theorem cut_inside {L : LS} {s : PS} {b : Bs} (h : LogI L s) (hs : L.shut = false) (hb : b.length ≤ 65536) (hr : usedR L.rs + needs b.length ≤ L.size) {k : Nat} (hl : s.left = (k : Int)) (hk : k ≤ needs b.length) (keep : List Bool) {j : Nat} {x : Bs} (hx : (reviveS (appendP L s b) keep).safe[j]? = some x) : s.safe[j]? = some x ∨ x ∈ nextS L b := by
  obtain ⟨f1, _⟩ := cut_form h hs hb hr hl hk
  have hlen : (nextS L b).length = needs b.length := rec_len _ _ _ _
  have hfit := h.fit
  have hp : (reviveS (appendP L s b) keep).safe = applyL s.safe (keptL ((W.placed (L.start + usedR L.rs) (nextS L b)).take k) keep) := by rw [f1]; rfl
  rw [hp] at hx
  have hjl : j < s.safe.length := by
    have := (List.getElem?_eq_some_iff.1 hx).1
    rwa [apply_len] at this
  rw [W.kept_at s.safe (L.start + usedR L.rs) (nextS L b) keep k j (by omega) (by omega) hjl] at hx
  split at hx
  · rename_i hc
    rw [List.getD_eq_getElem?_getD, List.getElem?_eq_getElem (by omega)] at hx
    simp only [Option.getD_some, Option.some.injEq] at hx
    exact Or.inr (by rw [← hx]; exact List.getElem_mem _)
  · exact Or.inl hx
/-- A commit that is appended. -/
theorem StOn.commit {h g T : Nat} {s : PS} {rs : List (Bs × Nat)} {ps : List (Bs × Bs)} {L : LS} {l : List Ch} (H : StOn h g T s rs ps) (hL : LogI L s) (hLs : L.start = fromG h g ∧ L.size = h ∧ L.gen = g ∧ L.rs = rs ∧ L.shut = false ∧ T ≤ L.opening) (hl : RightL l) (hb : (wrL l).length ≤ 65536) (hr : usedR rs + needs (wrL l).length ≤ h) (hlf : s.left < 0 ∨ (needs (wrL l).length : Int) + 1 ≤ s.left) :
    appendE L s (wrL l) = 0 ∧ LogI (appendL L s (wrL l)) (appendP L s (wrL l)) ∧ StOn h g L.opening (appendP L s (wrL l)) (rs ++ [(wrL l, L.opening)]) (withP ps l) ∧ (appendL L s (wrL l)).rs = rs ++ [(wrL l, L.opening)] := by
  obtain ⟨e1, e2, e3, e4, e5, e6⟩ := hLs
  obtain ⟨a1, a2, a3, a4⟩ := append_ok hL e5 hb (by rw [e4, e2]; exact hr) hlf
  have ho := fun j (hj : j < L.start ∨ L.start + L.size ≤ j) => ok_outside hL e5 hb (by rw [e4, e2]; exact hr) hlf hj
  have hform : (appendL L s (wrL l)).start = L.start ∧ (appendL L s (wrL l)).size = L.size ∧ (appendL L s (wrL l)).gen = L.gen ∧ (appendL L s (wrL l)).opening = L.opening := by
    unfold appendL
    split
    · exact ⟨rfl, rfl, rfl, rfl⟩
    · split
      · exact ⟨rfl, rfl, rfl, rfl⟩
      · split
        · exact ⟨rfl, rfl, rfl, rfl⟩
        · split <;> exact ⟨rfl, rfl, rfl, rfl⟩
  obtain ⟨g1, g2, g3, g4⟩ := hform
  have hst := a2.st
  have hup := a2.all
  rw [a3, g1, g2, g3, e1, e2, e3, e4] at hst
  rw [g1, g2, g3, g4, e1, e2, e3] at hup
  have hrest : Rest g (fromG h g) h L.opening (appendP L s (wrL l)) (rs ++ [(wrL l, L.opening)]) := ⟨a2.ok, a2.loose, a2.down, by have := a2.fit; rw [g1, g2, e1, e2] at this; exact this, hst, hup⟩
  have hlead : leadP [] (rs ++ [(wrL l, L.opening)]) = some (withP ps l) := by
    have := lead_snoc (o := L.opening) (chs_wr hl) H.lead
    rw [with_norm] at this
    exact this
  have hlow : ∀ x ∈ W.partOf (appendP L s (wrL l)).safe (fromG h g) h, genF x ≤ g := part_from (xs := nextS L (wrL l)) (fun j _ _ x hx => ok_inside hL e5 hb (by rw [e4, e2]; exact hr) hlf hx) H.low fun x hx => by rw [next_gen hL hb x hx, e3]; exact Nat.le_refl _
  refine ⟨a1, a2, H.turned hrest e6 (by simp) (ho 0 (Or.inl (by have := from_le h g; omega))).1 (fun j hj => (ho j (by rw [e1, e2]; exact hj)).2) hlow hlead (with_right hl H.right), by rw [a3, e4]⟩
/-- A commit that was cut off by a crash: all of it or nothing. -/
theorem StOn.cut {h g T : Nat} {s : PS} {rs : List (Bs × Nat)} {ps : List (Bs × Bs)} {L : LS} {l : List Ch} (H : StOn h g T s rs ps) (hL : LogI L s) (hLs : L.start = fromG h g ∧ L.size = h ∧ L.gen = g ∧ L.rs = rs ∧ L.shut = false ∧ T ≤ L.opening) (hl : RightL l) (hb : (wrL l).length ≤ 65536) (hr : usedR rs + needs (wrL l).length ≤ h) {k : Nat} (hlf : s.left = (k : Int)) (hk : k ≤ needs (wrL l).length) (keep : List Bool) :
    appendE L s (wrL l) = 50 ∧ (StOn h g L.opening (reviveS (appendP L s (wrL l)) keep) rs ps ∨ StOn h g L.opening (reviveS (appendP L s (wrL l)) keep) (rs ++ [(wrL l, L.opening)]) (withP ps l)) := by
  obtain ⟨e1, e2, e3, e4, e5, e6⟩ := hLs
  obtain ⟨a1, _, _, a4⟩ := cut_rest hL e5 hb (by rw [e4, e2]; exact hr) hlf hk keep
  have ho := fun j (hj : j < L.start ∨ L.start + L.size ≤ j) => cut_outside hL e5 hb (by rw [e4, e2]; exact hr) hlf hk keep hj
  have h0 := (ho 0 (Or.inl (by have := from_le h g; omega))).1
  have h2 := fun j (hj : j < fromG h g ∨ fromG h g + h ≤ j) => (ho j (by rw [e1, e2]; exact hj)).2
  rw [e1, e2, e3, e4] at a4
  have hlow : ∀ x ∈ W.partOf (reviveS (appendP L s (wrL l)) keep).safe (fromG h g) h, genF x ≤ g := part_from (xs := nextS L (wrL l)) (fun j _ _ x hx => cut_inside hL e5 hb (by rw [e4, e2]; exact hr) hlf hk keep hx) H.low fun x hx => by rw [next_gen hL hb x hx, e3]; exact Nat.le_refl _
  refine ⟨a1, ?_⟩
  by_cases hc : k = needs (wrL l).length ∧ WholeK k keep
  · rw [if_pos hc] at a4
    refine Or.inr (H.turned a4 e6 (by simp) h0 h2 hlow ?_ (with_right hl H.right))
    have := lead_snoc (o := L.opening) (chs_wr hl) H.lead
    rw [with_norm] at this
    exact this
  · rw [if_neg hc] at a4
    exact Or.inl (H.turned a4 e6 H.ne h0 h2 hlow H.lead H.right)
end Go.Proofs.YtbjgknoipbekoaaGreat
namespace Go.Proofs.YtbjgknoipbekoaaGreat
def decL (l : Int) : Int := if 0 < l then l - 1 else l
theorem write_step {s : PS} {a : Nat} {b : Bs} (hd : s.down = false) (ha : a < s.safe.length) (hb : b.length = 64) :
    (s.left = 0 → writeE s (a : Int) b = 50 ∧ writeS s (a : Int) b = ⟨s.safe, s.loose, 0, true⟩) ∧ (s.left ≠ 0 → writeE s (a : Int) b = 0 ∧ writeS s (a : Int) b = ⟨s.safe, s.loose ++ [(a, b)], decL s.left, false⟩) := by
  have hr : (!(rightAt s (a : Int) && decide (b.length = 64))) = false := by unfold rightAt; simp [hb]; omega
  constructor
  · intro h0
    have ht : tickS s = ⟨s.safe, s.loose, 0, true⟩ := by unfold tickS; rw [h0]; simp
    unfold writeE writeS
    rw [hd, hr, ht]
    exact ⟨rfl, rfl⟩
  · intro h0
    have ht : tickS s = ⟨s.safe, s.loose, decL s.left, false⟩ := by unfold tickS decL; rw [if_neg h0, hd]
    unfold writeE writeS
    rw [hd, hr, ht]
    refine ⟨rfl, ?_⟩
    simp
theorem sync_step {s : PS} (hd : s.down = false) :
    (s.left = 0 → syncE s = 50 ∧ syncS s = ⟨s.safe, s.loose, 0, true⟩) ∧ (s.left ≠ 0 → syncE s = 0 ∧ syncS s = ⟨applyL s.safe s.loose, [], decL s.left, false⟩) := by
  constructor
  · intro h0
    have ht : tickS s = ⟨s.safe, s.loose, 0, true⟩ := by unfold tickS; rw [h0]; simp
    unfold syncE syncS
    rw [hd, ht]
    exact ⟨rfl, rfl⟩
  · intro h0
    have ht : tickS s = ⟨s.safe, s.loose, decL s.left, false⟩ := by unfold tickS decL; rw [if_neg h0, hd]
    unfold syncE syncS
    rw [hd, ht]
    exact ⟨rfl, rfl⟩
/-- The first sector of the half is written with noughts, and synced. -/
def clearR (s : PS) (h g : Nat) : PS × Int :=
  if writeE s (fromG h g : Int) zeros = 0 then (syncS (writeS s (fromG h g : Int) zeros), syncE (writeS s (fromG h g : Int) zeros)) else (writeS s (fromG h g : Int) zeros, writeE s (fromG h g : Int) zeros)
/-- A mark is written, and synced. -/
def markR (s : PS) (g : Nat) : PS × Int :=
  if writeE s ((g % 2 : Nat) : Int) (markB g) = 0 then (syncS (writeS s ((g % 2 : Nat) : Int) (markB g)), syncE (writeS s ((g % 2 : Nat) : Int) (markB g))) else (writeS s ((g % 2 : Nat) : Int) (markB g), writeE s ((g % 2 : Nat) : Int) (markB g))
/-- One sector is written, and synced: done, or cut off. -/
theorem one_done {s : PS} {a : Nat} {b : Bs} (hd : s.down = false) (hl : s.loose = []) (ha : a < s.safe.length) (hb : b.length = 64) (hlf : s.left < 0 ∨ 2 ≤ s.left) : writeE s (a : Int) b = 0 ∧ syncE (writeS s (a : Int) b) = 0 ∧ syncS (writeS s (a : Int) b) = ⟨s.safe.set a b, [], decL (decL s.left), false⟩ := by
  obtain ⟨e1, e2⟩ := (write_step hd ha hb).2 (by omega)
  have e3 := (sync_step (s := writeS s (a : Int) b) (by rw [e2])).2 (by rw [e2]; show decL s.left ≠ 0; unfold decL; split <;> omega)
  refine ⟨e1, e3.1, ?_⟩
  rw [e3.2, e2, hl]
  rfl
theorem one_cut {s : PS} {a : Nat} {b : Bs} (hd : s.down = false) (hl : s.loose = []) (ha : a < s.safe.length) (hb : b.length = 64) (hlf : s.left = 0 ∨ s.left = 1) (keep : List Bool) :
    let r := if writeE s (a : Int) b = 0 then (syncS (writeS s (a : Int) b), syncE (writeS s (a : Int) b)) else (writeS s (a : Int) b, writeE s (a : Int) b)
    r.2 = 50 ∧ ((reviveS r.1 keep) = ⟨s.safe, [], -1, false⟩ ∨ (reviveS r.1 keep) = ⟨s.safe.set a b, [], -1, false⟩) := by
  intro r
  rcases hlf with h0 | h0
  · obtain ⟨e1, e2⟩ := (write_step hd ha hb).1 h0
    have hr : r = (⟨s.safe, [], 0, true⟩, 50) := by
      show (if _ then _ else _) = _
      rw [e1, e2, if_neg (by decide), hl]
    rw [hr]
    exact ⟨rfl, Or.inl rfl⟩
  · obtain ⟨e1, e2⟩ := (write_step hd ha hb).2 (by omega)
    have e3 := (sync_step (s := writeS s (a : Int) b) (by rw [e2])).1 (by rw [e2, h0]; rfl)
    have hr : r = (⟨s.safe, [(a, b)], 0, true⟩, 50) := by
      show (if _ then _ else _) = _
      rw [if_pos e1, e3.1, e3.2, e2, hl]
      rfl
    rw [hr]
    refine ⟨rfl, ?_⟩
    unfold reviveS
    cases keep with
    | nil => exact Or.inl rfl
    | cons k ks =>
      cases k with
      | true => exact Or.inr rfl
      | false => exact Or.inl rfl
/-- A plate at rest of which one sector was set. -/
theorem set_ok {s : PS} (h : s.Ok) {a : Nat} {b : Bs} (hb : b.length = 64) {l : Int} (h1 : -1 ≤ l) (h2 : l ≤ 9223372036854775807) : (⟨s.safe.set a b, [], l, false⟩ : PS).Ok := by
  refine ⟨by rw [List.length_set]; exact h.few, fun x hx => ?_, fun x hx => (by cases hx), h1, h2⟩
  rcases List.mem_or_eq_of_mem_set hx with h3 | h3
  · exact h.safe x h3
  · rw [h3]; exact hb
/-- Only the next generation's half turned. -/
theorem StOn.beside {h g T T' : Nat} {s s' : PS} {rs : List (Bs × Nat)} {ps : List (Bs × Bs)} (H : StOn h g T s rs ps) (hok : s'.Ok) (hlo : s'.loose = []) (hd : s'.down = false) (hT : T ≤ T') (hl : s'.safe.length = s.safe.length) (ho : ∀ j, j < fromG h (g + 1) ∨ fromG h (g + 1) + h ≤ j → s'.safe[j]? = s.safe[j]?) (hup : Upto (g + 1) T' (W.partOf s'.safe (fromG h (g + 1)) h)) (hlow : ∀ x ∈ W.partOf s'.safe (fromG h (g + 1)) h, genF x ≤ g + 1) : StOn h g T' s' rs ps := by
  obtain ⟨f1, f2⟩ := from_le h (g + 1)
  have hm : ∀ i, i < 2 → s'.safe.getD i [] = s.safe.getD i [] := fun i hi => by rw [List.getD_eq_getElem?_getD, List.getD_eq_getElem?_getD, ho i (Or.inl (by omega))]
  have hp : W.partOf s'.safe (fromG h g) h = W.partOf s.safe (fromG h g) h := part_same fun j h1 h2 => ho j (by rcases from_apart h g with h3 | h3 <;> omega)
  refine ⟨⟨hok, hlo, hd, by rw [hl]; exact H.rest.fit, by rw [hp]; exact H.rest.st, by rw [hp]; exact H.rest.up.mono hT⟩, H.ne, H.g0, H.g1, H.h1, by rw [hl]; exact H.fit, by rw [hm _ (Nat.mod_lt _ (by omega))]; exact H.mark, by rw [hm _ (Nat.mod_lt _ (by omega))]; exact H.other, hup, by rw [hp]; exact H.low, hlow, H.lead, H.right⟩
theorem gen_zeros : genF zeros = 0 := by decide +kernel
/-- The half of the next generation, its first sector cleared. -/
theorem cleared {h g T : Nat} {s : PS} {rs : List (Bs × Nat)} {ps : List (Bs × Bs)} (H : StOn h g T s rs ps) : Upto (g + 1) T (W.partOf (s.safe.set (fromG h (g + 1)) zeros) (fromG h (g + 1)) h) ∧ (∀ x ∈ W.partOf (s.safe.set (fromG h (g + 1)) zeros) (fromG h (g + 1)) h, genF x ≤ g + 1) ∧ (W.partOf (s.safe.set (fromG h (g + 1)) zeros) (fromG h (g + 1)) h)[0]? = some zeros := by
  obtain ⟨f1, f2⟩ := from_le h (g + 1)
  have hf := H.fit
  have hh := H.h1
  have key : ∀ j, fromG h (g + 1) ≤ j → j < fromG h (g + 1) + h → ∀ x, (s.safe.set (fromG h (g + 1)) zeros)[j]? = some x → s.safe[j]? = some x ∨ x ∈ [zeros] := fun j _ _ x hx => by
    rw [List.getElem?_set] at hx
    split at hx
    · split at hx
      · exact Or.inr (by rw [← Option.some.inj hx]; exact List.mem_singleton.2 rfl)
      · cases hx
    · exact Or.inl hx
  refine ⟨part_from key H.next fun x hx => ?_, part_from key H.lowN fun x hx => ?_, ?_⟩
  · rw [List.mem_singleton.1 hx]
    refine ⟨zeros_len, fun hp => ?_⟩
    have := hp.1
    rw [gen_zeros] at this
    omega
  · rw [List.mem_singleton.1 hx, gen_zeros]; omega
  · rw [W.partOf_at _ (by omega)]
    exact List.getElem?_set_self (show fromG h (g + 1) < s.safe.length by omega)
/-- A log whose first sector is cleared has nothing. -/
theorem there_cleared {g n : Nat} {l : List Bs} (hg0 : 1 ≤ g) (hg : g < 4294967296) (h64 : ∀ s ∈ l, s.length = 64) (h0 : l[0]? = some zeros) : thereL g n l 1 1 = [] := by
  have hone : oneP l g 1 1 = none := one_none h64 fun b o hB => by
    have hp := needs_pos b.length
    have h1 : (l.take (needs b.length))[0]? = (recS b g o 1)[0]? := by rw [hB.here]
    rw [List.getElem?_take, if_pos (by omega), rec_at b g o 1 (by omega), h0] at h1
    have h2 := (part_fields (b := b) (g := g) (o := o) (m := 1) (i := 0) hg hB.op (by omega) hB.big (by omega)).1
    rw [← Option.some.inj h1, gen_zeros] at h2
    omega
  cases n with
  | zero => rfl
  | succ n => unfold thereL; rw [hone]
/-- The next generation's log, opened on a cleared half. -/
theorem open_cleared {h g T : Nat} {s s2 : PS} {rs : List (Bs × Nat)} {ps : List (Bs × Bs)} (H : StOn h g T s rs ps) (hg : g + 1 < 2147483648) (hT : T + 1 < 4294967296) (hok : s2.Ok) (hlo : s2.loose = []) (hd : s2.down = false) (hsf : s2.safe = s.safe.set (fromG h (g + 1)) zeros) :
    (openL s2 (fromG h (g + 1)) h (g + 1)).start = fromG h (g + 1) ∧ (openL s2 (fromG h (g + 1)) h (g + 1)).size = h ∧ (openL s2 (fromG h (g + 1)) h (g + 1)).gen = g + 1 ∧ (openL s2 (fromG h (g + 1)) h (g + 1)).rs = [] ∧ (openL s2 (fromG h (g + 1)) h (g + 1)).shut = false ∧ (openL s2 (fromG h (g + 1)) h (g + 1)).opening ≤ T + 1 ∧ LogI (openL s2 (fromG h (g + 1)) h (g + 1)) s2 := by
  obtain ⟨f1, f2⟩ := from_le h (g + 1)
  have hfit := H.fit
  obtain ⟨c1, c2, c3⟩ := cleared H
  have hc : contentS s2 = s2.safe := by unfold contentS; rw [hlo]; rfl
  have htop : topP (g + 1) (W.partOf s2.safe (fromG h (g + 1)) h) ≤ T := by rw [hsf]; exact top_le c1
  have hthere : thereL (g + 1) h (W.partOf s2.safe (fromG h (g + 1)) h) 1 1 = [] := by
    rw [hsf]
    exact there_cleared (by omega) (by omega) (fun x hx => (c1 x hx).1) c3
  have hli := open_log hok hlo hd (a := fromG h (g + 1)) (n := h) (g := g + 1) (by rw [hsf, List.length_set]; omega) (by omega) hg (by omega)
  have e : openL s2 (fromG h (g + 1)) h (g + 1) = ⟨fromG h (g + 1), h, g + 1, topP (g + 1) (W.partOf s2.safe (fromG h (g + 1)) h) + 1, [], false⟩ := by unfold openL; rw [hc, hthere]
  rw [hthere] at hli
  rw [e]
  exact ⟨rfl, rfl, rfl, rfl, rfl, by show topP _ _ + 1 ≤ T + 1; omega, hli⟩
/-- A mark is laid behind a whole generation: it is this one then. -/
theorem StOn.begun {h g T O : Nat} {s s3 s5 : PS} {rs : List (Bs × Nat)} {ps qs : List (Bs × Bs)} {L3 : LS} (H : StOn h g T s rs ps) (hg : g + 1 < 2147483648) (hq : SortedP qs) (hqr : RightP qs) (hO : L3.opening = O)
    (hL : LogI L3 s3) (hLs : L3.start = fromG h (g + 1) ∧ L3.size = h ∧ L3.gen = g + 1 ∧ L3.rs = [(wrL (allP qs), O)]) (hl : s3.safe.length = s.safe.length) (ho : ∀ j, j < fromG h (g + 1) ∨ fromG h (g + 1) + h ≤ j → s3.safe[j]? = s.safe[j]?) (hlow : ∀ x ∈ W.partOf s3.safe (fromG h (g + 1)) h, genF x ≤ g + 1)
    (hok5 : s5.Ok) (hlo5 : s5.loose = []) (hd5 : s5.down = false) (hsf : s5.safe = s3.safe.set ((g + 1) % 2) (markB (g + 1))) : StOn h (g + 1) O s5 [(wrL (allP qs), O)] qs := by
  obtain ⟨e1, e2, e3, e4⟩ := hLs
  obtain ⟨f1, f2⟩ := from_le h (g + 1)
  obtain ⟨f3, f4⟩ := from_le h g
  have hfit := H.fit
  have hm2 : (g + 1) % 2 < 2 := Nat.mod_lt _ (by omega)
  have hfr : fromG h (g + 1 + 1) = fromG h g := by unfold fromG; congr 2; omega
  have hsame : ∀ a, 2 ≤ a → W.partOf s5.safe a h = W.partOf s3.safe a h := fun a ha => part_same fun j h1 _ => by rw [hsf, List.getElem?_set_ne (by omega)]
  have hold : W.partOf s5.safe (fromG h g) h = W.partOf s.safe (fromG h g) h := by
    rw [hsame _ f3]
    exact part_same fun j h1 h2 => ho j (by rcases from_apart h g with h3 | h3 <;> omega)
  have hst := hL.st
  have hup := hL.all
  rw [e1, e2, e3, e4] at hst
  rw [e1, e2, e3, hO] at hup
  refine ⟨⟨hok5, hlo5, hd5, by rw [hsf, List.length_set, hl]; omega, by rw [hsame _ f1]; exact hst, by rw [hsame _ f1]; exact hup⟩, by simp, by omega, hg, H.h1, by rw [hsf, List.length_set, hl]; exact hfit, ?_, ?_, ?_, by rw [hsame _ f1]; exact hlow, ?_, ?_, hqr⟩
  · rw [hsf, List.getD_eq_getElem?_getD, List.getElem?_set_self (by omega)]
    exact marks_mark (by omega) (by omega)
  · have hne : (g + 1) % 2 ≠ (g + 1 + 1) % 2 := by omega
    rw [hsf, List.getD_eq_getElem?_getD, List.getElem?_set_ne hne, ho _ (Or.inl (by omega)), ← List.getD_eq_getElem?_getD, show (g + 1 + 1) % 2 = g % 2 by omega, H.mark]
    omega
  · rw [hfr, hold]
    exact fun x hx => ⟨(H.rest.up x hx).1, fun hp => by have h1 := hp.1; have h2 := H.low x hx; omega⟩
  · rw [hfr, hold]
    exact fun x hx => by have := H.low x hx; omega
  · show leadP [] [(wrL (allP qs), O)] = some qs
    simp only [leadP, chs_wr (all_right hqr)]
    rw [all_norm, with_all hq]
end Go.Proofs.YtbjgknoipbekoaaGreat
namespace Go.Proofs.YtbjgknoipbekoaaGreat
/-- A generation begins with these bytes as its first record: the plate behind it, the error, the log. -/
def beginR (s : PS) (h g : Nat) (first : Bs) : PS × Int × LS :=
  if (clearR s h g).2 = 0 then
    if appendE (openL (clearR s h g).1 (fromG h g) h g) (clearR s h g).1 first = 0 then
      ((markR (appendP (openL (clearR s h g).1 (fromG h g) h g) (clearR s h g).1 first) g).1, (markR (appendP (openL (clearR s h g).1 (fromG h g) h g) (clearR s h g).1 first) g).2, appendL (openL (clearR s h g).1 (fromG h g) h g) (clearR s h g).1 first)
    else (appendP (openL (clearR s h g).1 (fromG h g) h g) (clearR s h g).1 first, appendE (openL (clearR s h g).1 (fromG h g) h g) (clearR s h g).1 first, appendL (openL (clearR s h g).1 (fromG h g) h g) (clearR s h g).1 first)
  else ((clearR s h g).1, (clearR s h g).2, openL s (fromG h g) h g)
theorem StOn.mono {h g T T' : Nat} {s : PS} {rs : List (Bs × Nat)} {ps : List (Bs × Bs)} (H : StOn h g T s rs ps) (hT : T ≤ T') : StOn h g T' s rs ps :=
  ⟨⟨H.rest.ok, H.rest.loose, H.rest.down, H.rest.fit, H.rest.st, H.rest.up.mono hT⟩, H.ne, H.g0, H.g1, H.h1, H.fit, H.mark, H.other, H.next.mono hT, H.low, H.lowN, H.lead, H.right⟩
theorem append_left {L : LS} {s : PS} {b : Bs} (h : LogI L s) (hs : L.shut = false) (hb : b.length ≤ 65536) (hr : usedR L.rs + needs b.length ≤ L.size) (hl : s.left < 0 ∨ (needs b.length : Int) + 1 ≤ s.left) : (appendP L s b).left = W.leftBy s.left (needs b.length + 1) ∧ (appendL L s b) = ⟨L.start, L.size, L.gen, L.opening, L.rs ++ [(b, L.opening)], false⟩ := by
  have hlen : (nextS L b).length = needs b.length := rec_len _ _ _ _
  have hfit := h.fit
  have hput : putL L s b = (⟨applyL s.safe (s.loose ++ W.placed (L.start + usedR L.rs) (nextS L b)), [], W.leftBy s.left (needs b.length + 1), false⟩, 0) := by
    unfold putL
    rw [W.put_ok h.down (by rw [hlen]; exact hl) (next_64 L b) (by rw [hlen]; omega), hlen]
  constructor
  · unfold appendP
    rw [hs, hput, if_neg (by decide), if_neg (by omega), if_neg (by omega)]
  · unfold appendL
    rw [hs, hput, if_neg (by decide), if_neg (by omega), if_neg (by omega), if_pos rfl]
theorem LogI.marked {L : LS} {s : PS} (h : LogI L s) {i : Nat} (hi : i < 2) (hL : 2 ≤ L.start) {b : Bs} (hb : b.length = 64) {l : Int} (h1 : -1 ≤ l) (h2 : l ≤ 9223372036854775807) : LogI L ⟨s.safe.set i b, [], l, false⟩ := by
  have hp : W.partOf (s.safe.set i b) L.start L.size = W.partOf s.safe L.start L.size := part_same fun j hj _ => by rw [List.getElem?_set_ne (by omega)]
  exact ⟨set_ok h.ok hb h1 h2, h.gen0, h.gen, by show _ ≤ (s.safe.set i b).length; rw [List.length_set]; exact h.fit, h.op0, h.op, by show Stands _ (W.partOf (s.safe.set i b) _ _) _ _ _; rw [hp]; exact h.st, by show Upto _ _ ((W.partOf (s.safe.set i b) _ _).drop _); rw [hp]; exact h.tail, by show Upto _ _ (W.partOf (s.safe.set i b) _ _); rw [hp]; exact h.all, h.ops, rfl, rfl⟩
/-- The half is cleared: what is behind it. -/
theorem clear_done {h g T : Nat} {s : PS} {rs : List (Bs × Nat)} {ps : List (Bs × Bs)} (H : StOn h g T s rs ps) (hlf : s.left < 0 ∨ 2 ≤ s.left) : clearR s h (g + 1) = (⟨s.safe.set (fromG h (g + 1)) zeros, [], decL (decL s.left), false⟩, 0) := by
  obtain ⟨f1, f2⟩ := from_le h (g + 1)
  have hfit := H.fit
  have hh := H.h1
  obtain ⟨e1, e2, e3⟩ := one_done H.rest.down H.rest.loose (a := fromG h (g + 1)) (b := zeros) (by omega) zeros_len hlf
  unfold clearR
  rw [if_pos e1, e2, e3]
theorem leftBy_dec {l : Int} {n : Nat} (h : l < 0 ∨ (n : Int) ≤ l) (hl : -1 ≤ l) : -1 ≤ W.leftBy l n ∧ W.leftBy l n ≤ max l 0 ∧ (l < 0 → W.leftBy l n < 0) ∧ (0 ≤ l → W.leftBy l n = l - n) := by
  unfold W.leftBy
  split <;> omega
/-- What was written of the first record when the half was cleared. -/
structure Half (h g T : Nat) (s s3 : PS) (qs : List (Bs × Bs)) (O : Nat) (L3 : LS) : Prop where
  li : LogI L3 s3
  start : L3.start = fromG h (g + 1)
  size : L3.size = h
  gen : L3.gen = g + 1
  rs : L3.rs = [(wrL (allP qs), O)]
  op : L3.opening = O
  shut : L3.shut = false
  le : O ≤ T + 1
  len : s3.safe.length = s.safe.length
  out : ∀ j, j < fromG h (g + 1) ∨ fromG h (g + 1) + h ≤ j → s3.safe[j]? = s.safe[j]?
  low : ∀ x ∈ W.partOf s3.safe (fromG h (g + 1)) h, genF x ≤ g + 1
/-- The first record is appended. -/
theorem first_done {h g T : Nat} {s s2 : PS} {rs : List (Bs × Nat)} {ps qs : List (Bs × Bs)} (H : StOn h g T s rs ps) (hg : g + 1 < 2147483648) (hT : T + 1 < 4294967296) (hb : (wrL (allP qs)).length ≤ 65536) (hr : needs (wrL (allP qs)).length ≤ h) (hok : s2.Ok) (hlo : s2.loose = []) (hd : s2.down = false) (hsf : s2.safe = s.safe.set (fromG h (g + 1)) zeros) (hlf : s2.left < 0 ∨ (needs (wrL (allP qs)).length : Int) + 1 ≤ s2.left) :
    appendE (openL s2 (fromG h (g + 1)) h (g + 1)) s2 (wrL (allP qs)) = 0 ∧ ∃ O, Half h g T s (appendP (openL s2 (fromG h (g + 1)) h (g + 1)) s2 (wrL (allP qs))) qs O (appendL (openL s2 (fromG h (g + 1)) h (g + 1)) s2 (wrL (allP qs))) ∧ (appendP (openL s2 (fromG h (g + 1)) h (g + 1)) s2 (wrL (allP qs))).left = W.leftBy s2.left (needs (wrL (allP qs)).length + 1) := by
  obtain ⟨o1, o2, o3, o4, o5, o6, o7⟩ := open_cleared H hg hT hok hlo hd hsf
  obtain ⟨L, hL⟩ : ∃ L, openL s2 (fromG h (g + 1)) h (g + 1) = L := ⟨_, rfl⟩
  rw [hL] at o1 o2 o3 o4 o5 o6 o7 ⊢
  have hr' : usedR L.rs + needs (wrL (allP qs)).length ≤ L.size := by rw [o4, o2]; show 0 + _ ≤ h; omega
  obtain ⟨a1, a2, _, _⟩ := append_ok o7 o5 hb hr' hlf
  obtain ⟨b1, b2⟩ := append_left o7 o5 hb hr' hlf
  obtain ⟨f1, f2⟩ := from_le h (g + 1)
  have hout := fun j (hj : j < L.start ∨ L.start + L.size ≤ j) => ok_outside o7 o5 hb hr' hlf hj
  obtain ⟨_, c2, _⟩ := cleared H
  refine ⟨a1, L.opening, ⟨a2, ?_, ?_, ?_, ?_, ?_, ?_, o6, ?_, fun j hj => ?_, ?_⟩, b1⟩
  · rw [b2]; exact o1
  · rw [b2]; exact o2
  · rw [b2]; exact o3
  · rw [b2, o4]; rfl
  · rw [b2]
  · rw [b2]
  · rw [(hout 0 (Or.inl (by omega))).1, hsf, List.length_set]
  · rw [(hout j (by rw [o1, o2]; exact hj)).2, hsf, List.getElem?_set_ne (by have := H.h1; omega)]
  · refine part_from (sf := s2.safe) (xs := nextS L (wrL (allP qs))) (fun j _ _ x hx => ok_inside o7 o5 hb hr' hlf hx) ?_ fun x hx => by rw [next_gen o7 hb x hx, o3]; exact Nat.le_refl _
    rw [hsf]
    exact c2
end Go.Proofs.YtbjgknoipbekoaaGreat
namespace Go.Proofs.YtbjgknoipbekoaaGreat
theorem rest_ok {s : PS} (h : s.Ok) : (⟨s.safe, [], -1, false⟩ : PS).Ok := ⟨h.few, h.safe, fun x hx => (by cases hx), by show (-1 : Int) ≤ -1; omega, by show (-1 : Int) ≤ _; omega⟩
/-- Behind a mark. -/
theorem Half.done {h g T O : Nat} {s s3 : PS} {rs : List (Bs × Nat)} {ps qs : List (Bs × Bs)} {L3 : LS} (H : StOn h g T s rs ps) (hg : g + 1 < 2147483648) (hq : SortedP qs) (hqr : RightP qs) (hh : Half h g T s s3 qs O L3) {l : Int} (h1 : -1 ≤ l) (h2 : l ≤ 9223372036854775807) :
    StOn h (g + 1) O ⟨s3.safe.set ((g + 1) % 2) (markB (g + 1)), [], l, false⟩ [(wrL (allP qs), O)] qs ∧ LogI L3 ⟨s3.safe.set ((g + 1) % 2) (markB (g + 1)), [], l, false⟩ :=
  ⟨H.begun hg hq hqr hh.op hh.li ⟨hh.start, hh.size, hh.gen, hh.rs⟩ hh.len hh.out hh.low (set_ok hh.li.ok (mark_len _) h1 h2) rfl rfl rfl,
   hh.li.marked (Nat.mod_lt _ (by omega)) (by rw [hh.start]; exact (from_le h (g + 1)).1) (mark_len _) h1 h2⟩
theorem begin_ok {h g T : Nat} {s : PS} {rs : List (Bs × Nat)} {ps qs : List (Bs × Bs)} (H : StOn h g T s rs ps) (hg : g + 1 < 2147483648) (hT : T + 1 < 4294967296) (hq : SortedP qs) (hqr : RightP qs) (hb : (wrL (allP qs)).length ≤ 65536) (hr : needs (wrL (allP qs)).length ≤ h) (hlf : s.left < 0 ∨ (needs (wrL (allP qs)).length : Int) + 5 ≤ s.left) :
    (beginR s h (g + 1) (wrL (allP qs))).2.1 = 0 ∧ ∃ O, O ≤ T + 1 ∧ StOn h (g + 1) O (beginR s h (g + 1) (wrL (allP qs))).1 [(wrL (allP qs), O)] qs ∧ LogI (beginR s h (g + 1) (wrL (allP qs))).2.2 (beginR s h (g + 1) (wrL (allP qs))).1 ∧ (beginR s h (g + 1) (wrL (allP qs))).2.2 = ⟨fromG h (g + 1), h, g + 1, O, [(wrL (allP qs), O)], false⟩ ∧ (s.left < 0 → (beginR s h (g + 1) (wrL (allP qs))).1.left < 0) := by
  have hlo := H.rest.ok.left
  have hmo := H.rest.ok.most
  have hc := clear_done H (by omega)
  obtain ⟨s2, hs2⟩ : ∃ y : PS, ⟨s.safe.set (fromG h (g + 1)) zeros, [], decL (decL s.left), false⟩ = y := ⟨_, rfl⟩
  rw [hs2] at hc
  have hl2 : s2.left = decL (decL s.left) := by rw [← hs2]
  have hd1 : decL (decL s.left) = if s.left < 0 then s.left else s.left - 2 := by unfold decL; split <;> split <;> (try split) <;> omega
  have hok2 : s2.Ok := by rw [← hs2]; exact set_ok H.rest.ok zeros_len (by rw [hd1]; split <;> omega) (by rw [hd1]; split <;> omega)
  have hlf2 : s2.left < 0 ∨ (needs (wrL (allP qs)).length : Int) + 1 ≤ s2.left := by rw [hl2, hd1]; split <;> omega
  obtain ⟨a1, O, hh, hl3⟩ := first_done (qs := qs) H hg hT hb hr hok2 (by rw [← hs2]) (by rw [← hs2]) (by rw [← hs2]) hlf2
  have hpos := needs_pos (wrL (allP qs)).length
  have hlb := leftBy_dec (n := needs (wrL (allP qs)).length + 1) (l := s2.left) (by omega) hok2.left
  have hmo2 := hok2.most
  obtain ⟨s3, hs3⟩ : ∃ y, appendP (openL s2 (fromG h (g + 1)) h (g + 1)) s2 (wrL (allP qs)) = y := ⟨_, rfl⟩
  obtain ⟨L3, hL3⟩ : ∃ y, appendL (openL s2 (fromG h (g + 1)) h (g + 1)) s2 (wrL (allP qs)) = y := ⟨_, rfl⟩
  rw [hs3] at hl3
  rw [hs3, hL3] at hh
  have hlf3 : s3.left < 0 ∨ 2 ≤ s3.left := by
    rw [hl3]
    rcases Int.lt_or_le s2.left 0 with h0 | h0
    · exact Or.inl (hlb.2.2.1 h0)
    · refine Or.inr ?_
      rw [hlb.2.2.2 h0, hl2, hd1]
      rw [hl2, hd1] at h0
      split at h0 <;> split <;> omega
  have hfit := H.fit
  obtain ⟨m1, m2, m3⟩ := one_done hh.li.down hh.li.loose (a := (g + 1) % 2) (b := markB (g + 1)) (by rw [hh.len]; have := H.h1; omega) (mark_len _) hlf3
  have hm : markR s3 (g + 1) = (⟨s3.safe.set ((g + 1) % 2) (markB (g + 1)), [], decL (decL s3.left), false⟩, 0) := by
    unfold markR
    rw [if_pos m1, m2, m3]
  have hR : beginR s h (g + 1) (wrL (allP qs)) = (⟨s3.safe.set ((g + 1) % 2) (markB (g + 1)), [], decL (decL s3.left), false⟩, 0, L3) := by
    unfold beginR
    rw [hc]
    simp only [if_true]
    rw [if_pos a1, hs3, hL3, hm]
  have hd3 : decL (decL s3.left) = if s3.left < 0 then s3.left else s3.left - 2 := by unfold decL; split <;> split <;> (try split) <;> omega
  have hb3 : -1 ≤ decL (decL s3.left) ∧ decL (decL s3.left) ≤ 9223372036854775807 := by rw [hd3]; rw [hl3] at *; split <;> omega
  obtain ⟨d1, d2⟩ := hh.done H hg hq hqr hb3.1 hb3.2
  rw [hR]
  refine ⟨rfl, O, hh.le, d1, d2, ?_, fun h0 => ?_⟩
  · show L3 = _
    have e1 := hh.start
    have e2 := hh.size
    have e3 := hh.gen
    have e4 := hh.rs
    have e5 := hh.op
    have e6 := hh.shut
    cases L3
    simp only at e1 e2 e3 e4 e5 e6
    rw [e1, e2, e3, e4, e5, e6]
  · show decL (decL s3.left) < 0
    have h3 : s3.left < 0 := by rw [hl3]; exact hlb.2.2.1 (by rw [hl2, hd1, if_pos h0]; exact h0)
    rw [hd3, if_pos h3]
    exact h3
end Go.Proofs.YtbjgknoipbekoaaGreat
namespace Go.Proofs.YtbjgknoipbekoaaGreat
end Go.Proofs.YtbjgknoipbekoaaGreat
namespace Go.Proofs.YtbjgknoipbekoaaGreat
end Go.Proofs.YtbjgknoipbekoaaGreat
