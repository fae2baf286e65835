/-
  Plain words on stores (layer 15): the first generation begins on a plate that has no mark (mkbare15.py wrote this out of Su15 to Sy15).
  Plain words on stores (layer 15): a store in memory on its plate (mkta15.py wrote the two on commits out of St15).
  Plain words on stores (layer 15): Commit and Open as a whole.
  Plain words on stores (layer 15): Open as a whole; lives of a store, one after the other.
  Plain words on stores (layer 15): the reference's store, beside the store in memory.
-/
import Derived.Test.YtbjgknoipbekoaaGreatQ16
namespace Go.Proofs.YtbjgknoipbekoaaGreat
structure BRest (g a n T : Nat) (s : PS) : Prop where
  ok : s.Ok
  loose : s.loose = []
  down : s.down = false
  up : Upto g T (W.partOf s.safe a n)
/-- A plate at rest that has no mark: nothing is there, and g is nought. -/
structure Bare (h g T : Nat) (s : PS) : Prop where
  rest : BRest g (fromG h g) h T s
  zero : g = 0
  h1 : 1 ≤ h
  fit : 2 + 2 * h ≤ s.safe.length
  mark : marksG (s.safe.getD (g % 2) []) = g
  other : marksG (s.safe.getD ((g + 1) % 2) []) = g
  next : Upto (g + 1) T (W.partOf s.safe (fromG h (g + 1)) h)
  low : ∀ x ∈ W.partOf s.safe (fromG h g) h, genF x ≤ g
  lowN : ∀ x ∈ W.partOf s.safe (fromG h (g + 1)) h, genF x ≤ g + 1
theorem Bare.mono {h g T T' : Nat} {s : PS} (H : Bare h g T s) (hT : T ≤ T') : Bare h g T' s :=
  ⟨⟨H.rest.ok, H.rest.loose, H.rest.down, H.rest.up.mono hT⟩, H.zero, H.h1, H.fit, H.mark, H.other, H.next.mono hT, H.low, H.lowN⟩
theorem Bare.beside {h g T T' : Nat} {s s' : PS} (H : Bare h g T s) (hok : s'.Ok) (hlo : s'.loose = []) (hd : s'.down = false) (hT : T ≤ T') (hl : s'.safe.length = s.safe.length) (ho : ∀ j, j < fromG h (g + 1) ∨ fromG h (g + 1) + h ≤ j → s'.safe[j]? = s.safe[j]?) (hup : Upto (g + 1) T' (W.partOf s'.safe (fromG h (g + 1)) h)) (hlow : ∀ x ∈ W.partOf s'.safe (fromG h (g + 1)) h, genF x ≤ g + 1) : Bare h g T' s' := by
  obtain ⟨f1, f2⟩ := from_le h (g + 1)
  have hm : ∀ i, i < 2 → s'.safe.getD i [] = s.safe.getD i [] := fun i hi => by rw [List.getD_eq_getElem?_getD, List.getD_eq_getElem?_getD, ho i (Or.inl (by omega))]
  have hp : W.partOf s'.safe (fromG h g) h = W.partOf s.safe (fromG h g) h := part_same fun j h1 h2 => ho j (by rcases from_apart h g with h3 | h3 <;> omega)
  exact ⟨⟨hok, hlo, hd, by rw [hp]; exact H.rest.up.mono hT⟩, H.zero, H.h1, by rw [hl]; exact H.fit, by rw [hm _ (Nat.mod_lt _ (by omega))]; exact H.mark, by rw [hm _ (Nat.mod_lt _ (by omega))]; exact H.other, hup, by rw [hp]; exact H.low, hlow⟩
/-- A new plate. -/
theorem new_bare {n h : Nat} (hn : 2 + 2 * h ≤ n) (hh : 1 ≤ h) {s : PS} (hok : s.Ok) (hlo : s.loose = []) (hd : s.down = false) (hsf : s.safe = List.replicate n zeros) : Bare h 0 0 s := by
  have key : ∀ a, ∀ x ∈ W.partOf s.safe a h, x = zeros := fun a x hx => by
    unfold W.partOf at hx
    rw [hsf] at hx
    exact (List.mem_replicate.1 (List.mem_of_mem_drop (List.mem_of_mem_take hx))).2
  have hm : ∀ i, i < 2 → marksG (s.safe.getD i []) = 0 := fun i hi => by
    rw [hsf, List.getD_eq_getElem?_getD, List.getElem?_replicate, if_pos (by omega)]
    decide +kernel
  have hup : ∀ g a, 1 ≤ g → Upto g 0 (W.partOf s.safe a h) := fun g a hg x hx => by
    rw [key a x hx]
    exact ⟨zeros_len, fun hp => by have := hp.1; rw [gen_zeros] at this; omega⟩
  refine ⟨⟨hok, hlo, hd, fun x hx => ?_⟩, rfl, hh, by rw [hsf, List.length_replicate]; exact hn, hm 0 (by omega), hm 1 (by omega), hup 1 _ (by omega), fun x hx => ?_, fun x hx => ?_⟩
  · rw [key _ x hx]
    exact ⟨zeros_len, fun _ => by decide +kernel⟩
  · rw [key _ x hx, gen_zeros]; omega
  · rw [key _ x hx, gen_zeros]; omega
/-- The half of the next generation, its first sector bare_cleared. -/
theorem bare_cleared {h g T : Nat} {s : PS} (H : Bare h g T s) : Upto (g + 1) T (W.partOf (s.safe.set (fromG h (g + 1)) zeros) (fromG h (g + 1)) h) ∧ (∀ x ∈ W.partOf (s.safe.set (fromG h (g + 1)) zeros) (fromG h (g + 1)) h, genF x ≤ g + 1) ∧ (W.partOf (s.safe.set (fromG h (g + 1)) zeros) (fromG h (g + 1)) h)[0]? = some zeros := by
  obtain ⟨f1, f2⟩ := from_le h (g + 1)
  have hf := H.fit
  have hh := H.h1
  have key : ∀ j, fromG h (g + 1) ≤ j → j < fromG h (g + 1) + h → ∀ x, (s.safe.set (fromG h (g + 1)) zeros)[j]? = some x → s.safe[j]? = some x ∨ x ∈ [zeros] := fun j _ _ x hx => by
    rw [List.getElem?_set] at hx
    split at hx
    · split at hx
      · exact Or.inr (by rw [← Option.some.inj hx]; exact List.mem_singleton.2 rfl)
      · cases hx
    · exact Or.inl hx
  refine ⟨part_from key H.next fun x hx => ?_, part_from key H.lowN fun x hx => ?_, ?_⟩
  · rw [List.mem_singleton.1 hx]
    refine ⟨zeros_len, fun hp => ?_⟩
    have := hp.1
    rw [gen_zeros] at this
    omega
  · rw [List.mem_singleton.1 hx, gen_zeros]; omega
  · rw [W.partOf_at _ (by omega)]
    exact List.getElem?_set_self (show fromG h (g + 1) < s.safe.length by omega)
/-- The next generation's log, opened on a bare_cleared half. -/
theorem bare_open {h g T : Nat} {s s2 : PS} (H : Bare h g T s) (hg : g + 1 < 2147483648) (hT : T + 1 < 4294967296) (hok : s2.Ok) (hlo : s2.loose = []) (hd : s2.down = false) (hsf : s2.safe = s.safe.set (fromG h (g + 1)) zeros) :
    (openL s2 (fromG h (g + 1)) h (g + 1)).start = fromG h (g + 1) ∧ (openL s2 (fromG h (g + 1)) h (g + 1)).size = h ∧ (openL s2 (fromG h (g + 1)) h (g + 1)).gen = g + 1 ∧ (openL s2 (fromG h (g + 1)) h (g + 1)).rs = [] ∧ (openL s2 (fromG h (g + 1)) h (g + 1)).shut = false ∧ (openL s2 (fromG h (g + 1)) h (g + 1)).opening ≤ T + 1 ∧ LogI (openL s2 (fromG h (g + 1)) h (g + 1)) s2 := by
  obtain ⟨f1, f2⟩ := from_le h (g + 1)
  have hfit := H.fit
  obtain ⟨c1, c2, c3⟩ := bare_cleared H
  have hc : contentS s2 = s2.safe := by unfold contentS; rw [hlo]; rfl
  have htop : topP (g + 1) (W.partOf s2.safe (fromG h (g + 1)) h) ≤ T := by rw [hsf]; exact top_le c1
  have hthere : thereL (g + 1) h (W.partOf s2.safe (fromG h (g + 1)) h) 1 1 = [] := by
    rw [hsf]
    exact there_cleared (by omega) (by omega) (fun x hx => (c1 x hx).1) c3
  have hli := open_log hok hlo hd (a := fromG h (g + 1)) (n := h) (g := g + 1) (by rw [hsf, List.length_set]; omega) (by omega) hg (by omega)
  have e : openL s2 (fromG h (g + 1)) h (g + 1) = ⟨fromG h (g + 1), h, g + 1, topP (g + 1) (W.partOf s2.safe (fromG h (g + 1)) h) + 1, [], false⟩ := by unfold openL; rw [hc, hthere]
  rw [hthere] at hli
  rw [e]
  exact ⟨rfl, rfl, rfl, rfl, rfl, by show topP _ _ + 1 ≤ T + 1; omega, hli⟩
/-- A mark is laid behind a whole generation: it is this one then. -/
theorem Bare.begun {h g T O : Nat} {s s3 s5 : PS} {qs : List (Bs × Bs)} {L3 : LS} (H : Bare h g T s) (hg : g + 1 < 2147483648) (hq : SortedP qs) (hqr : RightP qs) (hO : L3.opening = O)
    (hL : LogI L3 s3) (hLs : L3.start = fromG h (g + 1) ∧ L3.size = h ∧ L3.gen = g + 1 ∧ L3.rs = [(wrL (allP qs), O)]) (hl : s3.safe.length = s.safe.length) (ho : ∀ j, j < fromG h (g + 1) ∨ fromG h (g + 1) + h ≤ j → s3.safe[j]? = s.safe[j]?) (hlow : ∀ x ∈ W.partOf s3.safe (fromG h (g + 1)) h, genF x ≤ g + 1)
    (hok5 : s5.Ok) (hlo5 : s5.loose = []) (hd5 : s5.down = false) (hsf : s5.safe = s3.safe.set ((g + 1) % 2) (markB (g + 1))) : StOn h (g + 1) O s5 [(wrL (allP qs), O)] qs := by
  obtain ⟨e1, e2, e3, e4⟩ := hLs
  obtain ⟨f1, f2⟩ := from_le h (g + 1)
  obtain ⟨f3, f4⟩ := from_le h g
  have hfit := H.fit
  have hm2 : (g + 1) % 2 < 2 := Nat.mod_lt _ (by omega)
  have hfr : fromG h (g + 1 + 1) = fromG h g := by unfold fromG; congr 2; omega
  have hsame : ∀ a, 2 ≤ a → W.partOf s5.safe a h = W.partOf s3.safe a h := fun a ha => part_same fun j h1 _ => by rw [hsf, List.getElem?_set_ne (by omega)]
  have hold : W.partOf s5.safe (fromG h g) h = W.partOf s.safe (fromG h g) h := by
    rw [hsame _ f3]
    exact part_same fun j h1 h2 => ho j (by rcases from_apart h g with h3 | h3 <;> omega)
  have hst := hL.st
  have hup := hL.all
  rw [e1, e2, e3, e4] at hst
  rw [e1, e2, e3, hO] at hup
  refine ⟨⟨hok5, hlo5, hd5, by rw [hsf, List.length_set, hl]; omega, by rw [hsame _ f1]; exact hst, by rw [hsame _ f1]; exact hup⟩, by simp, by omega, hg, H.h1, by rw [hsf, List.length_set, hl]; exact hfit, ?_, ?_, ?_, by rw [hsame _ f1]; exact hlow, ?_, ?_, hqr⟩
  · rw [hsf, List.getD_eq_getElem?_getD, List.getElem?_set_self (by omega)]
    exact marks_mark (by omega) (by omega)
  · have hne : (g + 1) % 2 ≠ (g + 1 + 1) % 2 := by omega
    rw [hsf, List.getD_eq_getElem?_getD, List.getElem?_set_ne hne, ho _ (Or.inl (by omega)), ← List.getD_eq_getElem?_getD, show (g + 1 + 1) % 2 = g % 2 by omega, H.mark]
    omega
  · rw [hfr, hold]
    exact fun x hx => ⟨(H.rest.up x hx).1, fun hp => by have h1 := hp.1; have h2 := H.low x hx; omega⟩
  · rw [hfr, hold]
    exact fun x hx => by have := H.low x hx; omega
  · show leadP [] [(wrL (allP qs), O)] = some qs
    simp only [leadP, chs_wr (all_right hqr)]
    rw [all_norm, with_all hq]
/-- The half is bare_cleared: what is behind it. -/
theorem bare_clear {h g T : Nat} {s : PS} (H : Bare h g T s) (hlf : s.left < 0 ∨ 2 ≤ s.left) : clearR s h (g + 1) = (⟨s.safe.set (fromG h (g + 1)) zeros, [], decL (decL s.left), false⟩, 0) := by
  obtain ⟨f1, f2⟩ := from_le h (g + 1)
  have hfit := H.fit
  have hh := H.h1
  obtain ⟨e1, e2, e3⟩ := one_done H.rest.down H.rest.loose (a := fromG h (g + 1)) (b := zeros) (by omega) zeros_len hlf
  unfold clearR
  rw [if_pos e1, e2, e3]
/-- The first record is appended. -/
theorem bare_first {h g T : Nat} {s s2 : PS} {qs : List (Bs × Bs)} (H : Bare h g T s) (hg : g + 1 < 2147483648) (hT : T + 1 < 4294967296) (hb : (wrL (allP qs)).length ≤ 65536) (hr : needs (wrL (allP qs)).length ≤ h) (hok : s2.Ok) (hlo : s2.loose = []) (hd : s2.down = false) (hsf : s2.safe = s.safe.set (fromG h (g + 1)) zeros) (hlf : s2.left < 0 ∨ (needs (wrL (allP qs)).length : Int) + 1 ≤ s2.left) :
    appendE (openL s2 (fromG h (g + 1)) h (g + 1)) s2 (wrL (allP qs)) = 0 ∧ ∃ O, Half h g T s (appendP (openL s2 (fromG h (g + 1)) h (g + 1)) s2 (wrL (allP qs))) qs O (appendL (openL s2 (fromG h (g + 1)) h (g + 1)) s2 (wrL (allP qs))) ∧ (appendP (openL s2 (fromG h (g + 1)) h (g + 1)) s2 (wrL (allP qs))).left = W.leftBy s2.left (needs (wrL (allP qs)).length + 1) := by
  obtain ⟨o1, o2, o3, o4, o5, o6, o7⟩ := bare_open H hg hT hok hlo hd hsf
  obtain ⟨L, hL⟩ : ∃ L, openL s2 (fromG h (g + 1)) h (g + 1) = L := ⟨_, rfl⟩
  rw [hL] at o1 o2 o3 o4 o5 o6 o7 ⊢
  have hr' : usedR L.rs + needs (wrL (allP qs)).length ≤ L.size := by rw [o4, o2]; show 0 + _ ≤ h; omega
  obtain ⟨a1, a2, _, _⟩ := append_ok o7 o5 hb hr' hlf
  obtain ⟨b1, b2⟩ := append_left o7 o5 hb hr' hlf
  obtain ⟨f1, f2⟩ := from_le h (g + 1)
  have hout := fun j (hj : j < L.start ∨ L.start + L.size ≤ j) => ok_outside o7 o5 hb hr' hlf hj
  obtain ⟨_, c2, _⟩ := bare_cleared H
  refine ⟨a1, L.opening, ⟨a2, ?_, ?_, ?_, ?_, ?_, ?_, o6, ?_, fun j hj => ?_, ?_⟩, b1⟩
  · rw [b2]; exact o1
  · rw [b2]; exact o2
  · rw [b2]; exact o3
  · rw [b2, o4]; rfl
  · rw [b2]
  · rw [b2]
  · rw [(hout 0 (Or.inl (by omega))).1, hsf, List.length_set]
  · rw [(hout j (by rw [o1, o2]; exact hj)).2, hsf, List.getElem?_set_ne (by have := H.h1; omega)]
  · refine part_from (sf := s2.safe) (xs := nextS L (wrL (allP qs))) (fun j _ _ x hx => ok_inside o7 o5 hb hr' hlf hx) ?_ fun x hx => by rw [next_gen o7 hb x hx, o3]; exact Nat.le_refl _
    rw [hsf]
    exact c2
/-- Behind a mark. -/
theorem Half.bdone {h g T O : Nat} {s s3 : PS} {qs : List (Bs × Bs)} {L3 : LS} (H : Bare h g T s) (hg : g + 1 < 2147483648) (hq : SortedP qs) (hqr : RightP qs) (hh : Half h g T s s3 qs O L3) {l : Int} (h1 : -1 ≤ l) (h2 : l ≤ 9223372036854775807) :
    StOn h (g + 1) O ⟨s3.safe.set ((g + 1) % 2) (markB (g + 1)), [], l, false⟩ [(wrL (allP qs), O)] qs ∧ LogI L3 ⟨s3.safe.set ((g + 1) % 2) (markB (g + 1)), [], l, false⟩ :=
  ⟨H.begun hg hq hqr hh.op hh.li ⟨hh.start, hh.size, hh.gen, hh.rs⟩ hh.len hh.out hh.low (set_ok hh.li.ok (mark_len _) h1 h2) rfl rfl rfl,
   hh.li.marked (Nat.mod_lt _ (by omega)) (by rw [hh.start]; exact (from_le h (g + 1)).1) (mark_len _) h1 h2⟩
theorem bare_ok {h g T : Nat} {s : PS} {qs : List (Bs × Bs)} (H : Bare h g T s) (hg : g + 1 < 2147483648) (hT : T + 1 < 4294967296) (hq : SortedP qs) (hqr : RightP qs) (hb : (wrL (allP qs)).length ≤ 65536) (hr : needs (wrL (allP qs)).length ≤ h) (hlf : s.left < 0 ∨ (needs (wrL (allP qs)).length : Int) + 5 ≤ s.left) :
    (beginR s h (g + 1) (wrL (allP qs))).2.1 = 0 ∧ ∃ O, O ≤ T + 1 ∧ StOn h (g + 1) O (beginR s h (g + 1) (wrL (allP qs))).1 [(wrL (allP qs), O)] qs ∧ LogI (beginR s h (g + 1) (wrL (allP qs))).2.2 (beginR s h (g + 1) (wrL (allP qs))).1 ∧ (beginR s h (g + 1) (wrL (allP qs))).2.2 = ⟨fromG h (g + 1), h, g + 1, O, [(wrL (allP qs), O)], false⟩ ∧ (s.left < 0 → (beginR s h (g + 1) (wrL (allP qs))).1.left < 0) := by
  have hlo := H.rest.ok.left
  have hmo := H.rest.ok.most
  have hc := bare_clear H (by omega)
  obtain ⟨s2, hs2⟩ : ∃ y : PS, ⟨s.safe.set (fromG h (g + 1)) zeros, [], decL (decL s.left), false⟩ = y := ⟨_, rfl⟩
  rw [hs2] at hc
  have hl2 : s2.left = decL (decL s.left) := by rw [← hs2]
  have hd1 : decL (decL s.left) = if s.left < 0 then s.left else s.left - 2 := by unfold decL; split <;> split <;> (try split) <;> omega
  have hok2 : s2.Ok := by rw [← hs2]; exact set_ok H.rest.ok zeros_len (by rw [hd1]; split <;> omega) (by rw [hd1]; split <;> omega)
  have hlf2 : s2.left < 0 ∨ (needs (wrL (allP qs)).length : Int) + 1 ≤ s2.left := by rw [hl2, hd1]; split <;> omega
  obtain ⟨a1, O, hh, hl3⟩ := bare_first (qs := qs) H hg hT hb hr hok2 (by rw [← hs2]) (by rw [← hs2]) (by rw [← hs2]) hlf2
  have hpos := needs_pos (wrL (allP qs)).length
  have hlb := leftBy_dec (n := needs (wrL (allP qs)).length + 1) (l := s2.left) (by omega) hok2.left
  have hmo2 := hok2.most
  obtain ⟨s3, hs3⟩ : ∃ y, appendP (openL s2 (fromG h (g + 1)) h (g + 1)) s2 (wrL (allP qs)) = y := ⟨_, rfl⟩
  obtain ⟨L3, hL3⟩ : ∃ y, appendL (openL s2 (fromG h (g + 1)) h (g + 1)) s2 (wrL (allP qs)) = y := ⟨_, rfl⟩
  rw [hs3] at hl3
  rw [hs3, hL3] at hh
  have hlf3 : s3.left < 0 ∨ 2 ≤ s3.left := by
    rw [hl3]
    rcases Int.lt_or_le s2.left 0 with h0 | h0
    · exact Or.inl (hlb.2.2.1 h0)
    · refine Or.inr ?_
      rw [hlb.2.2.2 h0, hl2, hd1]
      rw [hl2, hd1] at h0
      split at h0 <;> split <;> omega
  have hfit := H.fit
  obtain ⟨m1, m2, m3⟩ := one_done hh.li.down hh.li.loose (a := (g + 1) % 2) (b := markB (g + 1)) (by rw [hh.len]; have := H.h1; omega) (mark_len _) hlf3
  have hm : markR s3 (g + 1) = (⟨s3.safe.set ((g + 1) % 2) (markB (g + 1)), [], decL (decL s3.left), false⟩, 0) := by
    unfold markR
    rw [if_pos m1, m2, m3]
  have hR : beginR s h (g + 1) (wrL (allP qs)) = (⟨s3.safe.set ((g + 1) % 2) (markB (g + 1)), [], decL (decL s3.left), false⟩, 0, L3) := by
    unfold beginR
    rw [hc]
    simp only [if_true]
    rw [if_pos a1, hs3, hL3, hm]
  have hd3 : decL (decL s3.left) = if s3.left < 0 then s3.left else s3.left - 2 := by unfold decL; split <;> split <;> (try split) <;> omega
  have hb3 : -1 ≤ decL (decL s3.left) ∧ decL (decL s3.left) ≤ 9223372036854775807 := by rw [hd3]; rw [hl3] at *; split <;> omega
  obtain ⟨d1, d2⟩ := hh.bdone H hg hq hqr hb3.1 hb3.2
  rw [hR]
  refine ⟨rfl, O, hh.le, d1, d2, ?_, fun h0 => ?_⟩
  · show L3 = _
    have e1 := hh.start
    have e2 := hh.size
    have e3 := hh.gen
    have e4 := hh.rs
    have e5 := hh.op
    have e6 := hh.shut
    cases L3
    simp only at e1 e2 e3 e4 e5 e6
    rw [e1, e2, e3, e4, e5, e6]
  · show decL (decL s3.left) < 0
    have h3 : s3.left < 0 := by rw [hl3]; exact hlb.2.2.1 (by rw [hl2, hd1, if_pos h0]; exact h0)
    rw [hd3, if_pos h3]
    exact h3
/-- Cut off while the half is bare_cleared. -/
theorem bare_clearcut {h g T : Nat} {s : PS} (H : Bare h g T s) (hlf : s.left = 0 ∨ s.left = 1) (keep : List Bool) : (clearR s h (g + 1)).2 = 50 ∧ Bare h g T (reviveS (clearR s h (g + 1)).1 keep) := by
  obtain ⟨f1, f2⟩ := from_le h (g + 1)
  have hfit := H.fit
  have hh := H.h1
  obtain ⟨e1, e2⟩ := one_cut H.rest.down H.rest.loose (a := fromG h (g + 1)) (b := zeros) (by omega) zeros_len hlf keep
  refine ⟨e1, ?_⟩
  rcases e2 with e2 | e2
  · rw [show reviveS (clearR s h (g + 1)).1 keep = _ from e2]
    exact H.beside (rest_ok H.rest.ok) rfl rfl (Nat.le_refl _) rfl (fun j _ => rfl) H.next H.lowN
  · rw [show reviveS (clearR s h (g + 1)).1 keep = _ from e2]
    obtain ⟨c1, c2, _⟩ := bare_cleared H
    exact H.beside (set_ok H.rest.ok zeros_len (by omega) (by omega)) rfl rfl (Nat.le_refl _) (List.length_set ..) (fun j hj => List.getElem?_set_ne (by omega)) c1 c2
end Go.Proofs.YtbjgknoipbekoaaGreat
namespace Go.Proofs.YtbjgknoipbekoaaGreat
theorem Rest.mono {g a n T T' : Nat} {s : PS} {rs : List (Bs × Nat)} (h : Rest g a n T s rs) (hT : T ≤ T') : Rest g a n T' s rs := ⟨h.ok, h.loose, h.down, h.fit, h.st, h.up.mono hT⟩
/-- A commit that is appended. -/
theorem StOn.commit' {h g T T' : Nat} {s : PS} {rs : List (Bs × Nat)} {ps : List (Bs × Bs)} {L : LS} {l : List Ch} (H : StOn h g T s rs ps) (hL : LogI L s) (hLs : L.start = fromG h g ∧ L.size = h ∧ L.gen = g ∧ L.rs = rs ∧ L.shut = false ∧ L.opening ≤ T') (hT : T ≤ T') (hl : RightL l) (hb : (wrL l).length ≤ 65536) (hr : usedR rs + needs (wrL l).length ≤ h) (hlf : s.left < 0 ∨ (needs (wrL l).length : Int) + 1 ≤ s.left) :
    appendE L s (wrL l) = 0 ∧ LogI (appendL L s (wrL l)) (appendP L s (wrL l)) ∧ StOn h g T' (appendP L s (wrL l)) (rs ++ [(wrL l, L.opening)]) (withP ps l) ∧ (appendL L s (wrL l)).rs = rs ++ [(wrL l, L.opening)] := by
  obtain ⟨e1, e2, e3, e4, e5, e6⟩ := hLs
  obtain ⟨a1, a2, a3, a4⟩ := append_ok hL e5 hb (by rw [e4, e2]; exact hr) hlf
  have ho := fun j (hj : j < L.start ∨ L.start + L.size ≤ j) => ok_outside hL e5 hb (by rw [e4, e2]; exact hr) hlf hj
  have hform : (appendL L s (wrL l)).start = L.start ∧ (appendL L s (wrL l)).size = L.size ∧ (appendL L s (wrL l)).gen = L.gen ∧ (appendL L s (wrL l)).opening = L.opening := by
    unfold appendL
    split
    · exact ⟨rfl, rfl, rfl, rfl⟩
    · split
      · exact ⟨rfl, rfl, rfl, rfl⟩
      · split
        · exact ⟨rfl, rfl, rfl, rfl⟩
        · split <;> exact ⟨rfl, rfl, rfl, rfl⟩
  obtain ⟨g1, g2, g3, g4⟩ := hform
  have hst := a2.st
  have hup := a2.all
  rw [a3, g1, g2, g3, e1, e2, e3, e4] at hst
  rw [g1, g2, g3, g4, e1, e2, e3] at hup
  have hrest : Rest g (fromG h g) h L.opening (appendP L s (wrL l)) (rs ++ [(wrL l, L.opening)]) := ⟨a2.ok, a2.loose, a2.down, by have := a2.fit; rw [g1, g2, e1, e2] at this; exact this, hst, hup⟩
  have hlead : leadP [] (rs ++ [(wrL l, L.opening)]) = some (withP ps l) := by
    have := lead_snoc (o := L.opening) (chs_wr hl) H.lead
    rw [with_norm] at this
    exact this
  have hlow : ∀ x ∈ W.partOf (appendP L s (wrL l)).safe (fromG h g) h, genF x ≤ g := part_from (xs := nextS L (wrL l)) (fun j _ _ x hx => ok_inside hL e5 hb (by rw [e4, e2]; exact hr) hlf hx) H.low fun x hx => by rw [next_gen hL hb x hx, e3]; exact Nat.le_refl _
  refine ⟨a1, a2, H.turned (hrest.mono e6) hT (by simp) (ho 0 (Or.inl (by have := from_le h g; omega))).1 (fun j hj => (ho j (by rw [e1, e2]; exact hj)).2) hlow hlead (with_right hl H.right), by rw [a3, e4]⟩
/-- A commit that was cut off by a crash: all of it or nothing. -/
theorem StOn.cut' {h g T T' : Nat} {s : PS} {rs : List (Bs × Nat)} {ps : List (Bs × Bs)} {L : LS} {l : List Ch} (H : StOn h g T s rs ps) (hL : LogI L s) (hLs : L.start = fromG h g ∧ L.size = h ∧ L.gen = g ∧ L.rs = rs ∧ L.shut = false ∧ L.opening ≤ T') (hT : T ≤ T') (hl : RightL l) (hb : (wrL l).length ≤ 65536) (hr : usedR rs + needs (wrL l).length ≤ h) {k : Nat} (hlf : s.left = (k : Int)) (hk : k ≤ needs (wrL l).length) (keep : List Bool) :
    appendE L s (wrL l) = 50 ∧ (StOn h g T' (reviveS (appendP L s (wrL l)) keep) rs ps ∨ StOn h g T' (reviveS (appendP L s (wrL l)) keep) (rs ++ [(wrL l, L.opening)]) (withP ps l)) := by
  obtain ⟨e1, e2, e3, e4, e5, e6⟩ := hLs
  obtain ⟨a1, _, _, a4⟩ := cut_rest hL e5 hb (by rw [e4, e2]; exact hr) hlf hk keep
  have ho := fun j (hj : j < L.start ∨ L.start + L.size ≤ j) => cut_outside hL e5 hb (by rw [e4, e2]; exact hr) hlf hk keep hj
  have h0 := (ho 0 (Or.inl (by have := from_le h g; omega))).1
  have h2 := fun j (hj : j < fromG h g ∨ fromG h g + h ≤ j) => (ho j (by rw [e1, e2]; exact hj)).2
  rw [e1, e2, e3, e4] at a4
  have hlow : ∀ x ∈ W.partOf (reviveS (appendP L s (wrL l)) keep).safe (fromG h g) h, genF x ≤ g := part_from (xs := nextS L (wrL l)) (fun j _ _ x hx => cut_inside hL e5 hb (by rw [e4, e2]; exact hr) hlf hk keep hx) H.low fun x hx => by rw [next_gen hL hb x hx, e3]; exact Nat.le_refl _
  refine ⟨a1, ?_⟩
  by_cases hc : k = needs (wrL l).length ∧ WholeK k keep
  · rw [if_pos hc] at a4
    refine Or.inr (H.turned (a4.mono e6) hT (by simp) h0 h2 hlow ?_ (with_right hl H.right))
    have := lead_snoc (o := L.opening) (chs_wr hl) H.lead
    rw [with_norm] at this
    exact this
  · rw [if_neg hc] at a4
    exact Or.inl (H.turned (a4.mono e6) hT H.ne h0 h2 hlow H.lead H.right)
/-- A store in memory: its log L is open on the plate. -/
structure Live (h g T : Nat) (s : PS) (L : LS) (ps : List (Bs × Bs)) : Prop where
  on : StOn h g T s L.rs ps
  li : LogI L s
  start : L.start = fromG h g
  size : L.size = h
  gen : L.gen = g
  shut : L.shut = false
  op : L.opening ≤ T
theorem append_same (L : LS) (s : PS) (b : Bs) : (appendL L s b).start = L.start ∧ (appendL L s b).size = L.size ∧ (appendL L s b).gen = L.gen ∧ (appendL L s b).opening = L.opening := by
  unfold appendL
  split
  · exact ⟨rfl, rfl, rfl, rfl⟩
  · split
    · exact ⟨rfl, rfl, rfl, rfl⟩
    · split
      · exact ⟨rfl, rfl, rfl, rfl⟩
      · split <;> exact ⟨rfl, rfl, rfl, rfl⟩
theorem StOn.arm {h g T : Nat} {s : PS} {rs : List (Bs × Nat)} {ps : List (Bs × Bs)} (H : StOn h g T s rs ps) {k : Int} (hk : k ≤ 9223372036854775807) : StOn h g T (armS s k) rs ps :=
  ⟨⟨H.rest.ok.arm hk, H.rest.loose, H.rest.down, H.rest.fit, H.rest.st, H.rest.up⟩, H.ne, H.g0, H.g1, H.h1, H.fit, H.mark, H.other, H.next, H.low, H.lowN, H.lead, H.right⟩
theorem Bare.arm {h g T : Nat} {s : PS} (H : Bare h g T s) {k : Int} (hk : k ≤ 9223372036854775807) : Bare h g T (armS s k) :=
  ⟨⟨H.rest.ok.arm hk, H.rest.loose, H.rest.down, H.rest.up⟩, H.zero, H.h1, H.fit, H.mark, H.other, H.next, H.low, H.lowN⟩
theorem Live.arm {h g T : Nat} {s : PS} {L : LS} {ps : List (Bs × Bs)} (H : Live h g T s L ps) {k : Int} (hk : k ≤ 9223372036854775807) : Live h g T (armS s k) L ps := ⟨H.on.arm hk, H.li.arm hk, H.start, H.size, H.gen, H.shut, H.op⟩
/-- Opened on a plate where a store stands. -/
theorem StOn.open_ {h g T : Nat} {s : PS} {rs : List (Bs × Nat)} {ps : List (Bs × Bs)} (H : StOn h g T s rs ps) (hT : T + 1 < 4294967296) : Live h g (T + 1) s (openL s (fromG h g) h g) ps ∧ (openL s (fromG h g) h g).rs = rs := by
  obtain ⟨e1, e2, e3⟩ := H.rest.open_ H.g0 H.g1 hT
  exact ⟨⟨by rw [e1]; exact H.mono (by omega), e3, rfl, rfl, rfl, rfl, e2⟩, e1⟩
/-- The greater of the two marks. -/
theorem StOn.marks {h g T : Nat} {s : PS} {rs : List (Bs × Nat)} {ps : List (Bs × Bs)} (H : StOn h g T s rs ps) : max (marksG (s.safe.getD 0 [])) (marksG (s.safe.getD 1 [])) = g := by
  have h1 := H.mark
  have h2 := H.other
  rcases Nat.mod_two_eq_zero_or_one g with e | e
  · rw [e] at h1
    rw [show (g + 1) % 2 = 1 by omega] at h2
    omega
  · rw [e] at h1
    rw [show (g + 1) % 2 = 0 by omega] at h2
    omega
theorem Bare.marks {h g T : Nat} {s : PS} (H : Bare h g T s) : max (marksG (s.safe.getD 0 [])) (marksG (s.safe.getD 1 [])) = 0 := by
  have h1 := H.mark
  have h2 := H.other
  have h3 := H.zero
  subst h3
  rw [show marksG (s.safe.getD 0 []) = 0 from h1, show marksG (s.safe.getD 1 []) = 0 from h2]
  rfl
/-- A commit that fits. -/
theorem Live.commit {h g T : Nat} {s : PS} {L : LS} {ps : List (Bs × Bs)} {l : List Ch} (H : Live h g T s L ps) (hl : RightL l) (hb : (wrL l).length ≤ 65536) (hr : usedR L.rs + needs (wrL l).length ≤ h) (hlf : s.left < 0 ∨ (needs (wrL l).length : Int) + 1 ≤ s.left) : appendE L s (wrL l) = 0 ∧ Live h g T (appendP L s (wrL l)) (appendL L s (wrL l)) (withP ps l) := by
  obtain ⟨a1, a2, a3, a4⟩ := H.on.commit' H.li ⟨H.start, H.size, H.gen, rfl, H.shut, H.op⟩ (Nat.le_refl _) hl hb hr hlf
  obtain ⟨g1, g2, g3, g4⟩ := append_same L s (wrL l)
  obtain ⟨_, b2⟩ := append_left H.li H.shut hb (by rw [H.size]; exact hr) hlf
  exact ⟨a1, ⟨by rw [a4]; exact a3, a2, by rw [g1]; exact H.start, by rw [g2]; exact H.size, by rw [g3]; exact H.gen, by rw [b2], by rw [g4]; exact H.op⟩⟩
/-- A commit that was cut off. -/
theorem Live.cut {h g T : Nat} {s : PS} {L : LS} {ps : List (Bs × Bs)} {l : List Ch} (H : Live h g T s L ps) (hl : RightL l) (hb : (wrL l).length ≤ 65536) (hr : usedR L.rs + needs (wrL l).length ≤ h) {k : Nat} (hlf : s.left = (k : Int)) (hk : k ≤ needs (wrL l).length) (keep : List Bool) :
    appendE L s (wrL l) = 50 ∧ (StOn h g T (reviveS (appendP L s (wrL l)) keep) L.rs ps ∨ StOn h g T (reviveS (appendP L s (wrL l)) keep) (L.rs ++ [(wrL l, L.opening)]) (withP ps l)) :=
  H.on.cut' H.li ⟨H.start, H.size, H.gen, rfl, H.shut, H.op⟩ (Nat.le_refl _) hl hb hr hlf hk keep
/-- The next generation, begun. -/
theorem Live.begin_ {h g T : Nat} {s : PS} {rs : List (Bs × Nat)} {ps qs : List (Bs × Bs)} (H : StOn h g T s rs ps) (hg : g + 1 < 2147483648) (hT : T + 1 < 4294967296) (hq : SortedP qs) (hqr : RightP qs) (hb : (wrL (allP qs)).length ≤ 65536) (hr : needs (wrL (allP qs)).length ≤ h) (hlf : s.left < 0 ∨ (needs (wrL (allP qs)).length : Int) + 5 ≤ s.left) :
    (beginR s h (g + 1) (wrL (allP qs))).2.1 = 0 ∧ Live h (g + 1) (T + 1) (beginR s h (g + 1) (wrL (allP qs))).1 (beginR s h (g + 1) (wrL (allP qs))).2.2 qs := by
  obtain ⟨e1, O, hO, e2, e3, e4, _⟩ := begin_ok H hg hT hq hqr hb hr hlf
  exact ⟨e1, ⟨by rw [e4]; exact e2.mono hO, e3, by rw [e4], by rw [e4], by rw [e4], by rw [e4], by rw [e4]; exact hO⟩⟩
/-- The first generation, begun. -/
theorem Bare.begin_ {h g T : Nat} {s : PS} {qs : List (Bs × Bs)} (H : Bare h g T s) (hg : g + 1 < 2147483648) (hT : T + 1 < 4294967296) (hq : SortedP qs) (hqr : RightP qs) (hb : (wrL (allP qs)).length ≤ 65536) (hr : needs (wrL (allP qs)).length ≤ h) (hlf : s.left < 0 ∨ (needs (wrL (allP qs)).length : Int) + 5 ≤ s.left) :
    (beginR s h (g + 1) (wrL (allP qs))).2.1 = 0 ∧ Live h (g + 1) (T + 1) (beginR s h (g + 1) (wrL (allP qs))).1 (beginR s h (g + 1) (wrL (allP qs))).2.2 qs := by
  obtain ⟨e1, O, hO, e2, e3, e4, _⟩ := bare_ok H hg hT hq hqr hb hr hlf
  exact ⟨e1, ⟨by rw [e4]; exact e2.mono hO, e3, by rw [e4], by rw [e4], by rw [e4], by rw [e4], by rw [e4]; exact hO⟩⟩
end Go.Proofs.YtbjgknoipbekoaaGreat
namespace Go.Proofs.YtbjgknoipbekoaaGreat
/-- A store in memory. -/
structure SS where
  half : Nat
  gen : Nat
  log : LS
  pairs : List (Bs × Bs)
  closed : Bool
/-- These bytes fit behind the log's last record. -/
def FitsL (L : LS) (b : Bs) : Prop := b.length ≤ 65536 ∧ usedR L.rs + needs b.length ≤ L.size
instance (L : LS) (b : Bs) : Decidable (FitsL L b) := by unfold FitsL; exact inferInstance
theorem fits_room {L : LS} {b : Bs} (h : usedR L.rs ≤ L.size) : FitsL L b ↔ (b.length : Int) ≤ roomL L := by
  unfold FitsL roomL needs
  split <;> omega
/-- No next generation with these bytes as its first record. -/
def FullS (S : SS) (first : Bs) : Prop := 65536 < first.length ∨ S.half < needs first.length ∨ S.gen = 2147483647
instance (S : SS) (b : Bs) : Decidable (FullS S b) := by unfold FullS; exact inferInstance
def commitS (S : SS) (s : PS) (l : List Ch) : Int × SS × PS :=
  if S.closed then (61, S, s) else if ¬ RightL l then (30, S, s) else if l = [] then (0, S, s)
  else if FitsL S.log (wrL l) then
    (appendE S.log s (wrL l), if appendE S.log s (wrL l) = 0 then ⟨S.half, S.gen, appendL S.log s (wrL l), withP S.pairs l, false⟩ else ⟨S.half, S.gen, appendL S.log s (wrL l), S.pairs, true⟩, appendP S.log s (wrL l))
  else if FullS S (wrL (allP (withP S.pairs l))) then (52, S, s)
  else ((beginR s S.half (S.gen + 1) (wrL (allP (withP S.pairs l)))).2.1, if (beginR s S.half (S.gen + 1) (wrL (allP (withP S.pairs l)))).2.1 = 0 then ⟨S.half, S.gen + 1, (beginR s S.half (S.gen + 1) (wrL (allP (withP S.pairs l)))).2.2, withP S.pairs l, false⟩ else ⟨S.half, S.gen, S.log, S.pairs, true⟩, (beginR s S.half (S.gen + 1) (wrL (allP (withP S.pairs l)))).1)
/-- A store stands there, of any generation, with these pairs. -/
def Has (h T : Nat) (s : PS) (ps : List (Bs × Bs)) : Prop := ∃ g rs, StOn h g T s rs ps
end Go.Proofs.YtbjgknoipbekoaaGreat
namespace Go.Proofs.YtbjgknoipbekoaaGreat
/-- The greater generation of the two marks. -/
def topM (s : PS) : Nat := max (marksG ((contentS s).getD 0 [])) (marksG ((contentS s).getD 1 []))
def openS (s : PS) (h : Nat) : Int × Option SS × PS :=
  if topM s = 0 then
    ((beginR s h 1 (wrL (allP []))).2.1, if (beginR s h 1 (wrL (allP []))).2.1 = 0 then some ⟨h, 1, (beginR s h 1 (wrL (allP []))).2.2, [], false⟩ else none, (beginR s h 1 (wrL (allP []))).1)
  else if (openL s (fromG h (topM s)) h (topM s)).rs = [] then (53, none, s)
  else match leadP [] (openL s (fromG h (topM s)) h (topM s)).rs with
    | none => (53, none, s)
    | some ps => (0, some ⟨h, topM s, openL s (fromG h (topM s)) h (topM s), ps, false⟩, s)
/-- At rest: a store with these pairs, or nothing yet. -/
def AtRest (h T : Nat) (s : PS) (ps : List (Bs × Bs)) : Prop := Has h T s ps ∨ ps = [] ∧ Bare h 0 T s
theorem Has.mono {h T T' : Nat} {s : PS} {ps : List (Bs × Bs)} (H : Has h T s ps) (hT : T ≤ T') : Has h T' s ps := by
  obtain ⟨g, rs, h1⟩ := H
  exact ⟨g, rs, h1.mono hT⟩
/-- A crash between two calls. -/
theorem Live.crash {h g T : Nat} {s : PS} {L : LS} {ps : List (Bs × Bs)} (H : Live h g T s L ps) (keep : List Bool) : Has h T (reviveS s keep) ps := by
  have hr : reviveS s keep = ⟨s.safe, [], -1, false⟩ := by
    unfold reviveS
    rw [H.on.rest.loose]
    cases keep <;> rfl
  have h1 := H.on
  rw [hr]
  exact ⟨g, L.rs, ⟨⟨rest_ok h1.rest.ok, rfl, rfl, h1.rest.fit, h1.rest.st, h1.rest.up⟩, h1.ne, h1.g0, h1.g1, h1.h1, h1.fit, h1.mark, h1.other, h1.next, h1.low, h1.lowN, h1.lead, h1.right⟩⟩
end Go.Proofs.YtbjgknoipbekoaaGreat
namespace Go.Proofs.YtbjgknoipbekoaaGreat
/-- The reference's store. -/
structure RS where
  half : Nat
  gen : Nat
  used : Nat
  pairs : List (Bs × Bs)
/-- What the reference answers to a Commit. -/
def refC (r : RS) (l : List Ch) : RS × Int :=
  if ¬ RightL l then (r, 30) else if l = [] then (r, 0)
  else if (wrL l).length ≤ 65536 ∧ r.used + needs (wrL l).length ≤ r.half then (⟨r.half, r.gen, r.used + needs (wrL l).length, withP r.pairs l⟩, 0)
  else if 65536 < (wrL (allP (withP r.pairs l))).length ∨ r.half < needs (wrL (allP (withP r.pairs l))).length then (r, 52)
  else (⟨r.half, r.gen + 1, needs (wrL (allP (withP r.pairs l))).length, withP r.pairs l⟩, 0)
/-- A store in memory, on its plate that is not armed, and the reference's. -/
structure Beside (T : Nat) (s : PS) (S : SS) (r : RS) : Prop where
  live : Live S.half S.gen T s S.log S.pairs
  left : s.left < 0
  open_ : S.closed = false
  half : r.half = S.half
  gen : r.gen = S.gen
  used : r.used = usedR S.log.rs
  pairs : r.pairs = S.pairs
theorem used_snoc15 (b : Bs) (o : Nat) : ∀ rs : List (Bs × Nat), usedR (rs ++ [(b, o)]) = usedR rs + needs b.length
  | [] => by simp [usedR]
  | x :: rs => by
    rw [List.cons_append]
    unfold usedR
    rw [used_snoc15 b o rs]
    omega
theorem begin_left {h g T : Nat} {s : PS} {rs : List (Bs × Nat)} {ps qs : List (Bs × Bs)} (H : StOn h g T s rs ps) (hg : g + 1 < 2147483648) (hT : T + 1 < 4294967296) (hq : SortedP qs) (hqr : RightP qs) (hb : (wrL (allP qs)).length ≤ 65536) (hr : needs (wrL (allP qs)).length ≤ h) (hlf : s.left < 0) :
    (beginR s h (g + 1) (wrL (allP qs))).1.left < 0 ∧ usedR (beginR s h (g + 1) (wrL (allP qs))).2.2.rs = needs (wrL (allP qs)).length := by
  obtain ⟨_, O, _, _, _, e4, e5⟩ := begin_ok H hg hT hq hqr hb hr (Or.inl hlf)
  refine ⟨e5 hlf, ?_⟩
  rw [e4]
  exact (used_snoc15 _ _ []).trans (Nat.zero_add _)
/-- A Commit without a crash answers as the reference, and they are side by side behind it. -/
theorem Beside.commit {T : Nat} {s : PS} {S : SS} {r : RS} (H : Beside T s S r) (hT : T + 1 < 4294967296) (hg : S.gen < 2147483647) (l : List Ch) :
    (commitS S s l).1 = (refC r l).2 ∧ Beside (T + 1) (commitS S s l).2.2 (commitS S s l).2.1 (refC r l).1 := by
  have hL := H.live
  have hm : Beside (T + 1) s S r := ⟨⟨hL.on.mono (by omega), hL.li, hL.start, hL.size, hL.gen, hL.shut, by have := hL.op; omega⟩, H.left, H.open_, H.half, H.gen, H.used, H.pairs⟩
  unfold commitS refC
  rw [H.open_, if_neg (by decide), H.half, H.used, H.pairs, H.gen]
  by_cases hl : RightL l
  · have hn : ¬ ¬ RightL l := fun h => h hl
    rw [if_neg hn, if_neg hn]
    by_cases hne : l = []
    · rw [if_pos hne, if_pos hne]
      exact ⟨rfl, hm⟩
    · rw [if_neg hne, if_neg hne]
      by_cases hf : FitsL S.log (wrL l)
      · have hf' : (wrL l).length ≤ 65536 ∧ usedR S.log.rs + needs (wrL l).length ≤ S.half := by
          have h1 := hf
          unfold FitsL at h1
          rw [hL.size] at h1
          exact h1
        rw [if_pos hf, if_pos hf']
        obtain ⟨a1, a2⟩ := hL.commit hl hf'.1 hf'.2 (Or.inl H.left)
        obtain ⟨b1, b2⟩ := append_left hL.li hL.shut hf'.1 (by rw [hL.size]; exact hf'.2) (Or.inl H.left)
        rw [a1, if_pos rfl]
        refine ⟨rfl, ⟨⟨a2.on.mono (by omega), a2.li, a2.start, a2.size, a2.gen, a2.shut, by have := a2.op; show (appendL S.log s (wrL l)).opening ≤ T + 1; omega⟩, ?_, rfl, rfl, rfl, ?_, rfl⟩⟩
        · show (appendP S.log s (wrL l)).left < 0
          rw [b1]
          exact (leftBy_dec (Or.inl H.left) hL.on.rest.ok.left).2.2.1 H.left
        · show usedR S.log.rs + needs (wrL l).length = usedR (appendL S.log s (wrL l)).rs
          rw [b2]
          exact (used_snoc15 _ _ _).symm
      · have hf' : ¬ ((wrL l).length ≤ 65536 ∧ usedR S.log.rs + needs (wrL l).length ≤ S.half) := by
          have h1 := hf
          unfold FitsL at h1
          rw [hL.size] at h1
          exact h1
        rw [if_neg hf, if_neg hf']
        by_cases hF : FullS S (wrL (allP (withP S.pairs l)))
        · have hF' : 65536 < (wrL (allP (withP S.pairs l))).length ∨ S.half < needs (wrL (allP (withP S.pairs l))).length := by
            have h1 := hF
            unfold FullS at h1
            omega
          rw [if_pos hF, if_pos hF']
          exact ⟨rfl, hm⟩
        · have hF' : ¬ (65536 < (wrL (allP (withP S.pairs l))).length ∨ S.half < needs (wrL (allP (withP S.pairs l))).length) := fun h1 => hF (by unfold FullS; omega)
          rw [if_neg hF, if_neg hF']
          have hq : SortedP (withP S.pairs l) := with_sorted _ _ hL.on.sorted
          have hqr : RightP (withP S.pairs l) := with_right hl hL.on.right
          obtain ⟨a1, a2⟩ := Live.begin_ hL.on (by omega) hT hq hqr (by omega) (by omega) (Or.inl H.left)
          obtain ⟨b1, b2⟩ := begin_left hL.on (by omega) hT hq hqr (by omega) (by omega) H.left
          rw [a1, if_pos rfl]
          exact ⟨rfl, ⟨a2, b1, rfl, rfl, rfl, b2.symm, rfl⟩⟩
  · rw [if_pos hl, if_pos hl]
    exact ⟨rfl, hm⟩
end Go.Proofs.YtbjgknoipbekoaaGreat
