/-
  Plain words: a time's value tells the time, and a value's time gives the value.
-/
import Derived.Test.YtcofnockikninaaGreatDoorPF
import Derived.Test.YtcofnockikninaaGreatDoorPE
import Derived.Test.YtcofnockikninaaGreatDoorAnc10
import Derived.Test.YtcofnockikninaaGreatDoorQb
import Derived.Test.YtcofnockikninaaGreatDoorQc
namespace Go.Proofs.YtcofnockikninaaGreatDoor
theorem twos_cons (a : Nat) (l : List Nat) : twos (a :: l) = [dig (a / 10), dig (a % 10)] ++ twos l := rfl
theorem dig_of {c : UInt8} (h : isDig c = true) : dig (c.toNat - 48) = c := by
  have := digit_le h
  apply UInt8.toNat_inj.1
  rw [dig_toNat this.1]
  omega
theorem twos_of : ∀ (n : Nat) (l : Bs), l.length = 2 * n → (∀ i, i < 2 * n → isDig (l.getD i 0) = true) → twos ((List.range n).map fun k => twoAt l (2 * k)) = l
  | 0, l, hl, _ => by rw [List.length_eq_zero_iff.1 hl]; rfl
  | n + 1, [], hl, _ => by simp at hl
  | n + 1, [p], hl, _ => by simp at hl; omega
  | n + 1, p :: q :: r, hl, hd => by
    have hp : isDig p = true := hd 0 (by omega)
    have hq : isDig q = true := hd 1 (by omega)
    have h1 := digit_le hp
    have h2 := digit_le hq
    rw [List.range_succ_eq_map, List.map_cons, List.map_map, twos_cons]
    have e0 : twoAt (p :: q :: r) (2 * 0) = 10 * (p.toNat - 48) + (q.toNat - 48) := rfl
    have e1 : ((fun k => twoAt (p :: q :: r) (2 * k)) ∘ Nat.succ) = fun k => twoAt r (2 * k) := by
      funext k
      exact twoAt_app [p, q] r rfl (2 * k)
    rw [e0, e1, twos_of n r (by simp at hl; omega) (fun i hi => hd (i + 2) (by omega))]
    rw [show (10 * (p.toNat - 48) + (q.toNat - 48)) / 10 = p.toNat - 48 by omega, show (10 * (p.toNat - 48) + (q.toNat - 48)) % 10 = q.toNat - 48 by omega, dig_of hp, dig_of hq]
    rfl
theorem mom_last {y : Nat} (hy : y = 2 ∨ y = 4) {b : Bs} (hz : b.getD (y + 10) 0 = 90) : (momT y b).getD 14 0 = 90 := by
  rcases hy with rfl | rfl
  · unfold momT
    rw [if_pos rfl]
    have e : ∀ a : Bs, a.length = 2 → (a ++ b).getD 14 0 = b.getD 12 0 := fun a ha => by
      simp only [List.getD_eq_getElem?_getD]
      rw [List.getElem?_append_right (by omega), ha]
    rw [e _ (by split <;> rfl)]
    exact hz
  · unfold momT
    rw [if_neg (by omega)]
    exact hz
theorem mom_twos {y : Nat} (hy : y = 2 ∨ y = 4) {b : Bs} (hl : b.length = y + 11) (hd : (b.take (y + 10)).all isDig = true) (hz : b.getD (y + 10) 0 = 90) :
    momT y b = twos [yearK y b / 100, yearK y b % 100, partK y b 1, partK y b 2, partK y b 3, partK y b 4, partK y b 5] ++ [90] := by
  have hM := mom_len hy hl
  have h90 := mom_last hy hz
  have hdg := mom_digits hy hl hd
  have hY : 100 * twoAt (momT y b) (2 * 0) + twoAt (momT y b) (2 * 1) = yearK y b := mom_year hy hl
  have h99 := mom_99 hy hl hd 1 (by omega)
  have a2 : twoAt (momT y b) (2 * 2) = partK y b 1 := mom_part hy hl (k := 1) (by omega) (by omega)
  have a3 : twoAt (momT y b) (2 * 3) = partK y b 2 := mom_part hy hl (k := 2) (by omega) (by omega)
  have a4 : twoAt (momT y b) (2 * 4) = partK y b 3 := mom_part hy hl (k := 3) (by omega) (by omega)
  have a5 : twoAt (momT y b) (2 * 5) = partK y b 4 := mom_part hy hl (k := 4) (by omega) (by omega)
  have a6 : twoAt (momT y b) (2 * 6) = partK y b 5 := mom_part hy hl (k := 5) (by omega) (by omega)
  have a0 : twoAt (momT y b) (2 * 0) = yearK y b / 100 := by omega
  have a1 : twoAt (momT y b) (2 * 1) = yearK y b % 100 := by omega
  rw [← a0, ← a1, ← a2, ← a3, ← a4, ← a5, ← a6]
  obtain ⟨M, eM⟩ : ∃ M, momT y b = M := ⟨_, rfl⟩
  rw [eM] at hM h90 hdg ⊢
  have hgd : ∀ i, i < 14 → (M.take 14).getD i 0 = M.getD i 0 := fun i hi => by
    simp only [List.getD_eq_getElem?_getD]
    rw [List.getElem?_take_of_lt hi]
  have h1 := twos_of 7 (M.take 14) (by rw [List.length_take, hM]; rfl) (fun i hi => by rw [hgd i hi]; exact hdg i hi)
  have e2 : ∀ k, k < 7 → twoAt (M.take 14) (2 * k) = twoAt M (2 * k) := fun k hk => by
    unfold twoAt
    rw [hgd _ (by omega), hgd _ (by omega)]
  have e3 : (List.range 7).map (fun k => twoAt (M.take 14) (2 * k)) = [twoAt M (2 * 0), twoAt M (2 * 1), twoAt M (2 * 2), twoAt M (2 * 3), twoAt M (2 * 4), twoAt M (2 * 5), twoAt M (2 * 6)] := by
    have : List.range 7 = [0, 1, 2, 3, 4, 5, 6] := rfl
    rw [this]
    simp only [List.map_cons, List.map_nil]
    rw [e2 0 (by omega), e2 1 (by omega), e2 2 (by omega), e2 3 (by omega), e2 4 (by omega), e2 5 (by omega), e2 6 (by omega)]
  have e4 : M.drop 14 = [90] := by
    rw [List.drop_eq_getElem_cons (by omega), List.drop_of_length_le (by omega)]
    rw [List.getD_eq_getElem?_getD, List.getElem?_eq_getElem (by omega), Option.getD_some] at h90
    rw [h90]
  rw [← e3, h1, ← e4, List.take_append_drop]
theorem date_of {y m d h mi s : Nat} (hc : calP y m d h mi s = true) (hy : 1970 ≤ y) : DateIs (secondsP y m d h mi s / 86400) y m d ∧ secondsP y m d h mi s % 86400 / 3600 = h ∧ secondsP y m d h mi s % 86400 / 60 % 60 = mi ∧ secondsP y m d h mi s % 86400 % 60 = s := by
  unfold calP at hc
  simp only [Bool.and_eq_true, decide_eq_true_eq] at hc
  obtain ⟨⟨⟨⟨⟨⟨m0, m1⟩, d0⟩, d1⟩, h1⟩, mi1⟩, s1⟩ := hc
  unfold secondsP
  obtain ⟨D, hD⟩ : ∃ D, yearsTo y + monthsTo y m + d - 1 = D := ⟨_, rfl⟩
  rw [hD]
  have e1 : (86400 * D + 3600 * h + 60 * mi + s) / 86400 = D := by omega
  rw [e1]
  exact ⟨⟨hy, m0, m1, d0, d1, by omega⟩, by omega, by omega, by omega⟩
theorem year_two {b : Bs} (hl : b.length = 13) (hd : (b.take 12).all isDig = true) : yearK 2 b < 2050 := by
  have e : partK 2 b 0 = twoAt b 0 := by
    unfold partK atK lenK
    rw [if_pos rfl, if_pos rfl]
    exact digs_two (by omega)
  have h1 := digit_le (all_at hd (i := 0) (by omega) (by omega))
  have h2 := digit_le (all_at hd (i := 1) (by omega) (by omega))
  have h3 : twoAt b 0 ≤ 99 := by unfold twoAt; rw [show 0 + 1 = 1 from rfl]; omega
  unfold yearK
  rw [if_pos rfl, e]
  split <;> omega
/-- The value's time gives the value back. -/
theorem time_back {v V : DV} {n : Nat} (h : timeT v = (n, 0)) (hV : TimeV (n : Int) 0 V) : V = v := by
  unfold timeT at h
  split at h
  · rename_i h1
    obtain ⟨hc, ht, hr⟩ := h1
    obtain ⟨hv, hp⟩ := right_time hr hc ht
    obtain ⟨y, hy⟩ : ∃ y, (if v.tag = 23 then 2 else 4) = y := ⟨_, rfl⟩
    simp only [hy] at h hp
    have hy24 : y = 2 ∨ y = 4 := by rw [← hy]; split <;> omega
    split at h
    · simp at h
    rename_i hn
    obtain ⟨hl, hd, hz, hcal⟩ := time_open hp
    obtain ⟨k1, k2, k3, k4⟩ := date_of hcal (by omega)
    have hT := (Prod.mk.inj h).1
    rw [hT] at k1 k2 k3 k4
    rcases hV with ⟨_, h0, _⟩ | ⟨_, _, _, y', m', d', hd', rfl⟩
    · cases h0
    rw [Int.toNat_natCast] at hd' ⊢
    obtain ⟨ey, em, ed⟩ := hd'.one k1
    have hM := mom_twos hy24 hl hd hz
    unfold timeDV
    rw [k2, k3, k4, ey, em, ed]
    rcases ht with ht | ht
    · have e2 : y = 2 := by rw [← hy, if_pos ht]
      subst e2
      rw [if_pos (year_two hl hd)]
      have hb : v.bytes = twos [yearK 2 v.bytes % 100, partK 2 v.bytes 1, partK 2 v.bytes 2, partK 2 v.bytes 3, partK 2 v.bytes 4, partK 2 v.bytes 5] ++ [90] := by
        rw [twos_cons, List.append_assoc] at hM
        unfold momT at hM
        rw [if_pos rfl] at hM
        exact (List.append_inj hM (by split <;> rfl)).2
      rw [← hb]
      rw [ht] at hv
      exact hv.symm
    · have e4 : y = 4 := by rw [← hy, if_neg (by omega)]
      subst e4
      have h50 : ¬ yearK 4 v.bytes < 2050 := fun hh => hn (Or.inr ⟨ht, hh⟩)
      rw [if_neg h50]
      have hb : v.bytes = twos [yearK 4 v.bytes / 100, yearK 4 v.bytes % 100, partK 4 v.bytes 1, partK 4 v.bytes 2, partK 4 v.bytes 3, partK 4 v.bytes 4, partK 4 v.bytes 5] ++ [90] := by
        unfold momT at hM
        rw [if_neg (by omega)] at hM
        exact hM
      rw [← hb]
      rw [ht] at hv
      exact hv.symm
  · simp at h
/-- A value's time is one of the calendar's first ten thousand years. -/
theorem time_le {v : DV} {n : Nat} (h : timeT v = (n, 0)) : n ≤ 253402300799 := by
  unfold timeT at h
  split at h
  · rename_i h1
    obtain ⟨hc, ht, hr⟩ := h1
    obtain ⟨hv, hp⟩ := right_time hr hc ht
    obtain ⟨y, hy⟩ : ∃ y, (if v.tag = 23 then 2 else 4) = y := ⟨_, rfl⟩
    simp only [hy] at h hp
    have hy24 : y = 2 ∨ y = 4 := by rw [← hy]; split <;> omega
    split at h
    · simp at h
    rename_i hn
    obtain ⟨hl, hd, hz, hcal⟩ := time_open hp
    obtain ⟨k1, k2, k3, k4⟩ := date_of hcal (by omega)
    have hT := (Prod.mk.inj h).1
    rw [hT] at k1
    have a0 := mom_99 hy24 hl hd 0 (by omega)
    have a1 := mom_99 hy24 hl hd 1 (by omega)
    have hY : 100 * twoAt (momT y v.bytes) (2 * 0) + twoAt (momT y v.bytes) (2 * 1) = yearK y v.bytes := mom_year hy24 hl
    have b1 := k1.year.2
    have b2 := yearsTo_mono (a := yearK y v.bytes + 1) (b := 10000) (by omega) (by omega)
    have b3 : yearsTo 10000 = 2932897 := by decide
    omega
  · simp at h
theorem twoAt_twos : ∀ (l : List Nat) (z : Bs) (k : Nat), k < l.length → (∀ x ∈ l, x ≤ 99) → twoAt (twos l ++ z) (2 * k) = l.getD k 0
  | [], _, _, hk, _ => by simp at hk
  | a :: l, z, 0, _, h => by
    have ha := h a List.mem_cons_self
    have e : twoAt (twos (a :: l) ++ z) (2 * 0) = 10 * ((dig (a / 10)).toNat - 48) + ((dig (a % 10)).toNat - 48) := rfl
    rw [e, dig_toNat (by omega), dig_toNat (by omega)]
    simp only [List.getD_cons_zero]
    omega
  | a :: l, z, k + 1, hk, h => by
    rw [twos_cons, List.append_assoc]
    have e := twoAt_app [dig (a / 10), dig (a % 10)] (twos l ++ z) rfl (2 * k)
    have e2 := twoAt_twos l z k (by simpa using hk) (fun x hx => h x (List.mem_cons_of_mem _ hx))
    rw [e2] at e
    exact e
theorem dig_isDig {a : Nat} (h : a ≤ 9) : isDig (dig a) = true := by
  have := dig_toNat h
  simp only [isDig, Bool.and_eq_true, decide_eq_true_eq]
  omega
theorem all_twos : ∀ (l : List Nat), (∀ x ∈ l, x ≤ 99) → (twos l).all isDig = true
  | [], _ => rfl
  | a :: l, h => by
    have ha := h a List.mem_cons_self
    rw [twos_cons, List.all_append, all_twos l (fun x hx => h x (List.mem_cons_of_mem _ hx))]
    simp only [List.all_cons, List.all_nil]
    rw [dig_isDig (by omega), dig_isDig (by omega)]
    rfl
theorem right_leaf {t : Nat} {b : Bs} (ht : t = 23 ∨ t = 24) (hr : rightP t b = true) (hl : b.length = 13 ∨ b.length = 15) : rightV (.mk 0 (t : Int) false b []) = true := by
  have hf : formD 0 t false b = 0 := by
    unfold formD
    rw [if_neg (by simp), if_neg (by rcases ht with rfl | rfl <;> decide), if_neg (by rw [hr]; simp)]
  have hw : writeP formD 17 (.mk 0 (t : Int) false b []) = .yes (tagB 0 t false ++ lenB b.length ++ b) := by
    simp only [writeP, Int.toNat_natCast, Int.toNat_zero, hf, allP]
    rw [if_neg (by omega), if_neg (by omega), if_neg (by simp)]
    have e17 : decide ((t : Int) = 17) = false := by simp; omega
    simp [e17]
  unfold rightV writeTop
  rw [hw]
  have hlen : ¬ 65536 < (tagB 0 t false ++ lenB b.length ++ b).length := by
    rw [List.length_append, List.length_append]
    rcases ht with rfl | rfl <;> rcases hl with hl | hl <;> rw [hl] <;> decide
  simp only [if_neg hlen]
/-- A time's value tells the time. -/
theorem time_there {T : Nat} {V : DV} (h : TimeV (T : Int) 0 V) : timeT V = (T, 0) ∧ weight V ≤ 100 := by
  rcases h with ⟨_, h0, _⟩ | ⟨_, hT, _, y, m, d, hd, rfl⟩
  · cases h0
  rw [Int.toNat_natCast] at *
  have hy := hd.last (by omega)
  have hy0 := hd.y0
  have d31 : d ≤ 31 := Nat.le_trans hd.d1 (daysP_pos y m).2
  have hm1 := hd.m1
  obtain ⟨H, eH⟩ : ∃ H, T % 86400 / 3600 = H := ⟨_, rfl⟩
  obtain ⟨I, eI⟩ : ∃ I, T % 86400 / 60 % 60 = I := ⟨_, rfl⟩
  obtain ⟨S, eS⟩ : ∃ S, T % 86400 % 60 = S := ⟨_, rfl⟩
  have hH : H ≤ 23 := by omega
  have hI : I ≤ 59 := by omega
  have hS : S ≤ 59 := by omega
  have hcal : calP y m d H I S = true := by
    unfold calP
    simp only [Bool.and_eq_true, decide_eq_true_eq]
    exact ⟨⟨⟨⟨⟨⟨hd.m0, hm1⟩, hd.d0⟩, hd.d1⟩, hH⟩, hI⟩, hS⟩
  have hsec : secondsP y m d H I S = T := by
    have := hd.eq
    unfold secondsP
    omega
  unfold timeDV
  rw [eH, eI, eS]
  by_cases h50 : y < 2050
  · rw [if_pos h50]
    have h99 : ∀ x ∈ [y % 100, m, d, H, I, S], x ≤ 99 := by simp; omega
    have ha := all_twos _ h99
    have hlt : (twos [y % 100, m, d, H, I, S]).length = 12 := twos_len _
    have htw := twoAt_twos [y % 100, m, d, H, I, S] [90]
    obtain ⟨b, hb⟩ : ∃ b, twos [y % 100, m, d, H, I, S] ++ [90] = b := ⟨_, rfl⟩
    have hl : b.length = 2 + 11 := by rw [← hb, List.length_append, hlt]; rfl
    have htk : b.take (2 + 10) = twos [y % 100, m, d, H, I, S] := by rw [← hb]; exact List.take_left' hlt
    have hz : b.getD (2 + 10) 0 = 90 := by
      rw [← hb, List.getD_eq_getElem?_getD, List.getElem?_append_right (by omega), hlt]; rfl
    rw [hb] at htw ⊢
    have q1 : partK 2 b 1 = m := (part_two hl (by omega) (by omega)).trans (htw 1 (by simp) h99)
    have q2 : partK 2 b 2 = d := (part_two hl (by omega) (by omega)).trans (htw 2 (by simp) h99)
    have q3 : partK 2 b 3 = H := (part_two hl (by omega) (by omega)).trans (htw 3 (by simp) h99)
    have q4 : partK 2 b 4 = I := (part_two hl (by omega) (by omega)).trans (htw 4 (by simp) h99)
    have q5 : partK 2 b 5 = S := (part_two hl (by omega) (by omega)).trans (htw 5 (by simp) h99)
    have q0 : partK 2 b 0 = y % 100 := by
      have e : partK 2 b 0 = twoAt b 0 := by
        unfold partK atK lenK
        rw [if_pos rfl, if_pos rfl]
        exact digs_two (by omega)
      exact e.trans (htw 0 (by simp) h99)
    have qy : yearK 2 b = y := by
      unfold yearK
      rw [if_pos rfl, q0]
      split <;> omega
    have hr : timeP 2 b = true := by
      unfold timeP
      rw [q1, q2, q3, q4, q5, qy, hcal, htk, ha, hz, hl]
      rfl
    have hR := right_leaf (t := 23) (b := b) (Or.inl rfl) (by simpa [rightP] using hr) (Or.inl hl)
    refine ⟨?_, by simp only [weight, weights]; omega⟩
    unfold timeT
    rw [if_pos ⟨rfl, Or.inl rfl, hR⟩]
    simp only [DV.tag, DV.bytes, if_true]
    rw [q1, q2, q3, q4, q5, qy, hsec, if_neg (by omega)]
  · rw [if_neg h50]
    have h99 : ∀ x ∈ [y / 100, y % 100, m, d, H, I, S], x ≤ 99 := by simp; omega
    have ha := all_twos _ h99
    have hlt : (twos [y / 100, y % 100, m, d, H, I, S]).length = 14 := twos_len _
    have htw := twoAt_twos [y / 100, y % 100, m, d, H, I, S] [90]
    obtain ⟨b, hb⟩ : ∃ b, twos [y / 100, y % 100, m, d, H, I, S] ++ [90] = b := ⟨_, rfl⟩
    have hl : b.length = 4 + 11 := by rw [← hb, List.length_append, hlt]; rfl
    have htk : b.take (4 + 10) = twos [y / 100, y % 100, m, d, H, I, S] := by rw [← hb]; exact List.take_left' hlt
    have hz : b.getD (4 + 10) 0 = 90 := by
      rw [← hb, List.getD_eq_getElem?_getD, List.getElem?_append_right (by omega), hlt]; rfl
    rw [hb] at htw ⊢
    have q1 : partK 4 b 1 = m := (part_two hl (by omega) (by omega)).trans (htw 2 (by simp) h99)
    have q2 : partK 4 b 2 = d := (part_two hl (by omega) (by omega)).trans (htw 3 (by simp) h99)
    have q3 : partK 4 b 3 = H := (part_two hl (by omega) (by omega)).trans (htw 4 (by simp) h99)
    have q4 : partK 4 b 4 = I := (part_two hl (by omega) (by omega)).trans (htw 5 (by simp) h99)
    have q5 : partK 4 b 5 = S := (part_two hl (by omega) (by omega)).trans (htw 6 (by simp) h99)
    have qy : yearK 4 b = y := by
      have c0 : twoAt b 0 = y / 100 := htw 0 (by simp) h99
      have c1 : twoAt b 2 = y % 100 := htw 1 (by simp) h99
      unfold yearK partK atK lenK
      rw [if_neg (by omega), if_pos rfl, if_pos rfl, List.drop_zero, digs_four (by omega), c0, c1]
      omega
    have hr : timeP 4 b = true := by
      unfold timeP
      rw [q1, q2, q3, q4, q5, qy, hcal, htk, ha, hz, hl]
      rfl
    have hR := right_leaf (t := 24) (b := b) (Or.inr rfl) (by simpa [rightP] using hr) (Or.inr hl)
    refine ⟨?_, by simp only [weight, weights]; omega⟩
    unfold timeT
    rw [if_pos ⟨rfl, Or.inr rfl, hR⟩]
    simp only [DV.tag, DV.bytes]
    simp only [show ((24 : Int) = 23) = False by simp, if_false]
    rw [q1, q2, q3, q4, q5, qy, hsec, if_neg (by omega)]
end Go.Proofs.YtcofnockikninaaGreatDoor
/-
  The walk of the statement NameTimes.
-/
namespace Go.Proofs.YtcofnockikninaaGreatDoor
open Go.RowKit
theorem timeV_weight {t : Int} {er : Nat} {V : DV} (h : TimeV t er V) : weight V ≤ 100 := by
  rcases h with ⟨_, _, rfl⟩ | ⟨h0, h1, rfl, h2⟩
  · decide
  · exact (time_there (T := t.toNat) (V := V) (Or.inr ⟨by omega, by omega, rfl, by rw [Int.toNat_natCast]; exact h2⟩)).2
namespace Q
open N K
theorem qtimev_c (w : World) (t : Int) : Calls Tryz.prog 20 #[.int .i64 t] w fun e w' => ∃ (cs : List Value) (er : Nat) (V : DV), e = .returned (.tuple #[.agg cs.toArray, .int .i64 (er : Int)]) ∧ TimeV t er V ∧ ValAt (fun k => w.heap.size ≤ k) w' cs V ∧ Below w.heap.size w w' := by
  by_cases h : t < 0 ∨ 253402300799 < t
  · exact qtimev_bad w t h
  · obtain ⟨T, rfl⟩ : ∃ T : Nat, t = (T : Int) := ⟨t.toNat, by omega⟩
    exact qtimev_ok w T (by omega)
set_option maxRecDepth 100000 in
set_option maxHeartbeats 16000000 in
theorem times_true (w0 : World) (hR : Rdy w0) (cs : List Value) (v : DV) (hv : ValAt (fun _ => True) w0 cs v) (t : Int) (t0 : -9223372036854775808 ≤ t) (t1 : t ≤ 9223372036854775807) :
    Calls Tryz.prog 4 #[.agg cs.toArray, .int .i64 t] w0 fun e w' => e = .returned (.bool true) ∧ Below w0.heap.size w0 w' := by
  obtain ⟨n, hv⟩ := hv
  obtain ⟨s1, c1, s2, c2, rfl⟩ := hv.form
  obtain ⟨kc, hkc⟩ : ∃ kc, v.cls = kc := ⟨_, rfl⟩
  obtain ⟨kt, hkt⟩ : ∃ kt, v.tag = kt := ⟨_, rfl⟩
  obtain ⟨km, hkm⟩ : ∃ km, v.made = km := ⟨_, rfl⟩
  obtain ⟨kl, hkl⟩ : ∃ kl, v.bytes.length = kl := ⟨_, rfl⟩
  obtain ⟨kk, hkk⟩ : ∃ kk, v.kids.length = kk := ⟨_, rfl⟩
  rw [hkc, hkt, hkm, hkl, hkk] at hv ⊢
  have hA := Blk.new (Below.refl w0.heap.size w0) #[.int .i64 kc, .int .i64 kt, .bool km, .slice s1 kl c1, .slice s2 kk c2] 25
  obtain ⟨w1, hw1⟩ : ∃ w1, w0.alloc (.cells #[.int .i64 kc, .int .i64 kt, .bool km, .slice s1 kl c1, .slice s2 kk c2] 25) = w1 := ⟨_, rfl⟩
  obtain ⟨X, eX⟩ : ∃ X, w0.heap.size = X := ⟨_, rfl⟩
  rw [hw1, eX] at hA
  have HA1 := hide hA
  have HV1 := hide (hv.below hA.b)
  have HR1 := hide (hR.below hA.b)
  unfold dcells at HV1 ⊢
  have Hanc := hide (anchor_c w1 (unhide HR1))
  clear hA hv hkc hkt hkm hkl hkk hR
  go_enter Tryz.func4, Tryz.ntmps4
  go_wp2_with fail
  refine (unhide Hanc).mono ?_
  rintro e w2 ⟨rfl, hb⟩
  have HA2 := hide ((unhide HA1).call hb)
  have HV2 := hide ((unhide HV1).below hb)
  have HR2 := hide ((unhide HR1).below hb)
  obtain ⟨k0, k1, k2, k3, k4⟩ := five_at (unhide HA2)
  have Hsp := hide (spent_any _ n v w2 _ 30 2000 (unhide HV2) (by omega) (by omega))
  clear hb hw1 eX Hanc HA1 HV1 HR1
  go_wp2_with fail
  refine (unhide Hsp).mono ?_
  rintro e w3 ⟨r, rfl, r0, r1, r2, hb⟩
  have HA3 := hide ((unhide HA2).call hb)
  have HV3 := hide ((unhide HV2).below hb)
  have HR3 := hide ((unhide HR2).below hb)
  clear k0 k1 k2 k3 k4 Hsp HA2 HV2 HR2 hb
  obtain ⟨k0, k1, k2, k3, k4⟩ := five_at (unhide HA3)
  by_cases hr : r < 0
  · have d1 : decide (r < 0) = true := by simpa using hr
    clear r2
    go_wp2
    go_ret
    exact ⟨rfl, (unhide HA3).b⟩
  have d1 : decide (r < 0) = false := by simp; omega
  have Hw : Hid (weight v ≤ 2000) := by show _ ≤ _; have := r2 (by omega); omega
  obtain ⟨tn, te, hT⟩ : ∃ tn te, timeT v = (tn, te) := ⟨_, _, rfl⟩
  have H5 := hide (time_c w3 _ _ v (unhide HR3).tabs ⟨n, unhide HV3⟩ (by have := unhide Hw; omega))
  rw [hT] at H5
  clear r2
  go_wp2_with fail
  refine (unhide H5).mono ?_
  rintro e w4 ⟨rfl, hb⟩
  have HA4 := hide ((unhide HA3).call hb)
  have HV4 := hide ((unhide HV3).below hb)
  have HR4 := hide ((unhide HR3).below hb)
  clear k0 k1 k2 k3 k4 d1 H5 HA3 HV3 HR3 hb hr r0 r1
  obtain ⟨k0, k1, k2, k3, k4⟩ := five_at (unhide HA4)
  have H6 := hide (plain_any n _ v w4 _ (unhide HV4) (by have := unhide Hw; omega))
  go_wp2_with fail
  refine (unhide H6).mono ?_
  rintro e w5 ⟨ds, rfl, hds, hb⟩
  have HA5 := hide ((unhide HA4).call hb)
  have HV5 := hide ((unhide HV4).below hb)
  have HR5 := hide ((unhide HR4).below hb)
  have H7 := hide (qtime_c w5 n _ ds v hds (by have := unhide Hw; omega))
  rw [hT] at H7
  clear k0 k1 k2 k3 k4 H6 HA4 HV4 HR4 hb hds
  go_wp2_with fail
  refine (unhide H7).mono ?_
  rintro e w6 ⟨rfl, hb⟩
  have HA6 := hide ((unhide HA5).call hb)
  have HV6 := hide ((unhide HV5).below hb)
  have HR6 := hide ((unhide HR5).below hb)
  have H8 := hide (timev_c w6 t t0 t1)
  clear H7 HA5 HV5 HR5 hb
  go_wp2_with fail
  refine (unhide H8).mono ?_
  rintro e w7 ⟨cs7, er, V, rfl, hT7, hv7, hb⟩
  have HA7 := hide ((unhide HA6).call hb)
  have HV7 := hide ((unhide HV6).below hb)
  have HR7 := hide ((unhide HR6).below hb)
  obtain ⟨n7, hv7⟩ := hv7
  obtain ⟨p1, q1, p2, q2, rfl⟩ := hv7.form
  have HB7 := hide hv7
  have HT7 := hide hT7
  obtain ⟨vc, hvc⟩ : ∃ vc, V.cls = vc := ⟨_, rfl⟩
  obtain ⟨vt, hvt⟩ : ∃ vt, V.tag = vt := ⟨_, rfl⟩
  obtain ⟨vm, hvm⟩ : ∃ vm, V.made = vm := ⟨_, rfl⟩
  obtain ⟨vl, hvl⟩ : ∃ vl, V.bytes.length = vl := ⟨_, rfl⟩
  obtain ⟨vk, hvk⟩ : ∃ vk, V.kids.length = vk := ⟨_, rfl⟩
  simp only [hvc, hvt, hvm, hvl, hvk] at HB7 ⊢
  have Hvs : Hid (V.cls = vc ∧ V.tag = vt ∧ V.made = vm ∧ V.bytes.length = vl ∧ V.kids.length = vk) := ⟨hvc, hvt, hvm, hvl, hvk⟩
  clear hvc hvt hvm hvl hvk hT7 hv7 H8 HA6 HV6 HR6
  unfold dcells at HB7 ⊢
  have hY := Blk.new (unhide HA7).b #[.int .i64 vc, .int .i64 vt, .bool vm, .slice p1 vl q1, .slice p2 vk q2] 25
  obtain ⟨w8, hw8⟩ : ∃ w8, w7.alloc (.cells #[.int .i64 vc, .int .i64 vt, .bool vm, .slice p1 vl q1, .slice p2 vk q2] 25) = w8 := ⟨_, rfl⟩
  obtain ⟨Y, eY⟩ : ∃ Y, w7.heap.size = Y := ⟨_, rfl⟩
  have hb : Below w7.heap.size w7 w8 := by rw [← hw8]; exact (Below.refl _ _).alloc (Nat.le_refl _) _
  rw [hw8, eY] at hY
  have HY8 := hide hY
  have HA8 := hide ((unhide HA7).call hb)
  have HV8 := hide ((unhide HV7).below hb)
  have HB8 := hide ((unhide HB7).below hb)
  have HR8 := hide ((unhide HR7).below hb)
  have H9 := hide (qtimev_c w8 t)
  clear hY hb HA7 HV7 HR7 HB7
  go_wp2_with fail
  refine (unhide H9).mono ?_
  rintro e w9 ⟨cs9, er9, V9, rfl, hT9, hv9, hb⟩
  obtain ⟨rfl, rfl⟩ := (unhide HT7).one hT9
  have HA9 := hide ((unhide HA8).call hb)
  have HY9 := hide ((unhide HY8).call hb)
  have HV9 := hide ((unhide HV8).below hb)
  have HB9 := hide ((unhide HB8).below hb)
  have HR9 := hide ((unhide HR8).below hb)
  obtain ⟨n9, hv9⟩ := hv9
  obtain ⟨p3, q3, p4, q4, rfl⟩ := hv9.form
  have HC9 := hide hv9
  simp only [(unhide Hvs).1, (unhide Hvs).2.1, (unhide Hvs).2.2.1, (unhide Hvs).2.2.2.1, (unhide Hvs).2.2.2.2] at HC9 ⊢
  clear hT9 hv9 H9 hw8 eY hb HA8 HV8 HR8 HY8 HB8
  unfold dcells at HC9 ⊢
  have hZ := Blk.new (unhide HA9).b #[.int .i64 vc, .int .i64 vt, .bool vm, .slice p3 vl q3, .slice p4 vk q4] 33
  obtain ⟨w10, hw10⟩ : ∃ w10, w9.alloc (.cells #[.int .i64 vc, .int .i64 vt, .bool vm, .slice p3 vl q3, .slice p4 vk q4] 33) = w10 := ⟨_, rfl⟩
  obtain ⟨Z, eZ⟩ : ∃ Z, w9.heap.size = Z := ⟨_, rfl⟩
  have hb : Below w9.heap.size w9 w10 := by rw [← hw10]; exact (Below.refl _ _).alloc (Nat.le_refl _) _
  rw [hw10, eZ] at hZ
  have HA10 := hide ((unhide HA9).call hb)
  have HY10 := hide ((unhide HY9).call hb)
  have HV10 := hide ((unhide HV9).below hb)
  have HB10 := hide ((unhide HB9).below hb)
  have HC10 := hide ((unhide HC9).below hb)
  have HR10 := hide ((unhide HR9).below hb)
  obtain ⟨z0, z1, z2, z3, z4⟩ := five_at hZ
  obtain ⟨y0, y1, y2, y3, y4⟩ := five_at (unhide HY10)
  have HZ10 := hide hZ
  have HW := hide (timeV_weight (unhide HT7))
  have H11 := hide (dsame_any _ _ n7 n9 V w10 _ _ (unhide HB10) (unhide HC10) (by have := unhide HW; omega))
  clear hZ hb HA9 HV9 HR9 HY9 HB9 HC9
  go_wp2_with fail
  refine (unhide H11).mono ?_
  rintro e w11 ⟨rfl, hb⟩
  have HA11 := hide ((unhide HA10).call hb)
  have HY11 := hide ((unhide HY10).call hb)
  have HV11 := hide ((unhide HV10).below hb)
  have HB11 := hide ((unhide HB10).below hb)
  have HC11 := hide ((unhide HC10).below hb)
  have HR11 := hide ((unhide HR10).below hb)
  clear z0 z1 z2 z3 z4 y0 y1 y2 y3 y4 hw10 eZ H11 hb HA10 HV10 HR10 HY10 HB10 HC10 HZ10
  have HTT := hide hT
  clear hT
  by_cases hte : te = 0
  · subst hte
    have H12 := hide (timev_c w11 (tn : Int) (by omega) (by have := time_le (unhide HTT); omega))
    go_wp2_with fail
    refine (unhide H12).mono ?_
    rintro e w12 ⟨cs12, er12, V12, rfl, hT12, hv12, hb⟩
    have hVv : V12 = v := by
      rcases hT12 with ⟨h1, _⟩ | h1
      · have := time_le (unhide HTT)
        omega
      · exact time_back (unhide HTT) (Or.inr ⟨h1.1, h1.2.1, rfl, h1.2.2.2⟩)
    obtain ⟨n12, hv12⟩ := hv12
    obtain ⟨r1, x1, r2, x2, rfl⟩ := hv12.form
    have HU12 := hide hv12
    rw [hVv] at HU12 ⊢
    obtain ⟨uc, huc⟩ : ∃ uc, v.cls = uc := ⟨_, rfl⟩
    obtain ⟨ut, hut⟩ : ∃ ut, v.tag = ut := ⟨_, rfl⟩
    obtain ⟨um, hum⟩ : ∃ um, v.made = um := ⟨_, rfl⟩
    obtain ⟨ul, hul⟩ : ∃ ul, v.bytes.length = ul := ⟨_, rfl⟩
    obtain ⟨uk, huk⟩ : ∃ uk, v.kids.length = uk := ⟨_, rfl⟩
    simp only [huc, hut, hum, hul, huk] at HU12 ⊢
    have HA12 := hide ((unhide HA11).call hb)
    have HY12 := hide ((unhide HY11).call hb)
    have HV12 := hide ((unhide HV11).below hb)
    have HB12 := hide ((unhide HB11).below hb)
    have HR12 := hide ((unhide HR11).below hb)
    clear huc hut hum hul huk hT12 hv12 hVv H12 HA11 HV11 HR11 HY11 HB11 HC11 hb
    unfold dcells at HU12 ⊢
    have hU := Blk.new (unhide HA12).b #[.int .i64 uc, .int .i64 ut, .bool um, .slice r1 ul x1, .slice r2 uk x2] 25
    obtain ⟨w13, hw13⟩ : ∃ w13, w12.alloc (.cells #[.int .i64 uc, .int .i64 ut, .bool um, .slice r1 ul x1, .slice r2 uk x2] 25) = w13 := ⟨_, rfl⟩
    obtain ⟨U, eU⟩ : ∃ U, w12.heap.size = U := ⟨_, rfl⟩
    have hb : Below w12.heap.size w12 w13 := by rw [← hw13]; exact (Below.refl _ _).alloc (Nat.le_refl _) _
    rw [hw13, eU] at hU
    have HA13 := hide ((unhide HA12).call hb)
    have HY13 := hide ((unhide HY12).call hb)
    have HV13 := hide ((unhide HV12).below hb)
    have HB13 := hide ((unhide HB12).below hb)
    have HU13 := hide ((unhide HU12).below hb)
    have HR13 := hide ((unhide HR12).below hb)
    have HUb := hide hU
    have HL : Hid (∀ w, Below w13.heap.size w13 w → w.cell? ⟨U, 0, none⟩ = some (.int .i64 uc) ∧ w.cell? ⟨U, 1, none⟩ = some (.int .i64 ut) ∧ w.cell? ⟨U, 2, none⟩ = some (.bool um) ∧ w.cell? ⟨U, 3, none⟩ = some (.slice r1 ul x1) ∧ w.cell? ⟨U, 4, none⟩ = some (.slice r2 uk x2)) := fun w hb => five_at ((unhide HUb).call hb)
    have HK : Hid (∀ w, Below w13.heap.size w13 w → w.cell? ⟨X, 0, none⟩ = some (.int .i64 kc) ∧ w.cell? ⟨X, 1, none⟩ = some (.int .i64 kt) ∧ w.cell? ⟨X, 2, none⟩ = some (.bool km) ∧ w.cell? ⟨X, 3, none⟩ = some (.slice s1 kl c1) ∧ w.cell? ⟨X, 4, none⟩ = some (.slice s2 kk c2)) := fun w hb => five_at ((unhide HA13).call hb)
    obtain ⟨a0, a1, a2, a3, a4⟩ := unhide HK w13 (Below.refl _ _)
    obtain ⟨b0, b1, b2, b3, b4⟩ := unhide HL w13 (Below.refl _ _)
    clear hU hb HA12 HV12 HR12 HY12 HB12 HU12
    go_wp2
    clear hw13 eU
    go_region_held3 (fun w' => w'.cell? ⟨X, 0, none⟩ = some (.int .i64 kc) ∧ w'.cell? ⟨X, 1, none⟩ = some (.int .i64 kt) ∧ w'.cell? ⟨X, 2, none⟩ = some (.bool km) ∧ w'.cell? ⟨X, 3, none⟩ = some (.slice s1 kl c1) ∧ w'.cell? ⟨X, 4, none⟩ = some (.slice s2 kk c2) ∧ w'.cell? ⟨U, 0, none⟩ = some (.int .i64 uc) ∧ w'.cell? ⟨U, 1, none⟩ = some (.int .i64 ut) ∧ w'.cell? ⟨U, 2, none⟩ = some (.bool um) ∧ w'.cell? ⟨U, 3, none⟩ = some (.slice r1 ul x1) ∧ w'.cell? ⟨U, 4, none⟩ = some (.slice r2 uk x2)) (go_keep)
      ((first
        | (go_at_call 13
           refine (plain_any n _ v w13.drew (dcells kc kt km (.slice s1 kl c1) (.slice s2 kk c2)) ((unhide HV13).below (Below.refl _ _).drew) (by have := unhide Hw; omega)).mono ?_
           rintro e w14 ⟨ds2, rfl, hv14, hb14⟩
           obtain ⟨u1, u2, u3, u4, rfl⟩ := hv14.form
           have Hv14 := hide hv14
           have Hb14 : Hid (Below w13.heap.size w13 w14) := (Below.refl w13.heap.size w13).drew.trans hb14
           obtain ⟨a0, a1, a2, a3, a4⟩ := unhide HK w14 (unhide Hb14)
           obtain ⟨b0, b1, b2, b3, b4⟩ := unhide HL w14 (unhide Hb14)
           clear hv14 hb14
           unfold dcells)
        | (go_at_call 16
           refine (dsame_any _ _ n12 n v w14 (dcells uc ut um (.slice r1 ul x1) (.slice r2 uk x2)) _ ((unhide HU13).below (unhide Hb14)) (unhide Hv14) (by have := unhide Hw; omega)).mono ?_
           rintro e w16 ⟨rfl, hb16⟩
           have Hb16 := hide ((unhide Hb14).trans (hb16.mono (unhide Hb14).size))
           obtain ⟨a0, a1, a2, a3, a4⟩ := unhide HK w16 (unhide Hb16)
           obtain ⟨b0, b1, b2, b3, b4⟩ := unhide HL w16 (unhide Hb16)
           clear hb16)))
    clear a0 a1 a2 a3 a4 b0 b1 b2 b3 b4
    have hb := unhide Hb16
    have HA16 := hide ((unhide HA13).call hb)
    have HY16 := hide ((unhide HY13).call hb)
    have HB16 := hide ((unhide HB13).below hb)
    have HR16 := hide ((unhide HR13).below hb)
    clear hb HA13 HY13 HB13 HR13 HV13 HL HK HUb HU13 Hb14 Hb16 Hv14
    obtain ⟨y0, y1, y2, y3, y4⟩ := five_at (unhide HY16)
    have H15 := hide (time_c w16 _ _ V (unhide HR16).tabs ⟨n7, unhide HB16⟩ (by have := unhide HW; omega))
    obtain ⟨bn, be, hB⟩ : ∃ bn be, timeT V = (bn, be) := ⟨_, _, rfl⟩
    rw [hB] at H15
    go_wp2_with fail
    refine (unhide H15).mono ?_
    rintro e w15 ⟨rfl, hb⟩
    have HA15 := hide ((unhide HA16).call hb)
    clear hb
    rcases unhide HT7 with ⟨_, her, _⟩ | ⟨h1, h2, her, h3⟩
    · subst her
      clear hB
      go_wp2
      go_ret
      exact ⟨rfl, (unhide HA15).b⟩
    · subst her
      obtain ⟨T, rfl⟩ : ∃ T : Nat, t = (T : Int) := ⟨t.toNat, by omega⟩
      have h4 := (time_there (T := T) (V := V) (unhide HT7)).1
      rw [hB] at h4
      obtain ⟨rfl, rfl⟩ := Prod.mk.inj h4
      clear hB h3 h4
      go_wp2
      go_ret
      exact ⟨rfl, (unhide HA15).b⟩
  · have dte : decide ((te : Int) = 0) = false := by simp; omega
    have dten : decide (te = 0) = false := by simp; omega
    have hte2 : ¬ (te : Int) = 0 := by omega
    obtain ⟨y0, y1, y2, y3, y4⟩ := five_at (unhide HY11)
    have H15 := hide (time_c w11 _ _ V (unhide HR11).tabs ⟨n7, unhide HB11⟩ (by have := unhide HW; omega))
    obtain ⟨bn, be, hB⟩ : ∃ bn be, timeT V = (bn, be) := ⟨_, _, rfl⟩
    rw [hB] at H15
    go_wp2_with fail
    refine (unhide H15).mono ?_
    rintro e w15 ⟨rfl, hb⟩
    have HA15 := hide ((unhide HA11).call hb)
    clear hb
    rcases unhide HT7 with ⟨_, her, _⟩ | ⟨h1, h2, her, h3⟩
    · subst her
      clear hB
      go_wp2
      go_ret
      exact ⟨rfl, (unhide HA15).b⟩
    · subst her
      obtain ⟨T, rfl⟩ : ∃ T : Nat, t = (T : Int) := ⟨t.toNat, by omega⟩
      have h4 := (time_there (T := T) (V := V) (unhide HT7)).1
      rw [hB] at h4
      obtain ⟨rfl, rfl⟩ := Prod.mk.inj h4
      clear hB h3 h4
      go_wp2
      go_ret
      exact ⟨rfl, (unhide HA15).b⟩
end Q
end Go.Proofs.YtcofnockikninaaGreatDoor
