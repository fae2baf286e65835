/-
  The walk of the statement NameClock.
-/
import Derived.Test.YtcofnockikninaaGreatDoorAnc10
import Derived.Test.YtcofnockikninaaGreatDoorPE
namespace Go.Proofs.YtcofnockikninaaGreatDoor
open Go.RowKit
theorem less_cons (p q : UInt8) (l m : Bs) : Op.bytesLess (p :: l) (q :: m) = (decide (p < q) || p == q && Op.bytesLess l m) := by simp only [Op.bytesLess]
theorem dig_lt {a b : Nat} (ha : a ≤ 9) (hb : b ≤ 9) : (dig a < dig b) ↔ a < b := by
  show (dig a).toNat < (dig b).toNat ↔ _
  rw [dig_toNat ha, dig_toNat hb]
  omega
theorem dig_eq {a b : Nat} (ha : a ≤ 9) (hb : b ≤ 9) : (dig a = dig b) ↔ a = b := by
  constructor
  · intro h
    have := congrArg UInt8.toNat h
    rw [dig_toNat ha, dig_toNat hb] at this
    omega
  · intro h; rw [h]
theorem less_same (a : Nat) (l m : Bs) : Op.bytesLess ([dig (a / 10), dig (a % 10)] ++ l) ([dig (a / 10), dig (a % 10)] ++ m) = Op.bytesLess l m := by
  simp only [List.cons_append, List.nil_append, less_cons]
  have e1 : decide (dig (a / 10) < dig (a / 10)) = false := by simp
  have e2 : decide (dig (a % 10) < dig (a % 10)) = false := by simp
  rw [e1, e2]
  simp
theorem less_first {a b : Nat} (ha : a ≤ 99) (hb : b ≤ 99) (h : a < b) (l m : Bs) : Op.bytesLess ([dig (a / 10), dig (a % 10)] ++ l) ([dig (b / 10), dig (b % 10)] ++ m) = true := by
  simp only [List.cons_append, List.nil_append, less_cons]
  by_cases h1 : a / 10 < b / 10
  · rw [decide_eq_true ((dig_lt (by omega) (by omega)).2 h1)]
    rfl
  · have e : a / 10 = b / 10 := by omega
    have h2 : a % 10 < b % 10 := by omega
    rw [e, decide_eq_true ((dig_lt (by omega) (by omega)).2 h2)]
    simp
/-- The lists of numbers, the one ahead of the other. -/
def lexN : List Nat → List Nat → Prop
  | a :: l, b :: m => a < b ∨ (a = b ∧ lexN l m)
  | _, _ => False
theorem less_twos : ∀ (l m : List Nat) (z : Bs), (∀ x ∈ l, x ≤ 99) → (∀ x ∈ m, x ≤ 99) → lexN l m → Op.bytesLess (twos l ++ z) (twos m ++ z) = true
  | a :: l, b :: m, z, hl, hm, h => by
    have e1 : twos (a :: l) = [dig (a / 10), dig (a % 10)] ++ twos l := rfl
    have e2 : twos (b :: m) = [dig (b / 10), dig (b % 10)] ++ twos m := rfl
    rw [e1, e2, List.append_assoc, List.append_assoc]
    rcases h with h | ⟨rfl, h⟩
    · exact less_first (hl a List.mem_cons_self) (hm b List.mem_cons_self) h _ _
    · rw [less_same]
      exact less_twos l m z (fun x hx => hl x (List.mem_cons_of_mem _ hx)) (fun x hx => hm x (List.mem_cons_of_mem _ hx)) h
  | [], _, _, _, _, h => h.elim
  | _ :: _, [], _, _, _, h => h.elim
theorem date_lex {n n' y m d y' m' d' : Nat} (h : DateIs n y m d) (h' : DateIs n' y' m' d') (hn : n < n') : y < y' ∨ (y = y' ∧ (m < m' ∨ (m = m' ∧ d < d'))) := by
  have e := h.eq; have e' := h'.eq
  rcases Nat.lt_trichotomy y y' with hy | hy | hy
  · exact Or.inl hy
  · subst hy
    refine Or.inr ⟨rfl, ?_⟩
    rcases Nat.lt_trichotomy m m' with hm | hm | hm
    · exact Or.inl hm
    · subst hm
      exact Or.inr ⟨rfl, by omega⟩
    · have := monthsTo_mono (y := y) (a := m' + 1) (b := m) (by omega) (by omega)
      rw [monthsTo_succ y m' h'.m0] at this
      have := h'.d1
      have := h.d0
      omega
  · have h1 := h'.year.2
    have h2 := h.year.1
    have := yearsTo_mono (a := y' + 1) (b := y) (by have := h'.y0; omega) (by omega)
    omega
theorem date_years {n y m d : Nat} (h : DateIs n y m d) (h0 : 10957 ≤ n) (h1 : n ≤ 29219) : 2000 ≤ y ∧ y ≤ 2049 := by
  have a := h.year.1; have b := h.year.2
  have e1 : yearsTo 2000 = 10957 := by decide
  have e2 : yearsTo 2050 = 29220 := by decide
  constructor
  · rcases Nat.lt_or_ge y 2000 with hy | hy
    · have := yearsTo_mono (a := y + 1) (b := 2000) (by have := h.y0; omega) (by omega)
      omega
    · exact hy
  · rcases Nat.lt_or_ge 2049 y with hy | hy
    · have := yearsTo_mono (a := 2050) (b := y) (by omega) (by omega)
      omega
    · exact hy
/-- Of two times of this half century the later one's bytes are above. -/
theorem clock_less {T T' y m d y' m' d' : Nat} (h : DateIs (T / 86400) y m d) (h' : DateIs (T' / 86400) y' m' d') (h0 : 946684800 ≤ T) (hT : T < T') (h1 : T' ≤ 2524607999) :
    ∃ b b' : Bs, timeDV T y m d = .mk 0 23 false b [] ∧ timeDV T' y' m' d' = .mk 0 23 false b' [] ∧ Op.bytesLess b b' = true := by
  have hy := date_years h (by omega) (by omega)
  have hy' := date_years h' (by omega) (by omega)
  have d31 : d ≤ 31 := Nat.le_trans h.d1 (daysP_pos y m).2
  have d31' : d' ≤ 31 := Nat.le_trans h'.d1 (daysP_pos y' m').2
  refine ⟨_, _, by unfold timeDV; rw [if_pos (by omega)], by unfold timeDV; rw [if_pos (by omega)], ?_⟩
  refine less_twos _ _ _ ?_ ?_ ?_
  · have := h.m1; simp; omega
  · have := h'.m1; simp; omega
  · simp only [lexN]
    rcases Nat.lt_or_ge (T / 86400) (T' / 86400) with hn | hn
    · rcases date_lex h h' hn with k | ⟨rfl, k | ⟨rfl, k⟩⟩
      · left; omega
      · right; exact ⟨rfl, Or.inl k⟩
      · right; exact ⟨rfl, Or.inr ⟨rfl, Or.inl k⟩⟩
    · have e : T / 86400 = T' / 86400 := by omega
      rw [e] at h
      obtain ⟨rfl, rfl, rfl⟩ := h.one h'
      refine Or.inr ⟨rfl, Or.inr ⟨rfl, Or.inr ⟨rfl, ?_⟩⟩⟩
      omega
namespace N
open K
set_option maxRecDepth 100000 in
set_option maxHeartbeats 8000000 in
theorem clock_true (w0 : World) (hR : Rdy w0) (t more : Int) (t0 : -9223372036854775808 ≤ t) (t1 : t ≤ 9223372036854775807) (m0 : -9223372036854775808 ≤ more) (m1 : more ≤ 9223372036854775807) :
    Calls Tryz.prog 5 #[.int .i64 t, .int .i64 more] w0 fun e w' => e = .returned (.bool true) ∧ Below w0.heap.size w0 w' := by
  have Hanc := hide (anchor_c w0 hR)
  by_cases hg : t < 946684800 ∨ more < 1 ∨ 1073741824 < more ∨ 2524607999 - more < t
  · clear hR
    by_cases a1 : t < 946684800
    · have z1 : decide (t < 946684800) = true := by simpa using a1
      go_enter Tryz.func5, Tryz.ntmps5
      go_wp2_with fail
      refine (unhide Hanc).mono ?_
      rintro e w1 ⟨rfl, hb⟩
      have HB := hide hb
      clear hb
      go_wp2
      go_ret
      exact ⟨rfl, unhide HB⟩
    have z1 : decide (t < 946684800) = false := by simp; omega
    by_cases a2 : more < 1
    · have z2 : decide (more < 1) = true := by simpa using a2
      go_enter Tryz.func5, Tryz.ntmps5
      go_wp2_with fail
      refine (unhide Hanc).mono ?_
      rintro e w1 ⟨rfl, hb⟩
      have HB := hide hb
      clear hb
      go_wp2
      go_ret
      exact ⟨rfl, unhide HB⟩
    have z2 : decide (more < 1) = false := by simp; omega
    by_cases a3 : 1073741824 < more
    · have z3 : decide (1073741824 < more) = true := by simpa using a3
      go_enter Tryz.func5, Tryz.ntmps5
      go_wp2_with fail
      refine (unhide Hanc).mono ?_
      rintro e w1 ⟨rfl, hb⟩
      have HB := hide hb
      clear hb
      go_wp2
      go_ret
      exact ⟨rfl, unhide HB⟩
    have z3 : decide (1073741824 < more) = false := by simp; omega
    have z4 : decide (2524607999 - more < t) = true := by simp; omega
    go_enter Tryz.func5, Tryz.ntmps5
    go_wp2_with fail
    refine (unhide Hanc).mono ?_
    rintro e w1 ⟨rfl, hb⟩
    have HB := hide hb
    clear hb
    go_wp2
    go_ret
    exact ⟨rfl, unhide HB⟩
  obtain ⟨T, rfl⟩ : ∃ T : Nat, t = (T : Int) := ⟨t.toNat, by omega⟩
  obtain ⟨M, rfl⟩ : ∃ M : Nat, more = (M : Int) := ⟨more.toNat, by omega⟩
  obtain ⟨Z, hZ⟩ : ∃ Z, T + M = Z := ⟨_, rfl⟩
  have eZ : (T : Int) + (M : Int) = (Z : Int) := by omega
  have z1 : decide ((T : Int) < 946684800) = false := by simp; omega
  have z1n : decide (T < 946684800) = false := by simp; omega
  have z2 : decide ((M : Int) < 1) = false := by simp; omega
  have z2n : decide (M < 1) = false := by simp; omega
  have z3 : decide ((1073741824 : Int) < (M : Int)) = false := by simp; omega
  have z3n : decide (1073741824 < M) = false := by simp; omega
  obtain ⟨Y, hY⟩ : ∃ Y, 2524607999 - M = Y := ⟨_, rfl⟩
  have eY : (2524607999 : Int) - (M : Int) = (Y : Int) := by omega
  have z4 : decide ((Y : Int) < (T : Int)) = false := by simp; omega
  have z4n : decide (Y < T) = false := by simp; omega
  have hT0 : 946684800 ≤ T := by omega
  have hTZ : T < Z := by omega
  have hZ1 : Z ≤ 2524607999 := by omega
  have HR := hide hR
  have H1 : Hid (∀ wr : World, Calls Tryz.prog 19 #[.int .i64 (T : Int)] wr fun e w' => ∃ (cs : List Value) (er : Nat) (V : DV), e = .returned (.tuple #[.agg cs.toArray, .int .i64 (er : Int)]) ∧ TimeV (T : Int) er V ∧ ValAt (fun k => wr.heap.size ≤ k) w' cs V ∧ Below wr.heap.size wr w') := fun wr => timev_c wr T (by omega) (by omega)
  have H2 : Hid (∀ wr : World, Calls Tryz.prog 19 #[.int .i64 (Z : Int)] wr fun e w' => ∃ (cs : List Value) (er : Nat) (V : DV), e = .returned (.tuple #[.agg cs.toArray, .int .i64 (er : Int)]) ∧ TimeV (Z : Int) er V ∧ ValAt (fun k => wr.heap.size ≤ k) w' cs V ∧ Below wr.heap.size wr w') := fun wr => timev_c wr Z (by omega) (by omega)
  have HK : Hid (∀ er V er' V', TimeV (T : Int) er V → TimeV (Z : Int) er' V' → ∃ b b' : Bs, V = .mk 0 23 false b [] ∧ V' = .mk 0 23 false b' [] ∧ Op.bytesLess b b' = true) := fun er V er' V' h h' => by
    rcases h with ⟨h, _⟩ | ⟨_, _, _, y, m, d, hd, rfl⟩
    · omega
    rcases h' with ⟨h', _⟩ | ⟨_, _, _, y', m', d', hd', rfl⟩
    · omega
    rw [Int.toNat_natCast] at *
    exact clock_less hd hd' hT0 hTZ hZ1
  clear hg hZ hY hR t0 m0 t1 m1
  go_enter Tryz.func5, Tryz.ntmps5
  go_wp2_with fail
  refine (unhide Hanc).mono ?_
  rintro e w1 ⟨rfl, hb⟩
  have HB1 := hide hb
  clear hb Hanc
  go_wp2_with fail
  refine (unhide H1 w1).mono ?_
  rintro e w2 ⟨cs, er, V, rfl, hV, hval, hb⟩
  have HB2 := hide ((unhide HB1).trans (hb.mono (unhide HB1).size))
  have HV := hide hV
  obtain ⟨nn, hval⟩ := hval
  obtain ⟨p1, q1, p2, q2, rfl⟩ := hval.form
  have Hval := hide hval
  obtain ⟨vc, hvc⟩ : ∃ vc, V.cls = vc := ⟨_, rfl⟩
  obtain ⟨vt, hvt⟩ : ∃ vt, V.tag = vt := ⟨_, rfl⟩
  obtain ⟨vm, hvm⟩ : ∃ vm, V.made = vm := ⟨_, rfl⟩
  obtain ⟨vl, hvl⟩ : ∃ vl, V.bytes.length = vl := ⟨_, rfl⟩
  obtain ⟨vk, hvk⟩ : ∃ vk, V.kids.length = vk := ⟨_, rfl⟩
  simp only [hvc, hvt, hvm, hvl, hvk] at Hval ⊢
  have Hvt := hide hvt
  clear hvc hvm hvl hvk hvt hV hval hb HB1 H1
  unfold dcells
  have hA := Blk.new (unhide HB2) #[.int .i64 vc, .int .i64 vt, .bool vm, .slice p1 vl q1, .slice p2 vk q2] 25
  obtain ⟨w3, hw3⟩ : ∃ w3, w2.alloc (.cells #[.int .i64 vc, .int .i64 vt, .bool vm, .slice p1 vl q1, .slice p2 vk q2] 25) = w3 := ⟨_, rfl⟩
  obtain ⟨A, eA⟩ : ∃ A, w2.heap.size = A := ⟨_, rfl⟩
  have hb3 : Below w2.heap.size w2 w3 := by rw [← hw3]; exact (Below.refl _ _).alloc (Nat.le_refl _) _
  rw [hw3, eA] at hA
  have HA := hide hA
  have Hval3 := hide ((unhide Hval).below hb3)
  clear hA hb3 Hval
  go_wp2_with fail
  refine (unhide H2 w3).mono ?_
  rintro e w4 ⟨cs4, er4, V4, rfl, hV4, hval4, hb⟩
  obtain ⟨b, b', hVb, hVb', hless⟩ := unhide HK er V er4 V4 (unhide HV) hV4
  obtain ⟨n4, hval4⟩ := hval4
  obtain ⟨r1, t1, r2, t2, rfl⟩ := hval4.form
  have Hval4 := hide hval4
  have HA4 := hide ((unhide HA).call hb)
  have Hval5 := hide ((unhide Hval3).below hb)
  have hvt23 : vt = 23 := by rw [← unhide Hvt, hVb]; rfl
  subst hvt23
  subst hVb'
  subst hVb
  simp only [DV.cls, DV.tag, DV.made, DV.bytes, DV.kids, List.length_nil] at Hval4 ⊢
  clear hV4 hval4 hb HV HK H2 HA Hval3 hw3 eA Hvt HB2
  unfold dcells at Hval4 ⊢
  obtain ⟨N4, hN4⟩ : ∃ N4, b'.length = N4 := ⟨_, rfl⟩
  rw [hN4] at Hval4 ⊢
  have hC := Blk.new (unhide HA4).b #[.int .i64 0, .int .i64 23, .bool false, .slice r1 N4 t1, .slice r2 0 t2] 25
  have hA5 := (unhide HA4).lit (.cells #[.int .i64 0, .int .i64 23, .bool false, .slice r1 N4 t1, .slice r2 0 t2] 25)
  have hb5 : Below w4.heap.size w4 (w4.alloc (.cells #[.int .i64 0, .int .i64 23, .bool false, .slice r1 N4 t1, .slice r2 0 t2] 25)) := (Below.refl _ _).alloc (Nat.le_refl _) _
  obtain ⟨w5, hw5⟩ : ∃ w5, w4.alloc (.cells #[.int .i64 0, .int .i64 23, .bool false, .slice r1 N4 t1, .slice r2 0 t2] 25) = w5 := ⟨_, rfl⟩
  obtain ⟨C, eC⟩ : ∃ C, w4.heap.size = C := ⟨_, rfl⟩
  rw [hw5] at hb5 hA5
  have hby1 : BytesAt w5 (.slice p1 vl q1) b := by
    have h1 := (unhide Hval5).below hb5
    cases nn with
    | zero => exact h1.elim
    | succ nn =>
      obtain ⟨xb, sk, ck, e, h2, _⟩ := h1
      simp only [dcells, List.cons.injEq] at e
      rw [e.2.2.2.1]
      exact h2
  have hby2 : BytesAt w5 (.slice r1 N4 t1) b' := by
    have h1 := (unhide Hval4).below hb5
    cases n4 with
    | zero => exact h1.elim
    | succ n4 =>
      obtain ⟨xb, sk, ck, e, h2, _⟩ := h1
      simp only [dcells, List.cons.injEq] at e
      rw [e.2.2.2.1]
      exact h2
  rw [hw5, eC] at hC
  obtain ⟨k0, k1, k2, k3, k4⟩ := five_at hA5
  obtain ⟨j0, j1, j2, j3, j4⟩ := five_at hC
  have cv1 := conv_str hby1
  have cv2 := conv_str hby2
  obtain ⟨S1, hS1⟩ : ∃ S1, st b = S1 := ⟨_, rfl⟩
  obtain ⟨S2, hS2⟩ : ∃ S2, st b' = S2 := ⟨_, rfl⟩
  rw [hS1] at cv1
  rw [hS2] at cv2
  have hls : Op.bytesLess S1.toList S2.toList = true := by rw [toList_bs, toList_bs, ← hS1, ← hS2, bs_st, bs_st]; exact hless
  have HC := hide hC
  clear hC hA5 hb5 hby1 hby2 hS1 hS2 hless Hval4 Hval5 hN4
  go_wp2
  go_ret
  exact ⟨rfl, (unhide HC).b⟩
end N
end Go.Proofs.YtcofnockikninaaGreatDoor
