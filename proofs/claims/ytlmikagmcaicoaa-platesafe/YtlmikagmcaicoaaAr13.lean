/-
  The statement PlateArms, walked out of the record Plate.
-/
import Derived.Test.YtlmikagmcaicoaaLt13
namespace Go.Proofs.Ytlmikagmcaicoaa
open Go.RowKit
/-- Armed with n, i writes and syncs later. -/
structure ArmI (n : Int) (i : Nat) (s : PS) : Prop where
  len : s.safe.length = 8
  few : s.loose.length ≤ i
  left : s.left = if (i : Int) ≤ n then n - i else 0
  down : s.down = decide (n < (i : Int))
def armE (n : Int) (i : Nat) : Int := if (i : Int) < n then 0 else 50
theorem arm_tick {n : Int} {i : Nat} {s : PS} (h : ArmI n i s) (hd : s.down = false) : (tickS s).down = decide (n < ((i + 1 : Nat) : Int)) ∧ (tickS s).left = if ((i + 1 : Nat) : Int) ≤ n then n - ((i + 1 : Nat) : Int) else 0 := by
  have h1 := h.left
  have h2 := h.down
  rw [hd] at h2
  have h3 : (i : Int) ≤ n := by
    have := h2.symm
    simp at this
    omega
  rw [if_pos h3] at h1
  refine ⟨?_, ?_⟩
  · show (if s.left = 0 then true else s.down) = _
    by_cases hz : s.left = 0
    · rw [if_pos hz, decide_eq_true (by omega)]
    · rw [if_neg hz, hd, decide_eq_false (by omega)]
  · show (if 0 < s.left then s.left - 1 else s.left) = _
    by_cases hz : 0 < s.left
    · rw [if_pos hz, if_pos (by omega)]; omega
    · rw [if_neg hz, if_neg (by omega)]; omega
theorem arm_write {n : Int} {i : Nat} {s : PS} (h : ArmI n i s) {a : Int} (ha0 : 0 ≤ a) (ha : a < 8) {b : Bs} (hb : b.length = 64) : writeE s a b = armE n i ∧ ArmI n (i + 1) (writeS s a b) := by
  have hr : (rightAt s a && decide (b.length = 64)) = true := by unfold rightAt; rw [h.len, decide_eq_true ha0, decide_eq_true (by simpa using ha), decide_eq_true hb]; rfl
  have h2 := h.down
  cases hd : s.down with
  | true =>
    rw [hd] at h2
    have h3 : n < (i : Int) := of_decide_eq_true h2.symm
    refine ⟨by unfold writeE armE; rw [hd, if_pos rfl, if_neg (by omega)], ?_⟩
    unfold writeS
    rw [hd, if_pos rfl]
    exact ⟨h.len, by have := h.few; omega, by rw [h.left, if_neg (by omega), if_neg (by omega)], by rw [hd, decide_eq_true (by omega)]⟩
  | false =>
    obtain ⟨t1, t2⟩ := arm_tick h hd
    have h3 : ¬ n < (i : Int) := of_decide_eq_false (by rw [← h2]; exact hd)
    unfold writeE writeS armE
    rw [hd, hr]
    simp only [Bool.false_eq_true, if_false, Bool.not_true]
    cases ht : (tickS s).down with
    | true =>
      rw [ht] at t1
      have h4 := of_decide_eq_true t1.symm
      refine ⟨by rw [if_pos rfl, if_neg (by omega)], ?_⟩
      rw [if_pos rfl]
      exact ⟨h.len, by have := h.few; show s.loose.length ≤ _; omega, t2, by rw [ht, t1]⟩
    | false =>
      rw [ht] at t1
      have h4 := of_decide_eq_false t1.symm
      refine ⟨by rw [if_neg (by decide), if_pos (by omega)], ?_⟩
      rw [if_neg (by decide)]
      refine ⟨h.len, ?_, t2, t1⟩
      show (s.loose ++ [_]).length ≤ _
      rw [List.length_append]
      have := h.few
      simp
      omega
theorem arm_sync {n : Int} {i : Nat} {s : PS} (h : ArmI n i s) : syncE s = armE n i ∧ ArmI n (i + 1) (syncS s) := by
  have h2 := h.down
  cases hd : s.down with
  | true =>
    rw [hd] at h2
    have h3 : n < (i : Int) := of_decide_eq_true h2.symm
    refine ⟨by unfold syncE armE; rw [hd, Bool.true_or, if_pos rfl, if_neg (by omega)], ?_⟩
    unfold syncS
    rw [hd, if_pos rfl]
    exact ⟨h.len, by have := h.few; omega, by rw [h.left, if_neg (by omega), if_neg (by omega)], by rw [hd, decide_eq_true (by omega)]⟩
  | false =>
    obtain ⟨t1, t2⟩ := arm_tick h hd
    have h3 : ¬ n < (i : Int) := of_decide_eq_false (by rw [← h2]; exact hd)
    unfold syncE syncS armE
    rw [hd, Bool.false_or]
    simp only [Bool.false_eq_true, if_false]
    cases ht : (tickS s).down with
    | true =>
      rw [ht] at t1
      have h4 := of_decide_eq_true t1.symm
      refine ⟨by rw [if_pos rfl, if_neg (by omega)], ?_⟩
      rw [if_pos rfl]
      exact ⟨h.len, by have := h.few; show s.loose.length ≤ _; omega, t2, by rw [ht, t1]⟩
    | false =>
      rw [ht] at t1
      have h4 := of_decide_eq_false t1.symm
      refine ⟨by rw [if_neg (by decide), if_pos (by omega)], ?_⟩
      rw [if_neg (by decide)]
      refine ⟨?_, by show ([] : List (Nat × Bs)).length ≤ _; simp, t2, t1⟩
      show (applyL _ _).length = _
      rw [apply_len]; exact h.len
theorem arm_start (n : Int) (h0 : 0 ≤ n) : ArmI n 0 (armS (newS 8) n) := by
  refine ⟨rfl, Nat.le_refl _, ?_, ?_⟩
  · show max n (-1) = _
    rw [if_pos (by simpa using h0)]
    simp
    omega
  · show false = _
    rw [decide_eq_false (by simp; omega)]
theorem arm_read {n : Int} {i : Nat} {s : PS} (h : ArmI n i s) : readE s 0 = if n < (i : Int) then 50 else 0 := by
  unfold readE
  rw [h.down]
  by_cases hn : n < (i : Int)
  · rw [decide_eq_true hn, if_pos rfl, if_pos hn]
  · have : rightAt s 0 = true := by unfold rightAt; rw [h.len]; rfl
    rw [decide_eq_false hn, if_neg (by decide), if_neg hn, this]
    rfl
/-- Behind a revival. -/
theorem rev_write {s : PS} (h : s.safe.length = 8) {b : Bs} (hb : b.length = 64) : writeE (reviveS s []) 0 b = 0 ∧ syncE (writeS (reviveS s []) 0 b) = 0 ∧ (syncS (writeS (reviveS s []) 0 b)).loose.length = 0 ∧ (writeS (reviveS s []) 0 b).loose.length = 1 := by
  have hl : (reviveS s []).safe.length = 8 := by show (applyL _ _).length = _; rw [apply_len]; exact h
  have hr : (rightAt (reviveS s []) 0 && decide (b.length = 64)) = true := by unfold rightAt; rw [hl, decide_eq_true hb]; rfl
  have hd : (reviveS s []).down = false := rfl
  have ht : (tickS (reviveS s [])).down = false := rfl
  have e1 : writeE (reviveS s []) 0 b = 0 := by unfold writeE; rw [hd, hr, ht]; rfl
  have e2 : writeS (reviveS s []) 0 b = ⟨(tickS (reviveS s [])).safe, (tickS (reviveS s [])).loose ++ [((0 : Int).toNat, b)], (tickS (reviveS s [])).left, (tickS (reviveS s [])).down⟩ := by unfold writeS; rw [hd, hr, ht]; rfl
  refine ⟨e1, ?_, ?_, ?_⟩
  · rw [e2]; rfl
  · rw [e2]; rfl
  · rw [e2]; rfl
section
variable {PAt : Set_ → Set_ → World → Value → PS → Prop} (HP : Plate PAt)
set_option maxRecDepth 100000 in
set_option maxHeartbeats 16000000 in
include HP in
theorem arms_true (w : World) (n : Int) (y : Value) (ops : List Bool) (hy : ValsAt w y (ops.map .bool)) (hn0 : -9223372036854775808 ≤ n) (hn1 : n ≤ 9223372036854775807) :
    Calls Try.prog 6 #[.int .i64 n, y] w fun e w' => e = .returned (.bool true) ∧ Below w.heap.size w w' := by
  obtain ⟨sy, cy, rfl⟩ := hy.form
  obtain ⟨m, hm⟩ : ∃ m, (ops.map Value.bool).length = m := ⟨_, rfl⟩
  have hm2 : ops.length = m := by rw [← hm, List.length_map]
  rw [hm] at hy ⊢
  have HY := hide hy
  have HM := hide hm2
  clear hy hm hm2
  have Ha := hide (anchor_c HP w)
  go_enter Try.func6, Try.ntmps6
  go_wp2_with fail
  refine (unhide Ha).mono ?_
  rintro e w1 ⟨rfl, hb1⟩
  have HB1 := hide hb1
  clear hb1 Ha
  by_cases g1 : n < 0
  · have d1 : decide (n < 0) = true := decide_eq_true g1
    go_wp2
    go_ret
    exact ⟨rfl, unhide HB1⟩
  have d1 : decide (n < 0) = false := decide_eq_false g1
  by_cases g2 : 100 < m
  · have d3 : decide ((100 : Int) < (m : Int)) = true := by simp; omega
    have d3n : decide (100 < m) = true := by simp; omega
    have d4 : (100 : Int) < (m : Int) := by omega
    go_wp2
    go_ret
    exact ⟨rfl, unhide HB1⟩
  have d3 : decide ((100 : Int) < (m : Int)) = false := by simp; omega
  have d3n : decide (100 < m) = false := by simp; omega
  have d4 : ¬ (100 : Int) < (m : Int) := by omega
  have Hn : Hid (Calls Try.prog 9 #[.int .i64 8] w1 fun e w' => ∃ p, e = .returned p ∧ ∃ S R, PAt S R w' p (newS 8) ∧ (∀ k, S k ∨ R k → w1.heap.size ≤ k) ∧ Below w1.heap.size w1 w') := HP.new_yes w1 8 (by omega) (by omega)
  go_wp2_with fail
  refine (unhide Hn).mono ?_
  rintro e w2 ⟨p, rfl, S, R, hp, hge, hb⟩
  obtain ⟨pa, rfl⟩ := HP.ptr hp
  have H1 : Hid (One PAt w w2 (.pointer (some pa)) S R (newS 8)) := ⟨hp, fun k hk => Nat.le_trans (unhide HB1).size (hge k hk), (unhide HB1).trans (hb.mono (unhide HB1).size)⟩
  clear hp hge hb Hn HB1 d1 d3 d3n d4
  have Hm := hide (HP.arm n (unhide H1).p hn0 hn1)
  go_wp2_with fail
  refine (unhide Hm).mono ?_
  rintro e w3 ⟨rfl, S3, R3, hp, hS, hR, ha⟩
  have H3 := hide ((unhide H1).call hp hS hR ha)
  have HI3 := hide (arm_start n (by omega))
  clear hp hS hR ha Hm H1
  go_wp2
  go_loopw [28] (fun ii wr => ∃ (i : Nat) (S R : Set_) (s : PS), i ≤ m ∧ ii = .int .i64 (i : Int) ∧ Hid (One PAt w wr (.pointer (some pa)) S R s) ∧ Hid (ArmI n i s)) (fun ii _ => m - (intOf ii).toNat)
  case atStart => exact ⟨0, S3, R3, _, by omega, rfl, H3, HI3⟩
  case round =>
    clear H3 HI3
    obtain ⟨i, S1, R1, s, hi, rfl, Ho, Hi⟩ := hrel
    by_cases hlt : i < m
    · obtain ⟨bk, ok, rfl, ck⟩ := flag_at ((unhide HY).below (unhide Ho).b) (i := i) (by have := unhide HM; omega)
      obtain ⟨kk, hkk⟩ : ∃ y, ops.getD i false = y := ⟨_, rfl⟩
      rw [hkk] at ck
      have f1 : decide ((i : Int) < (m : Int)) = true := by simp; omega
      have f1n : decide (i < m) = true := by simp; omega
      have j0 : (0 : Int) ≤ (i : Int) := by omega
      have j1 : (i : Int) < (m : Int) := by omega
      have hfew : s.loose.length ≤ 100000 := by have := (unhide Hi).few; omega
      clear hkk
      have HNext : Hid (∃ (S4 R4 : Set_) (s4 : PS) (w4 : World), True) := ⟨S1, R1, s, wr, trivial⟩
      clear HNext
      cases kk with
      | true =>
        obtain ⟨he, hi2⟩ := arm_sync (unhide Hi)
        have Hi2 := hide hi2
        have Hs := hide (HP.sync (unhide Ho).p hfew)
        rw [he] at Hs
        unfold armE at Hs
        clear he hi2 hfew
        by_cases hin : (i : Int) < n
        · rw [if_pos hin] at Hs
          have y1 : decide ((i : Int) < n) = true := decide_eq_true hin
          have y2 : decide (n ≤ (i : Int)) = false := decide_eq_false (by omega)
          go_wp2_with fail
          refine (unhide Hs).mono ?_
          rintro e w4 ⟨rfl, S4, R4, hp, hS, hR, ha⟩
          have H4 := hide ((unhide Ho).call hp hS hR ha)
          clear hp hS hR ha Hs Ho Hi
          have Hd := hide (HP.down (unhide H4).p)
          rw [(unhide Hi2).down, decide_eq_false (by omega : ¬ n < ((i + 1 : Nat) : Int))] at Hd
          go_wp2_with fail
          refine (unhide Hd).mono ?_
          rintro e w5 ⟨rfl, hb5⟩
          have H5 := hide ((unhide H4).below HP hb5)
          clear hb5 Hd H4
          go_wp2
          refine ⟨⟨i + 1, S4, R4, _, by omega, ?_, H5, Hi2⟩, ?_⟩
          · simp
          · simp [intOf]; omega
        · rw [if_neg hin] at Hs
          have y1 : decide ((i : Int) < n) = false := decide_eq_false hin
          have y2 : decide (n ≤ (i : Int)) = true := decide_eq_true (by omega)
          go_wp2_with fail
          refine (unhide Hs).mono ?_
          rintro e w4 ⟨rfl, S4, R4, hp, hS, hR, ha⟩
          have H4 := hide ((unhide Ho).call hp hS hR ha)
          clear hp hS hR ha Hs Ho Hi
          have Hd := hide (HP.down (unhide H4).p)
          rw [(unhide Hi2).down, decide_eq_true (by omega : n < ((i + 1 : Nat) : Int))] at Hd
          go_wp2_with fail
          refine (unhide Hd).mono ?_
          rintro e w5 ⟨rfl, hb5⟩
          have H5 := hide ((unhide H4).below HP hb5)
          clear hb5 Hd H4
          go_wp2
          refine ⟨⟨i + 1, S4, R4, _, by omega, ?_, H5, Hi2⟩, ?_⟩
          · simp
          · simp [intOf]; omega
      | false =>
        obtain ⟨q, hq⟩ : ∃ q, i % 8 = q := ⟨_, rfl⟩
        have e8 : (i : Int) % 8 = (q : Int) := by omega
        have e8t : (i : Int).tmod 8 = (q : Int) := by rw [Int.tmod_eq_emod_of_nonneg (by omega)]; exact e8
        have hq8 : q < 8 := by omega
        have Hf : Hid (Calls Try.prog 23 #[.int .u8 1, .int .i64 64] wr fun e w' => ∃ O, e = .returned (.slice (some ⟨O, 0, none⟩) 64 64) ∧ OwnB w' wr.heap.size (.slice (some ⟨O, 0, none⟩) 64 64) onesB ∧ Below wr.heap.size wr w') := fill_c wr 1 64 (by omega)
        clear hq
        go_wp2_with fail
        refine (unhide Hf).mono ?_
        rintro e w3 ⟨O, rfl, hO, hb⟩
        have hOw := (World.ownsRow.lt hO O rfl).1
        obtain ⟨he, hi2⟩ := arm_write (unhide Hi) (a := (q : Int)) (by omega) (by omega) (b := onesB) (by decide)
        have Hi2 := hide hi2
        have Hs := hide (HP.write (q : Int) _ _ ((unhide Ho).below HP hb).p hO.bytes (fun _ k hk => (unhide Ho).new HP (by simp only [Value.ownBlock, Option.some.injEq] at hk; omega)) (by decide) hfew (by omega) (by omega))
        rw [he] at Hs
        unfold armE at Hs
        have H3 := hide ((unhide Ho).below HP hb)
        clear he hi2 hfew hO hb hOw Hf Ho Hi e8 e8t
        by_cases hin : (i : Int) < n
        · rw [if_pos hin] at Hs
          have y1 : decide ((i : Int) < n) = true := decide_eq_true hin
          have y2 : decide (n ≤ (i : Int)) = false := decide_eq_false (by omega)
          go_wp2_with fail
          refine (unhide Hs).mono ?_
          rintro e w4 ⟨rfl, S4, R4, hp, hS, hR, ha⟩
          have H4 := hide ((unhide H3).call hp hS hR ha)
          clear hp hS hR ha Hs H3
          have Hd := hide (HP.down (unhide H4).p)
          rw [(unhide Hi2).down, decide_eq_false (by omega : ¬ n < ((i + 1 : Nat) : Int))] at Hd
          go_wp2_with fail
          refine (unhide Hd).mono ?_
          rintro e w5 ⟨rfl, hb5⟩
          have H5 := hide ((unhide H4).below HP hb5)
          clear hb5 Hd H4
          go_wp2
          refine ⟨⟨i + 1, S4, R4, _, by omega, ?_, H5, Hi2⟩, ?_⟩
          · simp
          · simp [intOf]; omega
        · rw [if_neg hin] at Hs
          have y1 : decide ((i : Int) < n) = false := decide_eq_false hin
          have y2 : decide (n ≤ (i : Int)) = true := decide_eq_true (by omega)
          go_wp2_with fail
          refine (unhide Hs).mono ?_
          rintro e w4 ⟨rfl, S4, R4, hp, hS, hR, ha⟩
          have H4 := hide ((unhide H3).call hp hS hR ha)
          clear hp hS hR ha Hs H3
          have Hd := hide (HP.down (unhide H4).p)
          rw [(unhide Hi2).down, decide_eq_true (by omega : n < ((i + 1 : Nat) : Int))] at Hd
          go_wp2_with fail
          refine (unhide Hd).mono ?_
          rintro e w5 ⟨rfl, hb5⟩
          have H5 := hide ((unhide H4).below HP hb5)
          clear hb5 Hd H4
          go_wp2
          refine ⟨⟨i + 1, S4, R4, _, by omega, ?_, H5, Hi2⟩, ?_⟩
          · simp
          · simp [intOf]; omega
    · obtain rfl : i = m := by omega
      have f1 : decide ((i : Int) < (i : Int)) = false := by simp
      have hfew : s.loose.length ≤ 100000 := by have := (unhide Hi).few; omega
      have Hr := hide (HP.read 0 (unhide Ho).p hfew (by omega) (by omega))
      rw [arm_read (unhide Hi)] at Hr
      have Hfew := hide hfew
      clear hfew
      have y0 : ∃ E : Int, (if n < (i : Int) then (50 : Int) else 0) = E ∧ (n < (i : Int) → E = 50) := ⟨_, rfl, fun h => if_pos h⟩
      obtain ⟨E, hE, hE2⟩ := y0
      rw [hE] at Hr
      go_wp2_with fail
      refine (unhide Hr).mono ?_
      rintro e w2 ⟨v, rfl, hO, hb⟩
      obtain ⟨sv, cv, rfl⟩ := hO.form
      have H2 := hide ((unhide Ho).below HP hb)
      obtain ⟨LV, hLV⟩ : ∃ y, (readB s 0).length = y := ⟨_, rfl⟩
      rw [hLV]
      clear hO hb Hr Ho hE hLV
      have Hv := hide (HP.revive (.slice none 0 0) [] (unhide H2).p (vals_nil _) (fun h => absurd rfl h) (unhide Hfew))
      have Hend : Hid (∀ w2 S2 R2, One PAt w w2 (.pointer (some pa)) S2 R2 (reviveS s []) → True) := fun _ _ _ _ => trivial
      clear Hend
      by_cases hni : n < (i : Int)
      case' pos =>
        have y1 : decide (n < (i : Int)) = true := decide_eq_true hni
        have y2 := hE2 hni
        subst y2
        clear hE2
      case' neg =>
        have y1 : decide (n < (i : Int)) = false := decide_eq_false hni
        clear hE2
      all_goals
        go_wp2_with fail
        refine (unhide Hv).mono ?_
        rintro e w3 ⟨rfl, S3, R3, hp, hS, hR, ha⟩
        have H3 := hide ((unhide H2).call hp hS hR ha)
        clear hp hS hR ha Hv H2
        obtain ⟨u1, u2, u3, u4⟩ := rev_write (unhide Hi).len (b := twosB) (by decide)
        have U := hide u4
        have U3 := hide u3
        have Hf : Hid (Calls Try.prog 23 #[.int .u8 2, .int .i64 64] w3 fun e w' => ∃ O, e = .returned (.slice (some ⟨O, 0, none⟩) 64 64) ∧ OwnB w' w3.heap.size (.slice (some ⟨O, 0, none⟩) 64 64) twosB ∧ Below w3.heap.size w3 w') := fill_c w3 2 64 (by omega)
        have U1 := hide u1
        have U2 := hide u2
        clear u1 u2 u3 u4
        go_wp2_with fail
        refine (unhide Hf).mono ?_
        rintro e w4 ⟨O, rfl, hO, hb⟩
        have hOw := (World.ownsRow.lt hO O rfl).1
        have Hs := hide (HP.write 0 _ _ ((unhide H3).below HP hb).p hO.bytes (fun _ k hk => (unhide H3).new HP (by simp only [Value.ownBlock, Option.some.injEq] at hk; omega)) (by decide) (by show ([] : List (Nat × Bs)).length ≤ _; simp) (by omega) (by omega))
        rw [unhide U1] at Hs
        have H4 := hide ((unhide H3).below HP hb)
        clear hO hb hOw Hf H3
        go_wp2_with fail
        refine (unhide Hs).mono ?_
        rintro e w5 ⟨rfl, S5, R5, hp, hS, hR, ha⟩
        have H5 := hide ((unhide H4).call hp hS hR ha)
        clear hp hS hR ha Hs H4
        have Hy := hide (HP.sync (unhide H5).p (by rw [unhide U]; omega))
        rw [unhide U2] at Hy
        go_wp2_with fail
        refine (unhide Hy).mono ?_
        rintro e w6 ⟨rfl, S6, R6, hp, hS, hR, ha⟩
        have H6 := hide ((unhide H5).call hp hS hR ha)
        clear hp hS hR ha Hy H5
        have Hl := hide (HP.loose (unhide H6).p)
        rw [unhide U3] at Hl
        go_wp2_with fail
        refine (unhide Hl).mono ?_
        rintro e w7 ⟨rfl, hb7⟩
        have H7 := hide ((unhide H6).below HP hb7)
        clear hb7 Hl H6
        go_wp2
        go_ret
        exact ⟨rfl, (unhide H7).b⟩
end
end Go.Proofs.Ytlmikagmcaicoaa
