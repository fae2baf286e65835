/-
  The statement PlateLast, walked out of the record Plate.
-/
import Derived.Test.YtlmikagmcaicoaaAn13
namespace Go.Proofs.Ytlmikagmcaicoaa
open Go.RowKit
def lws (l : Bs) : List (Nat × Bs) := l.map fun c => (5, List.replicate 64 c)
def lastS (l : Bs) : PS := ⟨List.replicate 8 zeros, lws l, -1, false⟩
def wantOf (l : Bs) (keep : List Bool) : Nat → UInt8
  | 0 => 0
  | i + 1 => if keep.getD i false then l.getD i 0 else wantOf l keep i
theorem last_e (l : Bs) (c : UInt8) : writeE (lastS l) 5 (List.replicate 64 c) = 0 := by
  unfold writeE lastS tickS rightAt
  simp
theorem last_w (l : Bs) (c : UInt8) : writeS (lastS l) 5 (List.replicate 64 c) = lastS (l ++ [c]) := by
  unfold writeS lastS tickS rightAt lws
  simp
theorem last_re (l : Bs) : readE (lastS l) 5 = 0 := by
  unfold readE lastS rightAt
  simp
theorem last_rb (l : Bs) (c : UInt8) : readB (lastS (l ++ [c])) 5 = List.replicate 64 c := by
  have h1 : rightAt (lastS (l ++ [c])) 5 = true := by unfold rightAt lastS; simp
  unfold readB
  rw [h1]
  show (applyL (List.replicate 8 zeros) (lws (l ++ [c]))).getD 5 [] = _
  have h2 : lws (l ++ [c]) = lws l ++ [(5, List.replicate 64 c)] := by unfold lws; simp
  rw [h2, apply_app, apply_one, List.getD_eq_getElem?_getD, List.getElem?_set_self (by rw [apply_len]; simp)]
  rfl
theorem kept_over : ∀ {l : List (Nat × Bs)} {ks : List Bool} {i : Nat}, ks.length ≤ i → keptL (l.take (i + 1)) ks = keptL (l.take i) ks
  | [], ks, i, h => by simp
  | x :: l, [], i, h => by cases i <;> simp [keptL]
  | x :: l, q :: ks, 0, h => by simp at h
  | x :: l, q :: ks, i + 1, h => by
    have ih := kept_over (l := l) (ks := ks) (i := i) (by simpa using h)
    rw [List.take_succ_cons, List.take_succ_cons]
    unfold keptL
    rw [ih]
theorem want_at (l : Bs) (keep : List Bool) : ∀ i, i ≤ l.length → (applyL (List.replicate 8 zeros) (keptL ((lws l).take i) keep)).getD 5 [] = List.replicate 64 (wantOf l keep i)
  | 0, _ => by rw [kept_zero]; rfl
  | i + 1, h => by
    have ih := want_at l keep i (by omega)
    have hi : i < l.length := by omega
    have hl : (lws l)[i]? = some (5, List.replicate 64 (l.getD i 0)) := by
      unfold lws
      rw [List.getElem?_map, List.getElem?_eq_getElem hi, List.getD_eq_getElem?_getD, List.getElem?_eq_getElem hi]
      rfl
    unfold wantOf
    by_cases hk : i < keep.length
    · have hkk : keep[i]? = some keep[i] := List.getElem?_eq_getElem hk
      rw [kept_next hl hkk, List.getD_eq_getElem?_getD (l := keep), hkk, Option.getD_some]
      cases keep[i] with
      | false => rw [if_neg (by decide), if_neg (by decide), List.append_nil]; exact ih
      | true =>
        rw [if_pos rfl, if_pos rfl, apply_app, apply_one, List.getD_eq_getElem?_getD, List.getElem?_set_self (by rw [apply_len]; simp)]
        rfl
    · rw [kept_over (by omega), List.getD_eq_getElem?_getD (l := keep), List.getElem?_eq_none (by omega), Option.getD_none, if_neg (by decide)]
      exact ih
theorem last_end (l : Bs) (keep : List Bool) : readB (reviveS (lastS l) keep) 5 = List.replicate 64 (wantOf l keep l.length) := by
  have h1 : rightAt (reviveS (lastS l) keep) 5 = true := by unfold rightAt reviveS lastS; rw [apply_len]; simp
  unfold readB
  rw [h1]
  show (applyL (applyL (List.replicate 8 zeros) (keptL (lws l) keep)) []).getD 5 [] = _
  have := want_at l keep l.length (Nat.le_refl _)
  rw [List.take_of_length_le (by unfold lws; simp)] at this
  exact this
theorem last_ende (l : Bs) (keep : List Bool) : readE (reviveS (lastS l) keep) 5 = 0 := by
  have h1 : rightAt (reviveS (lastS l) keep) 5 = true := by unfold rightAt reviveS lastS; rw [apply_len]; simp
  unfold readE
  rw [h1]
  rfl
theorem last_loose (l : Bs) : (lastS l).loose.length = l.length := by unfold lastS lws; simp
theorem new_last : newS 8 = lastS [] := rfl
/-- One flag of a slice of flags. -/
theorem flag_at {w : World} {sp : Option Addr} {n c i : Nat} {keep : List Bool} (h : ValsAt w (.slice sp n c) (keep.map .bool)) (hi : i < keep.length) : ∃ b o, sp = some ⟨b, o, none⟩ ∧ w.cell? ⟨b, o + i, none⟩ = some (.bool (keep.getD i false)) := by
  obtain ⟨b, o, c', e, _, _, hc⟩ := ValsAt.cell h (by intro e; have := congrArg List.length e; simp at this; subst this; simp at hi)
  simp only [Value.slice.injEq] at e
  refine ⟨b, o, e.1, ?_⟩
  rw [hc i (by rw [List.length_map]; exact hi), List.getD_eq_getElem?_getD, List.getElem?_map, List.getD_eq_getElem?_getD, List.getElem?_eq_getElem hi]
  rfl
section
variable {PAt : Set_ → Set_ → World → Value → PS → Prop} (HP : Plate PAt)
set_option maxRecDepth 100000 in
set_option maxHeartbeats 16000000 in
include HP in
theorem last_true (w : World) (x y : Value) (l : Bs) (keep : List Bool) (hx : BytesAt w x l) (hy : ValsAt w y (keep.map .bool)) :
    Calls Try.prog 7 #[x, y] w fun e w' => e = .returned (.bool true) ∧ Below w.heap.size w w' := by
  obtain ⟨sx, cx, rfl, _, _, hxc⟩ := bytes_open hx
  obtain ⟨sy, cy, rfl⟩ := hy.form
  obtain ⟨n, hn⟩ : ∃ n, l.length = n := ⟨_, rfl⟩
  obtain ⟨m, hm⟩ : ∃ m, (keep.map Value.bool).length = m := ⟨_, rfl⟩
  have hm2 : keep.length = m := by rw [← hm, List.length_map]
  rw [hm] at hy
  rw [hn, hm]
  rw [hn] at hxc
  have HXC := hide hxc
  have HY := hide hy
  have HN := hide hn
  have HM := hide hm2
  clear hx hxc hy hn hm hm2
  have Ha := hide (anchor_c HP w)
  go_enter Try.func7, Try.ntmps7
  go_wp2_with fail
  refine (unhide Ha).mono ?_
  rintro e w1 ⟨rfl, hb1⟩
  have HB1 := hide hb1
  clear hb1 Ha
  by_cases g1 : 50 < n
  · have d1 : decide ((50 : Int) < (n : Int)) = true := by simp; omega
    have d1n : decide (50 < n) = true := by simp; omega
    have d2 : (50 : Int) < (n : Int) := by omega
    go_wp2
    go_ret
    exact ⟨rfl, unhide HB1⟩
  have d1 : decide ((50 : Int) < (n : Int)) = false := by simp; omega
  have d1n : decide (50 < n) = false := by simp; omega
  have d2 : ¬ (50 : Int) < (n : Int) := by omega
  by_cases g2 : 100 < m
  · have d3 : decide ((100 : Int) < (m : Int)) = true := by simp; omega
    have d3n : decide (100 < m) = true := by simp; omega
    have d4 : (100 : Int) < (m : Int) := by omega
    go_wp2
    go_ret
    exact ⟨rfl, unhide HB1⟩
  have d3 : decide ((100 : Int) < (m : Int)) = false := by simp; omega
  have d3n : decide (100 < m) = false := by simp; omega
  have d4 : ¬ (100 : Int) < (m : Int) := by omega
  have Hn : Hid (Calls Try.prog 9 #[.int .i64 8] w1 fun e w' => ∃ p, e = .returned p ∧ ∃ S R, PAt S R w' p (newS 8) ∧ (∀ k, S k ∨ R k → w1.heap.size ≤ k) ∧ Below w1.heap.size w1 w') := HP.new_yes w1 8 (by omega) (by omega)
  go_wp2_with fail
  refine (unhide Hn).mono ?_
  rintro e w2 ⟨p, rfl, S, R, hp, hge, hb⟩
  obtain ⟨pa, rfl⟩ := HP.ptr hp
  have H1 : Hid (One PAt w w2 (.pointer (some pa)) S R (lastS [])) := ⟨hp, fun k hk => Nat.le_trans (unhide HB1).size (hge k hk), (unhide HB1).trans (hb.mono (unhide HB1).size)⟩
  clear hp hge hb Hn HB1 d1 d1n d2 d3 d3n d4
  go_wp2
  go_loopw [6, 28] (fun ww ii wr => ∃ (i : Nat) (S R : Set_), i ≤ n ∧ ww = .int .u8 ((wantOf l keep i).toNat : Int) ∧ ii = .int .i64 (i : Int) ∧ Hid (One PAt w wr (.pointer (some pa)) S R (lastS (l.take i)))) (fun _ ii _ => n - (intOf ii).toNat)
  case atStart => exact ⟨0, S, R, by omega, rfl, rfl, by show One _ _ _ _ _ _ _; rw [List.take_zero]; exact unhide H1⟩
  case round =>
    clear H1
    obtain ⟨i, S1, R1, hi, rfl, rfl, Ho⟩ := hrel
    by_cases hlt : i < n
    · obtain ⟨bx, ox, rfl, _, hcx⟩ := unhide HXC (by intro e; have := unhide HN; rw [e] at this; simp at this; omega)
      have c1 := hcx i hlt
      have hcw : wr.cell? ⟨bx, ox + i, none⟩ = _ := ((unhide Ho).b.cell (World.block_lt_of_cell? _ _ c1)).trans c1
      obtain ⟨C, hC⟩ : ∃ y, l.getD i 0 = y := ⟨_, rfl⟩
      rw [hC] at hcw
      obtain ⟨C2, hC2⟩ : ∃ y, C.toNat = y := ⟨_, rfl⟩
      rw [hC2] at hcw
      have f1 : decide ((i : Int) < (n : Int)) = true := by simp; omega
      have f1n : decide (i < n) = true := by simp; omega
      have j0 : (0 : Int) ≤ (i : Int) := by omega
      have j1 : (i : Int) < (n : Int) := by omega
      have htk : l.take (i + 1) = l.take i ++ [C] := by
        have hil : i < l.length := by have := unhide HN; omega
        rw [List.take_add_one, List.getElem?_eq_getElem hil, ← hC, List.getD_eq_getElem?_getD, List.getElem?_eq_getElem hil]
        rfl
      have HTK := hide htk
      have Hf := hide (fill_c wr C 64 (by omega))
      rw [hC2] at Hf
      obtain ⟨W0, hW0⟩ : ∃ y, (wantOf l keep i).toNat = y := ⟨_, rfl⟩
      have HW0 := hide hW0
      have HCC := hide hC
      have HC2 := hide hC2
      rw [hW0]
      clear c1 hcx hC htk hC2 hW0
      go_wp2_with fail
      refine (unhide Hf).mono ?_
      rintro e w2 ⟨O, rfl, hO, hb⟩
      have hOw := (World.ownsRow.lt hO O rfl).1
      have hll : (lastS (l.take i)).loose.length ≤ 100000 := by rw [last_loose, List.length_take]; omega
      have Hw := hide (HP.write 5 _ _ ((unhide Ho).below HP hb).p hO.bytes (fun _ k hk => (unhide Ho).new HP (by simp only [Value.ownBlock, Option.some.injEq] at hk; omega)) (by simp) hll (by omega) (by omega))
      rw [last_e, last_w, ← unhide HTK] at Hw
      have H2 := hide ((unhide Ho).below HP hb)
      clear hO hb hOw Hf Ho hll
      go_wp2_with fail
      refine (unhide Hw).mono ?_
      rintro e w3 ⟨rfl, S3, R3, hp, hS, hR, ha⟩
      have H3 := hide ((unhide H2).call hp hS hR ha)
      clear hp hS hR ha Hw H2
      have Hr := hide (HP.read 5 (unhide H3).p (by rw [last_loose, List.length_take]; omega) (by omega) (by omega))
      rw [last_re, unhide HTK, last_rb] at Hr
      go_wp2_with fail
      refine (unhide Hr).mono ?_
      rintro e w4 ⟨v, rfl, hO, hb⟩
      obtain ⟨g, c, e1, _, _, hc⟩ := hO.at (by intro e; have := congrArg List.length e; simp at this)
      rw [List.length_replicate] at e1 hc
      subst e1
      have a0 : w4.cell? ⟨g, 0, none⟩ = some (.int .u8 (C2 : Int)) := by
        have h1 := (hc 0 (by omega)).1
        rw [List.getD_eq_getElem?_getD, List.getElem?_replicate, if_pos (by omega), Option.getD_some, unhide HC2] at h1
        exact h1
      have H4 := hide ((unhide H3).below HP hb)
      have x1 : ((C2 : Int) != (C2 : Int)) = false := by simp
      clear hO hb hc Hr H3
      have HLast : Hid (One PAt w w4 (.pointer (some pa)) S3 R3 (lastS (l.take (i + 1)))) := unhide H4
      by_cases hk : i < m
      · obtain ⟨bk, ok, rfl, ck⟩ := flag_at ((unhide HY).below (unhide H4).b) (i := i) (by have := unhide HM; omega)
        have f2 : decide ((i : Int) < (m : Int)) = true := by simp; omega
        have f2n : decide (i < m) = true := by simp; omega
        have j2 : (i : Int) < (m : Int) := by omega
        obtain ⟨kk, hkk⟩ : ∃ y, keep.getD i false = y := ⟨_, rfl⟩
        rw [hkk] at ck
        cases kk with
        | true =>
          have hwn : wantOf l keep (i + 1) = C := by show (if keep.getD i false then l.getD i 0 else _) = C; rw [hkk, if_pos rfl]; exact unhide HCC
          have HWN : Hid ((wantOf l keep (i + 1)).toNat = C2) := by show _ = _; rw [hwn]; exact unhide HC2
          clear hkk hwn H4
          go_wp2
          refine ⟨⟨i + 1, S3, R3, by omega, ?_, ?_, HLast⟩, ?_⟩
          · rw [unhide HWN]
          · simp
          · simp [intOf]; omega
        | false =>
          have hwn : wantOf l keep (i + 1) = wantOf l keep i := by show (if keep.getD i false then l.getD i 0 else _) = _; rw [hkk, if_neg (by decide)]
          have HWN : Hid ((wantOf l keep (i + 1)).toNat = W0) := by show _ = _; rw [hwn]; exact unhide HW0
          clear hkk hwn H4
          go_wp2
          refine ⟨⟨i + 1, S3, R3, by omega, ?_, ?_, HLast⟩, ?_⟩
          · rw [unhide HWN]
          · simp
          · simp [intOf]; omega
      · have f2 : decide ((i : Int) < (m : Int)) = false := by simp; omega
        have f2n : decide (i < m) = false := by simp; omega
        have j2 : ¬ (i : Int) < (m : Int) := by omega
        have hwn : wantOf l keep (i + 1) = wantOf l keep i := by
          show (if keep.getD i false then l.getD i 0 else _) = _
          rw [List.getD_eq_getElem?_getD, List.getElem?_eq_none (by have := unhide HM; omega), Option.getD_none, if_neg (by decide)]
        have HWN : Hid ((wantOf l keep (i + 1)).toNat = W0) := by show _ = _; rw [hwn]; exact unhide HW0
        clear hwn H4
        go_wp2
        refine ⟨⟨i + 1, S3, R3, by omega, ?_, ?_, HLast⟩, ?_⟩
        · rw [unhide HWN]
        · simp
        · simp [intOf]; omega
    · obtain rfl : i = n := by omega
      have f1 : decide ((i : Int) < (i : Int)) = false := by simp
      have htk : l.take i = l := List.take_of_length_le (by have := unhide HN; omega)
      rw [htk] at Ho
      obtain ⟨W0, hW0⟩ : ∃ y, wantOf l keep i = y := ⟨_, rfl⟩
      have hend := last_end l keep
      rw [unhide HN, hW0] at hend
      obtain ⟨W1, hW1⟩ : ∃ y, W0.toNat = y := ⟨_, rfl⟩
      rw [hW0, hW1]
      have HEnd := hide hend
      have HW1 := hide hW1
      have Hl := hide (HP.loose (unhide Ho).p)
      rw [last_loose, unhide HN] at Hl
      have x1 : ((i : Int) != (i : Int)) = false := by simp
      clear htk hW0 hend hW1
      go_wp2_with fail
      refine (unhide Hl).mono ?_
      rintro e w2 ⟨rfl, hb⟩
      have H2 := hide ((unhide Ho).below HP hb)
      clear hb Hl Ho
      have hll : (lastS l).loose.length ≤ 100000 := by rw [last_loose]; have := unhide HN; omega
      have Hr := hide (HP.revive _ keep (unhide H2).p ((unhide HY).below (unhide H2).b) (fun hne k hk hS => by
        have h1 := (unhide H2).ge k (Or.inl hS)
        have h2 := ValsAt.old (unhide HY) (by simpa using hne) k hk
        omega) hll)
      go_wp2_with fail
      refine (unhide Hr).mono ?_
      rintro e w3 ⟨rfl, S3, R3, hp, hS, hR, ha⟩
      have H3 := hide ((unhide H2).call hp hS hR ha)
      clear hp hS hR ha Hr H2
      have Hd := hide (HP.read 5 (unhide H3).p (by show ([] : List (Nat × Bs)).length ≤ _; simp) (by omega) (by omega))
      rw [last_ende, unhide HEnd] at Hd
      go_wp2_with fail
      refine (unhide Hd).mono ?_
      rintro e w4 ⟨v, rfl, hO, hb⟩
      obtain ⟨g, c, e1, _, _, hc⟩ := hO.at (by intro e; have := congrArg List.length e; simp at this)
      rw [List.length_replicate] at e1 hc
      subst e1
      have hcell : ∀ j, j < 64 → w4.cell? ⟨g, j, none⟩ = some (.int .u8 (W1 : Int)) := fun j hj => by
        have h1 := (hc j hj).1
        rw [List.getD_eq_getElem?_getD, List.getElem?_replicate, if_pos hj, Option.getD_some, unhide HW1] at h1
        exact h1
      have a0 := hcell 0 (by omega)
      have a1 := hcell 63 (by omega)
      have HB := hide ((unhide H3).below HP hb).b
      have x2 : ((W1 : Int) == (W1 : Int)) = true := by simp
      clear hO hb hc hcell Hd H3
      go_wp2
      go_ret
      exact ⟨rfl, unhide HB⟩
end
end Go.Proofs.Ytlmikagmcaicoaa
