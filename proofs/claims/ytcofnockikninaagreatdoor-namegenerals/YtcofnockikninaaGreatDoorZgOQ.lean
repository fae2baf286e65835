/- Parts of the walk. -/
import Derived.Test.YtcofnockikninaaGreatDoorZgOA
set_option maxRecDepth 100000
set_option maxHeartbeats 16000000
namespace Go.Proofs.YtcofnockikninaaGreatDoor
open Go.RowKit
theorem dec_lenQ : ∀ (m n : Nat), n < 10 ^ (m + 1) → (Lib.decDigits n).length ≤ m + 1
 | 0, n, h => by rw [Lib.decDigits_one (by omega)]; simp
 | m + 1, n, h => by
  by_cases h10 : n < 10
  ·rw [Lib.decDigits_one h10]; simp
  ·rw [Lib.decDigits, dif_neg h10, List.length_append]
   have := dec_lenQ m (n / 10) (by rw [Nat.pow_succ] at h; omega)
   simp
   omega
namespace Q
open N K
theorem digits_q : ∀ (m n : Nat) (w : World), n < m → n ≤ 1000000000000000000 → Calls Tryz.prog 41 #[.int .i64 (n : Int)] w fun e w' => e = .returned (.string (st (Lib.decDigits n))) ∧ Below w.heap.size w w'
 | 0, _, _, h, _ => absurd h (by omega)
 | m + 1, n, w, hm, hn => by
  by_cases h10 : n < 10
  ·obtain ⟨d1, d1n⟩ := ltVL n 10 10
   have HD : Hid (Lib.decDigits n = [dig n]) := Lib.decDigits_one h10
   obtain ⟨C, hC⟩ := exq (48 + n)
   have e1 : (48 : Int) + (n : Int) = (C : Int) := by omega
   have u1 : IntKind.u8.wrap (C : Int) = (C : Int) := by rw [IntKind.wrap_u8']; omega
   have hb : BytesAt (w.alloc (.cells #[.int .u8 (C : Int)] 5)) (.slice (some ⟨w.heap.size, 0, none⟩) 1 1) [dig n] := by
    have h1 := bytes_new w [dig n]
    simp only [List.map_cons, List.map_nil, bv, dig_toNat (show n ≤ 9 by omega)] at h1
    rw [← hC]
    exact h1
   have cv := conv_str hb
   clear hb hC
   go_enter Tryz.func41, Tryz.ntmps41
   go_wp2
   go_ret
   exact ⟨by rw [u_ HD]; rfl, (Below.refl _ _).alloc (Nat.le_refl _) _⟩
  ·obtain ⟨d1, d1n⟩ := ltVLf n 10 10
   obtain ⟨q, hq⟩ := exq (n / 10)
   obtain ⟨r, hr⟩ := exq (n % 10)
   have HD : Hid (Lib.decDigits n = Lib.decDigits q ++ [dig r]) := by
    show _ = _
    rw [Lib.decDigits, dif_neg h10, hq, hr]
    rfl
   have HI : Hid (∀ wr : World, Calls Tryz.prog 41 #[.int .i64 (q : Int)] wr fun e w' => e = .returned (.string (st (Lib.decDigits q))) ∧ Below wr.heap.size wr w') := fun wr => digits_q m q wr (by omega) (by omega)
   obtain ⟨t, ht⟩ := exq (Lib.decDigits q)
   have hlen : t.length ≤ 100 := by
    rw [← ht]
    exact Nat.le_trans (dec_lenQ 18 q (by omega)) (by omega)
   rw [ht] at HI HD
   have cc : ∀ wr : World, (Op.stringOp .add (st t) (st [dig r])).run Tryz.prog wr = .ok (.string (st (t ++ [dig r]))) wr := cat_str t [dig r] _ rfl (by simp; omega)
   obtain ⟨C, hC⟩ := exq (48 + r)
   have e0 : (n : Int) / 10 = (q : Int) := by omega
   have e0t : (n : Int).tdiv 10 = (q : Int) := by rw [Int.tdiv_eq_ediv_of_nonneg (by omega)]; exact e0
   have e2 : (n : Int) % 10 = (r : Int) := by omega
   have e2t : (n : Int).tmod 10 = (r : Int) := by rw [Int.tmod_eq_emod_of_nonneg (by omega)]; exact e2
   have e1 : (48 : Int) + (r : Int) = (C : Int) := by omega
   have u1 : IntKind.u8.wrap (C : Int) = (C : Int) := by rw [IntKind.wrap_u8']; omega
   have u2 : IntKind.i64.wrap (C : Int) = (C : Int) := IntWalk.i64_in _ (by omega)
   have u3 : IntKind.i64.wrap (q : Int) = (q : Int) := IntWalk.i64_in _ (by omega)
   have HB : Hid (∀ wr : World, BytesAt (wr.alloc (.cells #[.int .u8 (C : Int)] 5)) (.slice (some ⟨wr.heap.size, 0, none⟩) 1 1) [dig r]) := fun wr => by
    have h1 := bytes_new wr [dig r]
    simp only [List.map_cons, List.map_nil, bv, dig_toNat (show r ≤ 9 by omega)] at h1
    rw [← hC]
    exact h1
   have cv1 := conv_str ((u_ HB w).below (Below.refl _ _).drew)
   clear hq hr ht hC hlen
   go_enter Tryz.func41, Tryz.ntmps41
   go_wp2
   go_region_law (first
    | (go_simp
       go_at_call 41
       refine (u_ HI w.drew).mono ?_
       rintro e w2 ⟨rfl, hb⟩
       have HE : Hid (Below w.heap.size w w2) := (Below.refl w.heap.size w).drew.trans hb
       have cv3 := conv_str (u_ HB w2)
       clear hb
       go_simp)
    | (go_simp
       go_at_call 41
       refine (u_ HI (w.alloc (.cells #[.int .u8 (C : Int)] 5)).drew).mono ?_
       rintro e w2 ⟨rfl, hb⟩
       have HE : Hid (Below w.heap.size w w2) := ((Below.refl w.heap.size w).alloc (Nat.le_refl _) _).drew.trans (hb.mono (by simp))
       have cv3 := conv_str (((u_ HB w).below (Below.refl _ _).drew).below hb)
       clear hb
       go_simp))
   all_goals
    go_wp2
    go_ret
    first
     | exact ⟨by rw [u_ HD]; rfl, u_ HE⟩
     | exact ⟨by rw [u_ HD]; rfl, HE.alloc HE.size _⟩
end Q
theorem splitD_snoc {a : Bs} {ps : List Bs} {p : Bs} {c : UInt8} (h : splitD a = ps ++ [p]) (hc : ¬ c = 46) : splitD (a ++ [c]) = ps ++ [p ++ [c]] := splitD_app a [c] (ps := ps) (qs := []) (q := [c]) h (splitD_ne hc rfl)
theorem splitD_snocP {a : Bs} {ps : List Bs} {p : Bs} (h : splitD a = ps ++ [p]) : splitD (a ++ [46]) = ps ++ [p] ++ [[]] := by
 rw [splitD_app a [46] (ps := ps) (qs := [[]]) (q := []) h (splitD_eq [])]
 simp
theorem splitD_on {b : Bs} {i : Nat} {ps : List Bs} {p : Bs} (h : splitD (b.take i) = ps ++ [p]) : ∃ q qs, splitD b = ps ++ (p ++ q) :: qs := by
 obtain ⟨q, qs, hq⟩ := splitD_form (b.drop i)
 exact ⟨q, qs, by have := splitD_app (b.take i) (b.drop i) h hq; rw [List.take_append_drop] at this; exact this⟩
theorem part_mem {b : Bs} {i : Nat} {ps : List Bs} {p : Bs} (h : splitD (b.take i) = ps ++ [p]) (hi : i ≤ b.length) (hc : i < b.length → b.getD i 0 = 46) : p ∈ splitD b := by
 by_cases hlt : i < b.length
 ·have e : b.drop i = 46 :: b.drop (i + 1) := by
   rw [List.drop_eq_getElem_cons hlt]
   have := hc hlt
   rw [List.getD_eq_getElem?_getD, List.getElem?_eq_getElem hlt, Option.getD_some] at this
   rw [this]
  have := splitD_app (b.take i) (b.drop i) (q := []) (qs := splitD (b.drop (i + 1))) h (by rw [e, splitD_eq])
  rw [List.take_append_drop] at this
  rw [this]
  simp
 ·rw [List.take_of_length_le (by omega)] at h
  rw [h]
  simp
namespace N
theorem slice_strM (s : ByteArray) (f i : Nat) (hf : f ≤ i) (hi : i ≤ s.size) (w : World) : (Instr.sliceAt 9 (.string s) (some (.int .i64 (f : Int))) (some (.int .i64 (i : Int))) none).run Tryz.prog w = .ok (.string (st (((bs s).take i).drop f))) w := by
 rw [run_sliceAt_string w 9 _ _ _ _ Tryz.underlying9, run_slice_string w 9 s .i64 .i64 (f : Int) (i : Int) Tryz.underlying9 (by omega) (by omega) (by omega), Int.toNat_natCast, Int.toNat_natCast]
 have e : s.extract f i = st (((bs s).take i).drop f) := by
  rw [← st_bs (s.extract f i)]
  congr 1
  show (s.extract f i).data.toList = _
  rw [Lib.extract_data]
  rw [List.drop_take]
 rw [e]
end N
namespace Q
open N K
def PartsAt (b : Bs) (i f : Nat) (ps : List Bs) : Prop := (i ≤ b.length ∧ f ≤ i ∧ splitD (b.take i) = ps ++ [(b.take i).drop f] ∧ ((b.take i).drop f).all digC = true ∧ ps.all numOk = true) ∨ (i = b.length + 1 ∧ ps = splitD b ∧ ps.all numOk = true)
def numsOk (b : Bs) : Bool := (splitD b).all numOk && decide (2 ≤ (splitD b).length) && decide ((splitD b).length ≤ 20)
theorem numsOk_iff (b : Bs) : numsOk b = true ↔ (splitD b).all numOk = true ∧ 2 ≤ (splitD b).length ∧ (splitD b).length ≤ 20 := by unfold numsOk; simp only [Bool.and_eq_true, decide_eq_true_eq, and_assoc]
def QNum (b : Bs) (w : World) (v : Value) (w' : World) : Prop := (numsOk b = true → RowN w w' v ((splitD b).map numV)) ∧ Below w.heap.size w w'
theorem nums_no {b : Bs} (h : ¬ ((splitD b).all numOk = true ∧ 2 ≤ (splitD b).length ∧ (splitD b).length ≤ 20)) : numsOk b = false := by
 cases ho : numsOk b with
 | false => rfl
 | true => exact absurd ((numsOk_iff b).1 ho) h
theorem nums_yes {b : Bs} (h1 : (splitD b).all numOk = true) (h2 : 2 ≤ (splitD b).length) (h3 : (splitD b).length ≤ 20) : numsOk b = true := (numsOk_iff b).2 ⟨h1, h2, h3⟩
theorem QNum.no {b : Bs} {w w' : World} (v : Value) (h : numsOk b = false) (hb : Below w.heap.size w w') : QNum b w v w' := ⟨fun h2 => (by rw [h] at h2; cases h2), hb⟩
theorem QNum.yes {b : Bs} {w w' : World} {v : Value} (h4 : RowN w w' v ((splitD b).map numV)) : QNum b w v w' := ⟨fun _ => h4, h4.b⟩
theorem qnum_c (w : World) (s : ByteArray) (hs : s.size ≤ 1000000) :
  Calls Tryz.prog 44 #[.string s] w fun e w' => ∃ v : Value, e = .returned (.tuple #[v, .bool (numsOk (bs s))]) ∧ QNum (bs s) w v w' := by
 obtain ⟨b, hb⟩ := exq (bs s)
 obtain ⟨N, hN⟩ := exq s.size
 have hbN : b.length = N := by rw [← hb, bs_len, hN]
 rw [hb]
 have HX : Hid (∀ k, k < N → ∃ p : Nat, (b.getD k 0).toNat = p ∧ p < 256 ∧ ∀ W, (Instr.index 9 (.string s) (.int .i64 (k : Int))).run Tryz.prog W = .ok (.int .u8 (p : Int)) W) := fun k hk =>
  ⟨_, rfl, UInt8.toNat_lt _, fun W => index_str s k (by omega) _ (by rw [hb]) W⟩
 have HSl : Hid (∀ f i, f ≤ i → i ≤ N → ∀ W, (Instr.sliceAt 9 (.string s) (some (.int .i64 (f : Int))) (some (.int .i64 (i : Int))) none).run Tryz.prog W = .ok (.string (st ((b.take i).drop f))) W) := fun f i hf hi W => by
  have := slice_strM s f i hf (by omega) W
  rw [hb] at this
  exact this
 have HbN := h_ hbN
 rw [hN] at hs
 clear hb hbN
 go_enter Tryz.func44, Tryz.ntmps44
 go_wp2
 go_loopw [4, 5, 6] (fun oo ff ii wr => ∃ (i f M c : Nat) (sp : Option Addr) (ps : List Bs), i ≤ N + 1 ∧ f ≤ i ∧ M ≤ i ∧ oo = .slice sp M c ∧ ff = .int .i64 (f : Int) ∧ ii = .int .i64 (i : Int) ∧ Hid (ps.length = M) ∧ Hid (PartsAt b i f ps) ∧ Hid (RowN w wr (.slice sp M c) (ps.map numV))) (fun _ _ ii _ => N + 1 - (intOf ii).toNat)
 case atStart => exact ⟨0, 0, 0, 0, none, [], by omega, by omega, by omega, rfl, rfl, rfl, rfl, Or.inl ⟨Nat.zero_le _, Nat.le_refl _, rfl, rfl, rfl⟩, ⟨own_nil 3 _ _, Below.refl _ _⟩⟩
 case round =>
  obtain ⟨i, f, M, c, sp, ps, hi, hf, hM, rfl, rfl, rfl, HM, HP, HR⟩ := hrel
  by_cases hend : i = N + 1
  ·obtain ⟨f1, f1n⟩ := leVVf i N
   have hP : ps = splitD b ∧ ps.all numOk = true := by
    rcases u_ HP with ⟨h, _⟩ | h
    ·have := u_ HbN; omega
    ·exact h.2
   obtain ⟨hps, hall⟩ := hP
   subst hps
   obtain ⟨A, hA⟩ := exq (decide (2 ≤ M))
   obtain ⟨B, hB⟩ := exq (decide (M ≤ 20))
   have a1 : decide ((2 : Int) ≤ (M : Int)) = A := by rw [← hA, decide_eq_decide]; omega
   have b1 : decide ((M : Int) ≤ 20) = B := by rw [← hB, decide_eq_decide]; omega
   have Hall := h_ hall
   have HA : Hid (A = true → 2 ≤ (splitD b).length) := fun h => by rw [u_ HM]; exact of_decide_eq_true (hA.trans h)
   have HA2 : Hid (A = false → ¬ 2 ≤ (splitD b).length) := fun h => by rw [u_ HM]; exact of_decide_eq_false (hA.trans h)
   have HB : Hid (B = true → (splitD b).length ≤ 20) := fun h => by rw [u_ HM]; exact of_decide_eq_true (hB.trans h)
   have HB2 : Hid (B = false → ¬ (splitD b).length ≤ 20) := fun h => by rw [u_ HM]; exact of_decide_eq_false (hB.trans h)
   have hend2 : N < i := by omega
   clear hall HP HX HSl hend
   cases A with
   | false =>
    have a2 : ¬ 2 ≤ M := of_decide_eq_false hA
    have HF : Hid (numsOk b = false) := nums_no (fun h => u_ HA2 rfl h.2.1)
    clear HA HA2 HB HB2
    go_wp2
    go_ret2
    exact ⟨_, by rw [u_ HF]; rfl, QNum.no _ (u_ HF) HR.b⟩
   | true =>
    have a2 : 2 ≤ M := of_decide_eq_true hA
    cases B with
    | false =>
     have b2 : ¬ M ≤ 20 := of_decide_eq_false hB
     have HF : Hid (numsOk b = false) := nums_no (fun h => u_ HB2 rfl h.2.2)
     clear HA HA2 HB HB2
     go_wp2
     go_ret2
     exact ⟨_, by rw [u_ HF]; rfl, QNum.no _ (u_ HF) HR.b⟩
    | true =>
     have b2 : M ≤ 20 := of_decide_eq_true hB
     have HF : Hid (numsOk b = true) := nums_yes (u_ Hall) (u_ HA rfl) (u_ HB rfl)
     clear HA HA2 HB HB2
     go_wp2
     go_ret2
     exact ⟨_, by rw [u_ HF]; rfl, QNum.yes (u_ HR)⟩
  have hiN : i ≤ N := by omega
  obtain ⟨f1, f1n⟩ := leVV i N
  obtain ⟨PT, hPT⟩ := exq ((b.take i).drop f)
  have HS : Hid (splitD (b.take i) = ps ++ [PT] ∧ PT.all digC = true ∧ ps.all numOk = true) := by
   rcases u_ HP with h | h
   ·rw [← hPT]; exact h.2.2
   ·have := u_ HbN; omega
  have hPl : PT.length = i - f := by
   have := u_ HbN
   rw [← hPT, List.length_drop, List.length_take]
   omega
  by_cases hgo : i < N ∧ ¬ b.getD i 0 = 46
  ·obtain ⟨hlt, hnp⟩ := hgo
   obtain ⟨p, hp, hp2, hix⟩ := u_ HX i hlt
   obtain ⟨g1, g1n⟩ := ltVV i N
   have hp46 : ¬ p = 46 := fun e => hnp (UInt8.toNat_inj.1 (by rw [hp, e]; rfl))
   have g2 : ((p : Int) != 46) = true := by simp; omega
   have g3 : ((p : Int) == 46) = false := by simp; omega
   have hib : i < b.length := by have := u_ HbN; omega
   have HS2 : Hid (splitD (b.take (i + 1)) = ps ++ [PT ++ [b.getD i 0]]) := by
    show _ = _
    rw [take_snocQ hib]
    exact splitD_snoc HS.1 hnp
   have i0 : (0 : Int) ≤ (i : Int) := by omega
   by_cases hdig : 48 ≤ p ∧ p ≤ 57
   ·obtain ⟨z1, z1n⟩ := ltVLf p 48 48
    obtain ⟨z2, z2n⟩ := ltLVf 57 57 p
    have HP2 : Hid (PartsAt b (i + 1) f ps) := by
     have e : (b.take (i + 1)).drop f = PT ++ [b.getD i 0] := by
      rw [take_snocQ hib, List.drop_append_of_le_length (by rw [List.length_take]; omega), hPT]
     refine Or.inl ⟨by omega, by omega, by rw [e]; exact u_ HS2, ?_, HS.2.2⟩
     rw [e, List.all_append, HS.2.1, List.all_cons, (digC_iff _).2 (by rw [hp]; exact hdig)]
     rfl
    clear HP HS HS2 hPT hPl hp hnp hdig
    go_wp2
    go_roundw
    case rel =>
     first
      | exact ⟨i + 1, f, M, c, sp, ps, by omega, by omega, by omega, rfl, rfl, by go_num, HM, HP2, HR⟩
      | ((repeat apply Exists.intro); exact ⟨⟨i + 1, f, M, c, sp, ps, by omega, by omega, by omega, rfl, rfl, by go_num, HM, HP2, HR⟩, rfl⟩)
    case measure => simp [intOf]; omega
   ·have HF : Hid (¬ ((splitD b).all numOk = true ∧ 2 ≤ (splitD b).length ∧ (splitD b).length ≤ 20)) := fun h => by
     obtain ⟨q, qs, hq⟩ := splitD_on (u_ HS2)
     have h1 := h.1
     rw [hq, List.all_append, Bool.and_eq_true, List.all_cons, Bool.and_eq_true] at h1
     have h2 : numOk (PT ++ [b.getD i 0] ++ q) = false := by
      refine num_bad (k := PT.length) (by simp) ?_
      have e : (PT ++ [b.getD i 0] ++ q).getD PT.length 0 = b.getD i 0 := by simp [List.getD_eq_getElem?_getD]
      rw [e]
      cases hd : digC (b.getD i 0) with
      | false => rfl
      | true => have := (digC_iff _).1 hd; rw [hp] at this; exact absurd this hdig
     rw [h2] at h1
     cases h1.2.1
    clear HP HS HS2 hPT hPl hp hnp
    by_cases hlow : p < 48
    ·obtain ⟨z1, z1n⟩ := ltVL p 48 48
     clear hdig
     go_wp2
     go_ret2
     exact ⟨_, by rw [nums_no (u_ HF)]; rfl, QNum.no _ (nums_no (u_ HF)) HR.b⟩
    ·obtain ⟨z1, z1n⟩ := ltVLf p 48 48
     obtain ⟨z2, z2n⟩ := ltLV 57 57 p
     clear hdig
     go_wp2
     go_ret2
     exact ⟨_, by rw [nums_no (u_ HF)]; rfl, QNum.no _ (nums_no (u_ HF)) HR.b⟩
  ·have hpt : i < N → b.getD i 0 = 46 := fun h => Classical.byContradiction fun h2 => hgo ⟨h, h2⟩
   have hmem : PT ∈ splitD b := part_mem HS.1 (by have := u_ HbN; omega) (fun h => hpt (by have := u_ HbN; omega))
   have HNo : Hid (numOk PT = false → ¬ ((splitD b).all numOk = true ∧ 2 ≤ (splitD b).length ∧ (splitD b).length ≤ 20)) := fun h h2 => by
    have h3 := h2.1
    rw [List.all_eq_true] at h3
    rw [h3 PT hmem] at h
    cases h
   obtain ⟨K, hK⟩ := exq (i - f)
   rw [hK] at hPl
   have hsl := u_ HSl f i hf hiN
   rw [hPT] at hsl
   obtain ⟨T, hT⟩ := exq (st PT)
   rw [hT] at hsl
   have hTb : bs T = PT := by rw [← hT, bs_st]
   have hTs : T.size = K := by rw [← bs_len, hTb, hPl]
   have HTX : Hid (∀ k, k < K → ∃ p : Nat, (PT.getD k 0).toNat = p ∧ p < 256 ∧ ∀ W, (Instr.index 9 (.string T) (.int .i64 (k : Int))).run Tryz.prog W = .ok (.int .u8 (p : Int)) W) := fun k hk =>
    ⟨_, rfl, UInt8.toNat_lt _, fun W => index_str T k (by omega) _ (by rw [hTb]) W⟩
   have Hnx : Hid (∀ (v : Nat), numV PT = v → numOk PT = true → PartsAt b (i + 1) (i + 1) (ps ++ [PT])) := fun v _ hok => by
    have hS := u_ HS
    have hbl := u_ HbN
    by_cases hlt : i < N
    ·have hib : i < b.length := by omega
     have e : (b.take (i + 1)).drop (i + 1) = [] := List.drop_of_length_le (by rw [List.length_take]; omega)
     refine Or.inl ⟨by omega, Nat.le_refl _, ?_, by rw [e]; rfl, by rw [List.all_append, hS.2.2, List.all_cons, hok]; rfl⟩
     rw [e, take_snocQ hib, hpt hlt]
     exact splitD_snocP hS.1
    ·refine Or.inr ⟨by omega, ?_, by rw [List.all_append, hS.2.2, List.all_cons, hok]; rfl⟩
     have h1 := hS.1
     rw [List.take_of_length_le (by omega)] at h1
     exact h1.symm
   have Hdg : Hid (PT.all digC = true) := HS.2.1
   have HK := h_ hPl
   have hgt : (if i < N then ∃ W : Int, W = 46 else True) ∨ True := Or.inr trivial
   have c0 : i = N ∨ (i < N ∧ ∀ W, (Instr.index 9 (.string s) (.int .i64 (i : Int))).run Tryz.prog W = .ok (.int .u8 46) W) := by
    by_cases hlt : i < N
    ·right
     refine ⟨hlt, fun W => ?_⟩
     obtain ⟨p, hp, _, hix⟩ := u_ HX i hlt
     rw [hpt hlt] at hp
     rw [hix W, ← hp]
     rfl
    ·left; omega
   have kb : K ≤ 1000000 := by omega
   have i0 : (0 : Int) ≤ (i : Int) := by omega
   have u1 : (f : Int) ≤ (i : Int) := by omega
   clear hgt hgo hpt hmem HP HS hPT hPl hK hT hTb
   by_cases hbad : K = 0 ∨ 13 < K ∨ (1 < K ∧ PT.getD 0 0 = 48)
   ·have HF : Hid (¬ ((splitD b).all numOk = true ∧ 2 ≤ (splitD b).length ∧ (splitD b).length ≤ 20)) := by
     refine u_ HNo ?_
     have hKl := u_ HK
     rcases hbad with h | h | h
     ·have : PT = [] := List.eq_nil_of_length_eq_zero (by omega)
      rw [this]
      rfl
     ·exact numOk_long (by omega)
     ·cases ho : numOk PT with
      | false => rfl
      | true =>
       rcases ((numOk_iff PT).1 ho).2.2.1 with h3 | h3
       ·omega
       ·exact absurd h.2 h3
    clear Hnx HNo
    by_cases hK0 : K = 0
    ·have y1 : ((K : Int) == 0) = true := by simp; omega
     clear hbad
     rcases c0 with rfl | ⟨hlt, hix⟩
     ·have g1 : decide ((i : Int) < (i : Int)) = false := by simp
      go_wp2
      go_ret2
      exact ⟨_, by rw [nums_no (u_ HF)]; rfl, QNum.no _ (nums_no (u_ HF)) HR.b⟩
     ·obtain ⟨g1, g1n⟩ := ltVV i N
      go_wp2
      go_ret2
      exact ⟨_, by rw [nums_no (u_ HF)]; rfl, QNum.no _ (nums_no (u_ HF)) HR.b⟩
    have y1 : ((K : Int) == 0) = false := by simp; omega
    by_cases hK13 : 13 < K
    ·obtain ⟨y2, y2n⟩ := ltLV 13 13 K
     clear hbad
     rcases c0 with rfl | ⟨hlt, hix⟩
     ·have g1 : decide ((i : Int) < (i : Int)) = false := by simp
      go_wp2
      go_ret2
      exact ⟨_, by rw [nums_no (u_ HF)]; rfl, QNum.no _ (nums_no (u_ HF)) HR.b⟩
     ·obtain ⟨g1, g1n⟩ := ltVV i N
      go_wp2
      go_ret2
      exact ⟨_, by rw [nums_no (u_ HF)]; rfl, QNum.no _ (nums_no (u_ HF)) HR.b⟩
    obtain ⟨y2, y2n⟩ := ltLVf 13 13 K
    have h48 : 1 < K ∧ PT.getD 0 0 = 48 := by
     rcases hbad with h | h | h
     ·exact absurd h hK0
     ·exact absurd h hK13
     ·exact h
    obtain ⟨p, hp, _, hix0⟩ := u_ HTX 0 (by omega)
    rw [h48.2] at hp
    obtain rfl : p = 48 := by rw [← hp]; rfl
    have hix0' : ∀ W, (Instr.index 9 (.string T) (.int .i64 0)).run Tryz.prog W = .ok (.int .u8 48) W := hix0
    obtain ⟨y3, y3n⟩ := ltLV 1 1 K
    clear hbad h48 hp hix0
    rcases c0 with rfl | ⟨hlt, hix⟩
    ·have g1 : decide ((i : Int) < (i : Int)) = false := by simp
     go_wp2
     go_ret2
     exact ⟨_, by rw [nums_no (u_ HF)]; rfl, QNum.no _ (nums_no (u_ HF)) HR.b⟩
    ·obtain ⟨g1, g1n⟩ := ltVV i N
     go_wp2
     go_ret2
     exact ⟨_, by rw [nums_no (u_ HF)]; rfl, QNum.no _ (nums_no (u_ HF)) HR.b⟩
   have hK0 : ¬ K = 0 := fun h => hbad (Or.inl h)
   have hK13 : K ≤ 13 := Nat.le_of_not_lt fun h => hbad (Or.inr (Or.inl h))
   have hK48 : 1 < K → ¬ PT.getD 0 0 = 48 := fun h h2 => hbad (Or.inr (Or.inr ⟨h, h2⟩))
   have HK48 := h_ hK48
   have y1 : ((K : Int) == 0) = false := by simp; omega
   obtain ⟨y2, y2n⟩ := ltLVf 13 13 K
   obtain ⟨p0, hp0, hp02, hix0⟩ := u_ HTX 0 (by omega)
   have hix0' : ∀ W, (Instr.index 9 (.string T) (.int .i64 0)).run Tryz.prog W = .ok (.int .u8 (p0 : Int)) W := hix0
   have y4 : 1 < K → ((p0 : Int) == 48) = false := fun h => by
    have := hK48 h
    have h5 : ¬ p0 = 48 := fun e => this (UInt8.toNat_inj.1 (by rw [hp0, e]; rfl))
    simp
    omega
   clear hbad hK48 hp0 hix0
   have walk : ∀ (Y : Bool), decide (1 < K) = Y → decide ((1 : Int) < (K : Int)) = Y := fun Y h => by rw [← h, decide_eq_decide]; omega
   clear walk
   have HC0 := h_ c0
   by_cases hK1 : 1 < K
   case' pos =>
    obtain ⟨y3, y3n⟩ := ltLV 1 1 K
    have y5 := y4 hK1
    clear y4
    rcases c0 with rfl | ⟨hlt, hix⟩
    have g1 : decide ((i : Int) < (i : Int)) = false := by simp
    go_wp2
    clear hix0' hsl y1 y2 y2n y3 y3n y5 g1
    rotate_left
    obtain ⟨g1, g1n⟩ := ltVV i N
    go_wp2
    clear hix0' hsl y1 y2 y2n y3 y3n y5 g1 g1n hix
    rotate_left
   case' neg =>
    obtain ⟨y3, y3n⟩ := ltLVf 1 1 K
    clear y4
    rcases c0 with rfl | ⟨hlt, hix⟩
    have g1 : decide ((i : Int) < (i : Int)) = false := by simp
    go_wp2
    clear hix0' hsl y1 y2 y2n y3 y3n g1
    rotate_left
    obtain ⟨g1, g1n⟩ := ltVV i N
    go_wp2
    clear hix0' hsl y1 y2 y2n y3 y3n g1 g1n hix
    rotate_left
   all_goals
    go_loopw [8, 9] (fun nn kk wq => ∃ (k n : Nat), k ≤ K ∧ n < 10000000000000 ∧ nn = .int .i64 (n : Int) ∧ kk = .int .i64 (k : Int) ∧ Hid (numV (PT.take k) = n) ∧ Hid (wq = wr)) (fun _ kk _ => K - (intOf kk).toNat)
    case atStart => exact ⟨0, 0, by omega, by omega, rfl, rfl, rfl, rfl⟩
    case round =>
     rename World => wq
     obtain ⟨k, n, hk, hn, rfl, rfl, HV, HW⟩ := hrel
     by_cases hkK : k < K
     ·obtain ⟨p, hp, hp2, hixk⟩ := u_ HTX k hkK
      have hkl : k < PT.length := by have := u_ HK; omega
      have hdk := (digC_iff (PT.getD k 0)).1 (by have h := u_ Hdg; rw [List.all_eq_true] at h; exact h _ (getD_mem hkl))
      rw [hp] at hdk
      obtain ⟨m1, hm1⟩ := exq (10 * n)
      obtain ⟨m2, hm2⟩ := exq (m1 + p)
      obtain ⟨n2, hn2⟩ := exq (m2 - 48)
      have e1 : (10 : Int) * (n : Int) = (m1 : Int) := by omega
      have e2 : (m1 : Int) + (p : Int) = (m2 : Int) := by omega
      have e3 : (m2 : Int) - 48 = (n2 : Int) := by omega
      have hV2 : numV (PT.take (k + 1)) = n2 := by rw [numV_succ hkl, hp, u_ HV]; omega
      have hn2b : n2 < 10000000000000 := by
       rw [← hV2]
       have h := u_ Hdg
       rw [List.all_eq_true] at h
       refine numV_lt (p := PT.take (k + 1)) (k := 13) ?_ (by rw [List.length_take]; omega)
       rw [List.all_eq_true]
       exact fun x hx => h x (List.mem_of_mem_take hx)
      have HV2 := h_ hV2
      obtain ⟨q1, q1n⟩ := ltVV k K
      have kk0 : (0 : Int) ≤ (k : Int) := by omega
      have bm1 : m1 < 100000000000000 := by omega
      have bm2 : m2 < 100000000001000 := by omega
      clear hp hdk hm1 hm2 hn2 hV2 HV
      go_wp2
      go_roundw
      case rel =>
       first
        | exact ⟨k + 1, n2, by omega, by omega, by go_num, by go_num, HV2, HW⟩
        | ((repeat apply Exists.intro); exact ⟨⟨k + 1, n2, by omega, by omega, by go_num, by go_num, HV2, HW⟩, rfl⟩)
      case measure => simp [intOf]; omega
     ·obtain ⟨q1, q1n⟩ := ltVVf k K
      obtain ⟨hVn, hKl⟩ : numV PT = n ∧ PT.length = K := by
       have h1 := u_ HV
       have h2 := u_ HK
       rw [List.take_of_length_le (by omega)] at h1
       exact ⟨h1, h2⟩
      have hwq := u_ HW
      have HRq : Hid (RowN w wq (.slice sp M c) (ps.map numV)) := by show RowN _ _ _ _; rw [hwq]; exact u_ HR
      by_cases hbig : 1099511627776 ≤ n
      ·obtain ⟨z1, z1n⟩ := leLV 1099511627776 1099511627776 n
       have HF : Hid (¬ ((splitD b).all numOk = true ∧ 2 ≤ (splitD b).length ∧ (splitD b).length ≤ 20)) := by
        refine u_ HNo (num_great (k := PT.length) ?_)
        rw [List.take_length, hVn]
        exact hbig
       clear hVn hKl HV HW hwq Hnx HNo
       go_wp2
       go_ret2
       exact ⟨_, by rw [nums_no (u_ HF)]; rfl, QNum.no _ (nums_no (u_ HF)) HRq.b⟩
      ·obtain ⟨z1, z1n⟩ := leLVf 1099511627776 1099511627776 n
       have hok : numOk PT = true := num_end (fun e => by rw [e] at hKl; simp at hKl; omega) (u_ Hdg) (fun h => u_ HK48 (by omega)) (by rw [hVn]; omega)
       have HP2 := h_ (u_ Hnx n hVn hok)
       have HY := h_ (one_num wq n)
       have HR2 := h_ (HRq.lit (.cells #[.int .i64 (n : Int)] 3))
       obtain ⟨M3, hM3⟩ := exq (M + 1)
       have HM3 : Hid ((ps ++ [PT]).length = M3) := by show _ = _; rw [List.length_append, u_ HM, ← hM3]; rfl
       have HMm : Hid ((ps ++ [PT]).map numV = ps.map numV ++ [n]) := by show _ = _; rw [List.map_append, List.map_cons, hVn]; rfl
       have hM4 : M3 ≤ i + 1 := by omega
       have hMl : M ≤ 1000001 := by omega
       have HM5 := h_ hM3
       clear hVn hKl HV HW hwq hok Hnx HNo HR HRq hM3
       go_wp2_with (at_builtin; refine wpList_append_nums rfl _ _ rfl (.slice sp M c) (.slice (some ⟨wq.heap.size, 0, none⟩) 1 1) (ps.map numV) [n] rfl (u_ HR2) rfl (u_ HY) (by rw [List.length_map, u_ HM, List.length_singleton]; omega) ?_
                    intro v3 W3 hR3
                    rw [← u_ HMm] at hR3
                    obtain ⟨p3, q3, rfl⟩ := hR3.form
                    rw [List.length_map, u_ HM3] at hR3 ⊢
                    have HR3 := h_ hR3
                    clear hR3)
       go_roundw
       case rel =>
        first
         | exact ⟨i + 1, i + 1, M3, q3, p3, ps ++ [PT], by omega, by omega, hM4, rfl, by go_num, by go_num, HM3, HP2, HR3⟩
         | ((repeat apply Exists.intro); exact ⟨⟨i + 1, i + 1, M3, q3, p3, ps ++ [PT], by omega, by omega, hM4, rfl, by go_num, by go_num, HM3, HP2, HR3⟩, rfl⟩)
       case measure => (simp [intOf] <;> omega)
end Q
namespace Q
theorem oidVP_nums {b : Bs} (h : numsOk b = true) : oidVP b = firstG ((splitD b).map numV) := by
 have := (numsOk_iff b).1 h
 unfold oidVP
 rw [if_pos ⟨this.2.2, this.1⟩]
theorem oidVP_nonums {b : Bs} (h : numsOk b = false) : oidVP b = none := by
 unfold oidVP
 split
 ·rename_i hc
  obtain ⟨p, ps, hp⟩ := splitD_form b
  cases ps with
  | nil => rw [hp]; rfl
  | cons q r =>
   have : numsOk b = true := (numsOk_iff b).2 ⟨hc.2, by rw [hp]; simp, hc.1⟩
   rw [h] at this
   cases this
 ·rfl
theorem value5r : (Tryz.prog.info? 33).map (·.size) = some 5 := by kernel_rfl
open N K
theorem qoidv_c (w : World) (s : ByteArray) (hs : s.size ≤ 1000000) :
  Calls Tryz.prog 15 #[.string s] w fun e w' => ∃ ds : List Value, e = .returned (.tuple #[.agg ds.toArray, .bool (oidVP (bs s)).isSome]) ∧ ValAt (fun k => w.heap.size ≤ k) w' ds (oidV (bs s)) ∧ Below w.heap.size w w' := by
 obtain ⟨w1, R, hw1, eR, hR0⟩ := blkN (Below.refl w.heap.size w) #[.int .i64 0, .int .i64 0, .bool false, .slice none 0 0, .slice none 0 0] 33
 have HR := h_ hR0
 have HG := h_ (qnum_c w1 s hs)
 have H5 : Hid ((#[.int .i64 0, .int .i64 0, .bool false, .slice none 0 0, .slice none 0 0] : Array Value).all (·.oneCell') = true) := by show _ = true; simp [Value.oneCell']
 have HeR := h_ eR
 clear hR0
 obtain ⟨OK, hOK⟩ := exq (numsOk (bs s))
 rw [hOK] at HG
 cases OK with
 | false =>
  have HE : Hid (oidV (bs s) = .mk 0 0 false [] [] ∧ (oidVP (bs s)).isSome = false) := ⟨oidV_no (oidVP_nonums hOK), by rw [oidVP_nonums hOK]; rfl⟩
  clear hOK
  go_enter Tryz.func15, Tryz.ntmps15
  go_wp2_with fail
  refine HG.mono ?_
  rintro e w2 ⟨v, rfl, hq⟩
  have HR2 := h_ (HR.call hq.2)
  clear hq HR HG hw1 eR
  go_wp2
  go_region
  go_upto_region 3 with fail
  go_wp2_with (refine wpList_store_row rfl 33 _ _ rfl R _ rfl rfl 33 _ HR2.drew.res value5r rfl (u_ H5) ?_)
  exact bodyPost_ret (res_row_tmp Tryz.results15 _ _ R 33 #[.int .i64 0, .int .i64 0, .bool false, .slice none 0 0, .slice none 0 0] (0, 0) _ rfl (HR2.drew.set #[.int .i64 0, .int .i64 0, .bool false, .slice none 0 0, .slice none 0 0]).res Tryz.underlying33 rfl value5r _ rfl) rfl ⟨_, by rw [HE.2]; rfl, by rw [HE.1]; exact zero_val _ _, (HR2.drew.set #[.int .i64 0, .int .i64 0, .bool false, .slice none 0 0, .slice none 0 0]).b⟩
 | true =>
  have hV := oidVP_nums hOK
  obtain ⟨_, h2, h20⟩ := (numsOk_iff _).1 hOK
  have hall : ∀ x ∈ (splitD (bs s)).map numV, x < 1099511627776 := fun x hx => by
   obtain ⟨p, hp, rfl⟩ := List.mem_map.1 hx
   have := ((numsOk_iff _).1 hOK).1
   rw [List.all_eq_true] at this
   exact ((numOk_iff p).1 (this p hp)).2.2.2
  obtain ⟨a, b, r, hl⟩ : ∃ a b r, (splitD (bs s)).map numV = a :: b :: r := by
   obtain ⟨p, ps, hp⟩ := splitD_form (bs s)
   cases ps with
   | nil => rw [hp] at h2; simp at h2
   | cons q t => exact ⟨_, _, _, by rw [hp]; rfl⟩
  have hlen : (splitD (bs s)).length = r.length + 2 := by rw [← List.length_map (f := numV), hl]; simp
  rw [hl] at hV hall
  rw [firstG_cons] at hV
  have ha := hall a (by simp)
  have hb := hall b (by simp)
  have Hr : Hid (∀ x ∈ r, x < 1099511627776) := fun x hx => hall x (by simp [hx])
  obtain ⟨M, hM⟩ := exq r.length
  obtain ⟨N, hN⟩ := exq (M + 2)
  have hM18 : M ≤ 18 := by omega
  have HG2 : Hid (Calls Tryz.prog 44 #[.string s] w1 fun e w' => ∃ (B1 cap : Nat) (rest : List Value), e = .returned (.tuple #[.slice (some ⟨B1, 0, none⟩) N cap, .bool true]) ∧ w1.heap.size ≤ B1 ∧ N ≤ cap ∧ RowAt 3 w' B1 rest ((a :: b :: r).map nv) ∧ Below w1.heap.size w1 w') := by
   refine HG.mono ?_
   rintro e w' ⟨v, rfl, hq⟩
   have h1 := hq.1 hOK
   rw [hl] at h1
   obtain ⟨B1, rest, cap, rfl, hB1, hc, _, hrow⟩ := OwnV.row h1.own (by simp)
   refine ⟨B1, cap, rest, ?_, hB1, ?_, hrow, hq.2⟩
   ·simp only [List.length_map, List.length_cons, hM, hN]
   ·simp only [List.length_map, List.length_cons] at hc; omega
  have HV := h_ hV
  have HM := h_ hM
  obtain ⟨a40, ha40⟩ := exq (40 * a)
  obtain ⟨g, hg⟩ := exq (b + a40)
  have e40 : (40 : Int) * (a : Int) = (a40 : Int) := by omega
  have eg : (b : Int) + (a40 : Int) = (g : Int) := by omega
  have Hfin : Hid (b + 40 * a = g) := by show _ = _; omega
  have hbg : g < 50000000000000 := by omega
  have ha40' : a40 < 45000000000000 := by omega
  have HN := h_ hN
  have hN2 : 2 ≤ N := by omega
  have hN20 : N ≤ 20 := by omega
  clear HG hOK hV h2 h20 hall hl hlen hM hN ha40 hg
  go_enter Tryz.func15, Tryz.ntmps15
  go_wp2_with fail
  refine HG2.mono ?_
  rintro e w2 ⟨B1, cap, rest, rfl, hB1, hcap, hrow, hb2⟩
  have HR2 := h_ (HR.call hb2)
  have HB1 : Hid (R < B1 ∧ w.heap.size ≤ B1 ∧ B1 < w2.heap.size) := ⟨by have := HR.lt; omega, by have := HR.b.size; omega, hrow.lt⟩
  have c0 : w2.cell? ⟨B1, 0, none⟩ = some (.int .i64 (a : Int)) := hrow.cell 0 (by simp)
  have c1 : w2.cell? ⟨B1, 1, none⟩ = some (.int .i64 (b : Int)) := hrow.cell 1 (by simp)
  have c0d : w2.drew.cell? ⟨B1, 0, none⟩ = some (.int .i64 (a : Int)) := c0
  have c1d : w2.drew.cell? ⟨B1, 1, none⟩ = some (.int .i64 (b : Int)) := c1
  have f1d := hrow.drew.frozen 1
  have f1dd := hrow.drew.drew.frozen 1
  have hrow3 : RowAt 3 (w2.drew.setCell ⟨B1, 1, none⟩ (.int .i64 (g : Int))) B1 rest ((a :: g :: r).map nv) := hrow.drew.set 1 (by simp) (.int .i64 (g : Int))
  have HRow := h_ hrow
  have HRow3 := h_ hrow3
  have b0 : (0 : Int) < (N : Int) := by omega
  have b1 : (1 : Int) < (N : Int) := by omega
  clear hb2 HR HG2 hw1 eR hrow hrow3 hB1
  by_cases hA2 : 2 < a
  ·have HE : Hid (oidV (bs s) = .mk 0 0 false [] [] ∧ (oidVP (bs s)).isSome = false) := by
    have h1 := u_ HV
    have h2 := u_ Hfin
    rw [if_neg (fun h => by omega)] at h1
    exact ⟨oidV_no h1, by rw [h1]; rfl⟩
   obtain ⟨t1, t1n⟩ := ltLV 2 2 a
   clear HV HRow HRow3
   go_wp2
   go_region
   go_upto_region 3 with fail
   go_wp2_with (refine wpList_store_row rfl 33 _ _ rfl R _ rfl rfl 33 _ HR2.drew.res value5r rfl (u_ H5) ?_)
   exact bodyPost_ret (res_row_tmp Tryz.results15 _ _ R 33 #[.int .i64 0, .int .i64 0, .bool false, .slice none 0 0, .slice none 0 0] (0, 0) _ rfl (HR2.drew.set #[.int .i64 0, .int .i64 0, .bool false, .slice none 0 0, .slice none 0 0]).res Tryz.underlying33 rfl value5r _ rfl) rfl ⟨_, by rw [HE.2]; rfl, by rw [HE.1]; exact zero_val _ _, (HR2.drew.set #[.int .i64 0, .int .i64 0, .bool false, .slice none 0 0, .slice none 0 0]).b⟩
  obtain ⟨t1, t1n⟩ := ltLVf 2 2 a
  by_cases hA3 : a < 2
  case' pos =>
   obtain ⟨t2, t2n⟩ := ltVL a 2 2
   by_cases hb39 : 39 < b
   ·obtain ⟨t3, t3n⟩ := ltLV 39 39 b
    have HE : Hid (oidV (bs s) = .mk 0 0 false [] [] ∧ (oidVP (bs s)).isSome = false) := by
     have h1 := u_ HV
     have h2 := u_ Hfin
     rw [if_neg (fun h => by omega)] at h1
     exact ⟨oidV_no h1, by rw [h1]; rfl⟩
    clear HV HRow HRow3
    go_wp2
    go_region
    go_upto_region 3 with fail
    go_wp2_with (refine wpList_store_row rfl 33 _ _ rfl R _ rfl rfl 33 _ HR2.drew.res value5r rfl (u_ H5) ?_)
    exact bodyPost_ret (res_row_tmp Tryz.results15 _ _ R 33 #[.int .i64 0, .int .i64 0, .bool false, .slice none 0 0, .slice none 0 0] (0, 0) _ rfl (HR2.drew.set #[.int .i64 0, .int .i64 0, .bool false, .slice none 0 0, .slice none 0 0]).res Tryz.underlying33 rfl value5r _ rfl) rfl ⟨_, by rw [HE.2]; rfl, by rw [HE.1]; exact zero_val _ _, (HR2.drew.set #[.int .i64 0, .int .i64 0, .bool false, .slice none 0 0, .slice none 0 0]).b⟩
   obtain ⟨t3, t3n⟩ := ltLVf 39 39 b
   have hmost : ¬ 1099511627776 ≤ g := by have := u_ Hfin; omega
   obtain ⟨t4, t4n⟩ := leLVf 1099511627776 1099511627776 g
   clear HRow3
   go_wp2
   go_region
   go_wp2
   go_region
   obtain ⟨w3, hw3⟩ := exq ((w2.setCell ⟨B1, 1, none⟩ (.int .i64 (g : Int))).drew.drew)
   rw [hw3]
   have HR3 : Hid (Blk w w3 R #[.int .i64 0, .int .i64 0, .bool false, .slice none 0 0, .slice none 0 0] 33) := by
    obtain ⟨g1, g2, g3⟩ := u_ HR2
    have h1 : Blk w (w2.setCell ⟨B1, 1, none⟩ (.int .i64 (g : Int))) R #[.int .i64 0, .int .i64 0, .bool false, .slice none 0 0, .slice none 0 0] 33 := by
     refine ⟨?_, g2.setCell (p := ⟨B1, 1, none⟩) HB1.2.1 _, g3⟩
     rw [heap_setCell_other _ _ _ _ (show R ≠ B1 by have := HB1.1; omega)]
     exact g1
    have h2 := h1.drew.drew
    rw [hw3] at h2
    exact h2
   have hrow3 : RowAt 3 w3 B1 rest ((a :: g :: r).map nv) := by
    have h2 := (RowAt.set (u_ HRow) 1 (by simp) (.int .i64 (g : Int))).drew.drew
    rw [hw3] at h2
    exact h2
   have HC : Hid (∀ (wr : World) (i : Nat), Below w3.heap.size w3 wr → i < N → ∃ n, (a :: g :: r).getD i 0 = n ∧ wr.cell? ⟨B1, i, none⟩ = some (.int .i64 (n : Int))) := fun wr i hb hi => by
    refine ⟨_, rfl, ?_⟩
    have hl : i < (a :: g :: r).length := by have h1 := u_ HM; have h2 := u_ HN; simp; omega
    have h3 := (hrow3.below hb).cell i (by rw [List.length_map]; exact hl)
    rw [h3, List.getD_eq_getElem?_getD, List.getElem?_map, List.getElem?_eq_getElem hl, List.getD_eq_getElem?_getD, List.getElem?_eq_getElem hl]
    rfl
   have Hlt : Hid (∀ x ∈ g :: r, x < 1099511627776) := fun x hx => by
    rcases List.mem_cons.1 hx with rfl | hx
    ·omega
    ·exact u_ Hr x hx
   have HE : Hid (oidV (bs s) = oidDV (g :: r) ∧ (oidVP (bs s)).isSome = true) := by
    have h1 := u_ HV
    have h2 := u_ Hfin
    rw [if_pos ⟨by omega, by omega, by omega⟩, h2] at h1
    exact ⟨oidV_yes h1, by rw [h1]; rfl⟩
   clear hrow3 hw3 HRow HR2 c0 c1 c0d c1d f1d f1dd HV Hfin e40 eg t1 t1n t2 t2n t3 t3n t4 t4n
  case' neg =>
   obtain ⟨t2, t2n⟩ := ltVLf a 2 2
   by_cases hmost : 1099511627776 ≤ g
   ·obtain ⟨t4, t4n⟩ := leLV 1099511627776 1099511627776 g
    have HE : Hid (oidV (bs s) = .mk 0 0 false [] [] ∧ (oidVP (bs s)).isSome = false) := by
     have h1 := u_ HV
     have h2 := u_ Hfin
     rw [if_neg (fun h => by omega)] at h1
     exact ⟨oidV_no h1, by rw [h1]; rfl⟩
    clear HV HRow HRow3
    go_wp2
    go_region
    go_upto_region 3 with fail
    go_wp2_with (refine wpList_store_row rfl 33 _ _ rfl R _ rfl rfl 33 _ HR2.drew.res value5r rfl (u_ H5) ?_)
    exact bodyPost_ret (res_row_tmp Tryz.results15 _ _ R 33 #[.int .i64 0, .int .i64 0, .bool false, .slice none 0 0, .slice none 0 0] (0, 0) _ rfl (HR2.drew.set #[.int .i64 0, .int .i64 0, .bool false, .slice none 0 0, .slice none 0 0]).res Tryz.underlying33 rfl value5r _ rfl) rfl ⟨_, by rw [HE.2]; rfl, by rw [HE.1]; exact zero_val _ _, (HR2.drew.set #[.int .i64 0, .int .i64 0, .bool false, .slice none 0 0, .slice none 0 0]).b⟩
   obtain ⟨t4, t4n⟩ := leLVf 1099511627776 1099511627776 g
   clear HRow3
   go_wp2
   go_region
   go_wp2
   go_region
   obtain ⟨w3, hw3⟩ := exq ((w2.setCell ⟨B1, 1, none⟩ (.int .i64 (g : Int))).drew.drew)
   rw [hw3]
   have HR3 : Hid (Blk w w3 R #[.int .i64 0, .int .i64 0, .bool false, .slice none 0 0, .slice none 0 0] 33) := by
    obtain ⟨g1, g2, g3⟩ := u_ HR2
    have h1 : Blk w (w2.setCell ⟨B1, 1, none⟩ (.int .i64 (g : Int))) R #[.int .i64 0, .int .i64 0, .bool false, .slice none 0 0, .slice none 0 0] 33 := by
     refine ⟨?_, g2.setCell (p := ⟨B1, 1, none⟩) HB1.2.1 _, g3⟩
     rw [heap_setCell_other _ _ _ _ (show R ≠ B1 by have := HB1.1; omega)]
     exact g1
    have h2 := h1.drew.drew
    rw [hw3] at h2
    exact h2
   have hrow3 : RowAt 3 w3 B1 rest ((a :: g :: r).map nv) := by
    have h2 := (RowAt.set (u_ HRow) 1 (by simp) (.int .i64 (g : Int))).drew.drew
    rw [hw3] at h2
    exact h2
   have HC : Hid (∀ (wr : World) (i : Nat), Below w3.heap.size w3 wr → i < N → ∃ n, (a :: g :: r).getD i 0 = n ∧ wr.cell? ⟨B1, i, none⟩ = some (.int .i64 (n : Int))) := fun wr i hb hi => by
    refine ⟨_, rfl, ?_⟩
    have hl : i < (a :: g :: r).length := by have h1 := u_ HM; have h2 := u_ HN; simp; omega
    have h3 := (hrow3.below hb).cell i (by rw [List.length_map]; exact hl)
    rw [h3, List.getD_eq_getElem?_getD, List.getElem?_map, List.getElem?_eq_getElem hl, List.getD_eq_getElem?_getD, List.getElem?_eq_getElem hl]
    rfl
   have Hlt : Hid (∀ x ∈ g :: r, x < 1099511627776) := fun x hx => by
    rcases List.mem_cons.1 hx with rfl | hx
    ·omega
    ·exact u_ Hr x hx
   have HE : Hid (oidV (bs s) = oidDV (g :: r) ∧ (oidVP (bs s)).isSome = true) := by
    have h1 := u_ HV
    have h2 := u_ Hfin
    rw [if_pos ⟨by omega, by omega, by omega⟩, h2] at h1
    exact ⟨oidV_yes h1, by rw [h1]; rfl⟩
   clear hrow3 hw3 HRow HR2 c0 c1 c0d c1d f1d f1dd HV Hfin e40 eg t1 t1n t2 t2n t4 t4n
  all_goals
   go_wp2
   go_loopw [6, 7] (fun oo ii wr => ∃ (i j L c : Nat) (sp : Option Addr), i ≤ N ∧ i = j + 1 ∧ L ≤ 200 ∧ oo = .slice sp L c ∧ ii = .int .i64 (i : Int) ∧ Hid ((bytesG ((g :: r).take j)).length = L) ∧ Hid (Row w3 wr (.slice sp L c) (bytesG ((g :: r).take j)))) (fun _ ii _ => N - (intOf ii).toNat)
   case atStart => exact ⟨1, 0, 0, 0, none, by omega, rfl, by omega, rfl, rfl, rfl, ⟨ownb_nil _ _, Below.refl _ _⟩⟩
   case round =>
    obtain ⟨i, j, L, c, sp, hi, hij, hL, rfl, rfl, HL, HO⟩ := hrel
    have Hij := h_ hij
    clear hij
    by_cases hlt : i < N
    ·obtain ⟨n, hn, hc⟩ := u_ HC wr i HO.b hlt
     have hjl : j < (g :: r).length := by have h1 := u_ HM; have h2 := u_ HN; have h3 := u_ Hij; simp; omega
     have hn2 : (g :: r).getD j 0 = n := by have h3 := u_ Hij; rw [h3] at hn; exact hn
     have hn40 : n < 1099511627776 := by
      refine u_ Hlt n ?_
      rw [← hn2, List.getD_eq_getElem?_getD, List.getElem?_eq_getElem hjl]
      exact List.getElem_mem hjl
     have HBn : Hid (bytesG ((g :: r).take j) ++ putG n = bytesG ((g :: r).take (j + 1))) := by
      show _ = _
      rw [take_snocG hjl, hn2, bytesG_snoc]
     have HLn : Hid ((bytesG ((g :: r).take (j + 1))).length ≤ 200) := by
      have h1 := bytesG_len ((g :: r).take (j + 1)) (fun x hx => u_ Hlt x (List.mem_of_mem_take hx))
      have h2 : ((g :: r).take (j + 1)).length ≤ 19 := by rw [List.length_take]; have h1 := u_ HM; have h2 := u_ HN; simp; omega
      show _ ≤ _
      omega
     obtain ⟨f1, f1n⟩ := ltVV i N
     have k0 : (0 : Int) ≤ (i : Int) := by omega
     have k1 : (i : Int) < (N : Int) := by omega
     obtain ⟨p0, hp0⟩ := exq (n % 128)
     have e0 : (n : Int) % 128 = (p0 : Int) := by omega
     have e0t : (n : Int).tmod 128 = (p0 : Int) := by rw [Int.tmod_eq_emod_of_nonneg (by omega)]; exact e0
     have bp0 : p0 < 128 := by omega
     have u0 : IntKind.u8.wrap (p0 : Int) = (p0 : Int) := by rw [IntKind.wrap_u8']; omega
     have HY := h_ (one_byte wr p0 (by omega))
     have HP0 : Hid (Row wr (wr.alloc (.cells #[.int .u8 (p0 : Int)] 5)) (.slice none 0 0) []) := (show Row wr wr (.slice none 0 0) [] from ⟨ownb_nil _ _, Below.refl _ _⟩).lit _
     have Heq : Hid (hiR (n / 128) ++ [UInt8.ofNat p0].reverse = putG n) := by show _ = _; rw [← hp0]; rfl
     clear hn hn2 hp0 hjl
     go_wp2_with (at_builtin; refine wpList_append_row rfl _ _ rfl (.slice none 0 0) (.slice (some ⟨wr.heap.size, 0, none⟩) 1 1) [] [UInt8.ofNat p0] rfl (u_ HP0) rfl (u_ HY) (by simp) ?_
                  intro v3 W3 hR3
                  rw [List.nil_append] at hR3
                  obtain ⟨p3, q3, rfl⟩ := hR3.own.form
                  have HP3 := h_ hR3
                  rw [show [UInt8.ofNat p0].length = 1 from rfl] at HP3 ⊢
                  clear hR3)
     clear hc HP0 HY e0 e0t u0 f1 f1n k0 k1
     go_loopw [8, 9] (fun pp nn wq => ∃ (m K c2 : Nat) (sp2 : Option Addr) (part : Bs), m < 1099511627776 ∧ 1 ≤ K ∧ K ≤ 6 ∧ pp = .slice sp2 K c2 ∧ nn = .int .i64 (m : Int) ∧ Hid (part.length = K) ∧ Hid (hiR (m / 128) ++ part.reverse = putG n) ∧ Hid (Row wr wq (.slice sp2 K c2) part)) (fun _ nn _ => (intOf nn).toNat)
     case atStart => exact ⟨n, 1, q3, p3, [UInt8.ofNat p0], hn40, by omega, by omega, rfl, rfl, rfl, Heq, HP3⟩
     case round =>
      clear HP3 Heq bp0
      rename World => wq
      obtain ⟨m, K, c2, sp2, part, hm, hK1, hK, rfl, rfl, HK, HEq, HP⟩ := hrel
      by_cases hbig : 128 ≤ m
      ·obtain ⟨m2, hm2⟩ := exq (m / 128)
       obtain ⟨p, hp⟩ := exq (m2 % 128)
       obtain ⟨q, hq⟩ := exq (128 + p)
       have e1 : (m : Int) / 128 = (m2 : Int) := by omega
       have e1t : (m : Int).tdiv 128 = (m2 : Int) := by rw [Int.tdiv_eq_ediv_of_nonneg (by omega)]; exact e1
       have e2 : (m2 : Int) % 128 = (p : Int) := by omega
       have e2t : (m2 : Int).tmod 128 = (p : Int) := by rw [Int.tmod_eq_emod_of_nonneg (by omega)]; exact e2
       have e3 : (128 : Int) + (p : Int) = (q : Int) := by omega
       have bq : q < 256 := by omega
       have bp : p < 128 := by omega
       have bm2 : m2 < 1099511627776 := by omega
       have hdec : m2 < m := by omega
       have u0 : IntKind.u8.wrap (q : Int) = (q : Int) := by rw [IntKind.wrap_u8']; omega
       obtain ⟨z1, z1n⟩ := leLV 128 128 m
       have HEq2 : Hid (hiR (m2 / 128) ++ (part ++ [UInt8.ofNat q]).reverse = putG n) := by
        show _ = _
        have h1 := u_ HEq
        rw [hm2, hiR_pos (m := m2) (by omega), show 128 + m2 % 128 = q by omega] at h1
        rw [List.reverse_append, ← h1]
        simp
       have hK6 : K + 1 ≤ 6 := by
        have h1 := congrArg List.length (u_ HEq2)
        have h2 := putG_len hn40
        have h3 := u_ HK
        simp only [List.length_append, List.length_reverse, List.length_singleton] at h1
        omega
       have HY := h_ (one_byte wq q bq)
       have HP2 := h_ (HP.lit (.cells #[.int .u8 (q : Int)] 5))
       have HK2 : Hid ((part ++ [UInt8.ofNat q]).length = K + 1) := by show _ = _; rw [List.length_append, u_ HK]; rfl
       clear hm2 hp hq HEq HP
       go_wp2_with (at_builtin; refine wpList_append_row rfl _ _ rfl (.slice sp2 K c2) (.slice (some ⟨wq.heap.size, 0, none⟩) 1 1) part [UInt8.ofNat q] rfl (u_ HP2) rfl (u_ HY) (by rw [u_ HK]; simp only [List.length_singleton]; omega) ?_
                    intro v3 W3 hR3
                    obtain ⟨p4, q4, rfl⟩ := hR3.own.form
                    rw [u_ HK2] at hR3 ⊢
                    have HR4 := h_ hR3
                    clear hR3)
       go_roundw
       case rel =>
        first
         | exact ⟨m2, K + 1, q4, p4, part ++ [UInt8.ofNat q], by omega, by omega, by omega, rfl, by go_num, HK2, HEq2, HR4⟩
         | ((repeat apply Exists.intro); exact ⟨⟨m2, K + 1, q4, p4, part ++ [UInt8.ofNat q], by omega, by omega, by omega, rfl, by go_num, HK2, HEq2, HR4⟩, rfl⟩)
       case measure => simp [intOf]; omega
      ·obtain ⟨z1, z1n⟩ := leLVf 128 128 m
       have HEq2 : Hid (part.reverse = putG n) := by
        have h1 := u_ HEq
        rw [show m / 128 = 0 by omega, hiR_zero] at h1
        exact h1
       have HO2 := h_ (HO.call HP.b)
       have HAp : Hid (Apart (.slice sp L c) (.slice sp2 K c2)) := fun k hk hq => by
        have h1 := (World.ownsRow.lt HO.own k hk).2
        have h2 := OwnV.fresh HP.own k hq
        omega
       have HBy := h_ HP.bytes
       obtain ⟨K1, hK1'⟩ : ∃ K1, K - 1 = K1 := ⟨_, rfl⟩
       have eK : (K : Int) - 1 = (K1 : Int) := by omega
       have hKK : K1 + 1 = K := by omega
       have HKK := h_ hKK
       have hpne : part ≠ [] := fun e => by have := u_ HK; rw [e] at this; simp at this; omega
       have Hpne := h_ hpne
       clear hK1' hKK hpne
       go_wp2
       clear eK z1 z1n
       go_loopw [6, 10] (fun oo kk wz => ∃ (q L c : Nat) (z : Int) (sp : Option Addr), q ≤ K ∧ -1 ≤ z ∧ z ≤ 6 ∧ L ≤ 300 ∧ oo = .slice sp L c ∧ kk = .int .i64 z ∧ Hid (z + 1 = (q : Int)) ∧ Hid ((bytesG ((g :: r).take j) ++ (part.drop q).reverse).length = L) ∧ Hid (Row w3 wz (.slice sp L c) (bytesG ((g :: r).take j) ++ (part.drop q).reverse)) ∧ Hid (BytesAt wz (.slice sp2 K c2) part) ∧ Hid (Apart (.slice sp L c) (.slice sp2 K c2))) (fun _ kk _ => (intOf kk + 1).toNat)
       case atStart =>
        have hd : part.drop K = [] := List.drop_of_length_le (by have := u_ HK; omega)
        refine ⟨K, L, c, (K1 : Int), sp, Nat.le_refl _, by omega, by have := u_ HKK; omega, by omega, rfl, rfl, by have := u_ HKK; show _ = _; omega, ?_, ?_, HBy, HAp⟩
        ·show _ = _; rw [hd, List.reverse_nil, List.append_nil]; exact u_ HL
        ·show Row _ _ _ _; rw [hd, List.reverse_nil, List.append_nil]; exact u_ HO2
       case round =>
        clear HO2 HAp HBy
        rename World => wz
        obtain ⟨q, L5, c5, z, sp5, hq, hz0, hz6, hL5, rfl, rfl, Hz, HL5, HO5, HBy, HAp⟩ := hrel
        by_cases h0 : 0 ≤ z
        ·obtain ⟨k, rfl⟩ : ∃ k : Nat, z = (k : Int) := ⟨z.toNat, by omega⟩
         have hqk : q = k + 1 := by have := u_ Hz; omega
         obtain ⟨ba, oa, p, rfl, hp, hp2, hc⟩ := Go.Proofs.YtcofnockikninaaGreatDoor.K.byte_at (u_ HBy) (u_ HK) k (by omega)
         have z1 : decide ((0 : Int) ≤ (k : Int)) = true := by simp
         have y0 : (0 : Int) ≤ (k : Int) := by omega
         have y1 : (k : Int) < (K : Int) := by omega
         have HY := h_ (one_byte wz p hp2)
         have HO6 := h_ (HO5.lit (.cells #[.int .u8 (p : Int)] 5))
         have HBy6 := h_ (HBy.below ((Below.refl wz.heap.size wz).alloc (Nat.le_refl _) (.cells #[.int .u8 (p : Int)] 5)))
         have HBk : Hid (bytesG ((g :: r).take j) ++ (part.drop q).reverse ++ [UInt8.ofNat p] = bytesG ((g :: r).take j) ++ (part.drop k).reverse) := by
          have hkl : k < part.length := by have := u_ HK; omega
          show _ = _
          rw [List.drop_eq_getElem_cons hkl, List.reverse_cons, hqk, List.append_assoc]
          have e : part[k] = UInt8.ofNat p := by
           rw [← hp, List.getD_eq_getElem?_getD, List.getElem?_eq_getElem hkl, Option.getD_some, UInt8.ofNat_toNat]
          rw [e]
         have hL6 : L5 + 1 ≤ 300 := by
          have h1 := congrArg List.length (u_ HBk)
          rw [List.length_append, u_ HL5, List.length_singleton, List.length_append, u_ HL, List.length_reverse, List.length_drop, u_ HK] at h1
          omega
         have HL6 : Hid ((bytesG ((g :: r).take j) ++ (part.drop k).reverse).length = L5 + 1) := by show _ = _; rw [← u_ HBk, List.length_append, u_ HL5]; rfl
         have Hqk := h_ hqk
         clear hqk hp HBy HO5 Hz
         go_wp2_with (at_builtin; refine wpList_append_grew rfl _ _ rfl (.slice sp5 L5 c5) (.slice (some ⟨wz.heap.size, 0, none⟩) 1 1) (bytesG ((g :: r).take j) ++ (part.drop q).reverse) [UInt8.ofNat p] rfl (u_ HO6) rfl (u_ HY) (by rw [u_ HL5]; simp only [List.length_singleton]; omega) ?_
                      intro v3 W3 hR3 hg3
                      rw [u_ HBk] at hR3
                      obtain ⟨p6, q6, rfl⟩ := hR3.own.form
                      rw [u_ HL6] at hR3 hg3 ⊢
                      have HO7 := h_ hR3
                      have hby7 := hg3.bytes (u_ HAp) (u_ HBy6) (u_ Hpne)
                      have HBy7 := h_ hby7.1
                      have HAp7 := h_ hby7.2
                      clear hR3 hg3 hby7)
         go_roundw
         case rel =>
          first
           | exact ⟨k, L5 + 1, q6, (k : Int) - 1, p6, by have := u_ Hqk; omega, by omega, by omega, by omega, rfl, by go_num, by show _ = _; omega, HL6, HO7, HBy7, HAp7⟩
           | ((repeat apply Exists.intro); exact ⟨⟨k, L5 + 1, q6, (k : Int) - 1, p6, by have := u_ Hqk; omega, by omega, by omega, by omega, rfl, by go_num, by show _ = _; omega, HL6, HO7, HBy7, HAp7⟩, rfl⟩)
         case measure => simp [intOf] <;> omega
        ·have z1 : decide ((0 : Int) ≤ z) = false := by simp; omega
         have hB : bytesG ((g :: r).take j) ++ (part.drop q).reverse = bytesG ((g :: r).take (j + 1)) := by
          have h1 : q = 0 := by have := u_ Hz; omega
          rw [h1, List.drop_zero, u_ HEq2, u_ HBn]
         rw [hB] at HL5 HO5
         have hL6 : L5 ≤ 200 := by have h1 := u_ HL5; have h2 := u_ HLn; omega
         have Hij2 : Hid (i + 1 = j + 1 + 1) := by have := u_ Hij; show _ = _; omega
         clear hB HBy HAp Hz
         go_wp2
         go_roundw
         case rel =>
          first
           | exact ⟨i + 1, j + 1, L5, c5, sp5, by omega, u_ Hij2, hL6, rfl, by go_num, HL5, HO5⟩
           | ((repeat apply Exists.intro); exact ⟨⟨i + 1, j + 1, L5, c5, sp5, by omega, u_ Hij2, hL6, rfl, by go_num, HL5, HO5⟩, rfl⟩)
         case measure => simp [intOf] <;> omega
    ·obtain ⟨f1, f1n⟩ := ltVVf i N
     have hall : (g :: r).take j = g :: r := List.take_of_length_le (by have h1 := u_ HM; have h2 := u_ HN; have h3 := u_ Hij; simp; omega)
     rw [hall] at HO HL
     have HRr := h_ (HR3.call HO.b)
     have H6 : Hid ((#[.int .i64 0, .int .i64 6, .bool false, .slice sp L c, .slice none 0 0] : Array Value).all (·.oneCell') = true) := by show _ = true; simp [Value.oneCell']
     have Hfr : Hid (∀ j, (Value.slice sp L c).ownBlock = some j → w3.heap.size ≤ j) := OwnV.fresh HO.own
     have HRlt : Hid (R < w3.heap.size ∧ w.heap.size ≤ w3.heap.size) := ⟨HR3.lt, HR3.b.size⟩
     clear hall
     go_wp2_with (refine wpList_store_row rfl 33 _ _ rfl R _ rfl rfl 33 _ HRr.res value5r rfl (u_ H6) ?_)
     refine bodyPost_ret (res_row_tmp Tryz.results15 _ _ R 33 #[.int .i64 0, .int .i64 6, .bool false, .slice sp L c, .slice none 0 0] (0, 0) _ rfl (HRr.set #[.int .i64 0, .int .i64 6, .bool false, .slice sp L c, .slice none 0 0]).res Tryz.underlying33 rfl value5r _ rfl) rfl ⟨[.int .i64 0, .int .i64 6, .bool false, .slice sp L c, .slice none 0 0], by rw [HE.2]; rfl, ?_, (HRr.set #[.int .i64 0, .int .i64 6, .bool false, .slice sp L c, .slice none 0 0]).b⟩
     rw [HE.1]
     have h1 : OwnB (wr.setRow R #[.int .i64 0, .int .i64 6, .bool false, .slice sp L c, .slice none 0 0]) w3.heap.size (.slice sp L c) (bytesG (g :: r)) := OwnV.kept HO.own (grown_setRowN _ _ _) (by
      cases ho : (Value.slice sp L c).ownBlock with
      | none => exact Or.inl rfl
      | some j =>
       right
       intro e
       have h2 := u_ Hfr j ho
       have h3 := HRlt.1
       simp only [Option.some.injEq] at e
       omega)
     refine leaf_own 0 6 h1.bytes (fun j hj => ?_) ?_
     ·have h2 := u_ Hfr j hj
      have h3 := HRlt.2
      omega
     ·have h1 := u_ HL
      omega
end Q
end Go.Proofs.YtcofnockikninaaGreatDoor
