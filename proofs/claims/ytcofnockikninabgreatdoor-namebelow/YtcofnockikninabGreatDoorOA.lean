/-
  The walk of the landed numberOf.
-/
import Derived.Test.YtcofnockikninabGreatDoorPB
import Derived.Test.YtcofnockikninabGreatDoorOq10
import Derived.Test.YtcofnockikninabGreatDoorPD
import Derived.Test.YtcofnockikninabGreatDoorNj
import Derived.Test.YtcofnockikninabGreatDoorNn
namespace Go.Proofs.YtcofnockikninabGreatDoor
open Go.RowKit
def numR (p : Bs) : Nat := if numOk p = true then numV p else 0
theorem numR_no {p : Bs} (h : numOk p = false) : numR p = 0 := by unfold numR; rw [h]; rfl
theorem numR_yes {p : Bs} (h : numOk p = true) : numR p = numV p := by unfold numR; rw [if_pos h]
theorem numR_lt (p : Bs) : numR p < 1099511627776 := by
  cases h : numOk p with
  | false => rw [numR_no h]; omega
  | true => rw [numR_yes h]; exact ((numOk_iff p).1 h).2.2.2
namespace N
set_option maxRecDepth 100000 in
set_option maxHeartbeats 8000000 in
theorem numof_c (w : World) (s : ByteArray) (hs : s.size ≤ 1000000000) :
    Calls Tryz.prog 84 #[.string s] w fun e w' => e = .returned (.tuple #[.int .i64 (numR (bs s) : Int), .bool (numOk (bs s))]) ∧ Below w.heap.size w w' := by
  obtain ⟨ANS, hA⟩ : ∃ ANS, numOk (bs s) = ANS := ⟨_, rfl⟩
  obtain ⟨NR, hNR⟩ : ∃ NR, numR (bs s) = NR := ⟨_, rfl⟩
  rw [hA, hNR]
  have HF : Hid (numOk (bs s) = false → ANS = false ∧ NR = 0) := fun h => ⟨by rw [← hA]; exact h, by rw [← hNR]; exact numR_no h⟩
  have HY : Hid (numOk (bs s) = true → ANS = true ∧ NR = numV (bs s)) := fun h => ⟨by rw [← hA]; exact h, by rw [← hNR]; exact numR_yes h⟩
  clear hA hNR
  obtain ⟨E, hE⟩ : ∃ E, decide (bs s = []) = E := ⟨_, rfl⟩
  have he : (s.toList == ([] : Bs)) = E := by rw [nil_str]; exact hE
  have HE := hide hE
  obtain ⟨IT, hIT⟩ : ∃ IT, w.heap.size = IT := ⟨_, rfl⟩
  have H0 : Hid ((w.iter s 0).heap[IT]? = some (.stringIter s 0)) := by show _ = _; rw [← hIT]; exact World.iter_heap w s 0
  have HB0 : Hid (Below IT w (w.iter s 0)) := by show Below _ _ _; rw [← hIT]; exact (Below.refl _ _).alloc (Nat.le_refl _) _
  obtain ⟨w1, hw1⟩ : ∃ w1, w.iter s 0 = w1 := ⟨_, rfl⟩
  rw [hw1] at H0 HB0
  clear hE
  go_enter Tryz.func84, Tryz.ntmps84
  go_wp2
  have HIT := hide hIT
  clear hw1 hIT
  go_loopg [4] (s.size + 1) (fun gk nn wr => Hid (Below IT w wr) ∧ ∃ pos n : Nat, nn = .int .i64 (n : Int) ∧ Hid (wr.heap[IT]? = some (.stringIter s pos)) ∧ pos ≤ s.size ∧ s.size < gk + pos ∧ n < 1099511627776 ∧ Hid (((bs s).take pos).all digC = true ∧ numV ((bs s).take pos) = n ∧ (2 ≤ pos → ¬ (bs s).getD 0 0 = 48)))
  case atStart => exact ⟨HB0, 0, 0, rfl, H0, by omega, by omega, by omega, rfl, rfl, fun h => by omega⟩
  case round =>
    clear HB0 H0
    obtain ⟨HB, pos, n, rfl, HI, hp, hg, hn, HT⟩ := hrel
    by_cases hlt : pos < s.size
    · obtain ⟨g', rfl⟩ : ∃ g', gk = g' + 1 := ⟨gk - 1, by omega⟩
      obtain ⟨d, hd⟩ : ∃ d, Utf8.decode s pos = d := ⟨_, rfl⟩
      obtain ⟨r, l⟩ := d
      have hr : r ≤ 2147483647 := by have := decode_le s pos; rw [hd] at this; exact this
      have hnx : ∀ ty, (Instr.next (.pointer (some ⟨IT, 0, none⟩)) true ty).run Tryz.prog wr = .ok (.tuple #[.bool true, .int .i64 pos, .int .i32 (r : Int)]) (wr.iterAt IT s (pos + l)) := fun ty => by
        have := Lib.run_next_any_at (P := Tryz.prog) wr IT s pos ty (unhide HI) hlt
        rw [hd] at this
        exact this
      have HI2 := hide (Lib.iterAt_heap wr IT s pos (pos + l) (unhide HI))
      have HB2 := hide (Lib.below_iterAt (unhide HB) (k := IT) (Nat.le_refl _) s (pos + l))
      obtain ⟨W1, hW1⟩ : ∃ W1, wr.iterAt IT s (pos + l) = W1 := ⟨_, rfl⟩
      rw [hW1] at HI2 HB2
      simp only [hW1] at hnx
      have HC := hide (isdigit_c r hr W1)
      obtain ⟨u, hu⟩ : ∃ u, digN r = u := ⟨_, rfl⟩
      rw [hu] at HC
      have hpl : pos < (bs s).length := by rw [bs_len]; exact hlt
      have key : (u = false ∧ digC ((bs s).getD pos 0) = false) ∨ (l = 1 ∧ ((bs s).getD pos 0).toNat = r ∧ digC ((bs s).getD pos 0) = u) := by
        rw [bs_get s hlt]
        by_cases ha : (s[pos]'hlt).toNat < 128
        · have := decode_ascii s pos hlt ha
          rw [hd] at this
          simp only [Prod.mk.injEq] at this
          exact Or.inr ⟨this.2, this.1.symm, by rw [← hu, this.1]; rfl⟩
        · have := (decode_high s pos hlt (by omega)).1
          rw [hd] at this
          have this : 128 ≤ r := this
          refine Or.inl ⟨?_, ?_⟩
          · rw [← hu]
            unfold digN
            rw [decide_eq_false (show ¬ r ≤ 57 by omega)]
            simp
          · unfold digC
            rw [decide_eq_false (show ¬ (s[pos]'hlt).toNat ≤ 57 by omega)]
            simp
      obtain ⟨A, hAa⟩ : ∃ A, decide (0 < pos) = A := ⟨_, rfl⟩
      obtain ⟨B, hBb⟩ : ∃ B, decide (n = 0) = B := ⟨_, rfl⟩
      have a1 : decide ((0 : Int) < (pos : Int)) = A := by rw [← hAa, decide_eq_decide]; omega
      have b1 : ((n : Int) == 0) = B := by rw [← hBb]; by_cases h : n = 0 <;> simp [h]
      have a1n : decide (0 < pos) = A := hAa
      have b1n : decide (n = 0) = B := hBb
      have HAB : Hid (A = true → B = true → numOk (bs s) = false) := fun h1 h2 => by
        subst h1
        subst h2
        have h3 : n = 0 := of_decide_eq_true hBb
        exact num_nought (k := pos) (of_decide_eq_true hAa) hpl (by rw [(unhide HT).2.1]; exact h3)
      have HNB : Hid ((A && B) = false → 1 ≤ pos → n ≠ 0) := fun h1 h2 => by
        rw [decide_eq_true (show 0 < pos by omega)] at hAa
        rw [← hAa, Bool.true_and, ← hBb] at h1
        exact of_decide_eq_false h1
      clear hd hW1 hu HI HB hAa hBb
      cases u with
      | false =>
        have HNo : Hid (ANS = false ∧ NR = 0) := unhide HF (num_bad hpl (by rcases key with ⟨_, h⟩ | ⟨_, _, h⟩ <;> exact h))
        clear key HT HI2 HAB HNB
        cases A <;> cases B <;>
        · (first | (have a3 : 0 < pos := of_decide_eq_true a1n) | (have a3 : ¬ 0 < pos := of_decide_eq_false a1n))
          go_wp2_with (go_at_call 99; refine (unhide HC).mono ?_; rintro e w' ⟨rfl, hw⟩; obtain rfl := hw)
          go_ret2
          exact ⟨by rw [(unhide HNo).1, (unhide HNo).2]; rfl, by rw [unhide HIT]; exact unhide HB2⟩
      | true =>
        have key2 : l = 1 ∧ ((bs s).getD pos 0).toNat = r ∧ digC ((bs s).getD pos 0) = true := by
          rcases key with ⟨h, _⟩ | h
          · cases h
          · exact h
        obtain ⟨hl1, hcr, hdc⟩ := key2
        have hdr := (digC_iff _).1 hdc
        rw [hcr] at hdr
        rw [hl1] at HI2
        clear key hl1
        by_cases hAB : (A && B) = true
        · have HNo : Hid (ANS = false ∧ NR = 0) := by
            simp only [Bool.and_eq_true] at hAB
            exact unhide HF (unhide HAB hAB.1 hAB.2)
          obtain ⟨rfl, rfl⟩ : A = true ∧ B = true := by simpa using hAB
          clear hAB HT HI2 HAB HNB hcr hdc
          (first | (have a3 : 0 < pos := of_decide_eq_true a1n) | (have a3 : ¬ 0 < pos := of_decide_eq_false a1n))
          go_wp2_with (go_at_call 99; refine (unhide HC).mono ?_; rintro e w' ⟨rfl, hw⟩; obtain rfl := hw)
          go_ret2
          exact ⟨by rw [(unhide HNo).1, (unhide HNo).2]; rfl, by rw [unhide HIT]; exact unhide HB2⟩
        · have hAB2 : (A && B) = false := by simpa using hAB
          obtain ⟨m1, hm1⟩ : ∃ m1, 10 * n = m1 := ⟨_, rfl⟩
          obtain ⟨dd, hdd⟩ : ∃ dd, r - 48 = dd := ⟨_, rfl⟩
          obtain ⟨n2, hn2⟩ : ∃ n2, m1 + dd = n2 := ⟨_, rfl⟩
          have e1 : (10 : Int) * (n : Int) = (m1 : Int) := by omega
          have e2 : (r : Int) - 48 = (dd : Int) := by omega
          have e3 : (m1 : Int) + (dd : Int) = (n2 : Int) := by omega
          have bdd : dd ≤ 9 := by omega
          have bm1 : m1 ≤ 10995116277760 := by omega
          have hV : numV ((bs s).take (pos + 1)) = n2 := by
            rw [numV_succ hpl, hcr, (unhide HT).2.1]
            omega
          have HNot : Hid (2 ≤ pos + 1 → ¬ (bs s).getD 0 0 = 48) := fun h => num_head (k := pos) (by omega) (by omega) (by rw [(unhide HT).2.1]; exact unhide HNB hAB2 (by omega)) (unhide HT).2.2
          have HAll : Hid (((bs s).take (pos + 1)).all digC = true) := by
            show _ = _
            rw [take_snocQ hpl, List.all_append, (unhide HT).1, List.all_cons, hdc]
            rfl
          have HV := hide hV
          by_cases hbig : 1099511627776 ≤ n2
          · have z1 : decide ((1099511627775 : Int) < (n2 : Int)) = true := by simp; omega
            have z1n : decide (1099511627775 < n2) = true := by simp; omega
            have HNo : Hid (ANS = false ∧ NR = 0) := unhide HF (num_great (k := pos + 1) (by rw [hV]; exact hbig))
            clear hAB HT HI2 HAB HNB hcr hdc HNot HAll HV hV hm1 hdd hn2
            cases A <;> cases B <;> first
            | (cases hAB2; done)
            | (clear hAB2
               (first | (have a3 : 0 < pos := of_decide_eq_true a1n) | (have a3 : ¬ 0 < pos := of_decide_eq_false a1n))
               go_wp2_with (go_at_call 99; refine (unhide HC).mono ?_; rintro e w' ⟨rfl, hw⟩; obtain rfl := hw)
               go_ret2
               exact ⟨by rw [(unhide HNo).1, (unhide HNo).2]; rfl, by rw [unhide HIT]; exact unhide HB2⟩)
          · have z1 : decide ((1099511627775 : Int) < (n2 : Int)) = false := by simp; omega
            have z1n : decide (1099511627775 < n2) = false := by simp; omega
            clear hAB HT HAB HNB hcr hdc hV hm1 hdd hn2
            cases A <;> cases B <;> first
            | (cases hAB2; done)
            | (clear hAB2
               (first | (have a3 : 0 < pos := of_decide_eq_true a1n) | (have a3 : ¬ 0 < pos := of_decide_eq_false a1n))
               go_wp2_with (go_at_call 99; refine (unhide HC).mono ?_; rintro e w' ⟨rfl, hw⟩; obtain rfl := hw)
               go_roundg g'
               case measure => omega
               case rel => exact ⟨HB2, pos + 1, n2, rfl, HI2, by omega, by omega, by omega, unhide HAll, unhide HV, unhide HNot⟩)
    · have hnx : ∀ ty, (Instr.next (.pointer (some ⟨IT, 0, none⟩)) true ty).run Tryz.prog wr = .ok (.tuple #[.bool false]) wr := fun ty => Lib.run_next_end_at wr IT s pos ty (unhide HI) hlt
      have HN2 : Hid ((E = true → ANS = false ∧ NR = 0 ∧ n = 0) ∧ (E = false → ANS = true ∧ NR = n)) := by
        obtain ⟨t1, t2, t3⟩ := unhide HT
        have hps : pos = (bs s).length := by rw [bs_len]; omega
        rw [hps, List.take_length] at t1 t2
        refine ⟨fun h => ?_, fun h => ?_⟩
        · have h0 : bs s = [] := of_decide_eq_true ((unhide HE).trans h)
          have := unhide HF (by rw [h0]; rfl)
          refine ⟨this.1, this.2, ?_⟩
          rw [← t2, h0]
          rfl
        · have h0 : bs s ≠ [] := of_decide_eq_false ((unhide HE).trans h)
          have := unhide HY (num_end h0 t1 (by rw [← hps]; exact t3) (by rw [t2]; exact hn))
          exact ⟨this.1, this.2.trans t2⟩
      clear HI HT
      cases E with
      | true =>
        obtain ⟨h1, h2, h3⟩ := (unhide HN2).1 rfl
        subst h3
        have H1 := hide h1
        have H2 := hide h2
        clear h1 h2 HN2
        go_wp2
        go_ret2
        exact ⟨by rw [unhide H1, unhide H2]; rfl, by rw [unhide HIT]; exact unhide HB⟩
      | false =>
        have HN3 := hide ((unhide HN2).2 rfl)
        clear HN2
        go_wp2
        go_ret2
        exact ⟨by rw [(unhide HN3).1, (unhide HN3).2]; rfl, by rw [unhide HIT]; exact unhide HB⟩
end N
end Go.Proofs.YtcofnockikninabGreatDoor
/-
  The walk of the landed putGroup.
-/
namespace Go.Proofs.YtcofnockikninabGreatDoor
open Go.RowKit
theorem or7 : ∀ p : Fin 256, bits .or .u8 ((p.val : Nat) : Int) 128 = ((128 + p.val % 128 : Nat) : Int) := by decide +kernel
theorem one_byte (w : World) (p : Nat) (hp : p < 256) : BytesAt (w.alloc (.cells #[.int .u8 (p : Int)] 5)) (.slice (some ⟨w.heap.size, 0, none⟩) 1 1) [UInt8.ofNat p] := by
  have h := bytes_new w [UInt8.ofNat p]
  have e : (UInt8.ofNat p).toNat = p := by rw [UInt8.toNat_ofNat']; omega
  simp only [List.map_cons, List.map_nil, bv, e] at h
  exact h
theorem shift_succ (n s : Nat) : n / 2 ^ (s + 7) = n / 2 ^ s / 128 := by rw [Nat.pow_add, ← Nat.div_div_eq_div_mul]
theorem shift_big {n s : Nat} (hn : n < 1099511627776) (h : 128 ≤ n / 2 ^ s) : s ≤ 33 := by
  refine Nat.le_of_not_lt fun hs => ?_
  have h1 : 2 ^ 34 ≤ 2 ^ s := Nat.pow_le_pow_right (by omega) hs
  have h2 : n / 2 ^ s ≤ n / 2 ^ 34 := Nat.div_le_div_left h1 (by omega)
  omega
namespace N
open K
set_option maxRecDepth 100000 in
set_option maxHeartbeats 8000000 in
theorem putgroup_c (wb w : World) (x : Value) (b : Bs) (n : Nat) (hx : Row wb w x b) (hn : n < 1099511627776) (hl : b.length ≤ 1000000) :
    Calls Tryz.prog 59 #[x, .int .i64 (n : Int)] w fun e w' => ∃ v, e = .returned v ∧ Row wb w' v (b ++ putG n) := by
  obtain ⟨sp, c, rfl⟩ := hx.own.form
  obtain ⟨L, hL⟩ : ∃ L, b.length = L := ⟨_, rfl⟩
  rw [hL] at hx hl ⊢
  have HR := hide hx
  have HL := hide hL
  have HBl : Hid (b.length ≤ 1000000) := by show _ ≤ _; omega
  clear hx hL
  go_enter Tryz.func59, Tryz.ntmps59
  go_wp2
  go_loopw [5] (fun ss wr => ∃ s : Nat, s ≤ 42 ∧ ss = .int .i64 (s : Int) ∧ Hid (s % 7 = 0) ∧ Hid (s = 0 ∨ 1 ≤ n / 2 ^ s) ∧ Hid (wr = w)) (fun ss _ => 50 - (intOf ss).toNat)
  case atStart => exact ⟨0, by omega, rfl, rfl, Or.inl rfl, rfl⟩
  case round =>
    obtain ⟨s, hs, rfl, H7, H1, HW⟩ := hrel
    obtain ⟨q, hq⟩ : ∃ q, n / 2 ^ s = q := ⟨_, rfl⟩
    have eq : (n : Int) / 2 ^ s = (q : Int) := by rw [← hq]; norm_cast
    have hqn : q < 1099511627776 := by rw [← hq]; exact Nat.lt_of_le_of_lt (Nat.div_le_self _ _) hn
    by_cases hbig : 128 ≤ q
    · have hs33 : s ≤ 33 := shift_big hn (by rw [hq]; exact hbig)
      have z1 : decide ((128 : Int) ≤ (q : Int)) = true := by simp; omega
      have z1n : decide (128 ≤ q) = true := by simp; omega
      have H12 : Hid (s + 7 = 0 ∨ 1 ≤ n / 2 ^ (s + 7)) := Or.inr (by rw [shift_succ, hq]; omega)
      have H72 : Hid ((s + 7) % 7 = 0) := by have := unhide H7; show _ = _; omega
      clear hq H1 H7
      go_wp2
      go_roundw
      case rel =>
        first
          | exact ⟨s + 7, by omega, by go_num, H72, H12, HW⟩
          | ((repeat apply Exists.intro); exact ⟨⟨s + 7, by omega, by go_num, H72, H12, HW⟩, rfl⟩)
      case measure => simp [intOf]; omega
    · have z1 : decide ((128 : Int) ≤ (q : Int)) = false := by simp; omega
      have z1n : decide (128 ≤ q) = false := by simp; omega
      have Hz : Hid (hiR (n / 2 ^ (s + 7)) = []) := by
        show _ = _
        rw [shift_succ, hq, show q / 128 = 0 by omega, hiR_zero]
      have HRr : Hid (Row wb wr (.slice sp L c) (b ++ hiR (n / 2 ^ (s + 7)))) := by
        have := unhide HW
        rw [unhide Hz, List.append_nil, this]
        exact unhide HR
      clear hq HR HW
      go_wp2
      clear z1 z1n eq hqn hbig
      go_loopw [0, 5] (fun bb ss wr => ∃ (s L cv : Nat) (sv : Option Addr), s ≤ 42 ∧ bb = .slice sv L cv ∧ ss = .int .i64 (s : Int) ∧ Hid (s % 7 = 0) ∧ Hid (s = 0 ∨ 1 ≤ n / 2 ^ s) ∧ Hid ((b ++ hiR (n / 2 ^ (s + 7))).length = L) ∧ Hid (Row wb wr (.slice sv L cv) (b ++ hiR (n / 2 ^ (s + 7))))) (fun _ ss _ => (intOf ss).toNat)
      case atStart => exact ⟨s, L, c, sp, hs, rfl, rfl, H7, H1, by show _ = _; rw [unhide Hz, List.append_nil]; exact unhide HL, HRr⟩
      case round =>
        clear HRr Hz H7 H1 hs HL hl
        obtain ⟨s, L, cv, sv, hs, rfl, rfl, H7, H1, HL, HR⟩ := hrel
        have HLs : Hid ((b ++ hiR (n / 2 ^ (s + 7))).length ≤ 1000100) := by
          have h1 := hiR_len 6 (n / 2 ^ (s + 7)) (Nat.lt_of_le_of_lt (Nat.div_le_self _ _) (by omega))
          have h2 := unhide HBl
          show _ ≤ _
          rw [List.length_append]
          omega
        by_cases h0 : 0 < s
        · obtain ⟨s2, rfl⟩ : ∃ s2, s = s2 + 7 := ⟨s - 7, by have := unhide H7; omega⟩
          obtain ⟨q, hq⟩ : ∃ q, n / 2 ^ (s2 + 7) = q := ⟨_, rfl⟩
          obtain ⟨S, hS⟩ : ∃ S, s2 + 7 = S := ⟨_, rfl⟩
          have eq : (n : Int) / 2 ^ S = (q : Int) := by rw [← hq, ← hS]; norm_cast
          have hqn : q < 1099511627776 := by rw [← hq]; exact Nat.lt_of_le_of_lt (Nat.div_le_self _ _) hn
          have hq1 : 1 ≤ q := by
            rcases unhide H1 with h | h
            · omega
            · rw [hq] at h; exact h
          obtain ⟨q2, hq2⟩ : ∃ q2, q % 256 = q2 := ⟨_, rfl⟩
          have u1 : IntKind.u8.wrap (q : Int) = (q2 : Int) := by rw [IntKind.wrap_u8']; omega
          obtain ⟨p, hp⟩ : ∃ p, 128 + q2 % 128 = p := ⟨_, rfl⟩
          have hq22 : q2 < 256 := by omega
          have hor : bits .or .u8 (q2 : Int) 128 = (p : Int) := by rw [← hp]; exact or7 ⟨q2, hq22⟩
          have hp2 : p < 256 := by omega
          have HY := hide (one_byte wr p hp2)
          have HR2 := hide ((unhide HR).lit (.cells #[.int .u8 (p : Int)] 5))
          have HB : Hid (b ++ hiR (n / 2 ^ (S + 7)) ++ [UInt8.ofNat p] = b ++ hiR (n / 2 ^ (s2 + 7))) := by
            show _ = _
            rw [← hS, shift_succ n (s2 + 7), hq, hiR_pos (m := q) (by omega), List.append_assoc, show p = 128 + q % 128 by omega]
          have H72 : Hid (s2 % 7 = 0) := by have := unhide H7; show _ = _; omega
          have H12 : Hid (s2 = 0 ∨ 1 ≤ n / 2 ^ s2) := by
            right
            have h1 := shift_succ n s2
            rw [hq] at h1
            omega
          have z1 : decide ((0 : Int) < (S : Int)) = true := by simp; omega
          have z1n : decide (0 < S) = true := by simp; omega
          have eS : (S : Int) - 7 = (s2 : Int) := by omega
          rw [hS] at HR HL HR2 HLs ⊢
          have HS := hide hS
          clear hq hq2 hp hS H7 H1 h0
          go_wp2_with (at_builtin; refine wpList_append_row rfl _ _ rfl (.slice sv L cv) (.slice (some ⟨wr.heap.size, 0, none⟩) 1 1) (b ++ hiR (n / 2 ^ (S + 7))) [UInt8.ofNat p] rfl (unhide HR2) rfl (unhide HY) (by have := unhide HLs; simp only [List.length_singleton]; omega) ?_
                       intro v3 W3 hR3
                       rw [unhide HB] at hR3
                       obtain ⟨p3, q3, rfl⟩ := hR3.own.form
                       obtain ⟨L3, hL3⟩ : ∃ L3, (b ++ hiR (n / 2 ^ (s2 + 7))).length = L3 := ⟨_, rfl⟩
                       rw [hL3] at hR3 ⊢
                       have HR3 := hide hR3
                       have HL3 := hide hL3
                       clear hR3 hL3)
          go_roundw
          case rel =>
            first
              | exact ⟨s2, L3, q3, p3, by have := unhide HS; omega, rfl, by go_num, H72, H12, HL3, HR3⟩
              | ((repeat apply Exists.intro); exact ⟨⟨s2, L3, q3, p3, by have := unhide HS; omega, rfl, by go_num, H72, H12, HL3, HR3⟩, rfl⟩)
          case measure => simp [intOf]; omega
        · obtain rfl : s = 0 := by omega
          have z1 : decide ((0 : Int) < ((0 : Nat) : Int)) = false := by simp
          obtain ⟨q2, hq2⟩ : ∃ q2, n % 256 = q2 := ⟨_, rfl⟩
          have u1 : IntKind.u8.wrap (n : Int) = (q2 : Int) := by rw [IntKind.wrap_u8']; omega
          obtain ⟨p, hp⟩ : ∃ p, q2 % 128 = p := ⟨_, rfl⟩
          have hq22 : q2 < 256 := by omega
          have hand : bits .andNot .u8 (q2 : Int) 128 = (p : Int) := by rw [← hp]; exact low7 ⟨q2, hq22⟩
          have hp2 : p < 256 := by omega
          have HY := hide (one_byte wr p hp2)
          have HR2 := hide ((unhide HR).lit (.cells #[.int .u8 (p : Int)] 5))
          have HB : Hid (b ++ hiR (n / 2 ^ (0 + 7)) ++ [UInt8.ofNat p] = b ++ putG n) := by
            show _ = _
            unfold putG
            rw [List.append_assoc, show p = n % 128 by omega]
          clear hq2 hp h0 H7 H1
          go_wp2_with (at_builtin; refine wpList_append_row rfl _ _ rfl (.slice sv L cv) (.slice (some ⟨wr.heap.size, 0, none⟩) 1 1) (b ++ hiR (n / 2 ^ (0 + 7))) [UInt8.ofNat p] rfl (unhide HR2) rfl (unhide HY) (by have := unhide HLs; simp only [List.length_singleton]; omega) ?_
                       intro v3 W3 hR3
                       rw [unhide HB] at hR3
                       have HR3 := hide hR3
                       clear hR3)
          go_ret
          exact ⟨_, rfl, unhide HR3⟩
end N
end Go.Proofs.YtcofnockikninabGreatDoor
/-
  The walk of the landed groupsIn.
-/
namespace Go.Proofs.YtcofnockikninabGreatDoor
open Go.RowKit
theorem splitD_le : ∀ l : Bs, (splitD l).length ≤ l.length + 1
  | [] => by simp [splitD]
  | c :: l => by
    have ih := splitD_le l
    obtain ⟨p, ps, h⟩ := splitD_form l
    by_cases hc : c = 46
    · subst hc; rw [splitD_eq, List.length_cons, List.length_cons]; omega
    · rw [splitD_ne hc h, List.length_cons, List.length_cons]; rw [h, List.length_cons] at ih; omega
/-- What SplitN gives: all parts, where they are no more than twenty; else twenty-one. -/
theorem splitN_parts (s : Bs) : ((splitD s).length ≤ 20 → Lib.splitK [46] 0 (min 21 (s.length + 1) - 1) s = splitD s) ∧ (20 < (splitD s).length → (Lib.splitK [46] 0 (min 21 (s.length + 1) - 1) s).length = 21) := by
  have hle := splitD_le s
  obtain ⟨k, hk⟩ : ∃ k, min 21 (s.length + 1) - 1 = k := ⟨_, rfl⟩
  rw [hk]
  obtain ⟨h1, h2⟩ := splitK_one k s
  refine ⟨fun h => h1 (by omega), fun h => ?_⟩
  have hk20 : k = 20 := by omega
  subst hk20
  by_cases h21 : (splitD s).length ≤ 21
  · rw [h1 h21]; omega
  · exact h2 (by omega)
/-- The numbers of the first parts, then noughts. -/
def numsRow (P : List Bs) (k n : Nat) : List Value := (P.take k).map (fun p => nv (numR p)) ++ List.replicate (n - k) (.int .i64 0)
theorem numsRow_len (P : List Bs) (k n : Nat) (hk : k ≤ n) (hn : P.length = n) : (numsRow P k n).length = n := by
  unfold numsRow
  rw [List.length_append, List.length_map, List.length_take, List.length_replicate]
  omega
theorem numsRow_set (P : List Bs) (k n : Nat) (p : Bs) (hk : k < n) (hn : P.length = n) (hp : P[k]? = some p) : (numsRow P k n).set k (nv (numR p)) = numsRow P (k + 1) n := by
  unfold numsRow
  have hl : ((P.take k).map (fun p => nv (numR p))).length = k := by rw [List.length_map, List.length_take]; omega
  rw [List.set_append_right _ _ (by omega), hl, Nat.sub_self, show n - k = (n - (k + 1)) + 1 by omega, List.replicate_succ, List.set_cons_zero, List.take_add_one, hp, List.map_append, List.append_assoc]
  rfl
theorem numsRow_all (P : List Bs) (n : Nat) (hn : P.length = n) (h : P.all numOk = true) : numsRow P n n = (P.map numV).map nv := by
  unfold numsRow
  rw [Nat.sub_self, List.replicate_zero, List.append_nil, List.take_of_length_le (by omega), List.map_map]
  refine List.map_congr_left fun p hp => ?_
  rw [List.all_eq_true] at h
  show nv (numR p) = nv (numV p)
  rw [numR_yes (h p hp)]
namespace N
open K
set_option maxRecDepth 100000 in
set_option maxHeartbeats 16000000 in
theorem groupsin_c (w : World) (hR : Rdy w) (s : ByteArray) (hs : s.size ≤ 1000000) :
    Calls Tryz.prog 58 #[.string s] w fun e w' => ∃ (v : Value) (ok : Bool), e = .returned (.tuple #[v, .bool ok]) ∧ ((∃ gs, oidVP (bs s) = some gs ∧ ok = true ∧ ValsAt w' v (gs.map nv)) ∨ (oidVP (bs s) = none ∧ ok = false)) ∧ Below w.heap.size w w' := by
  obtain ⟨m, hm⟩ := hR.maxl
  have hsp := Tryz.strings_SplitN s (st [46]) 21 m w (by omega) hm (by rw [st_size]; simp) (by omega) (by omega)
  obtain ⟨L, hL⟩ : ∃ L, Lib.splitB (st [46]) 0 (min 21 (s.size + 1) - 1) s = L := ⟨_, rfl⟩
  have hLb : L.map (fun x => bs x) = Lib.splitK [46] 0 (min 21 ((bs s).length + 1) - 1) (bs s) := by
    have h1 := Lib.splitB_data (st [46]) 0 (min 21 (s.size + 1) - 1) s
    rw [hL] at h1
    rw [show (fun x : ByteArray => bs x) = fun x => x.data.toList from rfl, h1, bs_st]
    rfl
  have hsz : ∀ x ∈ L, x.size ≤ 1000000000 := by
    have key : ∀ (k : Nat) (z : ByteArray), z.size ≤ 1000000000 → ∀ x ∈ Lib.splitB (st [46]) 0 k z, x.size ≤ 1000000000 := fun k => by
      induction k with
      | zero => intro z hz x hx; simp [Lib.splitB] at hx; rw [hx]; exact hz
      | succ k ih =>
        intro z hz x hx
        unfold Lib.splitB at hx
        split at hx
        · simp at hx; rw [hx]; exact hz
        · rw [List.mem_cons] at hx
          rcases hx with rfl | hx
          · rw [ByteArray.size_extract]; omega
          · exact ih _ (by rw [ByteArray.size_extract]; omega) x hx
    rw [← hL]
    exact key _ s (by omega)
  obtain ⟨hP1, hP2⟩ := splitN_parts (bs s)
  rw [← hLb] at hP1 hP2
  obtain ⟨cap, hcap⟩ : ∃ cap, min 21 (s.size + 1) = cap := ⟨_, rfl⟩
  have hLle : L.length ≤ cap := by
    have := Lib.splitB_length_le (st [46]) 0 (min 21 (s.size + 1) - 1) s
    rw [hL] at this
    omega
  obtain ⟨N, hN⟩ : ∃ N, L.length = N := ⟨_, rfl⟩
  rw [hL, hN, hcap] at hsp
  obtain ⟨w1, hw1⟩ : ∃ w1, w.alloc (.cells (Lib.cellsOf L cap) 9) = w1 := ⟨_, rfl⟩
  obtain ⟨B, hB⟩ : ∃ B, w.heap.size = B := ⟨_, rfl⟩
  rw [hw1, hB] at hsp
  have hA : Blk w w1 B (Lib.cellsOf L cap) 9 := by rw [← hw1, ← hB]; exact Blk.new (Below.refl _ _) _ _
  have hAc : ∀ k x, L[k]? = some x → (Lib.cellsOf L cap)[k]? = some (Value.string x) := fun k x hx => by
    have hk : k < L.length := (List.getElem?_eq_some_iff.1 hx).1
    unfold Lib.cellsOf
    rw [List.getElem?_toArray, List.getElem?_append_left (by rw [List.length_map]; exact hk), List.getElem?_map, hx]
    rfl
  have Hsp := hide hsp
  have HA := hide hA
  have HAc := hide hAc
  have HN := hide hN
  have Hsz := hide hsz
  have HP1 := hide hP1
  have hN21 : N ≤ 21 := by omega
  have HPn : Hid (20 < (splitD (bs s)).length → N = 21) := fun h => by
    have := hP2 h
    rw [List.length_map] at this
    omega
  have HPl : Hid ((splitD (bs s)).length ≤ 20 → (splitD (bs s)).length = N) := fun h => by
    have := hP1 h
    rw [← this, List.length_map]
    exact hN
  clear hsp hA hAc hN hsz hP1 hP2 hLb hL hw1 hm hLle hcap
  by_cases h2 : N < 2
  · have HF : Hid (oidVP (bs s) = none) := by
      show _ = _
      unfold oidVP
      split
      · rename_i hc
        have h3 := unhide HPl hc.1
        obtain ⟨p, ps, hp⟩ := splitD_form (bs s)
        rw [hp] at h3 ⊢
        cases ps with
        | nil => rfl
        | cons q r => simp at h3; omega
      · rfl
    have d1 : decide ((N : Int) < 2) = true := by simp; omega
    have d1n : decide (N < 2) = true := by simp; omega
    clear HPn HPl HP1
    go_enter Tryz.func58, Tryz.ntmps58
    go_wp2_with fail
    refine (unhide Hsp).mono ?_
    rintro e w2 ⟨rfl, hw⟩
    obtain rfl := hw
    go_wp2
    go_ret2
    exact ⟨_, _, rfl, Or.inr ⟨unhide HF, rfl⟩, (unhide HA).b⟩
  have d1 : decide ((N : Int) < 2) = false := by simp; omega
  have d1n : decide (N < 2) = false := by simp; omega
  by_cases h21 : 20 < N
  · have HF : Hid (oidVP (bs s) = none) := by
      show _ = _
      unfold oidVP
      split
      · rename_i hc
        have h3 := unhide HPl hc.1
        omega
      · rfl
    have d2 : decide ((20 : Int) < (N : Int)) = true := by simp; omega
    have d2n : decide (20 < N) = true := by simp; omega
    clear HPn HPl HP1
    go_enter Tryz.func58, Tryz.ntmps58
    go_wp2_with fail
    refine (unhide Hsp).mono ?_
    rintro e w2 ⟨rfl, hw⟩
    obtain rfl := hw
    go_wp2
    go_ret2
    exact ⟨_, _, rfl, Or.inr ⟨unhide HF, rfl⟩, (unhide HA).b⟩
  have d2 : decide ((20 : Int) < (N : Int)) = false := by simp; omega
  have d2n : decide (20 < N) = false := by simp; omega
  obtain ⟨P, hP⟩ : ∃ P, splitD (bs s) = P := ⟨_, rfl⟩
  have hP20 : P.length ≤ 20 := by
    rw [← hP]
    refine Nat.le_of_not_lt fun h => ?_
    have := unhide HPn h
    omega
  have hPN : P.length = N := by rw [← hP]; exact unhide HPl (by rw [hP]; exact hP20)
  have hPL : L.map (fun x => bs x) = P := by rw [← hP]; exact unhide HP1 (by rw [hP]; exact hP20)
  have HV : Hid (oidVP (bs s) = if P.all numOk = true then firstG (P.map numV) else none) := by
    show _ = _
    unfold oidVP
    rw [hP]
    by_cases hall : P.all numOk = true
    · rw [if_pos ⟨hP20, hall⟩, if_pos hall]
    · rw [if_neg (fun h => hall h.2), if_neg hall]
  obtain ⟨W1, hmk, hrow, hbel⟩ := made_vals Eints rfl w1 .i64 .i64 N (N : Int) (N : Int) rfl rfl (by omega)
  obtain ⟨B1, hB1⟩ : ∃ B1, w1.heap.size = B1 := ⟨_, rfl⟩
  rw [hB1] at hmk hrow
  have HAW := hide ((unhide HA).call hbel)
  have hB1lt : w.heap.size ≤ B1 ∧ B < B1 := by
    have h1 := (unhide HA).b.size
    have h3 := (unhide HA).lt
    omega
  have HRow : Hid (RowAt 3 W1 B1 [] (numsRow P 0 N)) := by
    show RowAt _ _ _ _ _
    have e : numsRow P 0 N = List.replicate N (.int .i64 0) := by unfold numsRow; simp
    rw [e]
    exact hrow
  have HPN := hide hPN
  have HPL := hide hPL
  have HB1 := hide hB1lt
  clear hrow hbel hP hP20 hPN hPL HPn HPl HP1 hB1lt
  go_enter Tryz.func58, Tryz.ntmps58
  go_wp2_with fail
  refine (unhide Hsp).mono ?_
  rintro e w2 ⟨rfl, hw⟩
  obtain rfl := hw
  go_wp2
  clear hmk d1 d1n d2 d2n Hsp
  go_loopw [27] (fun ii wr => ∃ k : Nat, k ≤ N ∧ ii = .int .i64 (k : Int) ∧ Hid ((P.take k).all numOk = true) ∧ Hid (Blk w wr B (Lib.cellsOf L cap) 9) ∧ Hid (RowAt 3 wr B1 [] (numsRow P k N))) (fun ii _ => N - (intOf ii).toNat)
  case atStart => exact ⟨0, by omega, rfl, rfl, HAW, HRow⟩
  case round =>
    clear HAW HRow HA hB1
    obtain ⟨k, hk, rfl, HE, HB, HRw⟩ := hrel
    by_cases hlt : k < N
    · have hkl : k < L.length := by have := unhide HN; omega
      obtain ⟨x, hx⟩ : ∃ x, L[k] = x := ⟨_, rfl⟩
      have hLx : L[k]? = some x := by rw [List.getElem?_eq_getElem hkl, hx]
      have hc : wr.cell? ⟨B, k, none⟩ = some (.string x) := (unhide HB).cell k _ (unhide HAc k x hLx)
      have HPx : Hid (P[k]? = some (bs x)) := by
        show _ = _
        rw [← unhide HPL, List.getElem?_map, hLx]
        rfl
      have f1 : decide ((k : Int) < (N : Int)) = true := by simp; omega
      have f1n : decide (k < N) = true := by simp; omega
      have k0 : (0 : Int) ≤ (k : Int) := by omega
      have k1 : (k : Int) < (N : Int) := by omega
      have Hnm := hide (numof_c wr x (unhide Hsz x (by rw [← hx]; exact List.getElem_mem hkl)))
      obtain ⟨u, hu⟩ : ∃ u, numOk (bs x) = u := ⟨_, rfl⟩
      obtain ⟨n, hn⟩ : ∃ n, numR (bs x) = n := ⟨_, rfl⟩
      rw [hu, hn] at Hnm
      have Hu := hide hu
      have Hn := hide hn
      clear hx hu hLx hkl hn
      go_wp2_with fail
      refine (unhide Hnm).mono ?_
      rintro e w3 ⟨rfl, hb⟩
      have HB3 := hide ((unhide HB).call hb)
      have HRw3 := hide ((unhide HRw).below hb)
      clear hb hc Hnm HB HRw
      cases u with
      | false =>
        have HF : Hid (oidVP (bs s) = none) := by
          show _ = _
          rw [unhide HV, if_neg]
          intro h
          rw [List.all_eq_true] at h
          have := h (bs x) (List.mem_of_getElem? (unhide HPx))
          rw [unhide Hu] at this
          cases this
        clear HE
        go_wp2
        go_ret2
        exact ⟨_, _, rfl, Or.inr ⟨unhide HF, rfl⟩, (unhide HB3).b⟩
      | true =>
        have HE2 : Hid ((P.take (k + 1)).all numOk = true) := by
          show _ = _
          rw [List.take_add_one, unhide HPx, List.all_append, unhide HE]
          simp [unhide Hu]
        have hlen := numsRow_len P k N (by omega) (unhide HPN)
        have c3 := (unhide HRw3).cell k (by omega)
        have f3 := (unhide HRw3).frozen k
        have hr := (unhide HRw3).set k (by omega) (.int .i64 (n : Int))
        have he : (numsRow P k N).set k (.int .i64 (n : Int)) = numsRow P (k + 1) N := by
          rw [← unhide Hn]
          exact numsRow_set P k N (bs x) hlt (unhide HPN) (unhide HPx)
        rw [he] at hr
        have HR2 := hide hr
        have HB2 : Hid (Blk w (w3.setCell ⟨B1, k, none⟩ (.int .i64 (n : Int))) B (Lib.cellsOf L cap) 9) := by
          obtain ⟨g1, g2, g3⟩ := unhide HB3
          refine ⟨?_, g2.setCell (p := ⟨B1, k, none⟩) (unhide HB1).1 _, g3⟩
          rw [heap_setCell_other _ _ _ _ (show B ≠ B1 by have := (unhide HB1).2; omega)]
          exact g1
        obtain ⟨old, hold⟩ : ∃ old, (numsRow P k N).getD k undef = old := ⟨_, rfl⟩
        rw [hold] at c3
        clear hlen hr he hold HE HRw3 HB3
        go_wp2
        go_roundw
        case rel =>
          first
            | exact ⟨k + 1, by omega, by go_num, HE2, HB2, HR2⟩
            | ((repeat apply Exists.intro); exact ⟨⟨k + 1, by omega, by go_num, HE2, HB2, HR2⟩, rfl⟩)
        case measure => simp [intOf]; omega
    · have f1 : decide ((k : Int) < (N : Int)) = false := by simp; omega
      have f1n : decide (k < N) = false := by simp; omega
      obtain rfl : k = N := by omega
      have hall : P.all numOk = true := by
        have := unhide HE
        rw [List.take_of_length_le (by have := unhide HPN; omega)] at this
        exact this
      have hrow := unhide HRw
      rw [numsRow_all P k (unhide HPN) hall] at hrow
      obtain ⟨p0, p1, r, rfl⟩ : ∃ p0 p1 r, P = p0 :: p1 :: r := by
        have := unhide HPN
        match P, this with
        | [], h => simp at h; omega
        | [_], h => simp at h; omega
        | a :: b :: r, _ => exact ⟨a, b, r, rfl⟩
      simp only [List.map_cons] at hrow
      obtain ⟨a, ha⟩ : ∃ a, numV p0 = a := ⟨_, rfl⟩
      obtain ⟨b, hb⟩ : ∃ b, numV p1 = b := ⟨_, rfl⟩
      obtain ⟨R, hR'⟩ : ∃ R, r.map numV = R := ⟨_, rfl⟩
      have hab : a < 1099511627776 ∧ b < 1099511627776 := by
        simp only [List.all_cons, Bool.and_eq_true] at hall
        exact ⟨by rw [← ha]; exact ((numOk_iff p0).1 hall.1).2.2.2, by rw [← hb]; exact ((numOk_iff p1).1 hall.2.1).2.2.2⟩
      have HV2 : Hid (oidVP (bs s) = if a ≤ 2 ∧ (a < 2 → b < 40) ∧ b + 40 * a < 1099511627776 then some ((b + 40 * a) :: R) else none) := by
        show _ = _
        rw [unhide HV, if_pos hall, List.map_cons, List.map_cons, firstG_cons, ha, hb, hR']
      rw [ha, hb, hR'] at hrow
      have hkr : R.length + 2 = k := by rw [← hR', List.length_map]; have := unhide HPN; simp at this; omega
      have c0 : wr.cell? ⟨B1, 0, none⟩ = some (.int .i64 (a : Int)) := hrow.cell 0 (by simp)
      have c1 : wr.cell? ⟨B1, 1, none⟩ = some (.int .i64 (b : Int)) := hrow.cell 1 (by simp)
      have c1d : wr.drew.cell? ⟨B1, 1, none⟩ = some (.int .i64 (b : Int)) := hrow.drew.cell 1 (by simp)
      have f0 := hrow.drew.frozen 1
      obtain ⟨a40, ha40⟩ : ∃ a40, 40 * a = a40 := ⟨_, rfl⟩
      obtain ⟨g, hg⟩ : ∃ g, b + a40 = g := ⟨_, rfl⟩
      have e40 : (40 : Int) * (a : Int) = (a40 : Int) := by omega
      have eg : (b : Int) + (a40 : Int) = (g : Int) := by omega
      have hrow2 := hrow.drew.set 1 (by simp) (.int .i64 (g : Int))
      have hrow3 : RowAt 3 (wr.drew.setCell ⟨B1, 1, none⟩ (.int .i64 (g : Int))) B1 [] ((a :: g :: R).map nv) := hrow2
      have hbel : Below w.heap.size w (wr.drew.setCell ⟨B1, 1, none⟩ (.int .i64 (g : Int))) := (unhide HB).b.drew.setCell (p := ⟨B1, 1, none⟩) (unhide HB1).1 _
      have hown := hrow3.own (base := 0) (Nat.zero_le _) k k (by simp; omega) (by simp) (by simp only [maxLen]; omega)
      have hvals := OwnV.vals hown
      have k2 : 2 ≤ k := by omega
      obtain ⟨y, hy⟩ : ∃ y, y = Value.slice (cutAt (some ⟨B1, 0, none⟩) k 1) (k - 1) (k - 1) := ⟨_, rfl⟩
      have hsl : ∀ W, (Instr.sliceAt 53 (.slice (some ⟨B1, 0, none⟩) k k) (some (.int .i64 1)) none none).run Tryz.prog W = .ok y W := fun W => by
        rw [hy]
        exact slice_ints (some ⟨B1, 0, none⟩) k k 1 (by omega) W
      have hyv : ValsAt (wr.drew.setCell ⟨B1, 1, none⟩ (.int .i64 (g : Int))) y ((g :: R).map nv) := by
        have h4 : ((a :: g :: R).map nv).length = k := by simp; omega
        have h1 := vals_drop (l := (a :: g :: R).map nv) (c := k) (sp := some ⟨B1, 0, none⟩) (by rw [h4]; exact hvals) 1 (by simp)
        rw [hy]
        have h5 : ((a :: g :: R).map nv).length = k := by simp; omega
        rw [h5] at h1
        exact h1
      have c1g : (wr.drew.setCell ⟨B1, 1, none⟩ (.int .i64 (g : Int))).cell? ⟨B1, 1, none⟩ = some (.int .i64 (g : Int)) := hrow3.cell 1 (by simp)
      have HYv := hide hyv
      have Hbel := hide hbel
      have HBb := hide (unhide HB).b.drew
      have b0 : (0 : Int) < (k : Int) := by omega
      have b1 : (1 : Int) < (k : Int) := by omega
      obtain ⟨W3, hW3⟩ : ∃ W3, wr.drew.setCell ⟨B1, 1, none⟩ (.int .i64 (g : Int)) = W3 := ⟨_, rfl⟩
      rw [hW3] at c1g HYv Hbel
      have hba := hab.1
      have hbb := hab.2
      have hbg : g < 50000000000000 := by omega
      have ha40' : a40 < 45000000000000 := by omega
      obtain ⟨ys, yn, yc, hyf⟩ : ∃ ys yn yc, y = .slice ys yn yc := ⟨_, _, _, hy⟩
      subst hyf
      have Hfin : Hid (b + 40 * a = g) := by show _ = _; omega
      clear hall hrow hrow2 hrow3 hbel hown hvals hyv hy HE HB HRw ha hb hR' hab hkr ha40 hg HV HAc HN Hsz HPN HPL
      go_wp2
      go_region
      by_cases hA2 : 2 < a
      · have HF : Hid (oidVP (bs s) = none) := by show _ = _; rw [unhide HV2, if_neg (fun h => by omega)]
        have t1 : decide ((2 : Int) < (a : Int)) = true := by simp; omega
        have t1n : decide (2 < a) = true := by simp; omega
        clear HV2 hsl hW3 c1g
        go_wp2
        go_ret2
        exact ⟨_, _, rfl, Or.inr ⟨unhide HF, rfl⟩, unhide HBb⟩
      have t1 : decide ((2 : Int) < (a : Int)) = false := by simp; omega
      have t1n : decide (2 < a) = false := by simp; omega
      by_cases hA3 : a < 2 ∧ 40 ≤ b
      · have HF : Hid (oidVP (bs s) = none) := by show _ = _; rw [unhide HV2, if_neg (fun h => by have := h.2.1 hA3.1; omega)]
        have t2 : decide ((a : Int) < 2) = true := by simp; omega
        have t2n : decide (a < 2) = true := by simp; omega
        have t3 : decide ((40 : Int) ≤ (b : Int)) = true := by simp; omega
        have t3n : decide (40 ≤ b) = true := by simp; omega
        clear HV2 hsl hW3 c1g hA3
        go_wp2
        go_ret2
        exact ⟨_, _, rfl, Or.inr ⟨unhide HF, rfl⟩, unhide HBb⟩
      by_cases hmost : g ≤ 1099511627775
      · have HF : Hid (oidVP (bs s) = some (g :: R)) := by
          show _ = _
          have := unhide Hfin
          rw [unhide HV2, if_pos ⟨by omega, by omega, by omega⟩, this]
        have t4 : decide ((g : Int) ≤ 1099511627775) = true := by simp; omega
        have t4n : decide (g ≤ 1099511627775) = true := by simp; omega
        clear HV2
        by_cases hA4 : a < 2
        · have t2 : decide ((a : Int) < 2) = true := by simp; omega
          have t2n : decide (a < 2) = true := by simp; omega
          have t3 : decide ((40 : Int) ≤ (b : Int)) = false := by simp; omega
          have t3n : decide (40 ≤ b) = false := by simp; omega
          clear hA3 hA2 hA4
          go_wp2
          go_region
          go_wp2
          go_ret2
          exact ⟨_, _, rfl, Or.inl ⟨g :: R, unhide HF, rfl, (unhide HYv).drew⟩, (unhide Hbel).drew⟩
        · have t2 : decide ((a : Int) < 2) = false := by simp; omega
          have t2n : decide (a < 2) = false := by simp; omega
          clear hA3 hA2 hA4
          go_wp2
          go_region
          go_wp2
          go_ret2
          exact ⟨_, _, rfl, Or.inl ⟨g :: R, unhide HF, rfl, (unhide HYv).drew⟩, (unhide Hbel).drew⟩
      · have HF : Hid (oidVP (bs s) = none) := by
          show _ = _
          have := unhide Hfin
          rw [unhide HV2, if_neg (fun h => by omega)]
        have t4 : decide ((g : Int) ≤ 1099511627775) = false := by simp; omega
        have t4n : decide (g ≤ 1099511627775) = false := by simp; omega
        clear HV2
        by_cases hA4 : a < 2
        · have t2 : decide ((a : Int) < 2) = true := by simp; omega
          have t2n : decide (a < 2) = true := by simp; omega
          have t3 : decide ((40 : Int) ≤ (b : Int)) = false := by simp; omega
          have t3n : decide (40 ≤ b) = false := by simp; omega
          clear hA3 hA2 hA4
          go_wp2
          go_region
          go_wp2
          go_ret2
          exact ⟨_, _, rfl, Or.inr ⟨unhide HF, rfl⟩, (unhide Hbel).drew⟩
        · have t2 : decide ((a : Int) < 2) = false := by simp; omega
          have t2n : decide (a < 2) = false := by simp; omega
          clear hA3 hA2 hA4
          go_wp2
          go_region
          go_wp2
          go_ret2
          exact ⟨_, _, rfl, Or.inr ⟨unhide HF, rfl⟩, (unhide Hbel).drew⟩
end N
end Go.Proofs.YtcofnockikninabGreatDoor
/-
  The walk of the landed OidValue.
-/
namespace Go.Proofs.YtcofnockikninabGreatDoor
open Go.RowKit
/-- The value that a text means, or none. -/
def oidV (s : Bs) : DV := match oidVP s with
  | some gs => oidDV gs
  | none => .mk 0 0 false [] []
theorem oidV_yes {s : Bs} {gs : List Nat} (h : oidVP s = some gs) : oidV s = oidDV gs := by unfold oidV; rw [h]
theorem oidV_no {s : Bs} (h : oidVP s = none) : oidV s = .mk 0 0 false [] [] := by unfold oidV; rw [h]
theorem leaf_own {w : World} {B : Nat} {x : Value} {l : Bs} (k t : Int) (h : BytesAt w x l) (hf : ∀ j, x.ownBlock = some j → B ≤ j) (hl : l.length ≤ 9223372036854775807) : ValAt (fun j => B ≤ j) w [.int .i64 k, .int .i64 t, .bool false, x, .slice none 0 0] (.mk k t false l []) :=
  ⟨1, x, none, 0, rfl, h, fun _ j hj => hf j hj, ⟨by simpa [DV.bytes] using hl, by simp [DV.kids]⟩, by simp [DV.kids], fun _ => rfl, fun h => absurd rfl h⟩
theorem grown_setRowN (w : World) (g : Nat) (cs : Array Value) : w.grownBy (w.setRow g cs) (some g) :=
  ⟨rfl, rfl, rfl, by simp [World.setRow], fun k _ hk => by simp only [World.setRow]; rw [Array.getElem?_modify, if_neg (fun e => hk (by rw [e]))]⟩
theorem take_snocG {gs : List Nat} {k : Nat} (hk : k < gs.length) : gs.take (k + 1) = gs.take k ++ [gs.getD k 0] := by
  rw [List.take_add_one, List.getElem?_eq_getElem hk, List.getD_eq_getElem?_getD, List.getElem?_eq_getElem hk]; rfl
namespace N
open K
set_option maxRecDepth 100000 in
set_option maxHeartbeats 16000000 in
theorem oidv_c (w : World) (hR : Rdy w) (s : ByteArray) (hs : s.size ≤ 1000000) :
    Calls Tryz.prog 37 #[.string s] w fun e w' => ∃ ds : List Value, e = .returned (.tuple #[.agg ds.toArray, .bool (oidVP (bs s)).isSome]) ∧ ValAt (fun k => w.heap.size ≤ k) w' ds (oidV (bs s)) ∧ Below w.heap.size w w' := by
  have hR0 := Blk.new (Below.refl w.heap.size w) #[.int .i64 0, .int .i64 0, .bool false, .slice none 0 0, .slice none 0 0] 36
  obtain ⟨w1, hw1⟩ : ∃ w1, w.alloc (.cells #[.int .i64 0, .int .i64 0, .bool false, .slice none 0 0, .slice none 0 0] 36) = w1 := ⟨_, rfl⟩
  obtain ⟨R, eR⟩ : ∃ R, w.heap.size = R := ⟨_, rfl⟩
  rw [hw1, eR] at hR0
  have HR := hide hR0
  have HG := hide (groupsin_c w1 (hR.below hR0.b) s hs)
  have H5 : Hid ((#[.int .i64 0, .int .i64 0, .bool false, .slice none 0 0, .slice none 0 0] : Array Value).all (·.oneCell') = true) := by show _ = true; simp [Value.oneCell']
  have HeR := hide eR
  clear hR0 hR
  go_enter Tryz.func37, Tryz.ntmps37
  go_wp2_with fail
  refine (unhide HG).mono ?_
  rintro e w2 ⟨v, ok, rfl, hor, hb⟩
  have HR2 := hide ((unhide HR).call hb)
  clear hb HR HG hw1 eR
  rcases hor with ⟨gs, hV, rfl, hvals⟩ | ⟨hV, rfl⟩
  case inr =>
    have HE : Hid (oidV (bs s) = .mk 0 0 false [] [] ∧ (oidVP (bs s)).isSome = false) := ⟨oidV_no hV, by rw [hV]; rfl⟩
    clear hV
    go_upto_region 3 with fail
    go_wp2_with (refine wpList_store_row rfl 36 _ _ rfl R _ rfl rfl 36 _ (unhide HR2).res value5 rfl (unhide H5) ?_)
    exact bodyPost_ret (res_row_tmp Tryz.results37 _ _ R 36 #[.int .i64 0, .int .i64 0, .bool false, .slice none 0 0, .slice none 0 0] (0, 0) _ rfl ((unhide HR2).set #[.int .i64 0, .int .i64 0, .bool false, .slice none 0 0, .slice none 0 0]).res Tryz.underlying36 rfl value5 _ rfl) rfl ⟨_, by rw [(unhide HE).2]; rfl, by rw [(unhide HE).1]; exact zero_val _ _, ((unhide HR2).set #[.int .i64 0, .int .i64 0, .bool false, .slice none 0 0, .slice none 0 0]).b⟩
  obtain ⟨h19, hne, hlt, htx⟩ := oidVP_open hV
  obtain ⟨sv, cv, rfl⟩ := hvals.form
  rw [List.length_map] at hvals ⊢
  obtain ⟨N, hN⟩ : ∃ N, gs.length = N := ⟨_, rfl⟩
  rw [hN] at hvals ⊢
  have HVl := hide hvals
  have HN := hide hN
  have Hlt := hide hlt
  have hN19 : N ≤ 19 := by omega
  have HE : Hid (oidV (bs s) = oidDV gs ∧ (oidVP (bs s)).isSome = true) := ⟨oidV_yes hV, by rw [hV]; rfl⟩
  clear hV h19 hne hlt htx hvals hN
  go_wp2
  go_loopw [6, 19] (fun bb ii wr => ∃ (k L c : Nat) (sp : Option Addr), k ≤ N ∧ bb = .slice sp L c ∧ ii = .int .i64 (k : Int) ∧ Hid ((bytesG (gs.take k)).length = L) ∧ Hid (Row w2 wr (.slice sp L c) (bytesG (gs.take k)))) (fun _ ii _ => N - (intOf ii).toNat)
  case atStart => exact ⟨0, 0, 0, none, by omega, rfl, rfl, rfl, ⟨ownb_nil _ _, Below.refl _ _⟩⟩
  case round =>
    obtain ⟨k, L, c, sp, hk, rfl, rfl, HL, HRw⟩ := hrel
    by_cases hlt : k < N
    · have hkg : k < gs.length := by have := unhide HN; omega
      obtain ⟨ba, oa, rfl, hc⟩ := ValsAt.int ((unhide HVl).below (unhide HRw).b) k hkg
      obtain ⟨n, hn⟩ : ∃ n, gs.getD k 0 = n := ⟨_, rfl⟩
      rw [hn] at hc
      have hn40 : n < 1099511627776 := by
        refine unhide Hlt n ?_
        rw [← hn, List.getD_eq_getElem?_getD, List.getElem?_eq_getElem hkg]
        exact List.getElem_mem hkg
      have f1 : decide ((k : Int) < (N : Int)) = true := by simp; omega
      have f1n : decide (k < N) = true := by simp; omega
      have k0 : (0 : Int) ≤ (k : Int) := by omega
      have k1 : (k : Int) < (N : Int) := by omega
      have hLb : (bytesG (gs.take k)).length ≤ 1000 := by
        have h1 := bytesG_len (gs.take k) (fun g hg => unhide Hlt g (List.mem_of_mem_take hg))
        have h2 : (gs.take k).length ≤ 19 := by rw [List.length_take]; omega
        omega
      have HP := hide (putgroup_c w2 wr (.slice sp L c) _ n (unhide HRw) hn40 (by omega))
      have HB : Hid (bytesG (gs.take k) ++ putG n = bytesG (gs.take (k + 1))) := by
        show _ = _
        rw [take_snocG hkg, hn, bytesG_snoc]
      clear hn hLb HL HRw
      go_wp2_with fail
      refine (unhide HP).mono ?_
      rintro e w3 ⟨v3, rfl, hR3⟩
      rw [unhide HB] at hR3
      obtain ⟨p3, q3, rfl⟩ := hR3.own.form
      obtain ⟨L3, hL3⟩ : ∃ L3, (bytesG (gs.take (k + 1))).length = L3 := ⟨_, rfl⟩
      rw [hL3] at hR3 ⊢
      have HR3 := hide hR3
      have HL3 := hide hL3
      clear hR3 hL3 hc HP
      go_wp2
      go_roundw
      case rel =>
        first
          | exact ⟨k + 1, L3, q3, p3, by omega, rfl, by go_num, HL3, HR3⟩
          | ((repeat apply Exists.intro); exact ⟨⟨k + 1, L3, q3, p3, by omega, rfl, by go_num, HL3, HR3⟩, rfl⟩)
      case measure => simp [intOf]; omega
    · have f1 : decide ((k : Int) < (N : Int)) = false := by simp; omega
      have f1n : decide (k < N) = false := by simp; omega
      have hall : gs.take k = gs := List.take_of_length_le (by have := unhide HN; omega)
      rw [hall] at HRw HL
      have HRr := hide ((unhide HR2).call (unhide HRw).b)
      have H6 : Hid ((#[.int .i64 0, .int .i64 6, .bool false, .slice sp L c, .slice none 0 0] : Array Value).all (·.oneCell') = true) := by show _ = true; simp [Value.oneCell']
      have Hfr : Hid (∀ j, (Value.slice sp L c).ownBlock = some j → w2.heap.size ≤ j) := OwnV.fresh (unhide HRw).own
      have HRlt : Hid (R < w2.heap.size ∧ w.heap.size ≤ w2.heap.size) := ⟨(unhide HR2).lt, (unhide HR2).b.size⟩
      clear hall
      go_wp2_with (refine wpList_store_row rfl 36 _ _ rfl R _ rfl rfl 36 _ (unhide HRr).res value5 rfl (unhide H6) ?_)
      refine bodyPost_ret (res_row_tmp Tryz.results37 _ _ R 36 #[.int .i64 0, .int .i64 6, .bool false, .slice sp L c, .slice none 0 0] (0, 0) _ rfl ((unhide HRr).set #[.int .i64 0, .int .i64 6, .bool false, .slice sp L c, .slice none 0 0]).res Tryz.underlying36 rfl value5 _ rfl) rfl ⟨[.int .i64 0, .int .i64 6, .bool false, .slice sp L c, .slice none 0 0], by rw [(unhide HE).2]; rfl, ?_, ((unhide HRr).set #[.int .i64 0, .int .i64 6, .bool false, .slice sp L c, .slice none 0 0]).b⟩
      rw [(unhide HE).1]
      have h1 : OwnB (wr.setRow R #[.int .i64 0, .int .i64 6, .bool false, .slice sp L c, .slice none 0 0]) w2.heap.size (.slice sp L c) (bytesG gs) := OwnV.kept (unhide HRw).own (grown_setRowN _ _ _) (by
        cases ho : (Value.slice sp L c).ownBlock with
        | none => exact Or.inl rfl
        | some j =>
          right
          intro e
          have h2 := unhide Hfr j ho
          have h3 := (unhide HRlt).1
          simp only [Option.some.injEq] at e
          omega)
      refine leaf_own 0 6 h1.bytes (fun j hj => ?_) ?_
      · have h2 := unhide Hfr j hj
        have h3 := (unhide HRlt).2
        omega
      · have h1 := bytesG_len gs (unhide Hlt)
        have h2 := unhide HN
        omega
end N
end Go.Proofs.YtcofnockikninabGreatDoor
