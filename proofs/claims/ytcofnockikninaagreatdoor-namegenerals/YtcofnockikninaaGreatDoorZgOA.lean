/- Parts of the walk. -/
import Derived.Test.YtcofnockikninaaGreatDoorZgOq10
import Derived.Test.YtcofnockikninaaGreatDoorZgNj
import Derived.Test.YtcofnockikninaaGreatDoorZgNn
set_option maxRecDepth 100000
set_option maxHeartbeats 16000000
namespace Go.Proofs.YtcofnockikninaaGreatDoor
open Go.RowKit
def numR (p : Bs) : Nat := if numOk p = true then numV p else 0
theorem numR_no {p : Bs} (h : numOk p = false) : numR p = 0 := by unfold numR; rw [h]; rfl
theorem numR_yes {p : Bs} (h : numOk p = true) : numR p = numV p := by unfold numR; rw [if_pos h]
namespace N
theorem numof_c (w : World) (s : ByteArray) (hs : s.size ≤ 1000000000) :
  Calls Tryz.prog 84 #[.string s] w fun e w' => e = .returned (.tuple #[.int .i64 (numR (bs s) : Int), .bool (numOk (bs s))]) ∧ Below w.heap.size w w' := by
 obtain ⟨ANS, hA⟩ := exq (numOk (bs s))
 obtain ⟨NR, hNR⟩ := exq (numR (bs s))
 rw [hA, hNR]
 have HF : Hid (numOk (bs s) = false → ANS = false ∧ NR = 0) := fun h => ⟨by rw [← hA]; exact h, by rw [← hNR]; exact numR_no h⟩
 have HY : Hid (numOk (bs s) = true → ANS = true ∧ NR = numV (bs s)) := fun h => ⟨by rw [← hA]; exact h, by rw [← hNR]; exact numR_yes h⟩
 clear hA hNR
 obtain ⟨E, hE⟩ := exq (decide (bs s = []))
 have he : (s.toList == ([] : Bs)) = E := by rw [nil_str]; exact hE
 have HE := h_ hE
 obtain ⟨IT, hIT⟩ := exq w.heap.size
 have H0 : Hid ((w.iter s 0).heap[IT]? = some (.stringIter s 0)) := by show _ = _; rw [← hIT]; exact World.iter_heap w s 0
 have HB0 : Hid (Below IT w (w.iter s 0)) := by show Below _ _ _; rw [← hIT]; exact (Below.refl _ _).alloc (Nat.le_refl _) _
 obtain ⟨w1, hw1⟩ := exq (w.iter s 0)
 rw [hw1] at H0 HB0
 clear hE
 go_enter Tryz.func84, Tryz.ntmps84
 go_wp2
 have HIT := h_ hIT
 clear hw1 hIT
 go_loopg [4] (s.size + 1) (fun gk nn wr => Hid (Below IT w wr) ∧ ∃ pos n : Nat, nn = .int .i64 (n : Int) ∧ Hid (wr.heap[IT]? = some (.stringIter s pos)) ∧ pos ≤ s.size ∧ s.size < gk + pos ∧ n < 1099511627776 ∧ Hid (((bs s).take pos).all digC = true ∧ numV ((bs s).take pos) = n ∧ (2 ≤ pos → ¬ (bs s).getD 0 0 = 48)))
 case atStart => exact ⟨HB0, 0, 0, rfl, H0, by omega, by omega, by omega, rfl, rfl, fun h => by omega⟩
 case round =>
  clear HB0 H0
  obtain ⟨HB, pos, n, rfl, HI, hp, hg, hn, HT⟩ := hrel
  by_cases hlt : pos < s.size
  ·obtain ⟨g', rfl⟩ : ∃ g', gk = g' + 1 := ⟨gk - 1, by omega⟩
   obtain ⟨d, hd⟩ := exq (Utf8.decode s pos)
   obtain ⟨r, l⟩ := d
   have hr : r ≤ 2147483647 := by have := decode_le s pos; rw [hd] at this; exact this
   have hnx : ∀ ty, (Instr.next (.pointer (some ⟨IT, 0, none⟩)) true ty).run Tryz.prog wr = .ok (.tuple #[.bool true, .int .i64 pos, .int .i32 (r : Int)]) (wr.iterAt IT s (pos + l)) := fun ty => by
    have := Lib.run_next_any_at (P := Tryz.prog) wr IT s pos ty (u_ HI) hlt
    rw [hd] at this
    exact this
   have HI2 := h_ (Lib.iterAt_heap wr IT s pos (pos + l) (u_ HI))
   have HB2 := h_ (Lib.below_iterAt (u_ HB) (k := IT) (Nat.le_refl _) s (pos + l))
   obtain ⟨W1, hW1⟩ := exq (wr.iterAt IT s (pos + l))
   rw [hW1] at HI2 HB2
   simp only [hW1] at hnx
   have HC := h_ (isdigit_c r hr W1)
   obtain ⟨u, hu⟩ := exq (digN r)
   rw [hu] at HC
   have hpl : pos < (bs s).length := by rw [bs_len]; exact hlt
   have key : (u = false ∧ digC ((bs s).getD pos 0) = false) ∨ (l = 1 ∧ ((bs s).getD pos 0).toNat = r ∧ digC ((bs s).getD pos 0) = u) := by
    rw [bs_get s hlt]
    by_cases ha : (s[pos]'hlt).toNat < 128
    ·have := decode_ascii s pos hlt ha
     rw [hd] at this
     simp only [Prod.mk.injEq] at this
     exact Or.inr ⟨this.2, this.1.symm, by rw [← hu, this.1]; rfl⟩
    ·have := (decode_high s pos hlt (by omega)).1
     rw [hd] at this
     have this : 128 ≤ r := this
     refine Or.inl ⟨?_, ?_⟩
     ·rw [← hu]
      unfold digN
      rw [decide_eq_false (show ¬ r ≤ 57 by omega)]
      simp
     ·unfold digC
      rw [decide_eq_false (show ¬ (s[pos]'hlt).toNat ≤ 57 by omega)]
      simp
   obtain ⟨A, hAa⟩ := exq (decide (0 < pos))
   obtain ⟨B, hBb⟩ := exq (decide (n = 0))
   have a1 : decide ((0 : Int) < (pos : Int)) = A := by rw [← hAa, decide_eq_decide]; omega
   have b1 : ((n : Int) == 0) = B := by rw [← hBb]; by_cases h : n = 0 <;> simp [h]
   have a1n : decide (0 < pos) = A := hAa
   have b1n : decide (n = 0) = B := hBb
   have HAB : Hid (A = true → B = true → numOk (bs s) = false) := fun h1 h2 => by
    subst h1
    subst h2
    have h3 : n = 0 := of_decide_eq_true hBb
    exact num_nought (k := pos) (of_decide_eq_true hAa) hpl (by rw [HT.2.1]; exact h3)
   have HNB : Hid ((A && B) = false → 1 ≤ pos → n ≠ 0) := fun h1 h2 => by
    rw [decide_eq_true (show 0 < pos by omega)] at hAa
    rw [← hAa, Bool.true_and, ← hBb] at h1
    exact of_decide_eq_false h1
   clear hd hW1 hu HI HB hAa hBb
   cases u with
   | false =>
    have HNo : Hid (ANS = false ∧ NR = 0) := u_ HF (num_bad hpl (by rcases key with ⟨_, h⟩ | ⟨_, _, h⟩ <;> exact h))
    clear key HT HI2 HAB HNB
    cases A <;> cases B <;>
    ·(first | (have a3 : 0 < pos := of_decide_eq_true a1n) | (have a3 : ¬ 0 < pos := of_decide_eq_false a1n))
     go_wp2_with (go_at_call 108; refine HC.mono ?_; rintro e w' ⟨rfl, hw⟩; obtain rfl := hw)
     go_ret2
     exact ⟨by rw [HNo.1, HNo.2]; rfl, by rw [u_ HIT]; exact u_ HB2⟩
   | true =>
    have key2 : l = 1 ∧ ((bs s).getD pos 0).toNat = r ∧ digC ((bs s).getD pos 0) = true := by
     rcases key with ⟨h, _⟩ | h
     ·cases h
     ·exact h
    obtain ⟨hl1, hcr, hdc⟩ := key2
    have hdr := (digC_iff _).1 hdc
    rw [hcr] at hdr
    rw [hl1] at HI2
    clear key hl1
    by_cases hAB : (A && B) = true
    ·have HNo : Hid (ANS = false ∧ NR = 0) := by
      simp only [Bool.and_eq_true] at hAB
      exact u_ HF (u_ HAB hAB.1 hAB.2)
     obtain ⟨rfl, rfl⟩ : A = true ∧ B = true := by simpa using hAB
     clear hAB HT HI2 HAB HNB hcr hdc
     (first | (have a3 : 0 < pos := of_decide_eq_true a1n) | (have a3 : ¬ 0 < pos := of_decide_eq_false a1n))
     go_wp2_with (go_at_call 108; refine HC.mono ?_; rintro e w' ⟨rfl, hw⟩; obtain rfl := hw)
     go_ret2
     exact ⟨by rw [HNo.1, HNo.2]; rfl, by rw [u_ HIT]; exact u_ HB2⟩
    ·have hAB2 : (A && B) = false := by simpa using hAB
     obtain ⟨m1, hm1⟩ := exq (10 * n)
     obtain ⟨dd, hdd⟩ := exq (r - 48)
     obtain ⟨n2, hn2⟩ := exq (m1 + dd)
     have e1 : (10 : Int) * (n : Int) = (m1 : Int) := by omega
     have e2 : (r : Int) - 48 = (dd : Int) := by omega
     have e3 : (m1 : Int) + (dd : Int) = (n2 : Int) := by omega
     have bdd : dd ≤ 9 := by omega
     have bm1 : m1 ≤ 10995116277760 := by omega
     have hV : numV ((bs s).take (pos + 1)) = n2 := by
      rw [numV_succ hpl, hcr, HT.2.1]
      omega
     have HNot : Hid (2 ≤ pos + 1 → ¬ (bs s).getD 0 0 = 48) := fun h => num_head (k := pos) (by omega) (by omega) (by rw [HT.2.1]; exact u_ HNB hAB2 (by omega)) HT.2.2
     have HAll : Hid (((bs s).take (pos + 1)).all digC = true) := by
      show _ = _
      rw [take_snocQ hpl, List.all_append, HT.1, List.all_cons, hdc]
      rfl
     have HV := h_ hV
     by_cases hbig : 1099511627776 ≤ n2
     ·obtain ⟨z1, z1n⟩ := ltLV 1099511627775 1099511627775 n2
      have HNo : Hid (ANS = false ∧ NR = 0) := u_ HF (num_great (k := pos + 1) (by rw [hV]; exact hbig))
      clear hAB HT HI2 HAB HNB hcr hdc HNot HAll HV hV hm1 hdd hn2
      cases A <;> cases B <;> first
      | (cases hAB2; done)
      | (clear hAB2
         (first | (have a3 : 0 < pos := of_decide_eq_true a1n) | (have a3 : ¬ 0 < pos := of_decide_eq_false a1n))
         go_wp2_with (go_at_call 108; refine HC.mono ?_; rintro e w' ⟨rfl, hw⟩; obtain rfl := hw)
         go_ret2
         exact ⟨by rw [HNo.1, HNo.2]; rfl, by rw [u_ HIT]; exact u_ HB2⟩)
     ·obtain ⟨z1, z1n⟩ := ltLVf 1099511627775 1099511627775 n2
      clear hAB HT HAB HNB hcr hdc hV hm1 hdd hn2
      cases A <;> cases B <;> first
      | (cases hAB2; done)
      | (clear hAB2
         (first | (have a3 : 0 < pos := of_decide_eq_true a1n) | (have a3 : ¬ 0 < pos := of_decide_eq_false a1n))
         go_wp2_with (go_at_call 108; refine HC.mono ?_; rintro e w' ⟨rfl, hw⟩; obtain rfl := hw)
         go_roundg g'
         case measure => omega
         case rel => exact ⟨HB2, pos + 1, n2, rfl, HI2, by omega, by omega, by omega, u_ HAll, u_ HV, u_ HNot⟩)
  ·have hnx : ∀ ty, (Instr.next (.pointer (some ⟨IT, 0, none⟩)) true ty).run Tryz.prog wr = .ok (.tuple #[.bool false]) wr := fun ty => Lib.run_next_end_at wr IT s pos ty (u_ HI) hlt
   have HN2 : Hid ((E = true → ANS = false ∧ NR = 0 ∧ n = 0) ∧ (E = false → ANS = true ∧ NR = n)) := by
    obtain ⟨t1, t2, t3⟩ := u_ HT
    have hps : pos = (bs s).length := by rw [bs_len]; omega
    rw [hps, List.take_length] at t1 t2
    refine ⟨fun h => ?_, fun h => ?_⟩
    ·have h0 : bs s = [] := of_decide_eq_true (HE.trans h)
     have := u_ HF (by rw [h0]; rfl)
     refine ⟨this.1, this.2, ?_⟩
     rw [← t2, h0]
     rfl
    ·have h0 : bs s ≠ [] := of_decide_eq_false (HE.trans h)
     have := u_ HY (num_end h0 t1 (by rw [← hps]; exact t3) (by rw [t2]; exact hn))
     exact ⟨this.1, this.2.trans t2⟩
   clear HI HT
   cases E with
   | true =>
    obtain ⟨h1, h2, h3⟩ := HN2.1 rfl
    subst h3
    have H1 := h_ h1
    have H2 := h_ h2
    clear h1 h2 HN2
    go_wp2
    go_ret2
    exact ⟨by rw [u_ H1, u_ H2]; rfl, by rw [u_ HIT]; exact u_ HB⟩
   | false =>
    have HN3 := h_ (HN2.2 rfl)
    clear HN2
    go_wp2
    go_ret2
    exact ⟨by rw [HN3.1, HN3.2]; rfl, by rw [u_ HIT]; exact u_ HB⟩
end N
theorem or7 : ∀ p : Fin 256, bits .or .u8 ((p.val : Nat) : Int) 128 = ((128 + p.val % 128 : Nat) : Int) := by decide +kernel
theorem one_byte (w : World) (p : Nat) (hp : p < 256) : BytesAt (w.alloc (.cells #[.int .u8 (p : Int)] 5)) (.slice (some ⟨w.heap.size, 0, none⟩) 1 1) [UInt8.ofNat p] := by
 have h := bytes_new w [UInt8.ofNat p]
 have e : (UInt8.ofNat p).toNat = p := by rw [UInt8.toNat_ofNat']; omega
 simp only [List.map_cons, List.map_nil, bv, e] at h
 exact h
theorem shift_succ (n s : Nat) : n / 2 ^ (s + 7) = n / 2 ^ s / 128 := by rw [Nat.pow_add, ← Nat.div_div_eq_div_mul]
theorem shift_big {n s : Nat} (hn : n < 1099511627776) (h : 128 ≤ n / 2 ^ s) : s ≤ 33 := by
 refine Nat.le_of_not_lt fun hs => ?_
 have h1 : 2 ^ 34 ≤ 2 ^ s := Nat.pow_le_pow_right (by omega) hs
 have h2 : n / 2 ^ s ≤ n / 2 ^ 34 := Nat.div_le_div_left h1 (by omega)
 omega
namespace N
open K
theorem putgroup_c (wb w : World) (x : Value) (b : Bs) (n : Nat) (hx : Row wb w x b) (hn : n < 1099511627776) (hl : b.length ≤ 1000000) :
  Calls Tryz.prog 43 #[x, .int .i64 (n : Int)] w fun e w' => ∃ v, e = .returned v ∧ Row wb w' v (b ++ putG n) := by
 obtain ⟨sp, c, rfl⟩ := hx.own.form
 obtain ⟨L, hL⟩ := exq b.length
 rw [hL] at hx hl ⊢
 have HR := h_ hx
 have HL := h_ hL
 have HBl : Hid (b.length ≤ 1000000) := by show _ ≤ _; omega
 clear hx hL
 go_enter Tryz.func43, Tryz.ntmps43
 go_wp2
 go_loopw [5] (fun ss wr => ∃ s : Nat, s ≤ 42 ∧ ss = .int .i64 (s : Int) ∧ Hid (s % 7 = 0) ∧ Hid (s = 0 ∨ 1 ≤ n / 2 ^ s) ∧ Hid (wr = w)) (fun ss _ => 50 - (intOf ss).toNat)
 case atStart => exact ⟨0, by omega, rfl, rfl, Or.inl rfl, rfl⟩
 case round =>
  obtain ⟨s, hs, rfl, H7, H1, HW⟩ := hrel
  obtain ⟨q, hq⟩ := exq (n / 2 ^ s)
  have eq : (n : Int) / 2 ^ s = (q : Int) := by rw [← hq]; norm_cast
  have hqn : q < 1099511627776 := by rw [← hq]; exact Nat.lt_of_le_of_lt (Nat.div_le_self _ _) hn
  by_cases hbig : 128 ≤ q
  ·have hs33 : s ≤ 33 := shift_big hn (by rw [hq]; exact hbig)
   obtain ⟨z1, z1n⟩ := leLV 128 128 q
   have H12 : Hid (s + 7 = 0 ∨ 1 ≤ n / 2 ^ (s + 7)) := Or.inr (by rw [shift_succ, hq]; omega)
   have H72 : Hid ((s + 7) % 7 = 0) := by have := u_ H7; show _ = _; omega
   clear hq H1 H7
   go_wp2
   go_roundw
   case rel =>
    first
     | exact ⟨s + 7, by omega, by go_num, H72, H12, HW⟩
     | ((repeat apply Exists.intro); exact ⟨⟨s + 7, by omega, by go_num, H72, H12, HW⟩, rfl⟩)
   case measure => simp [intOf]; omega
  ·obtain ⟨z1, z1n⟩ := leLVf 128 128 q
   have Hz : Hid (hiR (n / 2 ^ (s + 7)) = []) := by
    show _ = _
    rw [shift_succ, hq, show q / 128 = 0 by omega, hiR_zero]
   have HRr : Hid (Row wb wr (.slice sp L c) (b ++ hiR (n / 2 ^ (s + 7)))) := by
    have := u_ HW
    rw [u_ Hz, List.append_nil, this]
    exact u_ HR
   clear hq HR HW
   go_wp2
   clear z1 z1n eq hqn hbig
   go_loopw [0, 5] (fun bb ss wr => ∃ (s L cv : Nat) (sv : Option Addr), s ≤ 42 ∧ bb = .slice sv L cv ∧ ss = .int .i64 (s : Int) ∧ Hid (s % 7 = 0) ∧ Hid (s = 0 ∨ 1 ≤ n / 2 ^ s) ∧ Hid ((b ++ hiR (n / 2 ^ (s + 7))).length = L) ∧ Hid (Row wb wr (.slice sv L cv) (b ++ hiR (n / 2 ^ (s + 7))))) (fun _ ss _ => (intOf ss).toNat)
   case atStart => exact ⟨s, L, c, sp, hs, rfl, rfl, H7, H1, by show _ = _; rw [u_ Hz, List.append_nil]; exact u_ HL, HRr⟩
   case round =>
    clear HRr Hz H7 H1 hs HL hl
    obtain ⟨s, L, cv, sv, hs, rfl, rfl, H7, H1, HL, HR⟩ := hrel
    have HLs : Hid ((b ++ hiR (n / 2 ^ (s + 7))).length ≤ 1000100) := by
     have h1 := hiR_len 6 (n / 2 ^ (s + 7)) (Nat.lt_of_le_of_lt (Nat.div_le_self _ _) (by omega))
     have h2 := u_ HBl
     show _ ≤ _
     rw [List.length_append]
     omega
    by_cases h0 : 0 < s
    ·obtain ⟨s2, rfl⟩ : ∃ s2, s = s2 + 7 := ⟨s - 7, by have := u_ H7; omega⟩
     obtain ⟨q, hq⟩ := exq (n / 2 ^ (s2 + 7))
     obtain ⟨S, hS⟩ := exq (s2 + 7)
     have eq : (n : Int) / 2 ^ S = (q : Int) := by rw [← hq, ← hS]; norm_cast
     have hqn : q < 1099511627776 := by rw [← hq]; exact Nat.lt_of_le_of_lt (Nat.div_le_self _ _) hn
     have hq1 : 1 ≤ q := by
      rcases u_ H1 with h | h
      ·omega
      ·rw [hq] at h; exact h
     obtain ⟨q2, hq2⟩ := exq (q % 256)
     have u1 : IntKind.u8.wrap (q : Int) = (q2 : Int) := by rw [IntKind.wrap_u8']; omega
     obtain ⟨p, hp⟩ := exq (128 + q2 % 128)
     have hq22 : q2 < 256 := by omega
     have hor : bits .or .u8 (q2 : Int) 128 = (p : Int) := by rw [← hp]; exact or7 ⟨q2, hq22⟩
     have hp2 : p < 256 := by omega
     have HY := h_ (one_byte wr p hp2)
     have HR2 := h_ (HR.lit (.cells #[.int .u8 (p : Int)] 5))
     have HB : Hid (b ++ hiR (n / 2 ^ (S + 7)) ++ [UInt8.ofNat p] = b ++ hiR (n / 2 ^ (s2 + 7))) := by
      show _ = _
      rw [← hS, shift_succ n (s2 + 7), hq, hiR_pos (m := q) (by omega), List.append_assoc, show p = 128 + q % 128 by omega]
     have H72 : Hid (s2 % 7 = 0) := by have := u_ H7; show _ = _; omega
     have H12 : Hid (s2 = 0 ∨ 1 ≤ n / 2 ^ s2) := by
      right
      have h1 := shift_succ n s2
      rw [hq] at h1
      omega
     obtain ⟨z1, z1n⟩ := ltLV 0 0 S
     have eS : (S : Int) - 7 = (s2 : Int) := by omega
     rw [hS] at HR HL HR2 HLs ⊢
     have HS := h_ hS
     clear hq hq2 hp hS H7 H1 h0
     go_wp2_with (at_builtin; refine wpList_append_row rfl _ _ rfl (.slice sv L cv) (.slice (some ⟨wr.heap.size, 0, none⟩) 1 1) (b ++ hiR (n / 2 ^ (S + 7))) [UInt8.ofNat p] rfl (u_ HR2) rfl (u_ HY) (by have := u_ HLs; simp only [List.length_singleton]; omega) ?_
                  intro v3 W3 hR3
                  rw [u_ HB] at hR3
                  obtain ⟨p3, q3, rfl⟩ := hR3.own.form
                  obtain ⟨L3, hL3⟩ := exq ((b ++ hiR (n / 2 ^ (s2 + 7))).length)
                  rw [hL3] at hR3 ⊢
                  have HR3 := h_ hR3
                  have HL3 := h_ hL3
                  clear hR3 hL3)
     go_roundw
     case rel =>
      first
       | exact ⟨s2, L3, q3, p3, by have := u_ HS; omega, rfl, by go_num, H72, H12, HL3, HR3⟩
       | ((repeat apply Exists.intro); exact ⟨⟨s2, L3, q3, p3, by have := u_ HS; omega, rfl, by go_num, H72, H12, HL3, HR3⟩, rfl⟩)
     case measure => simp [intOf]; omega
    ·obtain rfl : s = 0 := by omega
     have z1 : decide ((0 : Int) < ((0 : Nat) : Int)) = false := by simp
     obtain ⟨q2, hq2⟩ := exq (n % 256)
     have u1 : IntKind.u8.wrap (n : Int) = (q2 : Int) := by rw [IntKind.wrap_u8']; omega
     obtain ⟨p, hp⟩ := exq (q2 % 128)
     have hq22 : q2 < 256 := by omega
     have hand : bits .andNot .u8 (q2 : Int) 128 = (p : Int) := by rw [← hp]; exact low7 ⟨q2, hq22⟩
     have hp2 : p < 256 := by omega
     have HY := h_ (one_byte wr p hp2)
     have HR2 := h_ (HR.lit (.cells #[.int .u8 (p : Int)] 5))
     have HB : Hid (b ++ hiR (n / 2 ^ (0 + 7)) ++ [UInt8.ofNat p] = b ++ putG n) := by
      show _ = _
      unfold putG
      rw [List.append_assoc, show p = n % 128 by omega]
     clear hq2 hp h0 H7 H1
     go_wp2_with (at_builtin; refine wpList_append_row rfl _ _ rfl (.slice sv L cv) (.slice (some ⟨wr.heap.size, 0, none⟩) 1 1) (b ++ hiR (n / 2 ^ (0 + 7))) [UInt8.ofNat p] rfl (u_ HR2) rfl (u_ HY) (by have := u_ HLs; simp only [List.length_singleton]; omega) ?_
                  intro v3 W3 hR3
                  rw [u_ HB] at hR3
                  have HR3 := h_ hR3
                  clear hR3)
     go_ret
     exact ⟨_, rfl, u_ HR3⟩
end N
theorem splitD_le : ∀ l : Bs, (splitD l).length ≤ l.length + 1
 | [] => by simp [splitD]
 | c :: l => by
  have ih := splitD_le l
  obtain ⟨p, ps, h⟩ := splitD_form l
  by_cases hc : c = 46
  ·subst hc; rw [splitD_eq, List.length_cons, List.length_cons]; omega
  ·rw [splitD_ne hc h, List.length_cons, List.length_cons]; rw [h, List.length_cons] at ih; omega
theorem splitN_parts (s : Bs) : ((splitD s).length ≤ 20 → Lib.splitK [46] 0 (min 21 (s.length + 1) - 1) s = splitD s) ∧ (20 < (splitD s).length → (Lib.splitK [46] 0 (min 21 (s.length + 1) - 1) s).length = 21) := by
 have hle := splitD_le s
 obtain ⟨k, hk⟩ := exq (min 21 (s.length + 1) - 1)
 rw [hk]
 obtain ⟨h1, h2⟩ := splitK_one k s
 refine ⟨fun h => h1 (by omega), fun h => ?_⟩
 have hk20 : k = 20 := by omega
 subst hk20
 by_cases h21 : (splitD s).length ≤ 21
 ·rw [h1 h21]; omega
 ·exact h2 (by omega)
def numsRow (P : List Bs) (k n : Nat) : List Value := (P.take k).map (fun p => nv (numR p)) ++ List.replicate (n - k) (.int .i64 0)
theorem numsRow_len (P : List Bs) (k n : Nat) (hk : k ≤ n) (hn : P.length = n) : (numsRow P k n).length = n := by
 unfold numsRow
 rw [List.length_append, List.length_map, List.length_take, List.length_replicate]
 omega
theorem numsRow_set (P : List Bs) (k n : Nat) (p : Bs) (hk : k < n) (hn : P.length = n) (hp : P[k]? = some p) : (numsRow P k n).set k (nv (numR p)) = numsRow P (k + 1) n := by
 unfold numsRow
 have hl : ((P.take k).map (fun p => nv (numR p))).length = k := by rw [List.length_map, List.length_take]; omega
 rw [List.set_append_right _ _ (by omega), hl, Nat.sub_self, show n - k = (n - (k + 1)) + 1 by omega, List.replicate_succ, List.set_cons_zero, List.take_add_one, hp, List.map_append, List.append_assoc]
 rfl
theorem numsRow_all (P : List Bs) (n : Nat) (hn : P.length = n) (h : P.all numOk = true) : numsRow P n n = (P.map numV).map nv := by
 unfold numsRow
 rw [Nat.sub_self, List.replicate_zero, List.append_nil, List.take_of_length_le (by omega), List.map_map]
 refine List.map_congr_left fun p hp => ?_
 rw [List.all_eq_true] at h
 show nv (numR p) = nv (numV p)
 rw [numR_yes (h p hp)]
namespace N
open K
theorem groupsin_c (w : World) (hR : Rdy w) (s : ByteArray) (hs : s.size ≤ 1000000) :
  Calls Tryz.prog 42 #[.string s] w fun e w' => ∃ (v : Value) (ok : Bool), e = .returned (.tuple #[v, .bool ok]) ∧ ((∃ gs, oidVP (bs s) = some gs ∧ ok = true ∧ ValsAt w' v (gs.map nv)) ∨ (oidVP (bs s) = none ∧ ok = false)) ∧ Below w.heap.size w w' := by
 obtain ⟨m, hm⟩ := hR.maxl
 have hsp := Tryz.strings_SplitN s (st [46]) 21 m w (by omega) hm (by rw [st_size]; simp) (by omega) (by omega)
 obtain ⟨L, hL⟩ := exq (Lib.splitB (st [46]) 0 (min 21 (s.size + 1) - 1) s)
 have hLb : L.map (fun x => bs x) = Lib.splitK [46] 0 (min 21 ((bs s).length + 1) - 1) (bs s) := by
  have h1 := Lib.splitB_data (st [46]) 0 (min 21 (s.size + 1) - 1) s
  rw [hL] at h1
  rw [show (fun x : ByteArray => bs x) = fun x => x.data.toList from rfl, h1, bs_st]
  rfl
 have hsz : ∀ x ∈ L, x.size ≤ 1000000000 := by
  have key : ∀ (k : Nat) (z : ByteArray), z.size ≤ 1000000000 → ∀ x ∈ Lib.splitB (st [46]) 0 k z, x.size ≤ 1000000000 := fun k => by
   induction k with
   | zero => intro z hz x hx; simp [Lib.splitB] at hx; rw [hx]; exact hz
   | succ k ih =>
    intro z hz x hx
    unfold Lib.splitB at hx
    split at hx
    ·simp at hx; rw [hx]; exact hz
    ·rw [List.mem_cons] at hx
     rcases hx with rfl | hx
     ·rw [ByteArray.size_extract]; omega
     ·exact ih _ (by rw [ByteArray.size_extract]; omega) x hx
  rw [← hL]
  exact key _ s (by omega)
 obtain ⟨hP1, hP2⟩ := splitN_parts (bs s)
 rw [← hLb] at hP1 hP2
 obtain ⟨cap, hcap⟩ := exq (min 21 (s.size + 1))
 have hLle : L.length ≤ cap := by
  have := Lib.splitB_length_le (st [46]) 0 (min 21 (s.size + 1) - 1) s
  rw [hL] at this
  omega
 obtain ⟨N, hN⟩ := exq L.length
 rw [hL, hN, hcap] at hsp
 obtain ⟨w1, hw1⟩ := exq (w.alloc (.cells (Lib.cellsOf L cap) 9))
 obtain ⟨B, hB⟩ := exq w.heap.size
 rw [hw1, hB] at hsp
 have hA : Blk w w1 B (Lib.cellsOf L cap) 9 := by rw [← hw1, ← hB]; exact Blk.new (Below.refl _ _) _ _
 have hAc : ∀ k x, L[k]? = some x → (Lib.cellsOf L cap)[k]? = some (Value.string x) := fun k x hx => by
  have hk : k < L.length := (List.getElem?_eq_some_iff.1 hx).1
  unfold Lib.cellsOf
  rw [List.getElem?_toArray, List.getElem?_append_left (by rw [List.length_map]; exact hk), List.getElem?_map, hx]
  rfl
 have Hsp := h_ hsp
 have HA := h_ hA
 have HAc := h_ hAc
 have HN := h_ hN
 have Hsz := h_ hsz
 have HP1 := h_ hP1
 have hN21 : N ≤ 21 := by omega
 have HPn : Hid (20 < (splitD (bs s)).length → N = 21) := fun h => by
  have := hP2 h
  rw [List.length_map] at this
  omega
 have HPl : Hid ((splitD (bs s)).length ≤ 20 → (splitD (bs s)).length = N) := fun h => by
  have := hP1 h
  rw [← this, List.length_map]
  exact hN
 clear hsp hA hAc hN hsz hP1 hP2 hLb hL hw1 hm hLle hcap
 by_cases h2 : N < 2
 ·have HF : Hid (oidVP (bs s) = none) := by
   show _ = _
   unfold oidVP
   split
   ·rename_i hc
    have h3 := u_ HPl hc.1
    obtain ⟨p, ps, hp⟩ := splitD_form (bs s)
    rw [hp] at h3 ⊢
    cases ps with
    | nil => rfl
    | cons q r => simp at h3; omega
   ·rfl
  obtain ⟨d1, d1n⟩ := ltVL N 2 2
  clear HPn HPl HP1
  go_enter Tryz.func42, Tryz.ntmps42
  go_wp2_with fail
  refine Hsp.mono ?_
  rintro e w2 ⟨rfl, hw⟩
  obtain rfl := hw
  go_wp2
  go_ret2
  exact ⟨_, _, rfl, Or.inr ⟨u_ HF, rfl⟩, HA.b⟩
 obtain ⟨d1, d1n⟩ := ltVLf N 2 2
 by_cases h21 : 20 < N
 ·have HF : Hid (oidVP (bs s) = none) := by
   show _ = _
   unfold oidVP
   split
   ·rename_i hc
    have h3 := u_ HPl hc.1
    omega
   ·rfl
  obtain ⟨d2, d2n⟩ := ltLV 20 20 N
  clear HPn HPl HP1
  go_enter Tryz.func42, Tryz.ntmps42
  go_wp2_with fail
  refine Hsp.mono ?_
  rintro e w2 ⟨rfl, hw⟩
  obtain rfl := hw
  go_wp2
  go_ret2
  exact ⟨_, _, rfl, Or.inr ⟨u_ HF, rfl⟩, HA.b⟩
 obtain ⟨d2, d2n⟩ := ltLVf 20 20 N
 obtain ⟨P, hP⟩ := exq (splitD (bs s))
 have hP20 : P.length ≤ 20 := by
  rw [← hP]
  refine Nat.le_of_not_lt fun h => ?_
  have := u_ HPn h
  omega
 have hPN : P.length = N := by rw [← hP]; exact u_ HPl (by rw [hP]; exact hP20)
 have hPL : L.map (fun x => bs x) = P := by rw [← hP]; exact u_ HP1 (by rw [hP]; exact hP20)
 have HV : Hid (oidVP (bs s) = if P.all numOk = true then firstG (P.map numV) else none) := by
  show _ = _
  unfold oidVP
  rw [hP]
  by_cases hall : P.all numOk = true
  ·rw [if_pos ⟨hP20, hall⟩, if_pos hall]
  ·rw [if_neg (fun h => hall h.2), if_neg hall]
 obtain ⟨W1, hmk, hrow, hbel⟩ := made_vals Eints rfl w1 .i64 .i64 N (N : Int) (N : Int) rfl rfl (by omega)
 obtain ⟨B1, hB1⟩ := exq w1.heap.size
 rw [hB1] at hmk hrow
 have HAW := h_ (HA.call hbel)
 have hB1lt : w.heap.size ≤ B1 ∧ B < B1 := by
  have h1 := HA.b.size
  have h3 := HA.lt
  omega
 have HRow : Hid (RowAt 3 W1 B1 [] (numsRow P 0 N)) := by
  show RowAt _ _ _ _ _
  have e : numsRow P 0 N = List.replicate N (.int .i64 0) := by unfold numsRow; simp
  rw [e]
  exact hrow
 have HPN := h_ hPN
 have HPL := h_ hPL
 have HB1 := h_ hB1lt
 clear hrow hbel hP hP20 hPN hPL HPn HPl HP1 hB1lt
 go_enter Tryz.func42, Tryz.ntmps42
 go_wp2_with fail
 refine Hsp.mono ?_
 rintro e w2 ⟨rfl, hw⟩
 obtain rfl := hw
 go_wp2
 clear hmk d1 d1n d2 d2n Hsp
 go_loopw [27] (fun ii wr => ∃ k : Nat, k ≤ N ∧ ii = .int .i64 (k : Int) ∧ Hid ((P.take k).all numOk = true) ∧ Hid (Blk w wr B (Lib.cellsOf L cap) 9) ∧ Hid (RowAt 3 wr B1 [] (numsRow P k N))) (fun ii _ => N - (intOf ii).toNat)
 case atStart => exact ⟨0, by omega, rfl, rfl, HAW, HRow⟩
 case round =>
  clear HAW HRow HA hB1
  obtain ⟨k, hk, rfl, HE, HB, HRw⟩ := hrel
  by_cases hlt : k < N
  ·have hkl : k < L.length := by have := u_ HN; omega
   obtain ⟨x, hx⟩ := exq (L[k])
   have hLx : L[k]? = some x := by rw [List.getElem?_eq_getElem hkl, hx]
   have hc : wr.cell? ⟨B, k, none⟩ = some (.string x) := HB.cell k _ (u_ HAc k x hLx)
   have HPx : Hid (P[k]? = some (bs x)) := by
    show _ = _
    rw [← u_ HPL, List.getElem?_map, hLx]
    rfl
   obtain ⟨f1, f1n⟩ := ltVV k N
   have k0 : (0 : Int) ≤ (k : Int) := by omega
   have k1 : (k : Int) < (N : Int) := by omega
   have Hnm := h_ (numof_c wr x (u_ Hsz x (by rw [← hx]; exact List.getElem_mem hkl)))
   obtain ⟨u, hu⟩ := exq (numOk (bs x))
   obtain ⟨n, hn⟩ := exq (numR (bs x))
   rw [hu, hn] at Hnm
   have Hu := h_ hu
   have Hn := h_ hn
   clear hx hu hLx hkl hn
   go_wp2_with fail
   refine Hnm.mono ?_
   rintro e w3 ⟨rfl, hb⟩
   have HB3 := h_ (HB.call hb)
   have HRw3 := h_ (HRw.below hb)
   clear hb hc Hnm HB HRw
   cases u with
   | false =>
    have HF : Hid (oidVP (bs s) = none) := by
     show _ = _
     rw [u_ HV, if_neg]
     intro h
     rw [List.all_eq_true] at h
     have := h (bs x) (List.mem_of_getElem? (u_ HPx))
     rw [u_ Hu] at this
     cases this
    clear HE
    go_wp2
    go_ret2
    exact ⟨_, _, rfl, Or.inr ⟨u_ HF, rfl⟩, HB3.b⟩
   | true =>
    have HE2 : Hid ((P.take (k + 1)).all numOk = true) := by
     show _ = _
     rw [List.take_add_one, u_ HPx, List.all_append, u_ HE]
     simp [u_ Hu]
    have hlen := numsRow_len P k N (by omega) (u_ HPN)
    have c3 := HRw3.cell k (by omega)
    have f3 := HRw3.frozen k
    have hr := HRw3.set k (by omega) (.int .i64 (n : Int))
    have he : (numsRow P k N).set k (.int .i64 (n : Int)) = numsRow P (k + 1) N := by
     rw [← u_ Hn]
     exact numsRow_set P k N (bs x) hlt (u_ HPN) (u_ HPx)
    rw [he] at hr
    have HR2 := h_ hr
    have HB2 : Hid (Blk w (w3.setCell ⟨B1, k, none⟩ (.int .i64 (n : Int))) B (Lib.cellsOf L cap) 9) := by
     obtain ⟨g1, g2, g3⟩ := u_ HB3
     refine ⟨?_, g2.setCell (p := ⟨B1, k, none⟩) HB1.1 _, g3⟩
     rw [heap_setCell_other _ _ _ _ (show B ≠ B1 by have := HB1.2; omega)]
     exact g1
    obtain ⟨old, hold⟩ := exq ((numsRow P k N).getD k undef)
    rw [hold] at c3
    clear hlen hr he hold HE HRw3 HB3
    go_wp2
    go_roundw
    case rel =>
     first
      | exact ⟨k + 1, by omega, by go_num, HE2, HB2, HR2⟩
      | ((repeat apply Exists.intro); exact ⟨⟨k + 1, by omega, by go_num, HE2, HB2, HR2⟩, rfl⟩)
    case measure => simp [intOf]; omega
  ·obtain ⟨f1, f1n⟩ := ltVVf k N
   obtain rfl : k = N := by omega
   have hall : P.all numOk = true := by
    have := u_ HE
    rw [List.take_of_length_le (by have := u_ HPN; omega)] at this
    exact this
   have hrow := u_ HRw
   rw [numsRow_all P k (u_ HPN) hall] at hrow
   obtain ⟨p0, p1, r, rfl⟩ : ∃ p0 p1 r, P = p0 :: p1 :: r := by
    have := u_ HPN
    match P, this with
    | [], h => simp at h; omega
    | [_], h => simp at h; omega
    | a :: b :: r, _ => exact ⟨a, b, r, rfl⟩
   simp only [List.map_cons] at hrow
   obtain ⟨a, ha⟩ := exq (numV p0)
   obtain ⟨b, hb⟩ := exq (numV p1)
   obtain ⟨R, hR'⟩ : ∃ R, r.map numV = R := ⟨_, rfl⟩
   have hab : a < 1099511627776 ∧ b < 1099511627776 := by
    simp only [List.all_cons, Bool.and_eq_true] at hall
    exact ⟨by rw [← ha]; exact ((numOk_iff p0).1 hall.1).2.2.2, by rw [← hb]; exact ((numOk_iff p1).1 hall.2.1).2.2.2⟩
   have HV2 : Hid (oidVP (bs s) = if a ≤ 2 ∧ (a < 2 → b < 40) ∧ b + 40 * a < 1099511627776 then some ((b + 40 * a) :: R) else none) := by
    show _ = _
    rw [u_ HV, if_pos hall, List.map_cons, List.map_cons, firstG_cons, ha, hb, hR']
   rw [ha, hb, hR'] at hrow
   have hkr : R.length + 2 = k := by rw [← hR', List.length_map]; have := u_ HPN; simp at this; omega
   have c0 : wr.cell? ⟨B1, 0, none⟩ = some (.int .i64 (a : Int)) := hrow.cell 0 (by simp)
   have c1 : wr.cell? ⟨B1, 1, none⟩ = some (.int .i64 (b : Int)) := hrow.cell 1 (by simp)
   have c1d : wr.drew.cell? ⟨B1, 1, none⟩ = some (.int .i64 (b : Int)) := hrow.drew.cell 1 (by simp)
   have f0 := hrow.drew.frozen 1
   obtain ⟨a40, ha40⟩ := exq (40 * a)
   obtain ⟨g, hg⟩ := exq (b + a40)
   have e40 : (40 : Int) * (a : Int) = (a40 : Int) := by omega
   have eg : (b : Int) + (a40 : Int) = (g : Int) := by omega
   have hrow2 := hrow.drew.set 1 (by simp) (.int .i64 (g : Int))
   have hrow3 : RowAt 3 (wr.drew.setCell ⟨B1, 1, none⟩ (.int .i64 (g : Int))) B1 [] ((a :: g :: R).map nv) := hrow2
   have hbel : Below w.heap.size w (wr.drew.setCell ⟨B1, 1, none⟩ (.int .i64 (g : Int))) := HB.b.drew.setCell (p := ⟨B1, 1, none⟩) HB1.1 _
   have hown := hrow3.own (base := 0) (Nat.zero_le _) k k (by simp; omega) (by simp) (by simp only [maxLen]; omega)
   have hvals := OwnV.vals hown
   have k2 : 2 ≤ k := by omega
   obtain ⟨y, hy⟩ : ∃ y, y = Value.slice (cutAt (some ⟨B1, 0, none⟩) k 1) (k - 1) (k - 1) := ⟨_, rfl⟩
   have hsl : ∀ W, (Instr.sliceAt 81 (.slice (some ⟨B1, 0, none⟩) k k) (some (.int .i64 1)) none none).run Tryz.prog W = .ok y W := fun W => by
    rw [hy]
    exact slice_ints (some ⟨B1, 0, none⟩) k k 1 (by omega) W
   have hyv : ValsAt (wr.drew.setCell ⟨B1, 1, none⟩ (.int .i64 (g : Int))) y ((g :: R).map nv) := by
    have h4 : ((a :: g :: R).map nv).length = k := by simp; omega
    have h1 := vals_drop (l := (a :: g :: R).map nv) (c := k) (sp := some ⟨B1, 0, none⟩) (by rw [h4]; exact hvals) 1 (by simp)
    rw [hy]
    have h5 : ((a :: g :: R).map nv).length = k := by simp; omega
    rw [h5] at h1
    exact h1
   have c1g : (wr.drew.setCell ⟨B1, 1, none⟩ (.int .i64 (g : Int))).cell? ⟨B1, 1, none⟩ = some (.int .i64 (g : Int)) := hrow3.cell 1 (by simp)
   have HYv := h_ hyv
   have Hbel := h_ hbel
   have HBb := h_ HB.b.drew
   have b0 : (0 : Int) < (k : Int) := by omega
   have b1 : (1 : Int) < (k : Int) := by omega
   obtain ⟨W3, hW3⟩ := exq (wr.drew.setCell ⟨B1, 1, none⟩ (.int .i64 (g : Int)))
   rw [hW3] at c1g HYv Hbel
   have hba := hab.1
   have hbb := hab.2
   have hbg : g < 50000000000000 := by omega
   have ha40' : a40 < 45000000000000 := by omega
   obtain ⟨ys, yn, yc, hyf⟩ : ∃ ys yn yc, y = .slice ys yn yc := ⟨_, _, _, hy⟩
   subst hyf
   have Hfin : Hid (b + 40 * a = g) := by show _ = _; omega
   clear hall hrow hrow2 hrow3 hbel hown hvals hyv hy HE HB HRw ha hb hR' hab hkr ha40 hg HV HAc HN Hsz HPN HPL
   go_wp2
   go_region
   by_cases hA2 : 2 < a
   ·have HF : Hid (oidVP (bs s) = none) := by show _ = _; rw [u_ HV2, if_neg (fun h => by omega)]
    obtain ⟨t1, t1n⟩ := ltLV 2 2 a
    clear HV2 hsl hW3 c1g
    go_wp2
    go_ret2
    exact ⟨_, _, rfl, Or.inr ⟨u_ HF, rfl⟩, u_ HBb⟩
   obtain ⟨t1, t1n⟩ := ltLVf 2 2 a
   by_cases hA3 : a < 2 ∧ 40 ≤ b
   ·have HF : Hid (oidVP (bs s) = none) := by show _ = _; rw [u_ HV2, if_neg (fun h => by have := h.2.1 hA3.1; omega)]
    obtain ⟨t2, t2n⟩ := ltVL a 2 2
    obtain ⟨t3, t3n⟩ := leLV 40 40 b
    clear HV2 hsl hW3 c1g hA3
    go_wp2
    go_ret2
    exact ⟨_, _, rfl, Or.inr ⟨u_ HF, rfl⟩, u_ HBb⟩
   by_cases hmost : g ≤ 1099511627775
   ·have HF : Hid (oidVP (bs s) = some (g :: R)) := by
     show _ = _
     have := u_ Hfin
     rw [u_ HV2, if_pos ⟨by omega, by omega, by omega⟩, this]
    obtain ⟨t4, t4n⟩ := leVL g 1099511627775 1099511627775
    clear HV2
    by_cases hA4 : a < 2
    ·obtain ⟨t2, t2n⟩ := ltVL a 2 2
     obtain ⟨t3, t3n⟩ := leLVf 40 40 b
     clear hA3 hA2 hA4
     go_wp2
     go_region
     go_wp2
     go_ret2
     exact ⟨_, _, rfl, Or.inl ⟨g :: R, u_ HF, rfl, HYv.drew⟩, Hbel.drew⟩
    ·obtain ⟨t2, t2n⟩ := ltVLf a 2 2
     clear hA3 hA2 hA4
     go_wp2
     go_region
     go_wp2
     go_ret2
     exact ⟨_, _, rfl, Or.inl ⟨g :: R, u_ HF, rfl, HYv.drew⟩, Hbel.drew⟩
   ·have HF : Hid (oidVP (bs s) = none) := by
     show _ = _
     have := u_ Hfin
     rw [u_ HV2, if_neg (fun h => by omega)]
    obtain ⟨t4, t4n⟩ := leVLf g 1099511627775 1099511627775
    clear HV2
    by_cases hA4 : a < 2
    ·obtain ⟨t2, t2n⟩ := ltVL a 2 2
     obtain ⟨t3, t3n⟩ := leLVf 40 40 b
     clear hA3 hA2 hA4
     go_wp2
     go_region
     go_wp2
     go_ret2
     exact ⟨_, _, rfl, Or.inr ⟨u_ HF, rfl⟩, Hbel.drew⟩
    ·obtain ⟨t2, t2n⟩ := ltVLf a 2 2
     clear hA3 hA2 hA4
     go_wp2
     go_region
     go_wp2
     go_ret2
     exact ⟨_, _, rfl, Or.inr ⟨u_ HF, rfl⟩, Hbel.drew⟩
end N
def oidV (s : Bs) : DV := match oidVP s with
 | some gs => oidDV gs
 | none => .mk 0 0 false [] []
theorem oidV_yes {s : Bs} {gs : List Nat} (h : oidVP s = some gs) : oidV s = oidDV gs := by unfold oidV; rw [h]
theorem oidV_no {s : Bs} (h : oidVP s = none) : oidV s = .mk 0 0 false [] [] := by unfold oidV; rw [h]
theorem leaf_own {w : World} {B : Nat} {x : Value} {l : Bs} (k t : Int) (h : BytesAt w x l) (hf : ∀ j, x.ownBlock = some j → B ≤ j) (hl : l.length ≤ 9223372036854775807) : ValAt (fun j => B ≤ j) w [.int .i64 k, .int .i64 t, .bool false, x, .slice none 0 0] (.mk k t false l []) :=
 ⟨1, x, none, 0, rfl, h, fun _ j hj => hf j hj, ⟨by simpa [DV.bytes] using hl, by simp [DV.kids]⟩, by simp [DV.kids], fun _ => rfl, fun h => absurd rfl h⟩
theorem grown_setRowN (w : World) (g : Nat) (cs : Array Value) : w.grownBy (w.setRow g cs) (some g) :=
 ⟨rfl, rfl, rfl, by simp [World.setRow], fun k _ hk => by simp only [World.setRow]; rw [Array.getElem?_modify, if_neg (fun e => hk (by rw [e]))]⟩
theorem take_snocG {gs : List Nat} {k : Nat} (hk : k < gs.length) : gs.take (k + 1) = gs.take k ++ [gs.getD k 0] := by
 rw [List.take_add_one, List.getElem?_eq_getElem hk, List.getD_eq_getElem?_getD, List.getElem?_eq_getElem hk]; rfl
namespace N
open K
theorem oidv_c (w : World) (hR : Rdy w) (s : ByteArray) (hs : s.size ≤ 1000000) :
  Calls Tryz.prog 14 #[.string s] w fun e w' => ∃ ds : List Value, e = .returned (.tuple #[.agg ds.toArray, .bool (oidVP (bs s)).isSome]) ∧ ValAt (fun k => w.heap.size ≤ k) w' ds (oidV (bs s)) ∧ Below w.heap.size w w' := by
 obtain ⟨w1, R, hw1, eR, hR0⟩ := blkN (Below.refl w.heap.size w) #[.int .i64 0, .int .i64 0, .bool false, .slice none 0 0, .slice none 0 0] 25
 have HR := h_ hR0
 have HG := h_ (groupsin_c w1 (hR.below hR0.b) s hs)
 have H5 : Hid ((#[.int .i64 0, .int .i64 0, .bool false, .slice none 0 0, .slice none 0 0] : Array Value).all (·.oneCell') = true) := by show _ = true; simp [Value.oneCell']
 have HeR := h_ eR
 clear hR0 hR
 go_enter Tryz.func14, Tryz.ntmps14
 go_wp2_with fail
 refine HG.mono ?_
 rintro e w2 ⟨v, ok, rfl, hor, hb⟩
 have HR2 := h_ (HR.call hb)
 clear hb HR HG hw1 eR
 rcases hor with ⟨gs, hV, rfl, hvals⟩ | ⟨hV, rfl⟩
 case inr =>
  have HE : Hid (oidV (bs s) = .mk 0 0 false [] [] ∧ (oidVP (bs s)).isSome = false) := ⟨oidV_no hV, by rw [hV]; rfl⟩
  clear hV
  go_upto_region 3 with fail
  go_wp2_with (refine wpList_store_row rfl 25 _ _ rfl R _ rfl rfl 25 _ HR2.res value5 rfl (u_ H5) ?_)
  exact bodyPost_ret (res_row_tmp Tryz.results14 _ _ R 25 #[.int .i64 0, .int .i64 0, .bool false, .slice none 0 0, .slice none 0 0] (0, 0) _ rfl (HR2.set #[.int .i64 0, .int .i64 0, .bool false, .slice none 0 0, .slice none 0 0]).res Tryz.underlying25 rfl value5 _ rfl) rfl ⟨_, by rw [HE.2]; rfl, by rw [HE.1]; exact zero_val _ _, (HR2.set #[.int .i64 0, .int .i64 0, .bool false, .slice none 0 0, .slice none 0 0]).b⟩
 obtain ⟨h19, hne, hlt, htx⟩ := oidVP_open hV
 obtain ⟨sv, cv, rfl⟩ := hvals.form
 rw [List.length_map] at hvals ⊢
 obtain ⟨N, hN⟩ := exq gs.length
 rw [hN] at hvals ⊢
 have HVl := h_ hvals
 have HN := h_ hN
 have Hlt := h_ hlt
 have hN19 : N ≤ 19 := by omega
 have HE : Hid (oidV (bs s) = oidDV gs ∧ (oidVP (bs s)).isSome = true) := ⟨oidV_yes hV, by rw [hV]; rfl⟩
 clear hV h19 hne hlt htx hvals hN
 go_wp2
 go_loopw [6, 19] (fun bb ii wr => ∃ (k L c : Nat) (sp : Option Addr), k ≤ N ∧ bb = .slice sp L c ∧ ii = .int .i64 (k : Int) ∧ Hid ((bytesG (gs.take k)).length = L) ∧ Hid (Row w2 wr (.slice sp L c) (bytesG (gs.take k)))) (fun _ ii _ => N - (intOf ii).toNat)
 case atStart => exact ⟨0, 0, 0, none, by omega, rfl, rfl, rfl, ⟨ownb_nil _ _, Below.refl _ _⟩⟩
 case round =>
  obtain ⟨k, L, c, sp, hk, rfl, rfl, HL, HRw⟩ := hrel
  by_cases hlt : k < N
  ·have hkg : k < gs.length := by have := u_ HN; omega
   obtain ⟨ba, oa, rfl, hc⟩ := ValsAt.int (HVl.below HRw.b) k hkg
   obtain ⟨n, hn⟩ := exq (gs.getD k 0)
   rw [hn] at hc
   have hn40 : n < 1099511627776 := by
    refine u_ Hlt n ?_
    rw [← hn, List.getD_eq_getElem?_getD, List.getElem?_eq_getElem hkg]
    exact List.getElem_mem hkg
   obtain ⟨f1, f1n⟩ := ltVV k N
   have k0 : (0 : Int) ≤ (k : Int) := by omega
   have k1 : (k : Int) < (N : Int) := by omega
   have hLb : (bytesG (gs.take k)).length ≤ 1000 := by
    have h1 := bytesG_len (gs.take k) (fun g hg => u_ Hlt g (List.mem_of_mem_take hg))
    have h2 : (gs.take k).length ≤ 19 := by rw [List.length_take]; omega
    omega
   have HP := h_ (putgroup_c w2 wr (.slice sp L c) _ n (u_ HRw) hn40 (by omega))
   have HB : Hid (bytesG (gs.take k) ++ putG n = bytesG (gs.take (k + 1))) := by
    show _ = _
    rw [take_snocG hkg, hn, bytesG_snoc]
   clear hn hLb HL HRw
   go_wp2_with fail
   refine HP.mono ?_
   rintro e w3 ⟨v3, rfl, hR3⟩
   rw [u_ HB] at hR3
   obtain ⟨p3, q3, rfl⟩ := hR3.own.form
   obtain ⟨L3, hL3⟩ := exq ((bytesG (gs.take (k + 1))).length)
   rw [hL3] at hR3 ⊢
   have HR3 := h_ hR3
   have HL3 := h_ hL3
   clear hR3 hL3 hc HP
   go_wp2
   go_roundw
   case rel =>
    first
     | exact ⟨k + 1, L3, q3, p3, by omega, rfl, by go_num, HL3, HR3⟩
     | ((repeat apply Exists.intro); exact ⟨⟨k + 1, L3, q3, p3, by omega, rfl, by go_num, HL3, HR3⟩, rfl⟩)
   case measure => simp [intOf]; omega
  ·obtain ⟨f1, f1n⟩ := ltVVf k N
   have hall : gs.take k = gs := List.take_of_length_le (by have := u_ HN; omega)
   rw [hall] at HRw HL
   have HRr := h_ (HR2.call HRw.b)
   have H6 : Hid ((#[.int .i64 0, .int .i64 6, .bool false, .slice sp L c, .slice none 0 0] : Array Value).all (·.oneCell') = true) := by show _ = true; simp [Value.oneCell']
   have Hfr : Hid (∀ j, (Value.slice sp L c).ownBlock = some j → w2.heap.size ≤ j) := OwnV.fresh HRw.own
   have HRlt : Hid (R < w2.heap.size ∧ w.heap.size ≤ w2.heap.size) := ⟨HR2.lt, HR2.b.size⟩
   clear hall
   go_wp2_with (refine wpList_store_row rfl 25 _ _ rfl R _ rfl rfl 25 _ HRr.res value5 rfl (u_ H6) ?_)
   refine bodyPost_ret (res_row_tmp Tryz.results14 _ _ R 25 #[.int .i64 0, .int .i64 6, .bool false, .slice sp L c, .slice none 0 0] (0, 0) _ rfl (HRr.set #[.int .i64 0, .int .i64 6, .bool false, .slice sp L c, .slice none 0 0]).res Tryz.underlying25 rfl value5 _ rfl) rfl ⟨[.int .i64 0, .int .i64 6, .bool false, .slice sp L c, .slice none 0 0], by rw [HE.2]; rfl, ?_, (HRr.set #[.int .i64 0, .int .i64 6, .bool false, .slice sp L c, .slice none 0 0]).b⟩
   rw [HE.1]
   have h1 : OwnB (wr.setRow R #[.int .i64 0, .int .i64 6, .bool false, .slice sp L c, .slice none 0 0]) w2.heap.size (.slice sp L c) (bytesG gs) := OwnV.kept HRw.own (grown_setRowN _ _ _) (by
    cases ho : (Value.slice sp L c).ownBlock with
    | none => exact Or.inl rfl
    | some j =>
     right
     intro e
     have h2 := u_ Hfr j ho
     have h3 := HRlt.1
     simp only [Option.some.injEq] at e
     omega)
   refine leaf_own 0 6 h1.bytes (fun j hj => ?_) ?_
   ·have h2 := u_ Hfr j hj
    have h3 := HRlt.2
    omega
   ·have h1 := bytesG_len gs (u_ Hlt)
    have h2 := u_ HN
    omega
end N
end Go.Proofs.YtcofnockikninaaGreatDoor
