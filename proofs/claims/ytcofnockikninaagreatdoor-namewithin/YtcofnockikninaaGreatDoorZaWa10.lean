/- Parts of the walk. -/
import Derived.Test.YtcofnockikninaaGreatDoorZaWp10
import Derived.Test.YtcofnockikninaaGreatDoorZaOQ
import Derived.BigQuiet
set_option maxRecDepth 100000
set_option maxHeartbeats 16000000
namespace Go.Proofs.YtcofnockikninaaGreatDoor
open Go.RowKit
def smallN (p : Nat) : Nat := if 65 ≤ p ∧ p ≤ 90 then p + 32 else p
theorem smallN_all : ∀ n : Fin 256, (smallC (UInt8.ofNat n.val)).toNat = smallN n.val := by decide +kernel
theorem smallN_eq (c : UInt8) : (smallC c).toNat = smallN c.toNat := by
 have h := smallN_all ⟨c.toNat, c.toNat_lt⟩
 simp only [UInt8.ofNat_toNat] at h
 exact h
theorem drewN_add (w : World) (a b : Nat) : ∃ q, (w.drewN a).drewN b = w.drewN q := ⟨a + b, by simp [World.drewN, Nat.add_assoc]⟩
namespace Q
open N K
theorem qsmall_c (w : World) (p : Nat) (hp : p < 256) : Calls Tryz.prog 101 #[.int .u8 (p : Int)] w fun e w' => e = .returned (.int .u8 (smallN p : Int)) ∧ w' = w := by
 by_cases h1 : 65 ≤ p
 ·obtain ⟨a1, a1n⟩ := leLV 65 65 p
  by_cases h2 : p ≤ 90
  ·obtain ⟨b1, b1n⟩ := leVL p 90 90
   obtain ⟨z, hz⟩ := exq (p + 32)
   have ez : (p : Int) + 32 = (z : Int) := by omega
   have uz : IntKind.u8.wrap (z : Int) = (z : Int) := by rw [IntKind.wrap_u8']; omega
   have HT : Hid (smallN p = z) := by show _ = _; unfold smallN; rw [if_pos ⟨h1, h2⟩, hz]
   clear hz h1 h2
   go_enter Tryz.func101, Tryz.ntmps101
   go_wp2
   go_ret
   exact ⟨by rw [u_ HT]; rfl, rfl⟩
  ·obtain ⟨b1, b1n⟩ := leVLf p 90 90
   have HT : Hid (smallN p = p) := by show _ = _; unfold smallN; rw [if_neg (by omega)]
   go_enter Tryz.func101, Tryz.ntmps101
   go_wp2
   go_ret
   exact ⟨by rw [u_ HT]; rfl, rfl⟩
 ·obtain ⟨a1, a1n⟩ := leLVf 65 65 p
  have HT : Hid (smallN p = p) := by show _ = _; unfold smallN; rw [if_neg (by omega)]
  go_enter Tryz.func101, Tryz.ntmps101
  go_wp2
  go_ret
  exact ⟨by rw [u_ HT]; rfl, rfl⟩
theorem small_take {a b : Bs} {k : Nat} (ha : k < a.length) (hb : k < b.length) (h : smallB (a.take k) = smallB (b.take k)) (hk : smallN (a.getD k 0).toNat = smallN (b.getD k 0).toNat) : smallB (a.take (k + 1)) = smallB (b.take (k + 1)) := by
 unfold smallB at *
 rw [take_snocQ ha, take_snocQ hb, List.map_append, List.map_append, h]
 congr 1
 simp only [List.map_cons, List.map_nil, List.cons.injEq, and_true]
 rw [← smallN_eq, ← smallN_eq] at hk
 exact UInt8.toNat_inj.1 hk
theorem qalike_c (w : World) (a b : ByteArray) (ha : a.size ≤ 1000000) (_hb : b.size ≤ 1000000) : Calls Tryz.prog 76 #[.string a, .string b] w fun e w' => e = .returned (.bool (alikeP (bs a) (bs b))) ∧ ∃ q, w' = w.drewN q := by
 obtain ⟨N, hN⟩ := exq a.size
 obtain ⟨M, hM⟩ := exq b.size
 have la : (bs a).length = N := by rw [bs_len, hN]
 have lb : (bs b).length = M := by rw [bs_len, hM]
 obtain ⟨R, hR⟩ := exq (alikeP (bs a) (bs b))
 rw [hR]
 have HR := h_ hR
 have Hla := h_ la
 have Hlb := h_ lb
 by_cases hnm : N = M
 case neg =>
  have z1 : ((N : Int) != (M : Int)) = true := by simp; omega
  have z2 : ((N : Int) == (M : Int)) = false := by simp; omega
  have HF : Hid (R = false) := by
   show _ = _
   rw [← hR]
   refine decide_eq_false fun e => hnm ?_
   have := congrArg List.length e
   rw [small_len, small_len] at this
   omega
  clear hR la lb hnm
  go_enter Tryz.func76, Tryz.ntmps76
  go_wp2
  go_ret
  exact ⟨by rw [u_ HF]; rfl, 0, rfl⟩
 subst hnm
 have z1 : ((N : Int) != (N : Int)) = false := by simp
 have HX : Hid (∀ k, k < N → ∃ p q : Nat, p < 256 ∧ q < 256 ∧ ((bs a).getD k 0).toNat = p ∧ ((bs b).getD k 0).toNat = q ∧ (∀ W, (Instr.index 9 (.string a) (.int .i64 (k : Int))).run Tryz.prog W = .ok (.int .u8 (p : Int)) W) ∧ (∀ W, (Instr.index 9 (.string b) (.int .i64 (k : Int))).run Tryz.prog W = .ok (.int .u8 (q : Int)) W)) := fun k hk =>
  ⟨_, _, ((bs a).getD k 0).toNat_lt, ((bs b).getD k 0).toNat_lt, rfl, rfl, fun W => index_str a k (by omega) _ rfl W, fun W => index_str b k (by omega) _ rfl W⟩
 have bN : N ≤ 1000000 := by omega
 clear hR la lb ha
 go_enter Tryz.func76, Tryz.ntmps76
 go_wp2
 clear z1 hM
 go_loopw [5] (fun ii wr => ∃ i : Nat, i ≤ N ∧ ii = .int .i64 (i : Int) ∧ Hid (smallB ((bs a).take i) = smallB ((bs b).take i)) ∧ Hid (∃ q, wr = w.drewN q)) (fun ii _ => N - (intOf ii).toNat)
 case atStart => exact ⟨0, by omega, rfl, rfl, 0, rfl⟩
 case round =>
  obtain ⟨i, hi, rfl, HE, HW⟩ := hrel
  by_cases hlt : i < N
  ·obtain ⟨p, q, hp, hq, ep, eq, ia, ib⟩ := u_ HX i hlt
   obtain ⟨f1, f1n⟩ := ltVV i N
   obtain ⟨x, hx⟩ := exq (smallN p)
   obtain ⟨y, hy⟩ := exq (smallN q)
   have Hc1 : Hid (∀ n, Calls Tryz.prog 101 #[.int .u8 (p : Int)] (wr.drewN n) fun e w' => e = .returned (.int .u8 (x : Int)) ∧ ∃ q, w' = (wr.drewN n).drewN q) := fun n => by
    have h := qsmall_c (wr.drewN n) p hp
    rw [hx] at h
    exact h.mono fun e w' h => ⟨h.1, 0, h.2⟩
   have Hc2 : Hid (∀ n, Calls Tryz.prog 101 #[.int .u8 (q : Int)] (wr.drewN n) fun e w' => e = .returned (.int .u8 (y : Int)) ∧ ∃ q, w' = (wr.drewN n).drewN q) := fun n => by
    have h := qsmall_c (wr.drewN n) q hq
    rw [hy] at h
    exact h.mono fun e w' h => ⟨h.1, 0, h.2⟩
   have Hxy : Hid (x = smallN ((bs a).getD i 0).toNat ∧ y = smallN ((bs b).getD i 0).toNat) := ⟨by rw [ep, hx], by rw [eq, hy]⟩
   have hal : i < (bs a).length := by have := u_ Hla; omega
   have hbl : i < (bs b).length := by have := u_ Hlb; omega
   have HNx : Hid (x ≠ y → R = false) := fun hne => by
    rw [← u_ HR]
    refine decide_eq_false fun e => hne ?_
    rw [Hxy.1, Hxy.2, ← smallN_eq, ← smallN_eq, ← small_getD, ← small_getD, e]
   have HSt : Hid (x = y → smallB ((bs a).take (i + 1)) = smallB ((bs b).take (i + 1))) := fun e => small_take hal hbl (u_ HE) (by rw [← Hxy.1, ← Hxy.2, e])
   clear hx hy ep eq hp hq hal hbl Hxy HE
   by_cases hxy : x = y
   ·have HS2 := h_ (u_ HSt hxy)
    subst hxy
    have y1 : ((x : Int) != (x : Int)) = false := by simp
    have y2 : ((x : Int) == (x : Int)) = true := by simp
    go_wp2
    go_big_quiet (first | (go_at_call_of 101 (Value.int IntKind.u8 (p : Int)); refine Calls.quiet_of (u_ Hc1 _)) | (go_at_call_of 101 (Value.int IntKind.u8 (q : Int)); refine Calls.quiet_of (u_ Hc2 _)))
    have HW2 : Hid (∃ q, wr.drewN nq = w.drewN q) := by obtain ⟨q0, e⟩ := u_ HW; show ∃ q, _; rw [e]; exact drewN_add w q0 nq
    go_wp2
    go_roundw
    case rel =>
     first
      | exact ⟨i + 1, by omega, by go_num, HS2, HW2⟩
      | ((repeat apply Exists.intro); exact ⟨⟨i + 1, by omega, by go_num, HS2, HW2⟩, rfl⟩)
    case measure => simp [intOf]; omega
   ·have HF := h_ (u_ HNx hxy)
    have y1 : ((x : Int) != (y : Int)) = true := by simp; omega
    have y2 : ((x : Int) == (y : Int)) = false := by simp; omega
    clear hxy
    go_wp2
    go_big_quiet (first | (go_at_call_of 101 (Value.int IntKind.u8 (p : Int)); refine Calls.quiet_of (u_ Hc1 _)) | (go_at_call_of 101 (Value.int IntKind.u8 (q : Int)); refine Calls.quiet_of (u_ Hc2 _)))
    have HW2 : Hid (∃ q, wr.drewN nq = w.drewN q) := by obtain ⟨q0, e⟩ := u_ HW; show ∃ q, _; rw [e]; exact drewN_add w q0 nq
    go_wp2
    go_ret
    exact ⟨by rw [u_ HF]; rfl, u_ HW2⟩
  ·obtain ⟨f1, f1n⟩ := ltVVf i N
   have HF : Hid (R = true) := by
    show _ = _
    rw [← u_ HR]
    refine decide_eq_true ?_
    have h := u_ HE
    rw [List.take_of_length_le (by have := u_ Hla; omega), List.take_of_length_le (by have := u_ Hlb; omega)] at h
    exact h
   go_wp2
   go_ret
   exact ⟨by rw [u_ HF]; rfl, u_ HW⟩
theorem qends_c (w : World) (s l : ByteArray) (hs : s.size ≤ 1000000) (hl : l.size ≤ 1000000) : Calls Tryz.prog 77 #[.string s, .string l] w fun e w' => e = .returned (.bool (endsP (bs s) (bs l))) ∧ ∃ q, w' = w.drewN q := by
 obtain ⟨N, hN⟩ := exq s.size
 obtain ⟨M, hM⟩ := exq l.size
 have la : (bs s).length = N := by rw [bs_len, hN]
 have lb : (bs l).length = M := by rw [bs_len, hM]
 by_cases hlt : M < N
 ·obtain ⟨f1, f1n⟩ := ltVV M N
  obtain ⟨D, hD⟩ := exq (N - M)
  have eD : (N : Int) - (M : Int) = (D : Int) := by omega
  obtain ⟨x, hx⟩ := exq (st ((bs s).drop D))
  have hsl : ∀ W, (Instr.sliceAt 9 (.string s) (some (.int .i64 (D : Int))) none none).run Tryz.prog W = .ok (.string x) W := fun W => by rw [← hx]; exact slice_str s D (by omega) W
  have zx : x.size ≤ 1000000 := by rw [← hx, st_size, List.length_drop, la]; omega
  have Hal : Hid (Calls Tryz.prog 76 #[.string x, .string l] w fun e w' => e = .returned (.bool (endsP (bs s) (bs l))) ∧ ∃ q, w' = w.drewN q) := by
   have h := qalike_c w x l zx (by omega)
   rw [← hx, bs_st] at h
   unfold endsP
   rw [la, lb, decide_eq_true hlt, Bool.true_and, hD, ← hx]
   exact h
  have bN : N ≤ 1000000 := by omega
  have bM : M ≤ 1000000 := by omega
  clear hx zx la lb hD hs hl
  go_enter Tryz.func77, Tryz.ntmps77
  go_wp2_with fail
  refine Hal.mono ?_
  rintro e w2 ⟨rfl, hw⟩
  have HW := h_ hw
  obtain ⟨R, hR⟩ := exq (endsP (bs s) (bs l))
  rw [hR]
  have HRR := h_ hR
  clear hw hR
  go_wp2
  go_ret
  exact ⟨by rw [u_ HRR]; rfl, u_ HW⟩
 ·obtain ⟨f1, f1n⟩ := ltVVf M N
  have HF : Hid (endsP (bs s) (bs l) = false) := by show _ = _; unfold endsP; rw [la, lb, decide_eq_false hlt]; rfl
  clear la lb
  go_enter Tryz.func77, Tryz.ntmps77
  go_wp2
  go_ret
  exact ⟨by rw [u_ HF]; rfl, 0, rfl⟩
theorem occ_one {s : Bs} {c : UInt8} {i : Nat} (hi : i < s.length) : Lib.occAt s [c] i = decide (s.getD i 0 = c) := by
 unfold Lib.occAt
 rw [List.drop_eq_getElem_cons hi, List.getD_eq_getElem?_getD, List.getElem?_eq_getElem hi]
 simp only [List.isPrefixOf, Bool.and_true, Option.getD_some]
 by_cases h : s[i] = c
 ·rw [h, decide_eq_true rfl]; simp
 ·rw [decide_eq_false h]; exact beq_eq_false_iff_ne.2 (fun e => h e.symm)
theorem index_one_none {s : Bs} {c : UInt8} (h : ∀ j, j < s.length → s.getD j 0 ≠ c) : Lib.index s [c] = -1 := by
 rcases Lib.index_spec s [c] with ⟨h1, _⟩ | ⟨i, _, h2, h3, _⟩
 ·exact h1
 ·rcases Lib.occAt_room h3 with h4 | h4
  ·have hi : i < s.length := by simp at h4; omega
   rw [occ_one hi] at h3
   exact absurd (of_decide_eq_true h3) (h i hi)
  ·cases h4
theorem qat_c (w : World) (s : ByteArray) (hs : s.size ≤ 1000000) (c : UInt8) (p : Nat) (hp : c.toNat = p) : Calls Tryz.prog 100 #[.string s, .int .u8 (p : Int)] w fun e w' => e = .returned (.int .i64 (Lib.index (bs s) [c])) ∧ w' = w := by
 obtain ⟨N, hN⟩ := exq s.size
 have Hl : Hid ((bs s).length = N) := by show _ = _; rw [bs_len, hN]
 have HX : Hid (∀ k, k < N → ∃ x : Nat, ((bs s).getD k 0).toNat = x ∧ ∀ W, (Instr.index 9 (.string s) (.int .i64 (k : Int))).run Tryz.prog W = .ok (.int .u8 (x : Int)) W) := fun k hk => ⟨_, rfl, fun W => index_str s k (by omega) _ rfl W⟩
 have Hp := h_ hp
 have bN : N ≤ 1000000 := by omega
 clear hp hs
 go_enter Tryz.func100, Tryz.ntmps100
 go_wp2
 go_loopw [5] (fun ii wr => ∃ i : Nat, i ≤ N ∧ ii = .int .i64 (i : Int) ∧ wr = w ∧ Hid (∀ j, j < i → (bs s).getD j 0 ≠ c)) (fun ii _ => N - (intOf ii).toNat)
 case atStart => exact ⟨0, by omega, rfl, rfl, fun j hj => by omega⟩
 case round =>
  obtain ⟨i, hi, rfl, hwr, HE⟩ := hrel
  have := hwr.symm
  subst this
  by_cases hlt : i < N
  ·obtain ⟨x, ex, ix⟩ := u_ HX i hlt
   obtain ⟨f1, f1n⟩ := ltVV i N
   by_cases hxp : x = p
   ·have HF : Hid (Lib.index (bs s) [c] = (i : Int)) := by
     show _ = _
     have hl := u_ Hl
     refine Lib.index_first (by omega) ?_ fun j hj => ?_
     ·rw [occ_one (by omega), decide_eq_true]
      exact UInt8.toNat_inj.1 (by rw [ex, hxp]; exact Hp.symm)
     ·rw [occ_one (by omega)]
      exact decide_eq_false (u_ HE j hj)
    subst hxp
    have y1 : ((x : Int) == (x : Int)) = true := by simp
    clear ex
    go_wp2
    go_ret
    exact ⟨by rw [u_ HF]; rfl, rfl⟩
   ·have HE2 : Hid (∀ j, j < i + 1 → (bs s).getD j 0 ≠ c) := fun j hj => by
     rcases Nat.lt_succ_iff_lt_or_eq.1 hj with hj | rfl
     ·exact u_ HE j hj
     ·exact fun e => hxp (by rw [← ex, e]; exact u_ Hp)
    have y1 : ((x : Int) == (p : Int)) = false := by simp; omega
    clear ex hxp
    go_wp2
    go_roundw
    case rel =>
     first
      | exact ⟨i + 1, by omega, by go_num, rfl, HE2⟩
      | exact ⟨i + 1, by omega, by go_num, trivial, HE2⟩
      | ((repeat apply Exists.intro); exact ⟨⟨i + 1, by omega, by go_num, rfl, HE2⟩, rfl⟩)
    case measure => simp [intOf]; omega
  ·obtain ⟨f1, f1n⟩ := ltVVf i N
   have HF : Hid (Lib.index (bs s) [c] = -1) := index_one_none fun j hj => u_ HE j (by have := u_ Hl; omega)
   go_wp2
   go_ret
   exact ⟨by rw [u_ HF]; rfl, rfl⟩
end Q
namespace N
open K
theorem lab_small (p : Nat) : labN p = (decide (97 ≤ smallN p ∧ smallN p ≤ 122) || decide (48 ≤ smallN p ∧ smallN p ≤ 57) || decide (smallN p = 45)) := by
 unfold labN digN capN smallN
 rw [Bool.eq_iff_iff]
 simp only [Bool.or_eq_true, Bool.and_eq_true, decide_eq_true_eq]
 split <;> omega
theorem label_ok {p : Bs} (h0 : 1 ≤ p.length) (h63 : p.length ≤ 63) (hl : (p.all fun c => labN c.toNat) = true) (h1 : (p.getD 0 0).toNat ≠ 45) (h2 : (p.getD (p.length - 1) 0).toNat ≠ 45) : labelP p = true := by
 unfold labelP
 rw [decide_eq_false (fun e => by rw [e] at h0; simp at h0), decide_eq_true h63, hl, decide_eq_false h1, decide_eq_false h2]
 rfl
theorem label_no {p : Bs} (h : p.length < 1 ∨ 63 < p.length ∨ (p.getD 0 0).toNat = 45 ∨ (p.getD (p.length - 1) 0).toNat = 45) : labelP p = false := by
 unfold labelP
 rcases h with h | h | h | h
 ·rw [decide_eq_true (List.eq_nil_of_length_eq_zero (by omega))]; rfl
 ·rw [decide_eq_false (by omega : ¬ p.length ≤ 63)]; simp
 ·rw [decide_eq_true h]; simp
 ·rw [decide_eq_true h]; simp
def MachAt (b : Bs) (i n : Nat) : Prop := (i ≤ b.length ∧ n ≤ i ∧ ∃ ps, splitD (b.take i) = ps ++ [(b.take i).drop (i - n)] ∧ (((b.take i).drop (i - n)).all fun c => labN c.toNat) = true ∧ ps.all labelP = true) ∨ (i = b.length + 1 ∧ (splitD b).all labelP = true)
theorem part_len {b : Bs} {i n : Nat} (hi : i ≤ b.length) (hn : n ≤ i) : ((b.take i).drop (i - n)).length = n := by rw [List.length_drop, List.length_take]; omega
theorem part_getD {b : Bs} {i n k : Nat} (_hi : i ≤ b.length) (hn : n ≤ i) (hk : k < n) : ((b.take i).drop (i - n)).getD k 0 = b.getD (i - n + k) 0 := by
 rw [List.getD_eq_getElem?_getD, List.getElem?_drop, List.getElem?_take_of_lt (by omega), ← List.getD_eq_getElem?_getD]
theorem mach_end {b : Bs} {i n : Nat} (h : MachAt b i n) (hi : i = b.length + 1) : machP b = true := by
 rcases h with ⟨h1, _⟩ | ⟨_, h2⟩
 ·omega
 ·rw [machP_D]; exact h2
theorem mach_wrong {b : Bs} {i n : Nat} (h : MachAt b i n) (hi : i ≤ b.length) (hc : i < b.length → b.getD i 0 = 46) (hw : labelP ((b.take i).drop (i - n)) = false) : machP b = false := by
 rcases h with ⟨_, _, ps, h1, _⟩ | ⟨h1, _⟩
 ·have hm := part_mem h1 hi hc
  rw [machP_D, List.all_eq_false]
  exact ⟨_, hm, by rw [hw]; simp⟩
 ·omega
theorem mach_right {b : Bs} {i n : Nat} (h : MachAt b i n) (hi : i ≤ b.length) (hc : i < b.length → b.getD i 0 = 46) (hw : labelP ((b.take i).drop (i - n)) = true) : MachAt b (i + 1) 0 := by
 rcases h with ⟨_, hn, ps, h1, _, h3⟩ | ⟨h1, _⟩
 ·by_cases hl : i < b.length
  ·refine Or.inl ⟨by omega, by omega, ps ++ [(b.take i).drop (i - n)], ?_, ?_, ?_⟩
   ·have h4 : b.take (i + 1) = b.take i ++ [46] := by rw [take_snocQ hl, hc hl]
    have h5 : (b.take i ++ [46]).drop (i + 1) = [] := List.drop_of_length_le (by rw [List.length_append, List.length_take, List.length_singleton]; omega)
    rw [h4, splitD_snocP h1, Nat.sub_zero, h5]
   ·rw [Nat.sub_zero, List.drop_of_length_le (by rw [List.length_take]; omega)]; rfl
   ·rw [List.all_append, h3]; simp [hw]
  ·have e : i = b.length := by omega
   refine Or.inr ⟨by omega, ?_⟩
   rw [e, List.take_length] at h1 hw
   rw [h1, List.all_append, h3]
   simp [hw]
 ·omega
theorem mach_more {b : Bs} {i n : Nat} (h : MachAt b i n) (hi : i < b.length) (hc : b.getD i 0 ≠ 46) (hl : labN (b.getD i 0).toNat = true) : MachAt b (i + 1) (n + 1) := by
 rcases h with ⟨_, hn, ps, h1, h2, h3⟩ | ⟨h1, _⟩
 ·refine Or.inl ⟨by omega, by omega, ps, ?_, ?_, h3⟩
  ·rw [show i + 1 - (n + 1) = i - n by omega, take_snocQ hi, List.drop_append_of_le_length (by rw [List.length_take]; omega)]
   exact splitD_snoc h1 hc
  ·rw [show i + 1 - (n + 1) = i - n by omega, take_snocQ hi, List.drop_append_of_le_length (by rw [List.length_take]; omega), List.all_append, h2, List.all_cons, hl]
   rfl
 ·omega
theorem mach_bad {b : Bs} {i n : Nat} (h : MachAt b i n) (hi : i < b.length) (hc : b.getD i 0 ≠ 46) (hl : labN (b.getD i 0).toNat = false) : machP b = false := by
 rcases h with ⟨_, hn, ps, h1, _⟩ | ⟨h1, _⟩
 ·have h2 : splitD (b.take (i + 1)) = ps ++ [(b.take i).drop (i - n) ++ [b.getD i 0]] := by rw [take_snocQ hi]; exact splitD_snoc h1 hc
  obtain ⟨q, qs, h3⟩ := splitD_on h2
  rw [machP_D, h3, List.all_append, List.all_cons]
  have h4 : labelP ((b.take i).drop (i - n) ++ [b.getD i 0] ++ q) = false := by
   unfold labelP
   have h5 : ((((b.take i).drop (i - n) ++ [b.getD i 0]) ++ q).all fun c => labN c.toNat) = false := by
    rw [List.all_append, List.all_append, List.all_cons, hl]
    simp
   rw [h5]
   simp
  rw [h4]
  simp
 ·omega
end N
namespace Q
open N K
theorem qmachine_c (w : World) (s : ByteArray) (hs : s.size ≤ 1000000) : Calls Tryz.prog 75 #[.string s] w fun e w' => e = .returned (.bool (machP (bs s))) ∧ w' = w := by
 obtain ⟨N, hN⟩ := exq s.size
 obtain ⟨b, hb⟩ := exq (bs s)
 have Hl : Hid (b.length = N) := by show _ = _; rw [← hb, bs_len, hN]
 rw [hb]
 have HX : Hid (∀ k, k < N → ∀ W, (Instr.index 9 (.string s) (.int .i64 (k : Int))).run Tryz.prog W = .ok (.int .u8 ((b.getD k 0).toNat : Int)) W) := fun k hk W => index_str s k (by omega) _ (by rw [hb]) W
 have bN : N ≤ 1000000 := by omega
 obtain ⟨R, hR⟩ := exq (machP b)
 rw [hR]
 have HR := h_ hR
 clear hb hs hR
 go_enter Tryz.func75, Tryz.ntmps75
 go_wp2
 go_loopw [3, 4] (fun nn ii wr => ∃ (i n : Nat), i ≤ N + 1 ∧ n ≤ i ∧ nn = .int .i64 (n : Int) ∧ ii = .int .i64 (i : Int) ∧ wr = w ∧ Hid (MachAt b i n)) (fun _ ii _ => N + 1 - (intOf ii).toNat)
 case atStart => exact ⟨0, 0, by omega, by omega, rfl, rfl, rfl, Or.inl ⟨by omega, by omega, [], rfl, rfl, rfl⟩⟩
 case round =>
  obtain ⟨i, n, hi, hn, rfl, rfl, hwr, HM⟩ := hrel
  have := hwr.symm
  subst this
  by_cases hle : i ≤ N
  case neg =>
   obtain ⟨f1, f1n⟩ := leVVf i N
   have HF : Hid (R = true) := by show _ = _; rw [← u_ HR]; exact mach_end (u_ HM) (by have := u_ Hl; omega)
   go_wp2
   go_ret
   exact ⟨by rw [u_ HF]; rfl, rfl⟩
  obtain ⟨f1, f1n⟩ := leVV i N
  have HIX : Hid (i < N → ∀ W, (Instr.index 9 (.string s) (.int .i64 (i : Int))).run Tryz.prog W = .ok (.int .u8 ((b.getD i 0).toNat : Int)) W) := fun h => u_ HX i h
  obtain ⟨c, hc⟩ := exq ((b.getD i 0).toNat)
  have Hc := h_ hc
  rw [hc] at HIX
  have hc256 : c < 256 := by rw [← hc]; exact (b.getD i 0).toNat_lt
  clear hc
  by_cases hsep : i = N ∨ c = 46
  ·have Hsep : Hid (i < b.length → b.getD i 0 = 46) := fun h => by
    rcases hsep with h1 | h1
    ·have := u_ Hl; omega
    ·exact UInt8.toNat_inj.1 (by rw [u_ Hc, h1]; rfl)
   obtain ⟨G, hG⟩ := exq (decide (i = N))
   have g1 : ((i : Int) == (N : Int)) = G := by rw [← hG]; by_cases h : i = N <;> simp [h] <;> omega
   have hG2 : G = false → i < N ∧ c = 46 := fun h => by
    rw [h] at hG
    have h2 := of_decide_eq_false hG
    exact ⟨by omega, hsep.resolve_left h2⟩
   have HG2 := h_ hG2
   clear hG hG2
   have Hpl : Hid (((b.take i).drop (i - n)).length = n) := part_len (by have := u_ Hl; omega) hn
   have hLab : ∀ L, labelP ((b.take i).drop (i - n)) = L → True := fun _ _ => trivial
   clear hLab
   by_cases h1 : n < 1
   ·obtain ⟨x1, x1n⟩ := ltVL n 1 1
    have HF : Hid (R = false) := by show _ = _; rw [← u_ HR]; exact mach_wrong (u_ HM) (by have := u_ Hl; omega) (u_ Hsep) (label_no (Or.inl (by rw [u_ Hpl]; exact h1)))
    cases G with
    | true =>
     clear HG2
     go_wp2
     go_ret
     exact ⟨by rw [u_ HF]; rfl, rfl⟩
    | false =>
     have hg := u_ HG2 rfl
     have ic := u_ HIX hg.1
     have yc : ((c : Int) == 46) = true := by simp; omega
     clear hg HG2
     go_wp2
     go_ret
     exact ⟨by rw [u_ HF]; rfl, rfl⟩
   obtain ⟨x1, x1n⟩ := ltVLf n 1 1
   by_cases h2 : 63 < n
   ·obtain ⟨x2, x2n⟩ := ltLV 63 63 n
    have HF : Hid (R = false) := by show _ = _; rw [← u_ HR]; exact mach_wrong (u_ HM) (by have := u_ Hl; omega) (u_ Hsep) (label_no (Or.inr (Or.inl (by rw [u_ Hpl]; exact h2))))
    cases G with
    | true =>
     clear HG2
     go_wp2
     go_ret
     exact ⟨by rw [u_ HF]; rfl, rfl⟩
    | false =>
     have hg := u_ HG2 rfl
     have ic := u_ HIX hg.1
     have yc : ((c : Int) == 46) = true := by simp; omega
     clear hg HG2
     go_wp2
     go_ret
     exact ⟨by rw [u_ HF]; rfl, rfl⟩
   obtain ⟨x2, x2n⟩ := ltLVf 63 63 n
   obtain ⟨j, hj⟩ := exq (i - 1)
   have ej : (i : Int) - 1 = (j : Int) := by omega
   obtain ⟨f, hf⟩ := exq (i - n)
   have ef : (i : Int) - (n : Int) = (f : Int) := by omega
   have ij := u_ HX j (by omega)
   have iff_ := u_ HX f (by omega)
   obtain ⟨u, hu⟩ := exq ((b.getD j 0).toNat)
   obtain ⟨v, hv⟩ := exq ((b.getD f 0).toNat)
   rw [hu] at ij
   rw [hv] at iff_
   have Hu : Hid ((((b.take i).drop (i - n)).getD (((b.take i).drop (i - n)).length - 1) 0).toNat = u) := by
    show _ = _
    rw [u_ Hpl, part_getD (by have := u_ Hl; omega) hn (by omega), ← hu]
    congr 2
    omega
   have Hv : Hid ((((b.take i).drop (i - n)).getD 0 0).toNat = v) := by
    show _ = _
    rw [part_getD (by have := u_ Hl; omega) hn (by omega), ← hv, Nat.add_zero, hf]
   clear hj hf hu hv
   by_cases h3 : u = 45
   ·have x3 : ((u : Int) == 45) = true := by simp; omega
    have HF : Hid (R = false) := by show _ = _; rw [← u_ HR]; exact mach_wrong (u_ HM) (by have := u_ Hl; omega) (u_ Hsep) (label_no (Or.inr (Or.inr (Or.inr (by rw [u_ Hu]; exact h3)))))
    cases G with
    | true =>
     clear HG2
     go_wp2
     go_ret
     exact ⟨by rw [u_ HF]; rfl, rfl⟩
    | false =>
     have hg := u_ HG2 rfl
     have ic := u_ HIX hg.1
     have yc : ((c : Int) == 46) = true := by simp; omega
     clear hg HG2
     go_wp2
     go_ret
     exact ⟨by rw [u_ HF]; rfl, rfl⟩
   have x3 : ((u : Int) == 45) = false := by simp; omega
   by_cases h4 : v = 45
   ·have x4 : ((v : Int) == 45) = true := by simp; omega
    have HF : Hid (R = false) := by show _ = _; rw [← u_ HR]; exact mach_wrong (u_ HM) (by have := u_ Hl; omega) (u_ Hsep) (label_no (Or.inr (Or.inr (Or.inl (by rw [u_ Hv]; exact h4)))))
    cases G with
    | true =>
     clear HG2
     go_wp2
     go_ret
     exact ⟨by rw [u_ HF]; rfl, rfl⟩
    | false =>
     have hg := u_ HG2 rfl
     have ic := u_ HIX hg.1
     have yc : ((c : Int) == 46) = true := by simp; omega
     clear hg HG2
     go_wp2
     go_ret
     exact ⟨by rw [u_ HF]; rfl, rfl⟩
   have x4 : ((v : Int) == 45) = false := by simp; omega
   have HM2 : Hid (MachAt b (i + 1) 0) := by
    have hm := u_ HM
    refine mach_right hm (by have := u_ Hl; omega) (u_ Hsep) (label_ok (by rw [u_ Hpl]; omega) (by rw [u_ Hpl]; omega) ?_ (by rw [u_ Hv]; exact h4) (by rw [u_ Hu]; exact h3))
    rcases hm with ⟨_, _, ps, _, h, _⟩ | ⟨h, _⟩
    ·exact h
    ·have := u_ Hl; omega
   clear HM Hsep Hu Hv Hpl h3 h4
   cases G with
   | true =>
    clear HG2
    go_wp2
    go_roundw
    case rel =>
     first
      | exact ⟨i + 1, 0, by omega, by omega, rfl, by go_num, rfl, HM2⟩
      | exact ⟨i + 1, 0, by omega, by omega, rfl, by go_num, trivial, HM2⟩
      | ((repeat apply Exists.intro); exact ⟨⟨i + 1, 0, by omega, by omega, rfl, by go_num, rfl, HM2⟩, rfl⟩)
    case measure => simp [intOf]; omega
   | false =>
    have hg := u_ HG2 rfl
    have ic := u_ HIX hg.1
    have yc : ((c : Int) == 46) = true := by simp; omega
    clear hg HG2
    go_wp2
    go_roundw
    case rel =>
     first
      | exact ⟨i + 1, 0, by omega, by omega, rfl, by go_num, rfl, HM2⟩
      | exact ⟨i + 1, 0, by omega, by omega, rfl, by go_num, trivial, HM2⟩
      | ((repeat apply Exists.intro); exact ⟨⟨i + 1, 0, by omega, by omega, rfl, by go_num, rfl, HM2⟩, rfl⟩)
    case measure => simp [intOf]; omega
  ·have hiN : i < N := by omega
   have hib : i < b.length := by have := u_ Hl; omega
   have ic := u_ HIX hiN
   have yc : ((c : Int) == 46) = false := by simp; omega
   have yi : ((i : Int) == (N : Int)) = false := by simp; omega
   have hb46 : b.getD i 0 ≠ 46 := fun e => hsep (Or.inr (by rw [← u_ Hc, e]; rfl))
   have Hsm := h_ (qsmall_c w c hc256)
   have hlab := lab_small c
   obtain ⟨z, hz⟩ := exq (smallN c)
   rw [hz] at Hsm hlab
   have HMg : Hid (labN c = true → MachAt b (i + 1) (n + 1)) := fun h => mach_more (u_ HM) hib hb46 (by rw [u_ Hc]; exact h)
   have HMb : Hid (labN c = false → R = false) := fun h => by rw [← u_ HR]; exact mach_bad (u_ HM) hib hb46 (by rw [u_ Hc]; exact h)
   have Hlab := h_ hlab
   have hz256 : z < 256 := by rw [← hz]; unfold smallN; split <;> omega
   clear hz hlab hsep hib hb46 hc256
   rcases (by omega : (97 ≤ z ∧ z ≤ 122) ∨ (48 ≤ z ∧ z ≤ 57) ∨ z = 45 ∨ (z < 48 ∧ z ≠ 45) ∨ (57 < z ∧ z < 97) ∨ 122 < z) with hz | hz | hz | hz | hz | hz
   ·obtain ⟨a1, a1n⟩ := ltVLf z 97 97
    obtain ⟨a2, a2n⟩ := ltLVf 122 122 z
    have HM2 := h_ (u_ HMg (by rw [u_ Hlab]; simp; omega))
    clear HMg HMb HM hz
    go_wp2_with (go_at_call 101; refine Hsm.mono ?_; rintro e wk ⟨rfl, hwk⟩; have := hwk.symm; subst this)
    go_roundw
    case rel =>
     first
      | exact ⟨i + 1, n + 1, by omega, by omega, by go_num, by go_num, rfl, HM2⟩
      | exact ⟨i + 1, n + 1, by omega, by omega, by go_num, by go_num, trivial, HM2⟩
      | ((repeat apply Exists.intro); exact ⟨⟨i + 1, n + 1, by omega, by omega, by go_num, by go_num, rfl, HM2⟩, rfl⟩)
    case measure => simp [intOf]; omega
   ·obtain ⟨a1, a1n⟩ := ltVL z 97 97
    obtain ⟨a3, a3n⟩ := ltVLf z 48 48
    obtain ⟨a4, a4n⟩ := ltLVf 57 57 z
    have HM2 := h_ (u_ HMg (by rw [u_ Hlab]; simp; omega))
    clear HMg HMb HM hz
    go_wp2_with (go_at_call 101; refine Hsm.mono ?_; rintro e wk ⟨rfl, hwk⟩; have := hwk.symm; subst this)
    go_roundw
    case rel =>
     first
      | exact ⟨i + 1, n + 1, by omega, by omega, by go_num, by go_num, rfl, HM2⟩
      | exact ⟨i + 1, n + 1, by omega, by omega, by go_num, by go_num, trivial, HM2⟩
      | ((repeat apply Exists.intro); exact ⟨⟨i + 1, n + 1, by omega, by omega, by go_num, by go_num, rfl, HM2⟩, rfl⟩)
    case measure => simp [intOf]; omega
   ·obtain ⟨a1, a1n⟩ := ltVL z 97 97
    obtain ⟨a3, a3n⟩ := ltVL z 48 48
    have a5 : ((z : Int) != 45) = false := by simp; omega
    have a6 : ((z : Int) == 45) = true := by simp; omega
    have HM2 := h_ (u_ HMg (by rw [u_ Hlab]; simp; omega))
    clear HMg HMb HM hz
    go_wp2_with (go_at_call 101; refine Hsm.mono ?_; rintro e wk ⟨rfl, hwk⟩; have := hwk.symm; subst this)
    go_roundw
    case rel =>
     first
      | exact ⟨i + 1, n + 1, by omega, by omega, by go_num, by go_num, rfl, HM2⟩
      | exact ⟨i + 1, n + 1, by omega, by omega, by go_num, by go_num, trivial, HM2⟩
      | ((repeat apply Exists.intro); exact ⟨⟨i + 1, n + 1, by omega, by omega, by go_num, by go_num, rfl, HM2⟩, rfl⟩)
    case measure => simp [intOf]; omega
   ·obtain ⟨a1, a1n⟩ := ltVL z 97 97
    obtain ⟨a3, a3n⟩ := ltVL z 48 48
    have a5 : ((z : Int) != 45) = true := by simp; omega
    have a6 : ((z : Int) == 45) = false := by simp; omega
    have HF := h_ (u_ HMb (by rw [u_ Hlab]; simp; omega))
    clear HMg HMb HM hz
    go_wp2_with (go_at_call 101; refine Hsm.mono ?_; rintro e wk ⟨rfl, hwk⟩; have := hwk.symm; subst this)
    go_ret
    exact ⟨by rw [u_ HF]; rfl, rfl⟩
   ·obtain ⟨a1, a1n⟩ := ltVL z 97 97
    obtain ⟨a3, a3n⟩ := ltVLf z 48 48
    obtain ⟨a4, a4n⟩ := ltLV 57 57 z
    have a5 : ((z : Int) != 45) = true := by simp; omega
    have a6 : ((z : Int) == 45) = false := by simp; omega
    have HF := h_ (u_ HMb (by rw [u_ Hlab]; simp; omega))
    clear HMg HMb HM hz
    go_wp2_with (go_at_call 101; refine Hsm.mono ?_; rintro e wk ⟨rfl, hwk⟩; have := hwk.symm; subst this)
    go_ret
    exact ⟨by rw [u_ HF]; rfl, rfl⟩
   ·obtain ⟨a1, a1n⟩ := ltVLf z 97 97
    obtain ⟨a2, a2n⟩ := ltLV 122 122 z
    obtain ⟨a3, a3n⟩ := ltVLf z 48 48
    obtain ⟨a4, a4n⟩ := ltLV 57 57 z
    have a5 : ((z : Int) != 45) = true := by simp; omega
    have a6 : ((z : Int) == 45) = false := by simp; omega
    have HF := h_ (u_ HMb (by rw [u_ Hlab]; simp; omega))
    clear HMg HMb HM hz
    go_wp2_with (go_at_call 101; refine Hsm.mono ?_; rintro e wk ⟨rfl, hwk⟩; have := hwk.symm; subst this)
    go_ret
    exact ⟨by rw [u_ HF]; rfl, rfl⟩
theorem qunder_c (w : World) (s l : ByteArray) (hs : s.size ≤ 1000000) (hl : l.size ≤ 1000000) : Calls Tryz.prog 79 #[.string s, .string l] w fun e w' => e = .returned (.bool (underP (bs s) (bs l))) ∧ ∃ q, w' = w.drewN q := by
 have Hm := h_ (qmachine_c w s hs)
 obtain ⟨M, hM⟩ := exq (machP (bs s))
 rw [hM] at Hm
 obtain ⟨E, hE⟩ := exq (decide (bs l = []))
 have he : (l.toList == ([] : Bs)) = E := by rw [nil_str]; exact hE
 obtain ⟨R, hR⟩ := exq (underP (bs s) (bs l))
 have HR : Hid (R = if M = false ∨ bs l = [] then M else if (bs l).getD 0 0 = 46 then endsP (bs s) (bs l) else alikeP (bs s) (bs l)) := by show _ = _; rw [← hR]; unfold underP; rw [hM]
 rw [hR]
 have He := h_ hE
 have Hends := h_ (qends_c w s l hs hl)
 have Hal := h_ (qalike_c w s l hs hl)
 have HX : Hid (E = false → ∃ p : Nat, ((bs l).getD 0 0).toNat = p ∧ ∀ W, (Instr.index 9 (.string l) (.int .i64 0)).run Tryz.prog W = .ok (.int .u8 (p : Int)) W) := fun h => by
  rw [h] at hE
  have h1 := of_decide_eq_false hE
  have h2 : 0 < l.size := by rw [← bs_len]; exact List.length_pos_iff.2 h1
  exact ⟨_, rfl, fun W => index_str l 0 h2 _ rfl W⟩
 clear hM hE hR hs hl
 go_enter Tryz.func79, Tryz.ntmps79
 cases M with
 | false =>
  have HF : Hid (R = false) := by show _ = _; rw [u_ HR, if_pos (Or.inl rfl)]
  go_wp2_with (go_at_call 75; refine Hm.mono ?_; rintro e wk ⟨rfl, hwk⟩; have := hwk.symm; subst this)
  go_ret
  exact ⟨by rw [u_ HF]; rfl, 0, rfl⟩
 | true =>
  cases E with
  | true =>
   have HF : Hid (R = true) := by show _ = _; rw [u_ HR, if_pos (Or.inr (of_decide_eq_true (u_ He)))]
   go_wp2_with (go_at_call 75; refine Hm.mono ?_; rintro e wk ⟨rfl, hwk⟩; have := hwk.symm; subst this)
   go_ret
   exact ⟨by rw [u_ HF]; rfl, 0, rfl⟩
  | false =>
   obtain ⟨p, hp, ix⟩ := u_ HX rfl
   have hne := of_decide_eq_false (u_ He)
   by_cases h46 : p = 46
   ·have HF : Hid (R = endsP (bs s) (bs l)) := by show _ = _; rw [u_ HR, if_neg (by simp [hne]), if_pos (UInt8.toNat_inj.1 (by rw [hp, h46]; rfl))]
    have y1 : ((p : Int) == 46) = true := by simp; omega
    clear hp h46 hne
    go_wp2_with (go_at_call 75; refine Hm.mono ?_; rintro e wk ⟨rfl, hwk⟩; have := hwk.symm; subst this)
    refine Hends.mono ?_
    rintro e w2 ⟨rfl, hw⟩
    have HW := h_ hw
    rw [← u_ HF]
    clear hw
    go_wp2
    go_ret
    exact ⟨rfl, u_ HW⟩
   ·have HF : Hid (R = alikeP (bs s) (bs l)) := by show _ = _; rw [u_ HR, if_neg (by simp [hne]), if_neg (fun e => h46 (by rw [← hp, e]; rfl))]
    have y1 : ((p : Int) == 46) = false := by simp; omega
    clear hp h46 hne
    go_wp2_with (go_at_call 75; refine Hm.mono ?_; rintro e wk ⟨rfl, hwk⟩; have := hwk.symm; subst this)
    refine Hal.mono ?_
    rintro e w2 ⟨rfl, hw⟩
    have HW := h_ hw
    rw [← u_ HF]
    clear hw
    go_wp2
    go_ret
    exact ⟨rfl, u_ HW⟩
end Q
namespace N
open K
theorem asc_take {s : Bs} (h : ascP s = true) (k : Nat) : ascP (s.take k) = true := by
 unfold ascP at *
 rw [List.all_eq_true] at *
 exact fun c hc => h c (List.mem_of_mem_take hc)
theorem asc_drop {s : Bs} (h : ascP s = true) (k : Nat) : ascP (s.drop k) = true := by
 unfold ascP at *
 rw [List.all_eq_true] at *
 exact fun c hc => h c (List.mem_of_mem_drop hc)
theorem cut_asc {s sep : Bs} (h : ascP s = true) : ascP (Lib.cut s sep).1 = true ∧ ascP (Lib.cut s sep).2.1 = true := by
 unfold Lib.cut
 split
 ·exact ⟨asc_take h _, asc_drop h _⟩
 ·exact ⟨h, rfl⟩
theorem cut_len (s sep : Bs) : (Lib.cut s sep).1.length ≤ s.length ∧ (Lib.cut s sep).2.1.length ≤ s.length := by
 unfold Lib.cut
 split
 ·exact ⟨by show (List.take _ _).length ≤ _; rw [List.length_take]; omega, by show (List.drop _ _).length ≤ _; rw [List.length_drop]; omega⟩
 ·exact ⟨Nat.le_refl _, by show 0 ≤ _; omega⟩
theorem indexAny_bound (chars : Bs) : ∀ s : Bs, Lib.indexAny s chars = -1 ∨ (0 ≤ Lib.indexAny s chars ∧ Lib.indexAny s chars < s.length)
 | [] => Or.inl rfl
 | b :: l => by
  have ih := indexAny_bound chars l
  unfold Lib.indexAny
  split
  ·exact Or.inr ⟨by omega, by rw [List.length_cons]; omega⟩
  ·split
   ·exact Or.inl rfl
   ·rename_i h
    rcases ih with e | ⟨h1, h2⟩
    ·rw [e] at h; exact absurd rfl h
    ·exact Or.inr ⟨by omega, by rw [List.length_cons]; omega⟩
theorem slice_front (s : ByteArray) (j : Nat) (hj : j ≤ s.size) (w : World) : (Instr.sliceAt 9 (.string s) none (some (.int .i64 (j : Int))) none).run Tryz.prog w = .ok (.string (st ((bs s).take j))) w := by
 rw [run_sliceAt_string w 9 _ _ _ _ Tryz.underlying9, run_slice_string_h w 9 s Tryz.underlying9 .i64 (j : Int) (by omega) (by omega), Int.toNat_natCast, extract_front]
theorem cut_c (w : World) (hR : Rdy w) (s sep : ByteArray) (hs : s.size ≤ 1000000) : Calls Tryz.prog 94 #[.string s, .string sep] w fun e w' => e = .returned (.tuple #[.string (st (Lib.cut (bs s) (bs sep)).1), .string (st (Lib.cut (bs s) (bs sep)).2.1), .bool (Lib.cut (bs s) (bs sep)).2.2]) ∧ Below w.heap.size w w' := by
 obtain ⟨m, hm⟩ := hR.maxl
 refine (Tryz.strings_Cut s sep m w (by omega) hm).mono ?_
 rintro e w' ⟨rfl, q, rfl⟩
 exact ⟨rfl, (Below.refl w.heap.size w).trans ⟨rfl, rfl, rfl, Nat.le_refl _, fun _ _ => rfl⟩⟩
theorem hostw_c (w : World) (hR : Rdy w) (s l : ByteArray) (hs : s.size ≤ 1000000) (hl : l.size ≤ 1000000) (ha : ascP (bs s) = true) (hal : ascP (bs l) = true) :
  Calls Tryz.prog 97 #[.string s, .string l] w fun e w' => e = .returned (.bool (hostW (bs s) (bs l))) ∧ Below w.heap.size w w' := by
 have H1 := h_ (small_c w hR s (by omega) ha)
 obtain ⟨a, hae⟩ := exq (st (smallB (bs s)))
 obtain ⟨b, hbe⟩ := exq (st (smallB (bs l)))
 have H2 : Hid (∀ wr, Below w.heap.size w wr → Calls Tryz.prog 96 #[.string l] wr fun e w' => e = .returned (.string b) ∧ Below wr.heap.size wr w') := fun wr hb => by
  have := small_c wr (hR.below hb) l (by omega) hal
  rw [hbe] at this
  exact this
 rw [hae] at H1
 have ea : bs a = smallB (bs s) := by rw [← hae, bs_st]
 have eb : bs b = smallB (bs l) := by rw [← hbe, bs_st]
 have sa : a.size ≤ 1000000 := by rw [← bs_len, ea, small_len, bs_len]; exact hs
 obtain ⟨P, hP⟩ := exq (Lib.hasPrefix (bs b) [46])
 obtain ⟨U, hU⟩ := exq (Lib.hasSuffix (bs a) (bs b))
 obtain ⟨E, hE⟩ := exq (decide (bs b = []))
 obtain ⟨Q, hQ⟩ := exq (decide (bs a = bs b))
 have H3 : Hid (∀ wr : World, Calls Tryz.prog 118 #[.string b, .string { data := #[46] }] wr fun e w' => e = .returned (.bool P) ∧ w' = wr) := fun wr => by
  have := Tryz.strings_HasPrefix b { data := #[46] } wr
  rw [show Lib.hasPrefix b.data.toList ({ data := #[46] } : ByteArray).data.toList = P from hP] at this
  exact this
 have H4 : Hid (∀ wr : World, Calls Tryz.prog 98 #[.string a, .string b] wr fun e w' => e = .returned (.bool U) ∧ w' = wr) := fun wr => by
  have := Tryz.strings_HasSuffix a b wr (by omega)
  rw [show Lib.hasSuffix a.data.toList b.data.toList = U from hU] at this
  exact this
 have HT : Hid (hostW (bs s) (bs l) = (E || Q || (P && U))) := by
  show _ = _
  unfold hostW
  rw [← ea, ← eb, hE, hQ, hP, hU]
 have he : (b.toList == ([] : Bs)) = E := by rw [nil_str]; exact hE
 have hq : (a.toList == b.toList) = Q := by rw [eql_str]; exact hQ
 clear hae hbe ea eb hE hQ hP hU ha hal hR hs hl sa
 go_enter Tryz.func97, Tryz.ntmps97
 go_wp2_with fail
 refine H1.mono ?_
 rintro e w2 ⟨rfl, hb⟩
 have HB2 := h_ hb
 clear hb H1
 go_wp2_with fail
 refine (u_ H2 w2 (u_ HB2)).mono ?_
 rintro e w3 ⟨rfl, hb⟩
 have HB3 := h_ (HB2.trans (hb.mono HB2.size))
 clear hb H2 HB2
 cases P <;> cases E <;> cases Q <;>
  (go_wp2_with (first
     | (go_at_call 118; refine (u_ H3 w3).mono ?_; rintro e wk ⟨rfl, hwk⟩; have := hwk.symm; subst this)
     | (go_at_call 98; refine (u_ H4 w3).mono ?_; rintro e wk ⟨rfl, hwk⟩; have := hwk.symm; subst this))
   go_ret
   exact ⟨by rw [u_ HT]; cases U <;> rfl, u_ HB3⟩)
theorem mailw_c (w : World) (hR : Rdy w) (s l : ByteArray) (hs : s.size ≤ 1000000) (hl : l.size ≤ 1000000) (ha : ascP (bs s) = true) (hal : ascP (bs l) = true) :
  Calls Tryz.prog 69 #[.string s, .string l] w fun e w' => e = .returned (.bool (mailW (bs s) (bs l))) ∧ Below w.heap.size w w' := by
 have HR : Hid (∀ wr, Below w.heap.size w wr → Rdy wr) := fun wr hb => hR.below hb
 have e64 : bs ({ data := #[64] } : ByteArray) = [64] := rfl
 have H1 := h_ (cut_c w hR s { data := #[64] } hs)
 have H2 : Hid (∀ wr, Below w.heap.size w wr → _) := fun wr hb => cut_c wr (hR.below hb) l { data := #[64] } hl
 rw [e64] at H1 H2
 obtain ⟨a1, ha1⟩ := exq (st (Lib.cut (bs s) [64]).1)
 obtain ⟨a2, ha2⟩ := exq (st (Lib.cut (bs s) [64]).2.1)
 obtain ⟨a3, ha3⟩ := exq ((Lib.cut (bs s) [64]).2.2)
 obtain ⟨b1, hb1⟩ := exq (st (Lib.cut (bs l) [64]).1)
 obtain ⟨b2, hb2⟩ := exq (st (Lib.cut (bs l) [64]).2.1)
 obtain ⟨b3, hb3⟩ := exq ((Lib.cut (bs l) [64]).2.2)
 rw [ha1, ha2, ha3] at H1
 rw [hb1, hb2, hb3] at H2
 have ea1 : (Lib.cut (bs s) [64]).1 = bs a1 := by rw [← ha1, bs_st]
 have ea2 : (Lib.cut (bs s) [64]).2.1 = bs a2 := by rw [← ha2, bs_st]
 have eb1 : (Lib.cut (bs l) [64]).1 = bs b1 := by rw [← hb1, bs_st]
 have eb2 : (Lib.cut (bs l) [64]).2.1 = bs b2 := by rw [← hb2, bs_st]
 have za2 : a2.size ≤ 1000000 := by rw [← bs_len, ← ea2]; have := (cut_len (bs s) [64]).2; rw [bs_len] at this; omega
 have zb2 : b2.size ≤ 1000000 := by rw [← bs_len, ← eb2]; have := (cut_len (bs l) [64]).2; rw [bs_len] at this; omega
 have aa2 : ascP (bs a2) = true := by rw [← ea2]; exact (cut_asc ha).2
 have ab2 : ascP (bs b2) = true := by rw [← eb2]; exact (cut_asc hal).2
 obtain ⟨E, hE⟩ := exq (decide (bs a1 = []))
 obtain ⟨M, hM⟩ := exq (machP (bs a2))
 obtain ⟨Q, hQ⟩ := exq (decide (bs a1 = bs b1))
 obtain ⟨c1, hc1⟩ := exq (st (smallB (bs a2)))
 obtain ⟨c2, hc2⟩ := exq (st (smallB (bs b2)))
 obtain ⟨L, hL⟩ := exq (alikeP (bs a2) (bs b2))
 obtain ⟨O, hO⟩ := exq (hostW (bs a2) (bs l))
 have HT : Hid (mailW (bs s) (bs l) = (!E && M && (if b3 = true then Q && L else O))) := by
  show _ = _
  unfold mailW
  rw [ea1, ea2, eb1, eb2, hb3, hM, hQ, hL, hO]
  by_cases h1 : bs a1 = []
  ·rw [if_pos (Or.inl h1)]
   rw [decide_eq_true h1] at hE
   rw [← hE]
   rfl
  ·rw [decide_eq_false h1] at hE
   rw [← hE]
   cases M with
   | false => rw [if_pos (Or.inr rfl)]; rfl
   | true => rw [if_neg (by simp [h1])]; cases b3 <;> rfl
 have he : (a1.toList == ([] : Bs)) = E := by rw [nil_str]; exact hE
 have hq : (a1.toList == b1.toList) = Q := by rw [eql_str]; exact hQ
 have hcl : (c1.toList == c2.toList) = L := by rw [eql_str, ← hc1, ← hc2, bs_st, bs_st]; exact hL
 have H3 : Hid (∀ wr, Below w.heap.size w wr → Calls Tryz.prog 95 #[.string a2] wr fun e w' => e = .returned (.bool M) ∧ Below wr.heap.size wr w') := fun wr hb => by
  have := ismach_c wr (hR.below hb) a2 (by omega)
  rw [hM] at this
  exact this
 have H4 : Hid (∀ wr, Below w.heap.size w wr → Calls Tryz.prog 96 #[.string a2] wr fun e w' => e = .returned (.string c1) ∧ Below wr.heap.size wr w') := fun wr hb => by
  have := small_c wr (hR.below hb) a2 (by omega) aa2
  rw [hc1] at this
  exact this
 have H5 : Hid (∀ wr, Below w.heap.size w wr → Calls Tryz.prog 96 #[.string b2] wr fun e w' => e = .returned (.string c2) ∧ Below wr.heap.size wr w') := fun wr hb => by
  have := small_c wr (hR.below hb) b2 (by omega) ab2
  rw [hc2] at this
  exact this
 have H6 : Hid (∀ wr, Below w.heap.size w wr → Calls Tryz.prog 97 #[.string a2, .string l] wr fun e w' => e = .returned (.bool O) ∧ Below wr.heap.size wr w') := fun wr hb => by
  have := hostw_c wr (hR.below hb) a2 l za2 hl aa2 hal
  rw [hO] at this
  exact this
 clear ha1 ha2 ha3 hb1 hb2 hb3 ea1 ea2 eb1 eb2 hE hM hQ hc1 hc2 hL hO aa2 ab2 za2 zb2 ha hal hR HR e64 hs hl
 go_enter Tryz.func69, Tryz.ntmps69
 go_wp2_with fail
 refine H1.mono ?_
 rintro e w2 ⟨rfl, hb⟩
 have HB2 := h_ hb
 clear hb H1
 cases E with
 | true =>
  go_wp2
  go_ret
  exact ⟨by rw [u_ HT]; rfl, u_ HB2⟩
 | false =>
 go_wp2_with fail
 refine (u_ H3 w2 (u_ HB2)).mono ?_
 rintro e w3 ⟨rfl, hb⟩
 have HB3 := h_ (HB2.trans (hb.mono HB2.size))
 clear hb H3 HB2
 cases M with
 | false =>
  go_wp2
  go_ret
  exact ⟨by rw [u_ HT]; rfl, u_ HB3⟩
 | true =>
 go_wp2_with fail
 refine (u_ H2 w3 (u_ HB3)).mono ?_
 rintro e w4 ⟨rfl, hb⟩
 have HB4 := h_ (HB3.trans (hb.mono HB3.size))
 clear hb H2 HB3
 cases b3 with
 | false =>
  go_wp2_with fail
  refine (u_ H6 w4 (u_ HB4)).mono ?_
  rintro e w5 ⟨rfl, hb⟩
  have HB5 := h_ (HB4.trans (hb.mono HB4.size))
  clear hb
  go_wp2
  go_ret
  exact ⟨by rw [u_ HT]; cases O <;> rfl, u_ HB5⟩
 | true =>
  cases Q with
  | false =>
   go_wp2
   go_ret
   exact ⟨by rw [u_ HT]; rfl, u_ HB4⟩
  | true =>
   go_wp2_with fail
   refine (u_ H4 w4 (u_ HB4)).mono ?_
   rintro e w5 ⟨rfl, hb⟩
   have HB5 := h_ (HB4.trans (hb.mono HB4.size))
   clear hb
   go_wp2_with fail
   refine (u_ H5 w5 (u_ HB5)).mono ?_
   rintro e w6 ⟨rfl, hb⟩
   have HB6 := h_ (HB5.trans (hb.mono HB5.size))
   clear hb
   go_wp2
   go_ret
   exact ⟨by rw [u_ HT]; cases L <;> rfl, u_ HB6⟩
theorem uriw_c (w : World) (hR : Rdy w) (s l : ByteArray) (hs : s.size ≤ 1000000) (hl : l.size ≤ 1000000) (ha : ascP (bs s) = true) (hal : ascP (bs l) = true) :
  Calls Tryz.prog 72 #[.string s, .string l] w fun e w' => e = .returned (.bool (uriW (bs s) (bs l))) ∧ Below w.heap.size w w' := by
 have eS : bs ({ data := #[58, 47, 47] } : ByteArray) = [58, 47, 47] := rfl
 have eC : bs ({ data := #[47, 58, 63, 35] } : ByteArray) = [47, 58, 63, 35] := rfl
 have H1 := h_ (cut_c w hR s { data := #[58, 47, 47] } hs)
 rw [eS] at H1
 obtain ⟨a1, ha1⟩ := exq (st (Lib.cut (bs s) [58, 47, 47]).1)
 obtain ⟨a2, ha2⟩ := exq (st (Lib.cut (bs s) [58, 47, 47]).2.1)
 obtain ⟨a3, ha3⟩ := exq ((Lib.cut (bs s) [58, 47, 47]).2.2)
 rw [ha1, ha2, ha3] at H1
 have ea2 : (Lib.cut (bs s) [58, 47, 47]).2.1 = bs a2 := by rw [← ha2, bs_st]
 have za2 : a2.size ≤ 1000000 := by rw [← bs_len, ← ea2]; have := (cut_len (bs s) [58, 47, 47]).2; rw [bs_len] at this; omega
 have aa2 : ascP (bs a2) = true := by rw [← ea2]; exact (cut_asc ha).2
 obtain ⟨J, hJ⟩ := exq (Lib.indexAny (bs a2) [47, 58, 63, 35])
 have hasc : ∀ (j : Nat) b, a2.data.toList[j]? = some b → b.toNat < 128 := fun j b hb => asc_at aa2 b (List.mem_of_getElem? hb)
 have H2 : Hid (∀ wr : World, Calls Tryz.prog 99 #[.string a2, .string { data := #[47, 58, 63, 35] }] wr fun e w' => e = .returned (.int .i64 J) ∧ Below wr.heap.size wr w') := fun wr => by
  have := Tryz.strings_IndexAny_laid a2 { data := #[47, 58, 63, 35] } wr (by omega) (by decide) hasc (fun j b hb => by
   have hm : b ∈ ([47, 58, 63, 35] : Bs) := List.mem_of_getElem? hb
   simp only [List.mem_cons, List.not_mem_nil, or_false] at hm
   rcases hm with rfl | rfl | rfl | rfl <;> decide)
  rw [show Lib.indexAny a2.data.toList ({ data := #[47, 58, 63, 35] } : ByteArray).data.toList = J from hJ] at this
  exact this
 obtain ⟨h, hh⟩ := exq (st (uriH (bs s)))
 have eh : bs h = uriH (bs s) := by rw [← hh, bs_st]
 have ah : ascP (bs h) = true := by
  rw [eh]
  unfold uriH
  rw [ea2]
  split
  ·exact asc_take aa2 _
  ·exact aa2
 have zh : h.size ≤ 1000000 := by
  rw [← bs_len, eh]
  unfold uriH
  rw [ea2]
  split
  ·rw [List.length_take, bs_len]; omega
  ·rw [bs_len]; exact za2
 have HU : Hid (if 0 ≤ J then h = st ((bs a2).take J.toNat) else h = a2) := by
  show if 0 ≤ J then _ else _
  rw [← hh]
  unfold uriH
  rw [ea2, hJ]
  split
  ·rfl
  ·exact st_bs a2
 have hJl : J ≤ a2.size := by
  rw [← hJ]
  rcases indexAny_bound [47, 58, 63, 35] (bs a2) with hb | hb
  ·rw [hb]; omega
  ·rw [bs_len] at hb; omega
 obtain ⟨M, hM⟩ := exq (machP (bs h))
 obtain ⟨O, hO⟩ := exq (hostW (bs h) (bs l))
 have HT : Hid (uriW (bs s) (bs l) = (M && O)) := by show _ = _; unfold uriW; rw [← eh, hM, hO]
 have H3 : Hid (∀ wr, Below w.heap.size w wr → Calls Tryz.prog 95 #[.string h] wr fun e w' => e = .returned (.bool M) ∧ Below wr.heap.size wr w') := fun wr hb => by
  have := ismach_c wr (hR.below hb) h (by omega)
  rw [hM] at this
  exact this
 have H6 : Hid (∀ wr, Below w.heap.size w wr → Calls Tryz.prog 97 #[.string h, .string l] wr fun e w' => e = .returned (.bool O) ∧ Below wr.heap.size wr w') := fun wr hb => by
  have := hostw_c wr (hR.below hb) h l zh hl ah hal
  rw [hO] at this
  exact this
 clear ha1 ha2 ha3 ea2 aa2 hJ hasc hh eh ah zh hM hO ha hal hR eS eC hs hl
 go_enter Tryz.func72, Tryz.ntmps72
 go_wp2_with fail
 refine H1.mono ?_
 rintro e w2 ⟨rfl, hb⟩
 have HB2 := h_ hb
 clear hb H1
 go_wp2_with fail
 refine (u_ H2 w2).mono ?_
 rintro e w3 ⟨rfl, hb⟩
 have HB3 := h_ (HB2.trans (hb.mono HB2.size))
 clear hb H2 HB2
 have hU := u_ HU
 by_cases hJ0 : 0 ≤ J
 ·rw [if_pos hJ0] at hU
  obtain ⟨j, rfl⟩ : ∃ j : Nat, J = (j : Int) := ⟨J.toNat, by omega⟩
  rw [Int.toNat_natCast] at hU
  have y1 : decide ((0 : Int) ≤ (j : Int)) = true := by simp
  have hjl : j ≤ a2.size := by omega
  have hsl : ∀ W, (Instr.sliceAt 9 (.string a2) none (some (.int .i64 (j : Int))) none).run Tryz.prog W = .ok (.string h) W := fun W => by rw [hU]; exact slice_front a2 j hjl W
  clear hU HU
  go_wp2_with fail
  refine (u_ H3 w3 (u_ HB3)).mono ?_
  rintro e w4 ⟨rfl, hb⟩
  have HB4 := h_ (HB3.trans (hb.mono HB3.size))
  clear hb H3 HB3
  cases M with
  | false =>
   go_wp2
   go_ret
   exact ⟨by rw [u_ HT]; rfl, u_ HB4⟩
  | true =>
   go_wp2_with fail
   refine (u_ H6 w4 (u_ HB4)).mono ?_
   rintro e w5 ⟨rfl, hb⟩
   have HB5 := h_ (HB4.trans (hb.mono HB4.size))
   clear hb
   go_wp2
   go_ret
   exact ⟨by rw [u_ HT]; cases O <;> rfl, u_ HB5⟩
 ·rw [if_neg hJ0] at hU
  subst hU
  have y1 : decide ((0 : Int) ≤ J) = false := by simp; omega
  clear HU
  go_wp2_with fail
  refine (u_ H3 w3 (u_ HB3)).mono ?_
  rintro e w4 ⟨rfl, hb⟩
  have HB4 := h_ (HB3.trans (hb.mono HB3.size))
  clear hb H3 HB3
  cases M with
  | false =>
   go_wp2
   go_ret
   exact ⟨by rw [u_ HT]; rfl, u_ HB4⟩
  | true =>
   go_wp2_with fail
   refine (u_ H6 w4 (u_ HB4)).mono ?_
   rintro e w5 ⟨rfl, hb⟩
   have HB5 := h_ (HB4.trans (hb.mono HB4.size))
   clear hb
   go_wp2
   go_ret
   exact ⟨by rw [u_ HT]; cases O <;> rfl, u_ HB5⟩
end N
end Go.Proofs.YtcofnockikninaaGreatDoor
