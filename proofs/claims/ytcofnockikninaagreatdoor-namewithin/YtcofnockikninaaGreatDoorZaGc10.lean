/- Parts of the walk. -/
import Derived.Test.YtcofnockikninaaGreatDoorZaWa10
import Derived.Test.YtcofnockikninaaGreatDoorZaWi10
set_option maxRecDepth 100000
set_option maxHeartbeats 16000000
namespace Go.Proofs.YtcofnockikninaaGreatDoor
open Go.RowKit
namespace N
open K
theorem set_all : ∀ n : Fin 256, ([47, 58, 63, 35] : Bs).contains (UInt8.ofNat n.val) = (decide (n.val = 47) || decide (n.val = 58) || decide (n.val = 63) || decide (n.val = 35)) := by decide +kernel
theorem set_eq (c : UInt8) : ([47, 58, 63, 35] : Bs).contains c = (decide (c.toNat = 47) || decide (c.toNat = 58) || decide (c.toNat = 63) || decide (c.toNat = 35)) := by
 have h := set_all ⟨c.toNat, c.toNat_lt⟩
 simp only [UInt8.ofNat_toNat] at h
 exact h
theorem any_take {s : Bs} {k : Nat} (h : Lib.NoAny s [47, 58, 63, 35] k) (hk : k < s.length) (hc : ([47, 58, 63, 35] : Bs).contains (s.getD k 0) = true) : Lib.indexAny s [47, 58, 63, 35] = (k : Int) := by
 refine Lib.indexAny_hit h (x := s.getD k 0) ?_ hc
 rw [List.getD_eq_getElem?_getD, List.getElem?_eq_getElem hk]
 rfl
theorem uri_yes {s : Bs} {i e : Nat} (hx : Lib.index s [58, 47, 47] = (i : Int)) (h : Lib.NoAny (s.drop (i + 3)) [47, 58, 63, 35] e) (he : e ≤ (s.drop (i + 3)).length) (hc : e < (s.drop (i + 3)).length → ([47, 58, 63, 35] : Bs).contains ((s.drop (i + 3)).getD e 0) = true) : uriH s = (s.drop (i + 3)).take e := by
 have hcut : (Lib.cut s [58, 47, 47]).2.1 = s.drop (i + 3) := by unfold Lib.cut; rw [hx, if_pos (by omega), Int.toNat_natCast]; rfl
 unfold uriH
 rw [hcut]
 by_cases hl : e < (s.drop (i + 3)).length
 ·rw [any_take h hl (hc hl), if_pos (by omega), Int.toNat_natCast]
 ·have e1 : e = (s.drop (i + 3)).length := by omega
  rw [Lib.indexAny_none (by rw [← e1]; exact h), if_neg (by omega), e1, List.take_length]
theorem uri_no {s : Bs} (hx : Lib.index s [58, 47, 47] = -1) : uriH s = [] := by
 have hcut : (Lib.cut s [58, 47, 47]).2.1 = [] := by unfold Lib.cut; rw [hx, if_neg (by omega)]
 unfold uriH
 rw [hcut]
 rfl
theorem uri_eq (s l : Bs) : uriW s l = (decide (0 ≤ Lib.index s [58, 47, 47]) && underP (uriH s) l) := by
 unfold uriW
 cases hm : machP (uriH s) with
 | false => unfold underP; rw [if_pos (Or.inl hm), hm]; simp
 | true =>
  rw [host_under hm, Bool.true_and]
  rcases Lib.index_spec s [58, 47, 47] with ⟨h, _⟩ | ⟨i, h, _⟩
  ·rw [uri_no h, mach_nil] at hm; cases hm
  ·rw [h, decide_eq_true (by omega), Bool.true_and]
def mailR (s l : Bs) : Bool :=
 if Lib.index s [64] < 1 ∨ machP (s.drop ((Lib.index s [64]).toNat + 1)) = false then false
 else if 0 ≤ Lib.index l [64] then decide (l.take (Lib.index l [64]).toNat = s.take (Lib.index s [64]).toNat) && alikeP (l.drop ((Lib.index l [64]).toNat + 1)) (s.drop ((Lib.index s [64]).toNat + 1)) else underP (s.drop ((Lib.index s [64]).toNat + 1)) l
theorem alike_comm (a b : Bs) : alikeP a b = alikeP b a := by unfold alikeP; rw [decide_eq_decide]; exact ⟨fun e => e.symm, fun e => e.symm⟩
theorem mail_eq (s l : Bs) : mailW s l = mailR s l := by
 unfold mailW mailR
 rcases Lib.index_spec s [64] with ⟨h, _⟩ | ⟨i, h, h2, _⟩
 ·have hL : machP (Lib.cut s [64]).2.1 = false := by unfold Lib.cut; rw [h, if_neg (by omega)]; exact mach_nil
  rw [if_pos (Or.inr hL), if_pos (Or.inl (by omega))]
 ·have hc1 : (Lib.cut s [64]).1 = s.take i := by unfold Lib.cut; rw [h, if_pos (by omega), Int.toNat_natCast]
  have hc2 : (Lib.cut s [64]).2.1 = s.drop (i + 1) := by unfold Lib.cut; rw [h, if_pos (by omega), Int.toNat_natCast]; rfl
  have hroom := Lib.index_room s [64] (by omega)
  rw [h] at hroom
  simp only [List.length_singleton] at hroom
  rw [hc1, hc2, h, Int.toNat_natCast]
  by_cases h0 : i = 0
  ·subst h0
   rw [if_pos (Or.inl (show List.take 0 s = [] from rfl)), if_pos (Or.inl (by omega))]
  ·have hne : ¬ s.take i = [] := fun e => by have := congrArg List.length e; rw [List.length_take, List.length_nil] at this; omega
   cases hm : machP (s.drop (i + 1)) with
   | false => rw [if_pos (Or.inr rfl), if_pos (Or.inr rfl)]
   | true =>
    have hn1 : ¬ ((i : Int) < 1 ∨ true = false) := fun h => h.elim (fun h => by omega) (fun h => by cases h)
    have hn2 : ¬ (s.take i = [] ∨ true = false) := fun h => h.elim hne (fun h => by cases h)
    rw [if_neg hn2, if_neg hn1]
    rcases Lib.index_spec l [64] with ⟨k, _⟩ | ⟨j, k, _⟩
    ·have hl3 : (Lib.cut l [64]).2.2 = false := by unfold Lib.cut; rw [k, if_neg (by omega)]
     rw [hl3, if_neg (by simp), if_neg (by omega), host_under hm]
    ·have hl3 : (Lib.cut l [64]).2.2 = true := by unfold Lib.cut; rw [k, if_pos (by omega)]
     have hl1 : (Lib.cut l [64]).1 = l.take j := by unfold Lib.cut; rw [k, if_pos (by omega), Int.toNat_natCast]
     have hl2 : (Lib.cut l [64]).2.1 = l.drop (j + 1) := by unfold Lib.cut; rw [k, if_pos (by omega), Int.toNat_natCast]; rfl
     rw [hl3, if_pos rfl, if_pos (by omega), hl1, hl2, k, Int.toNat_natCast, alike_comm, decide_eq_decide.2 ⟨fun e => e.symm, fun e => e.symm⟩]
theorem occ_three {s : Bs} {i : Nat} (_hi : i + 3 ≤ s.length) : Lib.occAt s [58, 47, 47] i = decide ((s.take (i + 3)).drop i = [58, 47, 47]) := by
 unfold Lib.occAt
 rw [Bool.eq_iff_iff, decide_eq_true_eq, List.isPrefixOf_iff_prefix, List.prefix_iff_eq_take, List.drop_take]
 simp only [List.length_cons, List.length_nil, Nat.zero_add, Nat.reduceAdd]
 rw [show i + 3 - i = 3 by omega]
 exact ⟨fun e => e.symm, fun e => e.symm⟩
theorem occ_short {s : Bs} {i : Nat} (hi : s.length < i + 3) : Lib.occAt s [58, 47, 47] i = false := by
 unfold Lib.occAt
 rw [Bool.eq_false_iff]
 intro h
 have := (List.isPrefixOf_iff_prefix.1 h).length_le
 rw [List.length_drop] at this
 simp at this
 omega
end N
namespace Q
open N K
theorem qhost_c (w : World) (s : ByteArray) (hs : s.size ≤ 1000000) : Calls Tryz.prog 78 #[.string s] w fun e w' => ∃ h : ByteArray, e = .returned (.tuple #[.string h, .bool (decide (0 ≤ Lib.index (bs s) [58, 47, 47]))]) ∧ (0 ≤ Lib.index (bs s) [58, 47, 47] → bs h = uriH (bs s)) ∧ h.size ≤ 1000000 ∧ w' = w := by
 obtain ⟨N, hN⟩ := exq s.size
 obtain ⟨b, hb⟩ := exq (bs s)
 have Hl : Hid (b.length = N) := by show _ = _; rw [← hb, bs_len, hN]
 rw [hb]
 have HX : Hid (∀ k, k < N → ∀ W, (Instr.index 9 (.string s) (.int .i64 (k : Int))).run Tryz.prog W = .ok (.int .u8 ((b.getD k 0).toNat : Int)) W) := fun k hk W => index_str s k (by omega) _ (by rw [hb]) W
 have HSl : Hid (∀ f i, f ≤ i → i ≤ N → ∀ W, (Instr.sliceAt 9 (.string s) (some (.int .i64 (f : Int))) (some (.int .i64 (i : Int))) none).run Tryz.prog W = .ok (.string (st ((b.take i).drop f))) W) := fun f i hf hi W => by rw [← hb]; exact slice_strM s f i hf (by omega) W
 have bN : N ≤ 1000000 := by omega
 clear hb hs
 go_enter Tryz.func78, Tryz.ntmps78
 go_wp2
 go_loopw [4] (fun ii wr => ∃ i : Nat, i ≤ N + 1 ∧ ii = .int .i64 (i : Int) ∧ wr = w ∧ Hid (∀ j, j < i → Lib.occAt b [58, 47, 47] j = false)) (fun ii _ => N + 3 - (intOf ii).toNat)
 case atStart => exact ⟨0, by omega, rfl, rfl, fun j hj => by omega⟩
 case round =>
  obtain ⟨i, hi, rfl, hwr, HE⟩ := hrel
  have := hwr.symm
  subst this
  obtain ⟨k, hk⟩ := exq (i + 3)
  have ek : (i : Int) + 3 = (k : Int) := by omega
  have Hk := h_ hk
  by_cases hle : k ≤ N
  case neg =>
   obtain ⟨f1, f1n⟩ := leVVf k N
   have HF : Hid (Lib.index b [58, 47, 47] = -1) := by
    show _ = _
    rcases Lib.index_spec b [58, 47, 47] with ⟨h, _⟩ | ⟨j, _, _, h3, _⟩
    ·exact h
    ·by_cases hj : j < i
     ·rw [u_ HE j hj] at h3; cases h3
     ·rw [occ_short (by have := u_ Hl; omega)] at h3; cases h3
   clear hk
   go_wp2
   go_ret2
   exact ⟨_, by rw [u_ HF]; rfl, fun h => by rw [u_ HF] at h; omega, by show (0 : Nat) ≤ _; omega, rfl⟩
  obtain ⟨f1, f1n⟩ := leVV k N
  have sl1 := u_ HSl i k (by omega) hle
  obtain ⟨x, hx⟩ := exq (st ((b.take k).drop i))
  rw [hx] at sl1
  obtain ⟨O, hO⟩ := exq (Lib.occAt b [58, 47, 47] i)
  have q1 : (x.toList == ([58, 47, 47] : Bs)) = O := by
   rw [← hO, occ_three (by have := u_ Hl; omega), toList_bs, ← hx, bs_st, hk]
   by_cases h : (b.take k).drop i = [58, 47, 47]
   ·rw [h, decide_eq_true rfl]; rfl
   ·rw [decide_eq_false h]; exact beq_eq_false_iff_ne.2 h
  have q2 : (x.toList != ([58, 47, 47] : Bs)) = !O := by rw [← q1]; rfl
  have HO := h_ hO
  clear hx hO hk
  cases O with
  | false =>
   have HE2 : Hid (∀ j, j < i + 1 → Lib.occAt b [58, 47, 47] j = false) := fun j hj => by
    rcases Nat.lt_succ_iff_lt_or_eq.1 hj with hj | rfl
    ·exact u_ HE j hj
    ·exact u_ HO
   go_wp2
   go_roundw
   case rel =>
    first
     | exact ⟨i + 1, by have := u_ Hk; omega, by go_num, rfl, HE2⟩
     | exact ⟨i + 1, by have := u_ Hk; omega, by go_num, trivial, HE2⟩
     | ((repeat apply Exists.intro); exact ⟨⟨i + 1, by have := u_ Hk; omega, by go_num, rfl, HE2⟩, rfl⟩)
   case measure => simp [intOf]; omega
  | true =>
   have HF : Hid (Lib.index b [58, 47, 47] = (i : Int)) := Lib.index_first (by have := u_ Hl; have := u_ Hk; omega) (u_ HO) (u_ HE)
   go_wp2
   clear q1 q2 sl1
   go_loopw [5] (fun ee wr => ∃ e : Nat, k ≤ e ∧ e ≤ N ∧ ee = .int .i64 (e : Int) ∧ wr = w ∧ Hid (Lib.NoAny (b.drop k) [47, 58, 63, 35] (e - k))) (fun ee _ => N - (intOf ee).toNat)
   case atStart => exact ⟨k, Nat.le_refl _, hle, rfl, rfl, by show Lib.NoAny _ _ _; rw [Nat.sub_self]; exact fun j x hj => by omega⟩
   case round =>
    rename World => wo
    obtain ⟨e, hke, heN, rfl, hwr2, HA⟩ := hrel
    have := hwr2.symm
    subst this
    have sl2 := u_ HSl k e hke heN
    obtain ⟨h, hh⟩ := exq (st ((b.take e).drop k))
    rw [hh] at sl2
    have Hhs : Hid (h.size ≤ 1000000) := by show _ ≤ _; rw [← hh, st_size, List.length_drop, List.length_take]; have := u_ Hl; omega
    have Hhb : Hid (bs h = (b.drop k).take (e - k)) := by show _ = _; rw [← hh, bs_st, List.drop_take]
    have Hdl : Hid ((b.drop k).length = N - k) := by show _ = _; rw [List.length_drop, u_ Hl]
    clear hh
    by_cases hlt : e < N
    case neg =>
     obtain ⟨g1, g1n⟩ := ltVVf e N
     have HU : Hid (bs h = uriH b) := by
      show _ = _
      rw [u_ Hhb, uri_yes (u_ HF) (by rw [u_ Hk]; exact u_ HA) (by rw [u_ Hk, u_ Hdl]; omega) (fun hl => by rw [u_ Hk, u_ Hdl] at hl; omega), u_ Hk]
     go_wp2
     go_ret2
     exact ⟨_, by rw [u_ HF, decide_eq_true (by omega)]; rfl, fun _ => u_ HU, u_ Hhs, rfl⟩
    obtain ⟨g1, g1n⟩ := ltVV e N
    have ix := u_ HX e hlt
    obtain ⟨c, hc⟩ := exq ((b.getD e 0).toNat)
    rw [hc] at ix
    have Hgd : Hid ((b.drop k).getD (e - k) 0 = b.getD e 0) := by show _ = _; rw [List.getD_eq_getElem?_getD, List.getElem?_drop, ← List.getD_eq_getElem?_getD, show k + (e - k) = e by omega]
    have Hcc : Hid (([47, 58, 63, 35] : Bs).contains (b.getD e 0) = (decide (c = 47) || decide (c = 58) || decide (c = 63) || decide (c = 35))) := by
     show _ = _
     rw [set_eq, hc]
    clear hc
    by_cases hset : c = 47 ∨ c = 58 ∨ c = 63 ∨ c = 35
    ·have HU : Hid (bs h = uriH b) := by
      show _ = _
      rw [u_ Hhb, uri_yes (u_ HF) (by rw [u_ Hk]; exact u_ HA) (by rw [u_ Hk, u_ Hdl]; omega) (fun _ => by rw [u_ Hk, u_ Hgd, u_ Hcc]; simp only [Bool.or_eq_true, decide_eq_true_eq]; omega), u_ Hk]
     rcases hset with rfl | rfl | rfl | rfl
     all_goals
      go_wp2
      go_ret2
      exact ⟨_, by rw [u_ HF, decide_eq_true (by omega)]; rfl, fun _ => u_ HU, u_ Hhs, rfl⟩
    ·have n1 : ((c : Int) != 47) = true := by simp; omega
     have n2 : ((c : Int) != 58) = true := by simp; omega
     have n3 : ((c : Int) != 63) = true := by simp; omega
     have n4 : ((c : Int) != 35) = true := by simp; omega
     have m1 : ((c : Int) == 47) = false := by simp; omega
     have m2 : ((c : Int) == 58) = false := by simp; omega
     have m3 : ((c : Int) == 63) = false := by simp; omega
     have m4 : ((c : Int) == 35) = false := by simp; omega
     have HA2 : Hid (Lib.NoAny (b.drop k) [47, 58, 63, 35] (e + 1 - k)) := fun j x hj hx => by
      by_cases hje : j < e - k
      ·exact u_ HA j x hje hx
      ·have ej : j = e - k := by omega
       have h1 := u_ Hgd
       rw [List.getD_eq_getElem?_getD, ← ej, hx, Option.getD_some] at h1
       rw [h1, u_ Hcc]
       simp only [Bool.or_eq_false_iff, decide_eq_false_iff_not]
       omega
     clear hset
     go_wp2
     go_roundw
     case rel =>
      first
       | exact ⟨e + 1, by omega, by omega, by go_num, rfl, HA2⟩
       | exact ⟨e + 1, by omega, by omega, by go_num, trivial, HA2⟩
       | ((repeat apply Exists.intro); exact ⟨⟨e + 1, by omega, by omega, by go_num, rfl, HA2⟩, rfl⟩)
     case measure => simp [intOf]; omega
end Q
namespace Q
open N K
theorem qmail_c (w : World) (s l : ByteArray) (hs : s.size ≤ 1000000) (hl : l.size ≤ 1000000) : Calls Tryz.prog 74 #[.string s, .string l] w fun e w' => e = .returned (.bool (mailR (bs s) (bs l))) ∧ ∃ q, w' = w.drewN q := by
 have H1 := h_ (qat_c w s hs 64 64 rfl)
 have H2 := h_ (qat_c w l hl 64 64 rfl)
 by_cases h0 : Lib.index (bs s) [64] < 1
 ·have HF : Hid (mailR (bs s) (bs l) = false) := by show _ = _; unfold mailR; rw [if_pos (Or.inl h0)]
  obtain ⟨x, hx⟩ := exq (Lib.index (bs s) [64])
  rw [hx] at H1 h0
  have f1 : decide (x < 1) = true := by simp; omega
  clear hx H2
  go_enter Tryz.func74, Tryz.ntmps74
  go_wp2_with (go_at_call 100; refine H1.mono ?_; rintro e wk ⟨rfl, hwk⟩; have := hwk.symm; subst this)
  go_ret
  exact ⟨by rw [u_ HF]; rfl, 0, rfl⟩
 obtain ⟨i, hi⟩ : ∃ i : Nat, Lib.index (bs s) [64] = (i : Int) := ⟨(Lib.index (bs s) [64]).toNat, by omega⟩
 have hroom := Lib.index_room (bs s) [64] (by omega)
 rw [hi] at hroom
 simp only [List.length_singleton, bs_len] at hroom
 rw [hi] at H1 h0
 obtain ⟨f1, f1n⟩ := ltVLf i 1 1
 obtain ⟨j, hj⟩ := exq (i + 1)
 have ej : (i : Int) + 1 = (j : Int) := by omega
 obtain ⟨x, hx⟩ := exq (st ((bs s).drop j))
 have hjs : j ≤ s.size := by omega
 have hsl : ∀ W, (Instr.sliceAt 9 (.string s) (some (.int .i64 (j : Int))) none none).run Tryz.prog W = .ok (.string x) W := fun W => by rw [← hx]; exact slice_str s j hjs W
 have ex : bs x = (bs s).drop j := by rw [← hx, bs_st]
 have zx : x.size ≤ 1000000 := by rw [← bs_len, ex, List.length_drop, bs_len]; omega
 have H3 := h_ (qmachine_c w x zx)
 obtain ⟨M, hM⟩ := exq (machP (bs x))
 rw [hM] at H3
 have HT : Hid (mailR (bs s) (bs l) = if M = false then false else if 0 ≤ Lib.index (bs l) [64] then decide ((bs l).take (Lib.index (bs l) [64]).toNat = (bs s).take i) && alikeP ((bs l).drop ((Lib.index (bs l) [64]).toNat + 1)) (bs x) else underP (bs x) (bs l)) := by
  show _ = _
  unfold mailR
  rw [hi, Int.toNat_natCast, hj, ← ex, hM]
  cases M with
  | false => rw [if_pos (Or.inr rfl), if_pos rfl]
  | true =>
   have hn1 : ¬ ((i : Int) < 1 ∨ true = false) := fun h => h.elim (fun h => by omega) (fun h => by cases h)
   have hn2 : ¬ (true = false) := fun h => by cases h
   rw [if_neg hn1, if_neg hn2]
 obtain ⟨R, hR⟩ := exq (mailR (bs s) (bs l))
 rw [hR] at HT
 rw [hR]
 have bi : i ≤ 1000000 := by omega
 have his : i ≤ s.size := by omega
 have hsi : ∀ W, (Instr.sliceAt 9 (.string s) none (some (.int .i64 (i : Int))) none).run Tryz.prog W = .ok (.string (st ((bs s).take i))) W := fun W => N.slice_front s i his W
 clear hx hM hR hi hroom hj hjs his
 cases M with
 | false =>
  have HF : Hid (R = false) := by show _ = _; rw [u_ HT]; rfl
  clear HT H2
  go_enter Tryz.func74, Tryz.ntmps74
  go_wp2_with (first | (go_at_call 100; refine H1.mono ?_; rintro e wk ⟨rfl, hwk⟩; have := hwk.symm; subst this) | (go_at_call 75; refine H3.mono ?_; rintro e wk ⟨rfl, hwk⟩; have := hwk.symm; subst this))
  go_ret
  exact ⟨by rw [u_ HF]; rfl, 0, rfl⟩
 | true =>
 rw [if_neg (by simp)] at HT
 by_cases h1 : Lib.index (bs l) [64] < 0
 ·have HF : Hid (R = underP (bs x) (bs l)) := by show _ = _; rw [u_ HT, if_neg (by omega)]
  have H4 := h_ (qunder_c w x l zx hl)
  rw [← u_ HF] at H4
  obtain ⟨y, hy⟩ := exq (Lib.index (bs l) [64])
  rw [hy] at H2 h1
  have f2 : decide (0 ≤ y) = false := by simp; omega
  clear hy HT HF ex zx hsi
  go_enter Tryz.func74, Tryz.ntmps74
  go_wp2_with (first | (go_at_call_of 100 (Value.string s); refine H1.mono ?_; rintro e wk ⟨rfl, hwk⟩; have := hwk.symm; subst this) | (go_at_call_of 100 (Value.string l); refine H2.mono ?_; rintro e wk ⟨rfl, hwk⟩; have := hwk.symm; subst this) | (go_at_call 75; refine H3.mono ?_; rintro e wk ⟨rfl, hwk⟩; have := hwk.symm; subst this))
  refine H4.mono ?_
  rintro e w2 ⟨rfl, hw⟩
  have HW := h_ hw
  clear hw
  go_wp2
  go_ret
  exact ⟨rfl, u_ HW⟩
 obtain ⟨k, hk⟩ : ∃ k : Nat, Lib.index (bs l) [64] = (k : Int) := ⟨(Lib.index (bs l) [64]).toNat, by omega⟩
 have hroom := Lib.index_room (bs l) [64] (by omega)
 rw [hk] at hroom
 simp only [List.length_singleton, bs_len] at hroom
 rw [hk] at H2
 have f2 : decide ((0 : Int) ≤ (k : Int)) = true := by simp
 obtain ⟨m, hm⟩ := exq (k + 1)
 have em : (k : Int) + 1 = (m : Int) := by omega
 obtain ⟨y, hy⟩ := exq (st ((bs l).drop m))
 have hml : m ≤ l.size := by omega
 have hkl : k ≤ l.size := by omega
 have hsm : ∀ W, (Instr.sliceAt 9 (.string l) (some (.int .i64 (m : Int))) none none).run Tryz.prog W = .ok (.string y) W := fun W => by rw [← hy]; exact slice_str l m hml W
 have ey : bs y = (bs l).drop m := by rw [← hy, bs_st]
 have zy : y.size ≤ 1000000 := by rw [← bs_len, ey, List.length_drop, bs_len]; omega
 have hsk : ∀ W, (Instr.sliceAt 9 (.string l) none (some (.int .i64 (k : Int))) none).run Tryz.prog W = .ok (.string (st ((bs l).take k))) W := fun W => N.slice_front l k hkl W
 obtain ⟨p, hp⟩ := exq (st ((bs s).take i))
 obtain ⟨q, hq⟩ := exq (st ((bs l).take k))
 rw [hp] at hsi
 rw [hq] at hsk
 obtain ⟨E, hE⟩ := exq (decide ((bs l).take k = (bs s).take i))
 have hqp : (q.toList == p.toList) = E := by rw [eql_str, ← hp, ← hq, bs_st, bs_st]; exact hE
 obtain ⟨A, hA⟩ := exq (alikeP (bs y) (bs x))
 have H4 : Hid (∀ n, Calls Tryz.prog 76 #[.string y, .string x] (w.drewN n) fun e w' => e = .returned (.bool A) ∧ ∃ q, w' = (w.drewN n).drewN q) := fun n => by
  have h := qalike_c (w.drewN n) y x zy zx
  rw [hA] at h
  exact h
 have HF : Hid (R = (E && A)) := by show _ = _; rw [u_ HT, hk, if_pos (by omega), Int.toNat_natCast, hE, hm, ← ey, hA]
 have bk : k ≤ 1000000 := by omega
 clear hk hroom hm hy hml hkl ey zy ex zx hp hq hE hA HT h1 h0 hs hl
 cases E with
 | false =>
  go_enter Tryz.func74, Tryz.ntmps74
  go_wp2_with (first | (go_at_call_of 100 (Value.string s); refine H1.mono ?_; rintro e wk ⟨rfl, hwk⟩; have := hwk.symm; subst this) | (go_at_call_of 100 (Value.string l); refine H2.mono ?_; rintro e wk ⟨rfl, hwk⟩; have := hwk.symm; subst this) | (go_at_call 75; refine H3.mono ?_; rintro e wk ⟨rfl, hwk⟩; have := hwk.symm; subst this))
  go_big_quiet (first | (go_at_call 76; refine Calls.quiet_of (u_ H4 _)))
  go_wp2
  go_ret
  exact ⟨by rw [u_ HF]; rfl, _, rfl⟩
 | true =>
  go_enter Tryz.func74, Tryz.ntmps74
  go_wp2_with (first | (go_at_call_of 100 (Value.string s); refine H1.mono ?_; rintro e wk ⟨rfl, hwk⟩; have := hwk.symm; subst this) | (go_at_call_of 100 (Value.string l); refine H2.mono ?_; rintro e wk ⟨rfl, hwk⟩; have := hwk.symm; subst this) | (go_at_call 75; refine H3.mono ?_; rintro e wk ⟨rfl, hwk⟩; have := hwk.symm; subst this))
  go_big_quiet (first | (go_at_call 76; refine Calls.quiet_of (u_ H4 _)))
  go_wp2
  go_ret
  exact ⟨by rw [u_ HF]; rfl, _, rfl⟩
end Q
namespace Q
open N K
theorem drew_below {w wr : World} (h : ∃ q, wr = w.drewN q) : Below w.heap.size w wr := by
 obtain ⟨q, rfl⟩ := h
 exact below_drewNb (Below.refl _ _) q
theorem drew_more {w wr : World} (h : ∃ q, wr = w.drewN q) : ∃ q, wr.drew = w.drewN q := by
 obtain ⟨q, rfl⟩ := h
 exact ⟨q + 1, rfl⟩
theorem qsameq_c (w : World) (sa sb : Option Addr) (n m ca cb : Nat) (da db : List (Bs × Bs)) (ha : DnAt w (.slice sa n ca) da) (hb : DnAt w (.slice sb m cb) db) (hn : da.length = n) (hm : db.length = m) (hn9 : n ≤ 1000000000) (hm9 : m ≤ 1000000000) :
  Calls Tryz.prog 27 #[.slice sa n ca, .slice sb m cb] w fun e w' => e = .returned (.bool (sameP da db)) ∧ ∃ q, w' = w.drewN q := by
 obtain ⟨ANS, hA⟩ := exq (sameP da db)
 rw [hA]
 have HA := h_ hA
 have Ha : Hid (∀ wr, Below w.heap.size w wr → DnAt wr (.slice sa n ca) da) := fun wr h => ha.below h
 have Hb : Hid (∀ wr, Below w.heap.size w wr → DnAt wr (.slice sb m cb) db) := fun wr h => hb.below h
 have Hn := h_ hn
 have Hm := h_ hm
 clear hA ha hb hn hm
 by_cases hnm : n = m
 ·subst hnm
  have g1 : ((n : Int) != (n : Int)) = false := by simp
  go_enter Tryz.func27, Tryz.ntmps27
  go_wp2
  clear g1
  go_loopw [5] (fun ii wr => ∃ k : Nat, k ≤ n ∧ ii = .int .i64 (k : Int) ∧ Hid (da.take k = db.take k) ∧ Hid (∃ q, wr = w.drewN q)) (fun ii _ => n - (intOf ii).toNat)
  case atStart => exact ⟨0, by omega, rfl, rfl, 0, rfl⟩
  case round =>
   obtain ⟨k, hk, rfl, HE, HB⟩ := hrel
   by_cases hlt : k < n
   ·obtain ⟨a, ba, oa, hda, rfl, ha1, ha2⟩ := dnc_at (u_ Ha wr (drew_below (u_ HB))) (k := k) (by have := u_ Hn; omega)
    obtain ⟨b, bb, ob, hdb, rfl, hb1, hb2⟩ := dnc_at (u_ Hb wr (drew_below (u_ HB))) (k := k) (by have := u_ Hm; omega)
    obtain ⟨f1, f1n⟩ := ltVV k n
    have k0 : (0 : Int) ≤ (k : Int) := by omega
    have k1 : (k : Int) < (n : Int) := by omega
    obtain ⟨P, hP⟩ := exq (decide (a.1 = b.1))
    obtain ⟨Q, hQ⟩ := exq (decide (a.2 = b.2))
    obtain ⟨t1, ht1⟩ := exq (st a.1)
    obtain ⟨t2, ht2⟩ := exq (st a.2)
    obtain ⟨u1, hu1⟩ := exq (st b.1)
    obtain ⟨u2, hu2⟩ := exq (st b.2)
    rw [ht1] at ha1
    rw [ht2] at ha2
    rw [hu1] at hb1
    rw [hu2] at hb2
    have e1 : (t1.toList == u1.toList) = P := by rw [eql_str, ← ht1, ← hu1, bs_st, bs_st]; exact hP
    have e2 : (t2.toList == u2.toList) = Q := by rw [eql_str, ← ht2, ← hu2, bs_st, bs_st]; exact hQ
    have HPQ : Hid ((P = true → Q = true → da.take (k + 1) = db.take (k + 1)) ∧ ((P = false ∨ Q = false) → ANS = false)) := by
     refine ⟨fun h1 h2 => ?_, fun h => ?_⟩
     ·have hab : a = b := by
       cases a; cases b
       rw [h1] at hP
       rw [h2] at hQ
       simp only at hP hQ
       rw [of_decide_eq_true hP, of_decide_eq_true hQ]
      rw [List.take_add_one, List.take_add_one, u_ HE, hda, hdb, hab]
     ·rw [← u_ HA]
      refine decide_eq_false fun he => ?_
      rw [he, hdb, Option.some.injEq] at hda
      subst hda
      rcases h with h | h
      ·rw [h] at hP; simp at hP
      ·rw [h] at hQ; simp at hQ
    clear hP hQ ht1 ht2 hu1 hu2 hda hdb
    cases P <;> cases Q
    case true.true =>
     have HE2 := h_ (HPQ.1 rfl rfl)
     clear HPQ
     go_wp2
     go_region
     go_wp2
     go_roundw
     case rel =>
      first
       | exact ⟨k + 1, by omega, by go_num, HE2, drew_more (u_ HB)⟩
       | ((repeat apply Exists.intro); exact ⟨⟨k + 1, by omega, by go_num, HE2, drew_more (u_ HB)⟩, rfl⟩)
     case measure => simp [intOf]; omega
    all_goals
     have HF := h_ (HPQ.2 (by simp))
     clear HPQ
     go_wp2
     go_region
     go_wp2
     go_ret
     exact ⟨by rw [u_ HF]; rfl, drew_more (u_ HB)⟩
   ·obtain ⟨f1, f1n⟩ := ltVVf k n
    have HF : Hid (ANS = true) := by
     show _ = _
     rw [← u_ HA]
     refine decide_eq_true ?_
     have h := u_ HE
     rw [List.take_of_length_le (by have := u_ Hn; omega), List.take_of_length_le (by have := u_ Hm; omega)] at h
     exact h
    go_wp2
    go_ret
    exact ⟨by rw [u_ HF]; rfl, u_ HB⟩
 ·have g1 : ((n : Int) != (m : Int)) = true := by simp; omega
  have g2 : ((n : Int) == (m : Int)) = false := by simp; omega
  have HF : Hid (ANS = false) := by
   show _ = _
   rw [← u_ HA]
   refine decide_eq_false fun he => hnm ?_
   rw [← u_ Hn, ← u_ Hm, he]
  have HB : Hid (∃ q, w = w.drewN q) := ⟨0, rfl⟩
  clear hnm
  go_enter Tryz.func27, Tryz.ntmps27
  go_wp2
  go_ret
  exact ⟨by rw [u_ HF]; rfl, u_ HB⟩
theorem under_qattrs : Tryz.prog.underlying 59 = some (.slice (Tryz.prog.elem 59)) := by kernel_rfl
theorem elem_qattrs : Tryz.prog.elem 59 = 110 := by kernel_rfl
theorem size_qattr (w : World) : (Go.sizeOf 110).run Tryz.prog w = .ok 2 w := by
 have h : (Tryz.prog.info? 110).map (·.size) = some 2 := by kernel_rfl
 obtain ⟨i, hi, h2⟩ := Option.map_eq_some_iff.1 h
 simp [Go.sizeOf, typeInfo, hi, h2]
theorem slice_qdn {w0 : World} {sp : Option Addr} {n c : Nat} {d : List (Bs × Bs)} (hd : DnAt w0 (.slice sp n c) d) (hn : d.length = n) (m : Nat) (h : m ≤ n) : ∃ sq, (∀ w, (Instr.sliceAt 59 (.slice sp n c) none (some (.int .i64 (m : Int))) none).run Tryz.prog w = .ok (.slice sq m c) w) ∧ DnAt w0 (.slice sq m c) (d.take m) := by
 obtain ⟨sp', c', e, h1, h2, h3⟩ := hd
 simp only [Value.slice.injEq] at e
 obtain ⟨rfl, e2, rfl⟩ := e
 have hmc : m ≤ c := by omega
 have hl : (d.take m).length = m := by rw [List.length_take]; omega
 refine ⟨if c = 0 then sp else sp.map (·.add 0), fun w => ?_, ?_⟩
 ·rw [run_sliceAt_slice w 59 _ _ _ _ under_qattrs, run_slice_h w 59 sp n c under_qattrs .i64 (m : Int) (by omega) (by omega), elem_qattrs, size_qattr, Result.andThen_ok]
  simp [sliced]
 ·refine ⟨_, c, by rw [hl], by rw [hl]; exact hmc, fun hs => ?_, fun hne => ?_⟩
  ·by_cases hc : c = 0
   ·exact hc
   ·rw [if_neg hc] at hs
    cases sp with
    | none => exact h2 rfl
    | some x => cases hs
  ·have hdne : d ≠ [] := fun e => by rw [e] at hne; simp at hne
   obtain ⟨b, o, e3, hc⟩ := h3 hdne
   subst e3
   have hm0 : 0 < m := Nat.pos_of_ne_zero fun e => hne (by rw [e, List.take_zero])
   refine ⟨b, o, ?_, fun i a hi => ?_⟩
   ·rw [if_neg (by omega), Option.map_some, Addr.add_mid, Nat.add_zero]
   ·have him : i < m := by have := (List.getElem?_eq_some_iff.1 hi).1; omega
    rw [List.getElem?_take_of_lt him] at hi
    exact hc i a hi
end Q
theorem valid_same : ∀ (k : Nat) (l : Bs), l.length ≤ k → Lib.validD l = K.validB l := fun k => by
 induction k with
 | zero =>
  intro l hl
  rw [List.eq_nil_of_length_eq_zero (by omega : l.length = 0)]
  rfl
 | succ k ih =>
  intro l hl
  match l, hl with
  | [], _ => rfl
  | c :: r, hl =>
   rw [List.length_cons] at hl
   have hdrop : ∀ n, 1 ≤ n → Lib.validD ((c :: r).drop n) = K.validB ((c :: r).drop n) := fun n hn => ih _ (by rw [List.length_drop, List.length_cons]; omega)
   rw [K.valid_step (c :: r) (by simp)]
   by_cases hc : c.toNat < 128
   ·rw [Lib.validD_cons c r hc, K.rune_ascii hc, if_neg (by omega)]
    exact hdrop 1 (by omega)
   ·have h0 : 128 ≤ ((c :: r).getD 0 0).toNat := by show 128 ≤ c.toNat; omega
    rw [Lib.validD_lead (c :: r) (by simp) h0]
    have hf := K.first_lead ⟨c.toNat, c.toNat_lt⟩ (by show 128 ≤ c.toNat; omega)
    simp only at hf
    have e0 : (c :: r).getD 0 0 = c := rfl
    have e1 : (c :: r).getD 1 0 = r.getD 0 0 := rfl
    have e2 : (c :: r).getD 2 0 = r.getD 1 0 := rfl
    have e3 : (c :: r).getD 3 0 = r.getD 2 0 := rfl
    rw [e0, e1, e2, e3, hf.1, List.length_cons]
    have hlead : K.leadN c.toNat = 1 ∨ K.leadN c.toNat = 2 ∨ K.leadN c.toNat = 3 ∨ K.leadN c.toNat = 4 := by unfold K.leadN; split; simp; split; simp; split <;> simp
    rcases hlead with h | h | h | h
    ·rw [K.rune_bad (by omega) h, h]
     rfl
    ·obtain ⟨l1, l2⟩ := hf.2.1 (by rw [h]; omega)
     rw [l1, l2, h, K.rune_two h]
     have lo : K.leadLo c.toNat = 128 := by
      have : 194 ≤ c.toNat ∧ c.toNat ≤ 223 := by unfold K.leadN at h; split at h; assumption; split at h; omega; split at h <;> omega
      unfold K.leadLo; rw [if_neg (by omega), if_neg (by omega)]
     have hi : K.leadHi c.toNat = 191 := by
      have : 194 ≤ c.toNat ∧ c.toNat ≤ 223 := by unfold K.leadN at h; split at h; assumption; split at h; omega; split at h <;> omega
      unfold K.leadHi; rw [if_neg (by omega), if_neg (by omega)]
     rw [lo, hi]
     unfold Lib.checkN
     rw [if_pos rfl]
     by_cases hg : 1 ≤ r.length ∧ 128 ≤ (r.getD 0 0).toNat ∧ (r.getD 0 0).toNat ≤ 191
     ·rw [if_neg (by omega), if_pos hg, if_neg (by omega)]
      exact hdrop 2 (by omega)
     ·rw [if_pos (by omega), if_neg hg, if_pos rfl]
    ·obtain ⟨l1, l2⟩ := hf.2.1 (by rw [h]; omega)
     rw [l1, l2, h, K.rune_three h]
     unfold Lib.checkN
     rw [if_neg (by omega), if_pos rfl]
     by_cases hg : 2 ≤ r.length ∧ K.leadLo c.toNat ≤ (r.getD 0 0).toNat ∧ (r.getD 0 0).toNat ≤ K.leadHi c.toNat ∧ 128 ≤ (r.getD 1 0).toNat ∧ (r.getD 1 0).toNat ≤ 191
     ·rw [if_neg (by omega), if_pos hg, if_neg (by omega)]
      exact hdrop 3 (by omega)
     ·rw [if_pos (by omega), if_neg hg, if_pos rfl]
    ·obtain ⟨l1, l2⟩ := hf.2.1 (by rw [h]; omega)
     rw [l1, l2, h, K.rune_four h]
     unfold Lib.checkN
     rw [if_neg (by omega), if_neg (by omega), if_pos rfl]
     by_cases hg : 3 ≤ r.length ∧ K.leadLo c.toNat ≤ (r.getD 0 0).toNat ∧ (r.getD 0 0).toNat ≤ K.leadHi c.toNat ∧ 128 ≤ (r.getD 1 0).toNat ∧ (r.getD 1 0).toNat ≤ 191 ∧ 128 ≤ (r.getD 2 0).toNat ∧ (r.getD 2 0).toNat ≤ 191
     ·rw [if_neg (by omega), if_pos hg, if_neg (by omega)]
      exact hdrop 4 (by omega)
     ·rw [if_pos (by omega), if_neg hg, if_pos rfl]
theorem valid_utf8 (l : Bs) : Lib.validD l = utf8P l.length l := valid_same l.length l (Nat.le_refl _)
theorem bitAt_drop (b : Bs) (h i : Nat) : bitAt (b.drop h) i = decide ((b.getD (h + i / 8) 0).toNat / 2 ^ (7 - i % 8) % 2 = 1) := by
 unfold bitAt
 rw [List.getD_eq_getElem?_getD, List.getElem?_drop, ← List.getD_eq_getElem?_getD]
namespace Q
open N K
theorem qiskind_c (w : World) (k : Int) : Calls Tryz.prog 65 #[.int .i64 k] w fun e w' => e = .returned (.bool (kindP k)) ∧ w' = w := by
 obtain ⟨A, hA⟩ := exq (decide (k = 1))
 obtain ⟨B, hB⟩ := exq (decide (k = 2))
 obtain ⟨C, hC⟩ := exq (decide (k = 4))
 obtain ⟨D, hD⟩ := exq (decide (k = 6))
 obtain ⟨E, hE⟩ := exq (decide (k = 7))
 have HT : Hid (kindP k = (A || B || C || D || E)) := by show _ = _; unfold kindP; rw [hA, hB, hC, hD, hE]
 have a1 : (k == 1) = A := hA
 have b1 : (k == 2) = B := hB
 have c1 : (k == 4) = C := hC
 have d1 : (k == 6) = D := hD
 have e1 : (k == 7) = E := hE
 clear hA hB hC hD hE
 cases A <;> cases B <;> cases C <;> cases D <;>
  (go_enter Tryz.func65, Tryz.ntmps65
   go_wp2
   go_ret
   exact ⟨by rw [u_ HT]; cases E <;> rfl, rfl⟩)
theorem qright_c (w : World) (g : Gen) (s : ByteArray) (sp : Option Addr) (n c : Nat) (limit : Bool) (hs : s.size ≤ 1000000) (ht : bs s = g.text) (hd : g.dir.length = n) (hn : n ≤ 1000000000) :
  Calls Tryz.prog 66 #[.agg #[.int .i64 g.kind, .string s, .slice sp n c], .bool limit] w fun e w' => e = .returned (.bool (namedP g limit)) ∧ Below w.heap.size w w' := by
 obtain ⟨k, hk⟩ := exq g.kind
 obtain ⟨w1, X, hw1, eX, hA⟩ := blkN (Below.refl w.heap.size w) #[.int .i64 k, .string s, .slice sp n c] 71
 obtain ⟨k0, k1, k2⟩ := three_at hA
 have HA := h_ hA
 rw [hk]
 obtain ⟨N, hN⟩ := exq s.size
 have hlen : (bs s).length = N := by rw [bs_len, hN]
 by_cases h4 : k = 4
 ·have HT : Hid (namedP g limit = (limit || decide (0 < n))) := by show _ = _; unfold namedP; rw [hk, if_pos h4, hd]
  subst h4
  obtain ⟨B, hB⟩ := exq (decide (0 < n))
  have b1 : decide ((0 : Int) < (n : Int)) = B := by rw [← hB, decide_eq_decide]; omega
  rw [hB] at HT
  clear hA hk hd ht hlen
  cases limit <;> cases B <;>
   (go_enter Tryz.func66, Tryz.ntmps66
    go_wp2
    go_ret
    exact ⟨by rw [u_ HT]; rfl, HA.b⟩)
 have d4 : (k == 4) = false := by simpa using h4
 by_cases h7 : k = 7
 ·have HT : Hid (namedP g limit = addrP limit (bs s)) := by show _ = _; unfold namedP; rw [hk, if_neg h4, if_pos h7, ht]
  subst h7
  cases limit with
  | false =>
   obtain ⟨A, hA4⟩ := exq (decide (N = 4))
   obtain ⟨B, hB⟩ := exq (decide (N = 16))
   have a1 : ((N : Int) == 4) = A := by rw [← hA4]; by_cases h : N = 4 <;> simp [h] <;> omega
   have b1 : ((N : Int) == 16) = B := by rw [← hB]; by_cases h : N = 16 <;> simp [h] <;> omega
   have HT2 : Hid (namedP g false = (A || B)) := by show _ = _; rw [u_ HT]; unfold addrP; rw [if_pos rfl, hlen, hA4, hB]
   clear hA hk hd ht hlen hA4 hB HT h4
   cases A <;> cases B <;> (go_enter Tryz.func66, Tryz.ntmps66; go_wp2; go_ret; exact ⟨by rw [u_ HT2]; rfl, HA.b⟩)
  | true =>
   by_cases h8 : N = 8 ∨ N = 32
   case neg =>
    have HF : Hid (namedP g true = false) := by
     show _ = _
     rw [u_ HT]
     unfold addrP
     rw [if_neg (by simp), hlen]
     have h1 : decide (N = 8) = false := decide_eq_false (fun h => h8 (Or.inl h))
     have h2 : decide (N = 32) = false := decide_eq_false (fun h => h8 (Or.inr h))
     rw [h1, h2]
     rfl
    have y1 : ((N : Int) != 8) = true := by simp; omega
    have y2 : ((N : Int) == 8) = false := by simp; omega
    have y3 : ((N : Int) != 32) = true := by simp; omega
    have y4 : ((N : Int) == 32) = false := by simp; omega
    clear hA hk hd ht hlen h4 h8 HT
    go_enter Tryz.func66, Tryz.ntmps66
    go_wp2
    go_ret
    exact ⟨by rw [u_ HF]; rfl, HA.b⟩
   obtain ⟨H, hH⟩ := exq (N / 2)
   obtain ⟨L, hL⟩ := exq (4 * N)
   have eH : (N : Int) / 2 = (H : Int) := by omega
   have eL : (4 : Int) * (N : Int) = (L : Int) := by omega
   have HT2 : Hid (namedP g true = maskTo ((bs s).drop H) L) := by
    show _ = _
    rw [u_ HT]
    unfold addrP
    rw [if_neg (by simp), hlen, hH]
    have h1 : (decide (N = 8) || decide (N = 32)) = true := by rcases h8 with h | h <;> simp [h]
    rw [h1, Bool.true_and]
    unfold maskP
    rw [List.length_drop, hlen]
    congr 1
    omega
   obtain ⟨M, hM⟩ := exq ((bs s).drop H)
   rw [hM] at HT2
   have HNL : Hid (s.size = N ∧ 2 * H = N ∧ L = 8 * H ∧ N ≤ 32) := ⟨hN, by omega, by omega, by omega⟩
   have hL2 : L ≤ 128 := by omega
   have HMb : Hid (∀ i, bitAt M i = decide (((bs s).getD (H + i / 8) 0).toNat / 2 ^ (7 - i % 8) % 2 = 1)) := fun i => by rw [← hM]; exact bitAt_drop _ _ _
   have bN : N ≤ 32 := by omega
   have bH : H ≤ 16 := by omega
   have y1 : (((N : Int) != 8) && ((N : Int) != 32)) = false := by rcases h8 with h | h <;> subst h <;> rfl
   obtain ⟨Y1, hY1⟩ := exq ((N : Int) != 8)
   obtain ⟨Y2, hY2⟩ := exq ((N : Int) != 32)
   rw [hY1, hY2] at y1
   have HF : Hid (∀ m, m ≤ L → maskTo M m = false → namedP g true = false) := fun m hm h => by rw [u_ HT2]; exact maskTo_no hm h
   clear hA hk hd ht hlen h4 h8 HT hH hL hM
   go_enter Tryz.func66, Tryz.ntmps66
   cases Y1 <;> cases Y2
   case true.true => cases y1
   all_goals
    clear y1
    go_wp2
    clear hY1 hY2 hN
    go_loopw [6, 7] (fun ee ii wr => ∃ (i : Nat) (u : Bool), i ≤ L ∧ ee = .bool u ∧ ii = .int .i64 (i : Int) ∧ wr = w1 ∧ Hid (maskTo M i = true) ∧ Hid (u = (!decide (i = 0) && !bitAt M (i - 1)))) (fun _ ii _ => L - (intOf ii).toNat)
    case atStart => exact ⟨0, false, by omega, rfl, rfl, rfl, rfl, rfl⟩
    case round =>
     obtain ⟨i, u, hi, rfl, rfl, hwr, HM, HU⟩ := hrel
     have := hwr.symm
     subst this
     by_cases hlt : i < L
     ·obtain ⟨f1, f1n⟩ := ltVV i L
      obtain ⟨q, hq⟩ := exq (i / 8)
      obtain ⟨r, hr⟩ := exq (i % 8)
      obtain ⟨t, ht⟩ := exq (7 - r)
      obtain ⟨j, hj⟩ := exq (H + q)
      have eq : (i : Int) / 8 = (q : Int) := by omega
      have er : (i : Int) % 8 = (r : Int) := by omega
      have et : (7 : Int) - (r : Int) = (t : Int) := by omega
      have ej : (H : Int) + (q : Int) = (j : Int) := by omega
      have hjN : j < s.size := by have := u_ HNL; omega
      obtain ⟨p, hp⟩ := exq (((bs s).getD j 0).toNat)
      have hp2 : p < 256 := by rw [← hp]; exact ((bs s).getD j 0).toNat_lt
      have ix : ∀ w, (Instr.index 9 (.string s) (.int .i64 (j : Int))).run Tryz.prog w = .ok (.int .u8 (p : Int)) w := fun w => index_str s j hjN p hp w
      obtain ⟨z, hz⟩ := exq (p / 2 ^ t)
      have ez : (p : Int) / 2 ^ t = (z : Int) := by rw [← hz]; simp
      have hzp : z ≤ p := by rw [← hz]; exact Nat.div_le_self _ _
      have uz : IntKind.u8.wrap (z : Int) = (z : Int) := by rw [IntKind.wrap_u8']; omega
      obtain ⟨y, hy⟩ := exq (z % 2)
      have ey : (z : Int) % 2 = (y : Int) := by omega
      have bz : z ≤ 255 := by omega
      obtain ⟨o, ho⟩ := exq (bitAt M i)
      have hyo : ((y : Int) == 1) = o := by
       rw [← ho, u_ HMb, hq, hr, ht, hj, hp, hz, hy]
       by_cases h1 : y = 1 <;> simp [h1] <;> omega
      have HS : Hid (maskTo M (i + 1) = !(o && u)) := by
       show _ = _
       rw [maskTo_succ, u_ HM, u_ HU, ho]
       cases decide (i = 0) <;> cases o <;> cases bitAt M (i - 1) <;> rfl
      have HU2 : Hid ((!o) = (!decide (i + 1 = 0) && !bitAt M (i + 1 - 1))) := by
       show _ = _
       rw [Nat.add_sub_cancel, ho]
       simp
      clear hq hr ht hp hz hy ho HM HU hj hzp
      cases o with
      | false =>
       have HS2 : Hid (maskTo M (i + 1) = true) := by show _ = _; rw [u_ HS]; rfl
       have HU3 : Hid (true = (!decide (i + 1 = 0) && !bitAt M (i + 1 - 1))) := u_ HU2
       cases u
       all_goals
        go_wp2
        go_roundw
        case rel =>
         first
          | exact ⟨i + 1, true, by omega, rfl, by go_num, rfl, HS2, HU3⟩
          | exact ⟨i + 1, true, by omega, rfl, by go_num, trivial, HS2, HU3⟩
          | ((repeat apply Exists.intro); exact ⟨⟨i + 1, true, by omega, rfl, by go_num, rfl, HS2, HU3⟩, rfl⟩)
        case measure => simp [intOf]; omega
      | true =>
       cases u with
       | true =>
        have HF2 : Hid (namedP g true = false) := u_ HF (i + 1) (by omega) (by rw [u_ HS]; rfl)
        go_wp2
        go_ret
        exact ⟨by rw [u_ HF2]; rfl, by first | exact HA.b | (rw [← eX]; exact HA.b)⟩
       | false =>
        have HS2 : Hid (maskTo M (i + 1) = true) := by show _ = _; rw [u_ HS]; rfl
        have HU3 : Hid (false = (!decide (i + 1 = 0) && !bitAt M (i + 1 - 1))) := u_ HU2
        go_wp2
        go_roundw
        case rel =>
         first
          | exact ⟨i + 1, false, by omega, rfl, by go_num, rfl, HS2, HU3⟩
          | exact ⟨i + 1, false, by omega, rfl, by go_num, trivial, HS2, HU3⟩
          | ((repeat apply Exists.intro); exact ⟨⟨i + 1, false, by omega, rfl, by go_num, rfl, HS2, HU3⟩, rfl⟩)
        case measure => simp [intOf]; omega
     ·obtain ⟨f1, f1n⟩ := ltVVf i L
      have HF2 : Hid (namedP g true = true) := by
       show _ = _
       rw [u_ HT2]
       have e : i = L := by omega
       rw [← e]
       exact u_ HM
      go_wp2
      go_ret
      exact ⟨by rw [u_ HF2]; rfl, by first | exact HA.b | (rw [← eX]; exact HA.b)⟩
 ·have d7 : (k == 7) = false := by simpa using h7
  obtain ⟨E, hE⟩ := exq (decide (0 < N))
  obtain ⟨L, hL⟩ := exq (decide (N ≤ 64))
  have HT : Hid (namedP g limit = ((limit || E) && L && ascP (bs s))) := by
   show _ = _
   unfold namedP
   rw [hk, if_neg h4, if_neg h7, ← ht, hlen, hL]
   have h1 : (!decide (bs s = [])) = E := by
    rw [← hE, ← hlen]
    cases bs s with
    | nil => simp
    | cons x l => simp
   rw [h1]
  have he : decide ((0 : Int) < (N : Int)) = E := by rw [← hE, decide_eq_decide]; omega
  have hl : decide ((N : Int) ≤ 64) = L := by rw [← hL, decide_eq_decide]; omega
  have bN : N ≤ 1000000 := by omega
  have HEL : Hid (E = false → L = true ∧ N = 0) := fun h => by
   rw [← hE] at h
   rw [← hL]
   have := of_decide_eq_false h
   exact ⟨decide_eq_true (by omega), by omega⟩
  have HEt : Hid (E = true → 0 < N) := fun h => by
   rw [← hE] at h
   exact of_decide_eq_true h
  have HN := h_ hN
  have Hlen := h_ hlen
  clear hA hk hd ht hE hL h4 h7 hN hlen hs
  go_enter Tryz.func66, Tryz.ntmps66
  have eN : s.size = N := u_ HN
  go_wp2
  clear eN
  go_loopw [9] (fun ii wr => ∃ i : Nat, i ≤ N ∧ ii = .int .i64 (i : Int) ∧ wr = w1 ∧ Hid (∀ x ∈ (bs s).take i, x.toNat < 128)) (fun ii _ => N - (intOf ii).toNat)
  case atStart => exact ⟨0, by omega, rfl, rfl, fun x hx => by simp at hx⟩
  case round =>
   obtain ⟨i, hi, rfl, hwr, HM⟩ := hrel
   have := hwr.symm
   subst this
   by_cases hlt : i < N
   ·obtain ⟨f1, f1n⟩ := ltVV i N
    obtain ⟨p, hp⟩ := exq (((bs s).getD i 0).toNat)
    have ix : ∀ w, (Instr.index 9 (.string s) (.int .i64 (i : Int))).run Tryz.prog w = .ok (.int .u8 (p : Int)) w := fun w => index_str s i (by have := u_ HN; omega) p hp w
    have hil : i < (bs s).length := by have := u_ Hlen; omega
    by_cases h128 : 128 ≤ p
    ·obtain ⟨z1, z1n⟩ := leLV 128 128 p
     have HF : Hid (namedP g limit = false) := by
      show _ = _
      rw [u_ HT]
      have h1 : ascP (bs s) = false := by
       unfold ascP
       rw [List.all_eq_false]
       refine ⟨(bs s).getD i 0, ?_, by rw [decide_eq_true_eq, hp]; omega⟩
       rw [List.getD_eq_getElem?_getD, List.getElem?_eq_getElem hil]
       exact List.getElem_mem hil
      rw [h1, Bool.and_false]
     clear hp hil
     go_wp2
     go_ret
     exact ⟨by rw [u_ HF]; rfl, by first | exact HA.b | (rw [← eX]; exact HA.b)⟩
    ·obtain ⟨z1, z1n⟩ := leLVf 128 128 p
     have HM2 : Hid (∀ x ∈ (bs s).take (i + 1), x.toNat < 128) := fun x hx => by
      rw [List.take_add_one, List.getElem?_eq_getElem hil, List.mem_append] at hx
      rcases hx with hx | hx
      ·exact u_ HM x hx
      ·simp only [Option.toList_some, List.mem_singleton] at hx
       rw [List.getD_eq_getElem?_getD, List.getElem?_eq_getElem hil, Option.getD_some] at hp
       rw [hx]
       omega
     clear hp hil
     go_wp2
     go_roundw
     case rel =>
      first
       | exact ⟨i + 1, by omega, by go_num, rfl, HM2⟩
       | exact ⟨i + 1, by omega, by go_num, trivial, HM2⟩
       | ((repeat apply Exists.intro); exact ⟨⟨i + 1, by omega, by go_num, rfl, HM2⟩, rfl⟩)
     case measure => simp [intOf]; omega
   ·obtain ⟨f1, f1n⟩ := ltVVf i N
    have HT2 : Hid (namedP g limit = ((limit || E) && L)) := by
     show _ = _
     rw [u_ HT]
     have h1 : ascP (bs s) = true := by
      unfold ascP
      rw [List.all_eq_true]
      intro x hx
      exact decide_eq_true (u_ HM x (by rw [List.take_of_length_le (by have := u_ Hlen; omega)]; exact hx))
     rw [h1, Bool.and_true]
    cases E with
    | false =>
     obtain ⟨rfl, rfl⟩ := u_ HEL rfl
     clear he hl f1 f1n
     obtain rfl : i = 0 := by omega
     cases limit <;>
      (go_wp2
       go_ret
       exact ⟨by rw [u_ HT2]; rfl, by first | exact HA.b | (rw [← eX]; exact HA.b)⟩)
    | true =>
     have he3 := u_ HEt rfl
     have he2 : decide (0 < N) = true := decide_eq_true he3
     cases limit <;>
      (go_wp2
       go_ret
       exact ⟨by rw [u_ HT2]; cases L <;> rfl, by first | exact HA.b | (rw [← eX]; exact HA.b)⟩)
end Q
end Go.Proofs.YtcofnockikninaaGreatDoor
