/- Parts of the walk. -/
import Derived.Test.YtcofnockikninaaGreatDoorZgNn
import Derived.Lib.TrimAscii
import Derived.Lib.MapLaws
import Derived.Lib.SplitLaws
import Derived.Test.YtcofnockikninaaGreatDoorZgNj
import Derived.Lib.SlBytesConst
import Derived.Test.YtcofnockikninaaGreatDoorZgQa
import Derived.Test.YtcofnockikninaaGreatDoorZgOQ
set_option maxRecDepth 100000
set_option maxHeartbeats 16000000
namespace Go.Proofs.YtcofnockikninaaGreatDoor
open Go.RowKit
def smallC (c : UInt8) : UInt8 := if capN c.toNat = true then UInt8.ofNat (c.toNat + 32) else c
def smallB (l : Bs) : Bs := l.map smallC
def labelP (l : Bs) : Bool := !decide (l = []) && decide (l.length ≤ 63) && (l.all fun c => labN c.toNat) && !decide ((l.getD 0 0).toNat = 45) && !decide ((l.getD (l.length - 1) 0).toNat = 45)
def machP (l : Bs) : Bool := (Lib.split l [46]).all labelP
def machW (m l : Bs) : Bool := machP (smallB m) && (decide (smallB l = []) || decide (smallB m = smallB l) || Lib.hasSuffix (smallB m) (46 :: smallB l))
theorem asc_at {s : Bs} (h : ascP s = true) : ∀ c ∈ s, c.toNat < 128 := fun c hc => by
 unfold ascP at h
 rw [List.all_eq_true] at h
 exact of_decide_eq_true (h c hc)
theorem capN_iff (r : Nat) : capN r = true ↔ 65 ≤ r ∧ r ≤ 90 := by unfold capN; simp
namespace N
open K
def smallZ (r : Int) : Int := if 65 ≤ r ∧ r ≤ 90 then r + 32 else r
theorem mapD_small : ∀ (l : Bs), (∀ c ∈ l, c.toNat < 128) → Lib.mapD smallZ l = smallB l
 | [], _ => rfl
 | b :: t, h => by
  have hb := h b List.mem_cons_self
  have hd := Lib.decodeL_ascii b t hb
  rw [Lib.mapD_step smallZ (b :: t) (by simp), hd]
  simp only [List.drop_succ_cons, List.drop_zero]
  rw [mapD_small t (fun c hc => h c (List.mem_cons_of_mem _ hc))]
  show _ = smallC b :: smallB t
  have e : (if 0 ≤ smallZ (b.toNat : Int) then Lib.encodeRune (smallZ (b.toNat : Int)) else []) = [smallC b] := by
   unfold smallZ smallC
   by_cases hc : capN b.toNat = true
   ·have h2 := (capN_iff _).1 hc
    rw [if_pos hc, if_pos (show (65 : Int) ≤ (b.toNat : Int) ∧ (b.toNat : Int) ≤ 90 by omega), if_pos (by omega)]
    unfold Lib.encodeRune
    rw [Lib.encodeRuneZ_one (by omega) (by omega)]
    simp only [List.map_cons, List.map_nil]
    congr 1
   ·have h2 : ¬ (65 ≤ b.toNat ∧ b.toNat ≤ 90) := fun h => hc ((capN_iff _).2 h)
    rw [if_neg hc, if_neg (show ¬ ((65 : Int) ≤ (b.toNat : Int) ∧ (b.toNat : Int) ≤ 90) by omega), if_pos (by omega)]
    unfold Lib.encodeRune
    rw [Lib.encodeRuneZ_one (by omega) (by omega)]
    simp only [List.map_cons, List.map_nil, Int.toNat_natCast]
    congr 1
    simp
  rw [e]
  rfl
theorem smallr_c (r : Nat) (hr : r ≤ 1114111) (w : World) : Calls Tryz.prog 117 #[.int .i32 (r : Int)] w fun e w' => e = .returned (.int .i32 (smallZ (r : Int))) ∧ w' = w := by
 have HC := h_ (iscap_c r (by omega) w)
 by_cases h : capN r = true
 ·have h2 := (capN_iff r).1 h
  rw [h] at HC
  obtain ⟨q, hq⟩ := exq (r - 65)
  obtain ⟨p, hp⟩ := exq (q + 97)
  have e1 : (r : Int) - 65 = (q : Int) := by omega
  have e2 : (q : Int) + 97 = (p : Int) := by omega
  have HT : Hid (smallZ (r : Int) = (p : Int)) := by show _ = _; unfold smallZ; rw [if_pos (by omega)]; omega
  clear hq hp
  go_enter Tryz.func117, Tryz.ntmps117
  go_wp2_with (go_at_call 147; refine HC.mono ?_; rintro e w' ⟨rfl, hw⟩; obtain rfl := hw)
  go_ret
  exact ⟨by rw [u_ HT]; rfl, rfl⟩
 ·have h' : capN r = false := by simpa using h
  have h2 : ¬ (65 ≤ r ∧ r ≤ 90) := fun k => h ((capN_iff r).2 k)
  rw [h'] at HC
  have HT : Hid (smallZ (r : Int) = (r : Int)) := by show _ = _; unfold smallZ; rw [if_neg (by omega)]
  clear h h' h2
  go_enter Tryz.func117, Tryz.ntmps117
  go_wp2_with (go_at_call 147; refine HC.mono ?_; rintro e w' ⟨rfl, hw⟩; obtain rfl := hw)
  go_ret
  exact ⟨by rw [u_ HT]; rfl, rfl⟩
theorem small_c (w : World) (hR : Rdy w) (s : ByteArray) (hs : s.size ≤ 1000000000) (ha : ascP (bs s) = true) : Calls Tryz.prog 96 #[.string s] w fun e w' => e = .returned (.string (st (smallB (bs s)))) ∧ Below w.heap.size w w' := by
 have hm := Tryz.strings_Map_runes 117 #[] (enters_of Tryz.func117 (by kernel_rfl) rfl) smallZ s w (by omega)
  (fun W x hx _ => (smallr_c x hx W).mono fun e w' h => ⟨h.1, 0, h.2⟩)
  (fun x hx => by unfold smallZ; split <;> omega) hR.tabs
 have e : Lib.mapD smallZ s.data.toList = smallB (bs s) := mapD_small (bs s) (asc_at ha)
 rw [e] at hm
 have Hm := h_ hm
 clear hm e ha
 go_enter Tryz.func96, Tryz.ntmps96
 go_wp2_with fail
 refine Hm.mono ?_
 rintro e w2 ⟨rfl, hb⟩
 have HB := h_ hb
 clear hb
 go_wp2
 go_ret
 exact ⟨rfl, u_ HB⟩
theorem islabel_c (w : World) (s : ByteArray) (hs : s.size ≤ 1000000000) : Calls Tryz.prog 115 #[.string s] w fun e w' => e = .returned (.bool (labelP (bs s))) ∧ Below w.heap.size w w' := by
 obtain ⟨N, hN⟩ := exq s.size
 have hl : (bs s).length = N := by rw [bs_len, hN]
 have bN : N ≤ 1000000000 := by omega
 by_cases h0 : N = 0
 ·have HT : Hid (labelP (bs s) = false) := by
   show _ = _
   unfold labelP
   rw [decide_eq_true (List.eq_nil_of_length_eq_zero (hl.trans h0))]
   rfl
  have he : (s.toList == ([] : Bs)) = true := by rw [nil_str]; exact decide_eq_true (List.eq_nil_of_length_eq_zero (hl.trans h0))
  have Hb := h_ (Below.refl w.heap.size w)
  clear hl
  go_enter Tryz.func115, Tryz.ntmps115
  go_wp2
  go_ret
  exact ⟨by rw [u_ HT]; rfl, u_ Hb⟩
 have hne : bs s ≠ [] := fun e => by rw [e] at hl; simp at hl; omega
 have he : (s.toList == ([] : Bs)) = false := by rw [nil_str]; exact decide_eq_false hne
 obtain ⟨L, hL⟩ := exq (decide (N ≤ 63))
 have hlz : decide ((N : Int) ≤ 63) = L := by rw [← hL, decide_eq_decide]; omega
 obtain ⟨V, hV⟩ := exq ((bs s).all fun c => labN c.toNat)
 obtain ⟨p, hp⟩ := exq (((bs s).getD 0 0).toNat)
 obtain ⟨q, hq⟩ := exq (((bs s).getD (N - 1) 0).toNat)
 obtain ⟨M, hM⟩ := exq (N - 1)
 rw [hM] at hq
 have eM : (N : Int) - 1 = (M : Int) := by omega
 obtain ⟨P, hP⟩ := exq (decide (p = 45))
 obtain ⟨Q, hQ⟩ := exq (decide (q = 45))
 have hpz : ((p : Int) == 45) = P := by rw [← hP]; by_cases h : p = 45 <;> simp [h] <;> omega
 have hqz : ((q : Int) == 45) = Q := by rw [← hQ]; by_cases h : q = 45 <;> simp [h] <;> omega
 have hpn : ((p : Int) != 45) = !P := by rw [← hpz]; rfl
 have hqn : ((q : Int) != 45) = !Q := by rw [← hqz]; rfl
 have ix0 : ∀ w, (Instr.index 9 (.string s) (.int .i64 0)).run Tryz.prog w = .ok (.int .u8 (p : Int)) w := fun w => index_str s 0 (by omega) p hp w
 have ixM : ∀ w, (Instr.index 9 (.string s) (.int .i64 (M : Int))).run Tryz.prog w = .ok (.int .u8 (q : Int)) w := fun w => index_str s M (by omega) q hq w
 have HT : Hid (labelP (bs s) = (L && V && !P && !Q)) := by
  show _ = _
  unfold labelP
  rw [decide_eq_false hne, hl, hL, hV, hp, hP, hM, hq, hQ]
  rfl
 have Hev := h_ (every_c 138 _ questLab s hs w)
 rw [hV] at Hev
 have Hb := h_ (Below.refl w.heap.size w)
 clear hl hne hV hp hq hM hP hQ h0
 cases L with
 | false =>
  go_enter Tryz.func115, Tryz.ntmps115
  go_wp2
  go_ret
  exact ⟨by rw [u_ HT]; rfl, u_ Hb⟩
 | true =>
  cases V with
  | false =>
   go_enter Tryz.func115, Tryz.ntmps115
   go_wp2_with fail
   refine Hev.mono ?_
   rintro e w2 ⟨rfl, hb⟩
   have HB := h_ hb
   clear hb
   go_wp2
   go_ret
   exact ⟨by rw [u_ HT]; rfl, u_ HB⟩
  | true =>
   cases P <;> cases Q <;>
   ·simp only [Bool.not_true, Bool.not_false] at hpn hqn
    go_enter Tryz.func115, Tryz.ntmps115
    go_wp2_with fail
    refine Hev.mono ?_
    rintro e w2 ⟨rfl, hb⟩
    have HB := h_ hb
    clear hb
    go_wp2
    go_ret
    exact ⟨by rw [u_ HT]; rfl, u_ HB⟩
end N
namespace N
open K
theorem ismach_c (w : World) (hR : Rdy w) (s : ByteArray) (hs : s.size ≤ 1000000000) : Calls Tryz.prog 95 #[.string s] w fun e w' => e = .returned (.bool (machP (bs s))) ∧ Below w.heap.size w w' := by
 obtain ⟨m, hm⟩ := hR.maxl
 have hsp := Tryz.strings_Split s (st [46]) m w (by omega) hm (by rw [st_size]; simp)
 obtain ⟨L, hL⟩ := exq (Lib.splitB (st [46]) 0 (Lib.countB s (st [46])) s)
 have hlen : L.length = Lib.countB s (st [46]) + 1 := by rw [← hL]; exact Lib.splitB_all (st [46]) (by rw [st_size]; simp) 0 _ s rfl
 have HM : Hid (machP (bs s) = L.all fun x => labelP (bs x)) := by
  show _ = _
  unfold machP Lib.split
  have h1 := Lib.splitB_data (st [46]) 0 (Lib.countB s (st [46])) s
  rw [hL] at h1
  have h2 : Lib.splitK [46] 0 (Lib.count (bs s) [46]) (bs s) = L.map fun x => bs x := by
   rw [show (fun x : ByteArray => bs x) = fun x => x.data.toList from rfl, h1, bs_st]
  rw [h2, List.all_map]
  rfl
 have hsz : ∀ x ∈ L, x.size ≤ 1000000000 := by
  have key : ∀ (k : Nat) (z : ByteArray), z.size ≤ 1000000000 → ∀ x ∈ Lib.splitB (st [46]) 0 k z, x.size ≤ 1000000000 := fun k => by
   induction k with
   | zero => intro z hz x hx; simp [Lib.splitB] at hx; rw [hx]; exact hz
   | succ k ih =>
    intro z hz x hx
    unfold Lib.splitB at hx
    split at hx
    ·simp at hx; rw [hx]; exact hz
    ·rw [List.mem_cons] at hx
     rcases hx with rfl | hx
     ·rw [ByteArray.size_extract]; omega
     ·exact ih _ (by rw [ByteArray.size_extract]; omega) x hx
  rw [← hL]
  exact key _ s hs
 obtain ⟨N, hN⟩ := exq L.length
 rw [← hlen, hL, hN] at hsp
 obtain ⟨w1, hw1⟩ := exq (w.alloc (.cells (L.map Value.string).toArray 9))
 obtain ⟨B, hB⟩ := exq w.heap.size
 rw [hw1, hB] at hsp
 have hA : Blk w w1 B (L.map Value.string).toArray 9 := by rw [← hw1, ← hB]; exact Blk.new (Below.refl _ _) _ _
 have Hsp := h_ hsp
 have HA := h_ hA
 have HN := h_ hN
 have Hsz := h_ hsz
 have hN2 : N ≤ 1000000001 := by
  have := Lib.countB_le (st [46]) (by rw [st_size]; simp) s.size s (Nat.le_refl _)
  omega
 clear hsp hA hN hsz hlen hL hw1 hm
 go_enter Tryz.func95, Tryz.ntmps95
 go_wp2_with fail
 refine Hsp.mono ?_
 rintro e w2 ⟨rfl, hw⟩
 obtain rfl := hw
 go_wp2
 go_loopw [8] (fun ii wr => ∃ k : Nat, k ≤ N ∧ ii = .int .i64 (k : Int) ∧ Hid ((L.take k).all (fun x => labelP (bs x)) = true) ∧ Hid (Blk w wr B (L.map Value.string).toArray 9)) (fun ii _ => N - (intOf ii).toNat)
 case atStart => exact ⟨0, by omega, rfl, rfl, HA⟩
 case round =>
  obtain ⟨k, hk, rfl, HE, HB⟩ := hrel
  clear HA Hsp
  by_cases hlt : k < N
  ·have hkl : k < L.length := by have := u_ HN; omega
   obtain ⟨x, hx⟩ := exq (L[k])
   have hc : w2.cell? ⟨B, k, none⟩ = w2.cell? ⟨B, k, none⟩ := rfl
   have hc : wr.cell? ⟨B, k, none⟩ = some (.string x) := HB.cell k _ (by rw [List.getElem?_toArray, List.getElem?_map, List.getElem?_eq_getElem hkl, hx]; rfl)
   obtain ⟨f1, f1n⟩ := ltVV k N
   have k0 : (0 : Int) ≤ (k : Int) := by omega
   have k1 : (k : Int) < (N : Int) := by omega
   have Hlb := h_ (islabel_c wr x (u_ Hsz x (by rw [← hx]; exact List.getElem_mem hkl)))
   obtain ⟨u, hu⟩ := exq (labelP (bs x))
   rw [hu] at Hlb
   have Hx : Hid (L[k]? = some x) := by show _ = _; rw [List.getElem?_eq_getElem hkl, hx]
   have Hu := h_ hu
   clear hx hu
   go_wp2_with fail
   refine Hlb.mono ?_
   rintro e w3 ⟨rfl, hb⟩
   have HB3 := h_ (HB.call hb)
   clear hb hc Hlb HB
   cases u with
   | false =>
    have HF : Hid (machP (bs s) = false) := by
     show _ = _
     rw [u_ HM, List.all_eq_false]
     exact ⟨x, List.mem_of_getElem? (u_ Hx), by rw [u_ Hu]; simp⟩
    clear HE
    go_wp2
    go_ret
    exact ⟨by rw [u_ HF]; rfl, HB3.b⟩
   | true =>
    have HE2 : Hid ((L.take (k + 1)).all (fun x => labelP (bs x)) = true) := by
     show _ = _
     rw [List.take_add_one, u_ Hx, List.all_append, u_ HE]
     simp [u_ Hu]
    clear HE
    go_wp2
    go_roundw
    case rel =>
     first
      | exact ⟨k + 1, by omega, by go_num, HE2, HB3⟩
      | ((repeat apply Exists.intro); exact ⟨⟨k + 1, by omega, by go_num, HE2, HB3⟩, rfl⟩)
    case measure => simp [intOf]; omega
  ·obtain ⟨f1, f1n⟩ := ltVVf k N
   have HF : Hid (machP (bs s) = true) := by
    show _ = _
    have h1 := u_ HE
    rw [List.take_of_length_le (by have := u_ HN; omega)] at h1
    rw [u_ HM, h1]
   clear HE
   go_wp2
   go_ret
   exact ⟨by rw [u_ HF]; rfl, HB.b⟩
theorem machw_c (w : World) (hR : Rdy w) (s l : ByteArray) (hs : s.size ≤ 1000000) (hl : l.size ≤ 1000000) (ha : ascP (bs s) = true) (hal : ascP (bs l) = true) :
  Calls Tryz.prog 70 #[.string s, .string l] w fun e w' => e = .returned (.bool (machW (bs s) (bs l))) ∧ Below w.heap.size w w' := by
 have H1 := h_ (small_c w hR s (by omega) ha)
 have HR := h_ hR
 obtain ⟨a, hae⟩ := exq (st (smallB (bs s)))
 obtain ⟨b, hbe⟩ := exq (st (smallB (bs l)))
 have H2 : Hid (∀ wr, Below w.heap.size w wr → Calls Tryz.prog 96 #[.string l] wr fun e w' => e = .returned (.string b) ∧ Below wr.heap.size wr w') := fun wr hb => by
  have := small_c wr (hR.below hb) l (by omega) hal
  rw [hbe] at this
  exact this
 rw [hae] at H1
 have ea : bs a = smallB (bs s) := by rw [← hae, bs_st]
 have eb : bs b = smallB (bs l) := by rw [← hbe, bs_st]
 have sa : a.size ≤ 1000000 := by rw [← bs_len, ea]; unfold smallB; rw [List.length_map, bs_len]; exact hs
 have sb : b.size ≤ 1000000 := by rw [← bs_len, eb]; unfold smallB; rw [List.length_map, bs_len]; exact hl
 have H3 : Hid (∀ wr, Below w.heap.size w wr → Calls Tryz.prog 95 #[.string a] wr fun e w' => e = .returned (.bool (machP (bs a))) ∧ Below wr.heap.size wr w') := fun wr hb => ismach_c wr (hR.below hb) a (by omega)
 obtain ⟨M, hM⟩ := exq (machP (bs a))
 obtain ⟨E, hE⟩ := exq (decide (bs b = []))
 obtain ⟨Q, hQ⟩ := exq (decide (bs a = bs b))
 obtain ⟨d, hd⟩ := exq (st (46 :: bs b))
 have hcat : ∀ W, (Op.stringOp .add { data := #[46] } b).run Tryz.prog W = .ok (.string d) W := fun W => by
  have := cat_str [46] (bs b) (46 :: bs b) rfl (by rw [bs_len]; simp; omega) W
  rw [hd, st_bs] at this
  exact this
 obtain ⟨U, hU⟩ := exq (Lib.hasSuffix (bs a) (bs d))
 have H4 : Hid (∀ wr : World, Calls Tryz.prog 98 #[.string a, .string d] wr fun e w' => e = .returned (.bool U) ∧ w' = wr) := fun wr => by
  have := Tryz.strings_HasSuffix a d wr (by omega)
  rw [show Lib.hasSuffix a.data.toList d.data.toList = U from hU] at this
  exact this
 have HT : Hid (machW (bs s) (bs l) = (M && (E || Q || U))) := by
  show _ = _
  unfold machW
  rw [← ea, ← eb, hM, hE, hQ, ← hU, ← hd, bs_st]
 rw [hM] at H3
 have he : (b.toList == ([] : Bs)) = E := by rw [nil_str]; exact hE
 have hq : (a.toList == b.toList) = Q := by rw [eql_str]; exact hQ
 clear hae hbe ea eb hM hE hQ hd hU ha hal hR hs hl
 go_enter Tryz.func70, Tryz.ntmps70
 go_wp2_with fail
 refine H1.mono ?_
 rintro e w2 ⟨rfl, hb⟩
 have HB2 := h_ hb
 clear hb H1
 go_wp2_with fail
 refine (u_ H2 w2 (u_ HB2)).mono ?_
 rintro e w3 ⟨rfl, hb⟩
 have HB3 := h_ (HB2.trans (hb.mono HB2.size))
 clear hb H2 HB2
 go_wp2_with fail
 refine (u_ H3 w3 (u_ HB3)).mono ?_
 rintro e w4 ⟨rfl, hb⟩
 have HB4 := h_ (HB3.trans (hb.mono HB3.size))
 clear hb H3 HB3
 cases M with
 | false =>
  go_wp2
  go_ret
  exact ⟨by rw [u_ HT]; rfl, u_ HB4⟩
 | true =>
  cases E with
  | true =>
   go_wp2
   go_ret
   exact ⟨by rw [u_ HT]; rfl, u_ HB4⟩
  | false =>
   cases Q with
   | true =>
    go_wp2
    go_ret
    exact ⟨by rw [u_ HT]; rfl, u_ HB4⟩
   | false =>
    go_wp2_with fail
    refine (u_ H4 w4).mono ?_
    rintro e w5 ⟨rfl, hw⟩
    obtain rfl := hw
    go_wp2
    go_ret
    exact ⟨by rw [u_ HT]; cases U <;> rfl, u_ HB4⟩
end N
def refG (dn : List (Bs × Bs) → Told DV) (g : Gen) (limit : Bool) : Bool := !decide (errOf (genV dn g limit) = 0)
namespace N
open K
theorem isref_c (dn : List (Bs × Bs) → Told DV) (w : World) (cs : List Value) (g : Gen) (limit : Bool) (hg : GenAt w cs g) (ht : g.text.length ≤ 1000000000) (hdl : g.dir.length ≤ 1000000000) (h4 : g.kind ≠ 4) :
  Calls Tryz.prog 68 #[.agg cs.toArray, .bool limit] w fun e w' => e = .returned (.bool (refG dn g limit)) ∧ Below w.heap.size w w' := by
 have HV : Hid (∀ wr, Below w.heap.size w wr → Calls Tryz.prog 31 #[.agg cs.toArray, .bool limit] wr fun e w' => ∃ ds : List Value, e = .returned (.tuple #[.agg ds.toArray, .int .i64 (errOf (genV dn g limit) : Int)]) ∧ ValAt (fun k => wr.heap.size ≤ k) w' ds (valOf (genV dn g limit)) ∧ Below wr.heap.size wr w') := fun wr hb => genv_c dn wr cs g limit (hg.below hb) ht hdl h4
 obtain ⟨s, sp, c, rfl, hst, hdn⟩ := hg.form
 obtain ⟨k, hk⟩ := exq g.kind
 obtain ⟨n, hn⟩ := exq g.dir.length
 rw [hk, hn] at HV ⊢
 obtain ⟨w1, X, hw1, eX, hA⟩ := blkN (Below.refl w.heap.size w) #[.int .i64 k, .string s, .slice sp n c] 56
 obtain ⟨k0, k1, k2⟩ := three_at hA
 have HA := h_ hA
 obtain ⟨er, her⟩ := exq (errOf (genV dn g limit))
 rw [her] at HV
 obtain ⟨U, hU⟩ := exq (decide (er = 0))
 have z1 : ((er : Int) == 0) = U := by rw [← hU]; by_cases h : er = 0 <;> simp [h] <;> omega
 have z2 : ((er : Int) != 0) = !U := by rw [← z1]; rfl
 have HT : Hid (refG dn g limit = !U) := by show _ = _; unfold refG; rw [her, hU]
 unfold gcells at HV ⊢
 clear hA hdn hst her hU hg hk hn h4
 go_enter Tryz.func68, Tryz.ntmps68
 go_wp2_with fail
 refine (u_ HV w1 HA.b).mono ?_
 rintro e w2 ⟨ds, rfl, hv, hb⟩
 have HA2 := h_ (HA.call hb)
 obtain ⟨n5, hv⟩ := hv
 obtain ⟨p1, q1, p2, q2, rfl⟩ := hv.form
 obtain ⟨vc, hvc⟩ := exq ((valOf (genV dn g limit)).cls)
 obtain ⟨vt, hvt⟩ := exq ((valOf (genV dn g limit)).tag)
 obtain ⟨vm, hvm⟩ := exq ((valOf (genV dn g limit)).made)
 obtain ⟨vl, hvl⟩ := exq ((valOf (genV dn g limit)).bytes.length)
 obtain ⟨vk, hvk⟩ := exq ((valOf (genV dn g limit)).kids.length)
 simp only [hvc, hvt, hvm, hvl, hvk]
 unfold dcells
 have HB3 := h_ ((HA2.lit (.cells #[.int .i64 vc, .int .i64 vt, .bool vm, .slice p1 vl q1, .slice p2 vk q2] 25)).b)
 obtain ⟨w3, hw3⟩ := exq (w2.alloc (.cells #[.int .i64 vc, .int .i64 vt, .bool vm, .slice p1 vl q1, .slice p2 vk q2] 25))
 rw [hw3] at HB3
 clear hv hb hvc hvt hvm hvl hvk k0 k1 k2 HV
 cases U <;> simp only [Bool.not_true, Bool.not_false] at z2 HT <;>
  (go_wp2
   go_ret
   exact ⟨by rw [u_ HT]; rfl, u_ HB3⟩)
theorem within_mach (dn : List (Bs × Bs) → Told DV) (w : World) (cs ds : List Value) (g l : Gen) (hg : GenAt w cs g) (hl : GenAt w ds l) (htg : g.text.length ≤ 1000000) (htl : l.text.length ≤ 1000000) (hdg : g.dir.length ≤ 1000000) (hdl : l.dir.length ≤ 1000000) (hkk : g.kind = l.kind) (h4 : g.kind = 2) (hr1 : refG dn g false = false) (hr2 : refG dn l true = false) (U : Bool) (hc : ∀ (wr : World) (s s2 : ByteArray), Below w.heap.size w wr → bs s = g.text → bs s2 = l.text → Calls Tryz.prog 70 #[.string s, .string s2] wr fun e w' => e = .returned (.bool U) ∧ Below wr.heap.size wr w') :
  Calls Tryz.prog 34 #[.agg cs.toArray, .agg ds.toArray] w fun e w' => e = .returned (.bool U) ∧ Below w.heap.size w w' := by
 have HG : Hid (∀ wr, Below w.heap.size w wr → GenAt wr cs g) := fun wr hb => hg.below hb
 have HL : Hid (∀ wr, Below w.heap.size w wr → GenAt wr ds l) := fun wr hb => hl.below hb
 obtain ⟨s, sp, c, rfl, hst, hdn⟩ := hg.form
 obtain ⟨s2, sp2, c2, rfl, hst2, hdn2⟩ := hl.form
 obtain ⟨k, hk⟩ := exq g.kind
 obtain ⟨n, hn⟩ := exq g.dir.length
 obtain ⟨k', hk'⟩ : ∃ k, l.kind = k := ⟨_, rfl⟩
 obtain ⟨n', hn'⟩ : ∃ n, l.dir.length = n := ⟨_, rfl⟩
 rw [hk, hn] at HG ⊢
 rw [hk', hn'] at HL ⊢
 have hkk2 : k = k' := by rw [← hk, ← hk']; exact hkk
 subst hkk2
 obtain rfl : k = 2 := hk.symm.trans h4
 have HRf : Hid (∀ wr, Below w.heap.size w wr → Calls Tryz.prog 68 #[.agg #[.int .i64 2, .string s, .slice sp n c], .bool false] wr fun e w' => e = .returned (.bool false) ∧ Below wr.heap.size wr w') := fun wr hb => by
  have := isref_c dn wr _ g false (u_ HG wr hb) (by omega) (by omega) (by rw [h4]; decide)
  rw [hr1] at this
  exact this
 have HRl : Hid (∀ wr, Below w.heap.size w wr → Calls Tryz.prog 68 #[.agg #[.int .i64 2, .string s2, .slice sp2 n' c2], .bool true] wr fun e w' => e = .returned (.bool false) ∧ Below wr.heap.size wr w') := fun wr hb => by
  have := isref_c dn wr _ l true (u_ HL wr hb) (by omega) (by omega) (by rw [← hkk, h4]; decide)
  rw [hr2] at this
  exact this
 obtain ⟨w1, X, hw1, eX, hA⟩ := blkN (Below.refl w.heap.size w) #[.int .i64 2, .string s, .slice sp n c] 56
 have hY := Blk.new hA.b #[.int .i64 2, .string s2, .slice sp2 n' c2] 56
 have hA1 := hA.lit (.cells #[.int .i64 2, .string s2, .slice sp2 n' c2] 56)
 obtain ⟨w2, hw2⟩ := exq (w1.alloc (.cells #[.int .i64 2, .string s2, .slice sp2 n' c2] 56))
 obtain ⟨Y, eY⟩ := exq w1.heap.size
 rw [hw2, eY] at hY
 rw [hw2] at hA1
 obtain ⟨k0, k1, k2⟩ := three_at hA1
 obtain ⟨j0, j1, j2⟩ := three_at hY
 have HA := h_ hA1
 have HY := h_ hY
 unfold gcells
 have HC : Hid (∀ wr, Below w.heap.size w wr → Calls Tryz.prog 70 #[.string s, .string s2] wr fun e w' => e = .returned (.bool U) ∧ Below wr.heap.size wr w') := fun wr hb => hc wr s s2 hb hst hst2
 clear hA hA1 hY hdn hdn2 hst hst2 hg hl hk hk' hn hn' hkk h4 HG HL hr1 hr2 hc
 go_enter Tryz.func34, Tryz.ntmps34
 go_wp2_with fail
 refine (u_ HRf w2 HA.b).mono ?_
 rintro e w3 ⟨rfl, hb⟩
 have HA3 := h_ (HA.call hb)
 have HY3 := h_ (HY.call hb)
 clear hb k0 k1 k2 j0 j1 j2 HA HY hw1 hw2 eY
 obtain ⟨k0, k1, k2⟩ := three_at (u_ HA3)
 obtain ⟨j0, j1, j2⟩ := three_at (u_ HY3)
 go_wp2_with fail
 refine (u_ HRl w3 HA3.b).mono ?_
 rintro e w4 ⟨rfl, hb⟩
 have HA4 := h_ (HA3.call hb)
 have HY4 := h_ (HY3.call hb)
 clear hb k0 k1 k2 j0 j1 j2 HA3 HY3
 obtain ⟨k0, k1, k2⟩ := three_at (u_ HA4)
 obtain ⟨j0, j1, j2⟩ := three_at (u_ HY4)
 go_wp2_with fail
 refine (u_ HC w4 HA4.b).mono ?_
 rintro e w5 ⟨rfl, hb⟩
 have HA5 := h_ (HA4.call hb)
 clear hb k0 k1 k2 j0 j1 j2 HA4 HY4
 go_wp2
 go_ret
 exact ⟨rfl, HA5.b⟩
end N
open Go.Lib (decDigits)
theorem ex_oid : oidT (.mk 0 6 false [42, 134, 72] []) = some [49, 46, 50, 46, 56, 52, 48] := by
 have h1 : rightV (.mk 0 6 false [42, 134, 72] []) = true := by decide +kernel
 have h2 : oidG [42, 134, 72] = some [42, 840] := by decide +kernel
 unfold oidT
 rw [if_pos ⟨rfl, rfl, h1⟩]
 simp only [DV.bytes]
 rw [h2]
 have d1 : decDigits 1 = [49] := Lib.decDigits_one (by omega)
 have d2 : decDigits 2 = [50] := Lib.decDigits_one (by omega)
 have d84 : decDigits 84 = [56, 52] := Lib.decDigits_two (by omega) (by omega)
 have d840 : decDigits 840 = [56, 52, 48] := by
  rw [Lib.decDigits, dif_neg (by omega)]
  show decDigits 84 ++ [UInt8.ofNat 48] = _
  rw [d84]
  rfl
 show some (decDigits 1 ++ 46 :: decDigits 2 ++ restT [840]) = _
 unfold restT
 simp [d1, d2, d840]
theorem ex_time : timeT (.mk 0 23 false [52, 57, 49, 50, 51, 49, 50, 51, 53, 57, 53, 57, 90] []) = (2524607999, 0) := by decide +kernel
theorem ex_mach : machW [97, 46, 66, 46, 101, 120, 97, 109, 112, 108, 101] [98, 46, 101, 120, 97, 109, 112, 108, 101] = true := by decide +kernel
def noDn : List (Bs × Bs) → Told DV := fun _ => .no 30
theorem ex_ref1 : refG noDn ⟨2, [97, 46, 66, 46, 101, 120, 97, 109, 112, 108, 101], []⟩ false = false := by decide +kernel
theorem ex_ref2 : refG noDn ⟨2, [98, 46, 101, 120, 97, 109, 112, 108, 101], []⟩ true = false := by decide +kernel
namespace N
open K
theorem leaf_new (w : World) (c t : Int) (l : Bs) (hl : l.length ≤ 9223372036854775807) : ValAt (fun k => w.heap.size ≤ k) (w.alloc (.cells (l.map bv).toArray 5)) [.int .i64 c, .int .i64 t, .bool false, .slice (some ⟨w.heap.size, 0, none⟩) l.length l.length, .slice none 0 0] (.mk c t false l []) := by
 refine ⟨1, _, none, 0, rfl, bytes_new w l, fun _ k hk => ?_, ?_, ?_, fun _ => rfl, fun h => absurd rfl h⟩
 ·simp [Value.ownBlock] at hk; omega
 ·exact ⟨by simpa [DV.bytes] using hl, by simp [DV.kids]⟩
 ·simp [DV.kids]
theorem gen_lit (w : World) (k : Int) (s : ByteArray) : GenAt w (gcells k s (.slice none 0 0)) ⟨k, bs s, []⟩ := ⟨s, none, 0, rfl, rfl, dn_nil w⟩
theorem bytes_mark (w : World) (l : Bs) (fr : Nat × Nat) : BytesAt (w.alloc (.cells (l.map bv).toArray 5 fr)) (.slice (some ⟨w.heap.size, 0, none⟩) l.length l.length) l := by
 refine ⟨_, _, by rw [List.length_map], by rw [List.length_map]; exact Nat.le_refl _, fun e => (by cases e), fun _ => ⟨w.heap.size, 0, rfl, fun j v hv => ?_⟩⟩
 have h1 := World.cell?_alloc_mark w (l.map bv).toArray 5 fr j
 rw [Nat.zero_add, h1, List.getElem?_toArray]
 exact hv
theorem leaf_mark (w : World) (c t : Int) (l : Bs) (fr : Nat × Nat) (hl : l.length ≤ 9223372036854775807) : ValAt (fun k => w.heap.size ≤ k) (w.alloc (.cells (l.map bv).toArray 5 fr)) [.int .i64 c, .int .i64 t, .bool false, .slice (some ⟨w.heap.size, 0, none⟩) l.length l.length, .slice none 0 0] (.mk c t false l []) := by
 refine ⟨1, _, none, 0, rfl, bytes_mark w l fr, fun _ k hk => ?_, ?_, ?_, fun _ => rfl, fun h => absurd rfl h⟩
 ·simp [Value.ownBlock] at hk; omega
 ·exact ⟨by simpa [DV.bytes] using hl, by simp [DV.kids]⟩
 ·simp [DV.kids]
theorem anchor_c (w0 : World) (hR : Rdy w0) : Calls Tryz.prog 9 #[] w0 fun e w' => e = .returned (.bool true) ∧ Below w0.heap.size w0 w' := by
 obtain ⟨w1, hw1⟩ := exq (w0.alloc (.cells #[.int .u8 42, .int .u8 134, .int .u8 72] 5))
 have hb1 := allocB hw1
 have hx1 : ValAt (fun k => w0.heap.size ≤ k) w1 [.int .i64 0, .int .i64 6, .bool false, .slice (some ⟨w0.heap.size, 0, none⟩) 3 3, .slice none 0 0] (.mk 0 6 false [42, 134, 72] []) := by rw [← hw1]; exact leaf_new w0 0 6 [42, 134, 72] (by decide)
 have Hc1 := h_ (oid_c w1 _ _ _ (hR.below hb1) hx1 (by decide))
 rw [ex_oid] at Hc1
 simp only [Option.getD_some, Option.isSome_some] at Hc1
 have HR := h_ hR
 have Hb1 := h_ hb1
 clear hR hx1 hb1
 go_enter Tryz.func9, Tryz.ntmps9
 go_wp2_with fail
 refine Hc1.mono ?_
 rintro e w2 ⟨rfl, hb⟩
 have Hb2 := h_ (Hb1.trans (hb.mono Hb1.size))
 clear hb hw1 Hc1 Hb1
 obtain ⟨w3a, hw3a⟩ := exq (w2.alloc (.cells #[.int .u8 52, .int .u8 57, .int .u8 49, .int .u8 50, .int .u8 51, .int .u8 49, .int .u8 50, .int .u8 51, .int .u8 53, .int .u8 57, .int .u8 53, .int .u8 57, .int .u8 90] 5))
 obtain ⟨w3, hw3⟩ := exq (w2.alloc (.cells #[.int .u8 52, .int .u8 57, .int .u8 49, .int .u8 50, .int .u8 51, .int .u8 49, .int .u8 50, .int .u8 51, .int .u8 53, .int .u8 57, .int .u8 53, .int .u8 57, .int .u8 90] 5 (13, 14)))
 have hcv : (convert 22 22 (.slice (some ⟨w2.heap.size, 0, none⟩) 13 13)).run Tryz.prog w3a = .ok (.slice (some ⟨w2.heap.size, 0, none⟩) 13 13) w3 := by
  rw [← hw3a, ← hw3]
  exact Lib.run_convert_bytes_const w2 22 5 #[.int .u8 52, .int .u8 57, .int .u8 49, .int .u8 50, .int .u8 51, .int .u8 49, .int .u8 50, .int .u8 51, .int .u8 53, .int .u8 57, .int .u8 53, .int .u8 57, .int .u8 90] 13 13 Tryz.underlying22 Tryz.underlying5
 have hb3 := allocB hw3
 have hx3 : ValAt (fun k => w2.heap.size ≤ k) w3 [.int .i64 0, .int .i64 23, .bool false, .slice (some ⟨w2.heap.size, 0, none⟩) 13 13, .slice none 0 0] (.mk 0 23 false [52, 57, 49, 50, 51, 49, 50, 51, 53, 57, 53, 57, 90] []) := by rw [← hw3]; exact leaf_mark w2 0 23 [52, 57, 49, 50, 51, 49, 50, 51, 53, 57, 53, 57, 90] (13, 14) (by decide)
 have Hb3 := h_ (Hb2.trans (hb3.mono Hb2.size))
 have Hc3 := h_ (time_c w3 _ _ _ (HR.below (u_ Hb3)).tabs hx3 (by decide))
 rw [ex_time] at Hc3
 clear hx3 hb3 Hb2 hw3
 go_wp2_with fail
 refine Hc3.mono ?_
 rintro e w4 ⟨rfl, hb⟩
 have Hb4 := h_ (Hb3.trans (hb.mono Hb3.size))
 clear hb hw3a hcv Hc3 Hb3
 have Hwi := h_ (within_mach noDn w4 _ _ _ _ (gen_lit w4 2 ⟨#[97, 46, 66, 46, 101, 120, 97, 109, 112, 108, 101]⟩) (gen_lit w4 2 ⟨#[98, 46, 101, 120, 97, 109, 112, 108, 101]⟩) (by decide) (by decide) (by decide) (by decide) rfl rfl ex_ref1 ex_ref2 true (fun wr s s2 hb h1 h2 => by
  have h1' : bs s = [97, 46, 66, 46, 101, 120, 97, 109, 112, 108, 101] := h1
  have h2' : bs s2 = [98, 46, 101, 120, 97, 109, 112, 108, 101] := h2
  have h := machw_c wr (HR.below (Hb4.trans (hb.mono Hb4.size))) s s2 (by rw [← bs_len, h1']; decide) (by rw [← bs_len, h2']; decide) (by rw [h1']; decide) (by rw [h2']; decide)
  rw [h1', h2', ex_mach] at h
  exact h))
 unfold gcells at Hwi
 go_wp2_with fail
 refine Hwi.mono ?_
 rintro e w5 ⟨rfl, hb⟩
 have Hb5 := h_ (Hb4.trans (hb.mono Hb4.size))
 clear hb Hwi Hb4
 go_wp2
 go_ret
 exact ⟨rfl, u_ Hb5⟩
end N
namespace Q
open N K
theorem qoid_bad (w : World) (n : Nat) (S : Nat → Prop) (cs : List Value) (v : DV) (hv : VAt n S w cs v) (hw : weight v ≤ 100000) (hr : rightV v = false) :
  Calls Tryz.prog 12 #[.agg cs.toArray] w fun e w' => e = .returned (.tuple #[.string (st []), .bool false]) ∧ Below w.heap.size w w' := by
 obtain ⟨s1, c1, s2, c2, rfl⟩ := hv.form
 obtain ⟨kc, kt, km, kl, kk, hkc, hkt, hkm, hkl, hkk⟩ := ex5 v
 rw [hkc, hkt, hkm, hkl, hkk] at hv ⊢
 obtain ⟨w1, X, hw1, eX, hA⟩ := blkN (Below.refl w.heap.size w) #[.int .i64 kc, .int .i64 kt, .bool km, .slice s1 kl c1, .slice s2 kk c2] 33
 obtain ⟨k0, k1, k2, k3, k4⟩ := five_at hA
 have HA := h_ hA
 have Hcan := h_ (can_q n S v w1 _ (hv.below hA.b) hw)
 rw [hr] at Hcan
 unfold dcells at Hcan ⊢
 clear hA hv hw hkc hkt hkm hkl hkk hr
 go_enter Tryz.func12, Tryz.ntmps12
 go_wp2_with fail
 refine Hcan.mono ?_
 rintro e w2 ⟨rfl, hb⟩
 have HA := h_ (HA.call hb)
 clear hb k0 k1 k2 k3 k4 hw1
 obtain ⟨k0, k1, k2, k3, k4⟩ := five_at (u_ HA)
 go_wp2
 go_ret2
 exact ⟨rfl, by first | exact HA.b | (rw [← eX]; exact HA.b)⟩
theorem qoid_cls (w : World) (n : Nat) (S : Nat → Prop) (cs : List Value) (v : DV) (hv : VAt n S w cs v) (hw : weight v ≤ 100000) (hr : rightV v = true) (hc : v.cls ≠ 0) :
  Calls Tryz.prog 12 #[.agg cs.toArray] w fun e w' => e = .returned (.tuple #[.string (st []), .bool false]) ∧ Below w.heap.size w w' := by
 obtain ⟨s1, c1, s2, c2, rfl⟩ := hv.form
 obtain ⟨kc, kt, km, kl, kk, hkc, hkt, hkm, hkl, hkk⟩ := ex5 v
 rw [hkc, hkt, hkm, hkl, hkk] at hv ⊢
 obtain ⟨w1, X, hw1, eX, hA⟩ := blkN (Below.refl w.heap.size w) #[.int .i64 kc, .int .i64 kt, .bool km, .slice s1 kl c1, .slice s2 kk c2] 33
 obtain ⟨k0, k1, k2, k3, k4⟩ := five_at hA
 have HA := h_ hA
 have Hcan := h_ (can_q n S v w1 _ (hv.below hA.b) hw)
 rw [hr] at Hcan
 unfold dcells at Hcan ⊢
 rw [hkc] at hc
 have d1 : (kc != 0) = true := by simpa using hc
 have d2 : (kc == 0) = false := by simpa using hc
 clear hc
 clear hA hv hw hkc hkt hkm hkl hkk hr
 go_enter Tryz.func12, Tryz.ntmps12
 go_wp2_with fail
 refine Hcan.mono ?_
 rintro e w2 ⟨rfl, hb⟩
 have HA := h_ (HA.call hb)
 clear hb k0 k1 k2 k3 k4 hw1
 obtain ⟨k0, k1, k2, k3, k4⟩ := five_at (u_ HA)
 go_wp2
 go_ret2
 exact ⟨rfl, by first | exact HA.b | (rw [← eX]; exact HA.b)⟩
theorem qoid_tag (w : World) (n : Nat) (S : Nat → Prop) (cs : List Value) (v : DV) (hv : VAt n S w cs v) (hw : weight v ≤ 100000) (hr : rightV v = true) (hc : v.cls = 0) (ht : v.tag ≠ 6) :
  Calls Tryz.prog 12 #[.agg cs.toArray] w fun e w' => e = .returned (.tuple #[.string (st []), .bool false]) ∧ Below w.heap.size w w' := by
 obtain ⟨s1, c1, s2, c2, rfl⟩ := hv.form
 obtain ⟨kc, kt, km, kl, kk, hkc, hkt, hkm, hkl, hkk⟩ := ex5 v
 rw [hkc, hkt, hkm, hkl, hkk] at hv ⊢
 obtain ⟨w1, X, hw1, eX, hA⟩ := blkN (Below.refl w.heap.size w) #[.int .i64 kc, .int .i64 kt, .bool km, .slice s1 kl c1, .slice s2 kk c2] 33
 obtain ⟨k0, k1, k2, k3, k4⟩ := five_at hA
 have HA := h_ hA
 have Hcan := h_ (can_q n S v w1 _ (hv.below hA.b) hw)
 rw [hr] at Hcan
 unfold dcells at Hcan ⊢
 rw [hkc] at hc
 rw [hkt] at ht
 subst hc
 have d1 : (kt != 6) = true := by simpa using ht
 have d2 : (kt == 6) = false := by simpa using ht
 clear ht
 clear hA hv hw hkc hkt hkm hkl hkk hr
 go_enter Tryz.func12, Tryz.ntmps12
 go_wp2_with fail
 refine Hcan.mono ?_
 rintro e w2 ⟨rfl, hb⟩
 have HA := h_ (HA.call hb)
 clear hb k0 k1 k2 k3 k4 hw1
 obtain ⟨k0, k1, k2, k3, k4⟩ := five_at (u_ HA)
 go_wp2
 go_ret2
 exact ⟨rfl, by first | exact HA.b | (rw [← eX]; exact HA.b)⟩
end Q
theorem oidText_len {gs : List Nat} (h : ∀ g ∈ gs, g < 1099511627776) : (oidTextG gs).length ≤ 14 * (gs.length + 1) := by
 have hd : ∀ n, n < 1099511627776 → (Lib.decDigits n).length ≤ 13 := fun n hn => dec_lenQ 12 n (by omega)
 cases gs with
 | nil => simp [oidTextG]
 | cons g r =>
  have hr : ∀ l : List Nat, (∀ x ∈ l, x < 1099511627776) → (restT l).length ≤ 14 * l.length := fun l => by
   induction l with
   | nil => intro _; simp [restT]
   | cons x l ih =>
    intro hx
    have e : restT (x :: l) = 46 :: Lib.decDigits x ++ restT l := by unfold restT; simp
    rw [e, List.length_append, List.length_cons, List.length_cons]
    have := hd x (hx x List.mem_cons_self)
    have := ih (fun y hy => hx y (List.mem_cons_of_mem _ hy))
    omega
  have e : oidTextG (g :: r) = Lib.decDigits (min (g / 40) 2) ++ 46 :: Lib.decDigits (g - 40 * min (g / 40) 2) ++ restT r := rfl
  have hg := h g List.mem_cons_self
  have h1 := hd (min (g / 40) 2) (by omega)
  have h2 := hd (g - 40 * min (g / 40) 2) (by omega)
  have h3 := hr r (fun y hy => h y (List.mem_cons_of_mem _ hy))
  rw [e, List.length_append, List.length_append, List.length_cons, List.length_cons]
  omega
theorem oidText_snoc {gs : List Nat} (h : gs ≠ []) (n : Nat) : oidTextG (gs ++ [n]) = oidTextG gs ++ 46 :: Lib.decDigits n := by
 cases gs with
 | nil => exact absurd rfl h
 | cons g r =>
  show Lib.decDigits (min (g / 40) 2) ++ 46 :: Lib.decDigits (g - 40 * min (g / 40) 2) ++ restT (r ++ [n]) = Lib.decDigits (min (g / 40) 2) ++ 46 :: Lib.decDigits (g - 40 * min (g / 40) 2) ++ restT r ++ 46 :: Lib.decDigits n
  rw [restT_snoc]
  simp
namespace Q
open N K
def OidA (v : DV) (w : World) (e : Ending) (w' : World) : Prop := ∃ (t : ByteArray), e = .returned (.tuple #[.string t, .bool (oidT v).isSome]) ∧ (∀ x, oidT v = some x → t = st x) ∧ Below w.heap.size w w'
theorem qoid_main (w : World) (n : Nat) (S : Nat → Prop) (cs : List Value) (v : DV) (hv : VAt n S w cs v) (hw : weight v ≤ 100000) (hr : rightV v = true) (hc : v.cls = 0) (ht : v.tag = 6) :
  Calls Tryz.prog 12 #[.agg cs.toArray] w fun e w' => ∃ (t : ByteArray), e = .returned (.tuple #[.string t, .bool (oidT v).isSome]) ∧ (∀ x, oidT v = some x → t = st x) ∧ Below w.heap.size w w' := by
 obtain ⟨_, hoid⟩ := right_oid hr hc ht
 have HE : Hid (oidT v = (oidG v.bytes).map oidTextG) := by show _ = _; unfold oidT; rw [if_pos ⟨hc, ht, hr⟩]
 have hlb : v.bytes.length ≤ 100000 := by obtain ⟨_, _, _, b, _⟩ := v; simp only [weight] at hw; simp only [DV.bytes]; omega
 obtain ⟨b, hb0⟩ := exq v.bytes
 rw [hb0] at HE hoid hlb
 obtain ⟨s1, c1, s2, c2, rfl⟩ := hv.form
 obtain ⟨kc, kt, km, kl, kk, hkc, hkt, hkm, hkl, hkk⟩ := ex5 v
 rw [hkc, hkt, hkm, hkl, hkk] at hv ⊢
 obtain rfl : kc = 0 := hkc.symm.trans hc
 obtain rfl : kt = 6 := hkt.symm.trans ht
 have hkl2 : b.length = kl := by rw [← hb0]; exact hkl
 rw [hkl2] at hlb
 obtain ⟨w1, X, hw1, eX, hA⟩ := blkN (Below.refl w.heap.size w) #[.int .i64 0, .int .i64 6, .bool km, .slice s1 kl c1, .slice s2 kk c2] 33
 obtain ⟨k0, k1, k2, k3, k4⟩ := five_at hA
 have HA := h_ hA
 have Hcan := h_ (can_q n S v w1 _ (hv.below hA.b) hw)
 rw [hr] at Hcan
 have hx : BytesAt w (.slice s1 kl c1) b := by
  cases n with
  | zero => exact hv.elim
  | succ n =>
   obtain ⟨xb, sk, ck, e, h1, _⟩ := hv
   simp only [dcells, List.cons.injEq] at e
   rw [e.2.2.2.1, ← hb0]
   exact h1
 have HX : Hid (∀ (k : Nat) (wr : World), k < kl → Below w.heap.size w wr → ∃ (ba oa p : Nat), s1 = some ⟨ba, oa, none⟩ ∧ (b.getD k 0).toNat = p ∧ p < 256 ∧ wr.cell? ⟨ba, oa + k, none⟩ = some (.int .u8 (p : Int))) := fun k wr hk hb => by
  obtain ⟨ba, oa, p, e1, e2, e3, e4⟩ := byte_at (hx.below hb) hkl2 k hk
  exact ⟨ba, oa, p, e1, e2, e3, e4⟩
 have HL := h_ hkl2
 have Hoid := h_ hoid
 have HDg : Hid (∀ (x : Nat) (wr : World), x < 1099511627776 → Calls Tryz.prog 41 #[.int .i64 (x : Int)] wr fun e w' => e = .returned (.string (st (Lib.decDigits x))) ∧ Below wr.heap.size wr w') := fun x wr hx => digits_q (x + 1) x wr (by omega) (by omega)
 have HDl : Hid (∀ x : Nat, x < 1099511627776 → (Lib.decDigits x).length ≤ 13) := fun x hx => dec_lenQ 12 x (by omega)
 unfold dcells at Hcan ⊢
 clear hA hv hw hkc hkt hkm hkl hkk hr hc ht hoid hx hkl2 hb0
 go_enter Tryz.func12, Tryz.ntmps12
 go_wp2_with fail
 refine Hcan.mono ?_
 rintro e w2 ⟨rfl, hb⟩
 have HA := h_ (HA.call hb)
 clear hb k0 k1 k2 k3 k4 hw1 Hcan
 obtain ⟨k0, k1, k2, k3, k4⟩ := five_at (u_ HA)
 go_wp2
 clear k0 k1 k2 k3 k4
 go_loopw [4, 5, 6, 7] (fun ss nn cc ii wr => ∃ (k n c : Nat) (tx : Bs) (gs : List Nat), k ≤ kl ∧ n < 1099511627776 ∧ c ≤ k + 1 ∧ tx.length ≤ 14 * (k + 1) ∧ ss = .string (st tx) ∧ nn = .int .i64 (n : Int) ∧ cc = .int .i64 (c : Int) ∧ ii = .int .i64 (k : Int) ∧ Hid (gFold (b.take k) = some (gs, n)) ∧ Hid (tx = oidTextG gs) ∧ Hid ((gs = [] → c = 0) ∧ (gs ≠ [] → c = gs.length + 1)) ∧ Hid (Blk w wr X #[.int .i64 0, .int .i64 6, .bool km, .slice s1 kl c1, .slice s2 kk c2] 33)) (fun _ _ _ ii _ => kl - (intOf ii).toNat)
 case atStart => exact ⟨0, 0, 0, [], [], by omega, by omega, by omega, by simp, rfl, rfl, rfl, rfl, rfl, rfl, ⟨fun _ => rfl, fun h => absurd rfl h⟩, HA⟩
 case round =>
  clear HA
  obtain ⟨k, n, c, tx, gs, hk, hn, hck, htl, rfl, rfl, rfl, rfl, HG, HT, HC, HA⟩ := hrel
  obtain ⟨k0, k1, k2, k3, k4⟩ := five_at (u_ HA)
  clear k0 k1 k2 k4
  by_cases hlt : k < kl
  ·obtain ⟨ba, oa, p, rfl, hp, hp2, hcell⟩ := u_ HX k wr hlt HA.b
   obtain ⟨f1, f1n⟩ := ltVV k kl
   have b0 : (0 : Int) ≤ (k : Int) := by omega
   have b1 : (k : Int) < (kl : Int) := by omega
   obtain ⟨q, hq⟩ := exq (p % 128)
   obtain ⟨a2, ha2⟩ := exq (128 * n)
   obtain ⟨a3, ha3⟩ := exq (a2 + q)
   have e1 : (128 : Int) * (n : Int) = (a2 : Int) := by omega
   have e2 : (p : Int) % 128 = (q : Int) := by omega
   have e2t : (p : Int).tmod 128 = (q : Int) := by rw [Int.tmod_eq_emod_of_nonneg (by omega)]; exact e2
   have e3 : (a2 : Int) + (q : Int) = (a3 : Int) := by omega
   have bq : q < 128 := by omega
   have ba2 : a2 < 140737488355328 := by omega
   have HS : Hid (gFold (b.take (k + 1)) = if 1099511627776 ≤ a3 then none else some (if p < 128 then (gs ++ [a3], 0) else (gs, a3))) := by
    show _ = _
    rw [gFold_take (by have := u_ HL; omega), u_ HG]
    show gStep (gs, n) (b.getD k 0) = _
    unfold gStep
    rw [hp, hq]
    simp only [show 128 * n + q = a3 by omega]
   clear hp hq ha2
   by_cases hbig : 1099511627776 ≤ a3
   ·have HF : Hid (oidT v = none) := by
     show _ = _
     rw [u_ HE, oidG_no (i := k + 1) (by rw [u_ HS, if_pos hbig])]
     rfl
    obtain ⟨z1, z1n⟩ := leLV 1099511627776 1099511627776 a3
    clear HS HG ha3 HC HT
    go_wp2
    go_ret2
    exact ⟨_, by rw [u_ HF]; rfl, fun x hx => (by rw [u_ HF] at hx; cases hx), HA.b⟩
   obtain ⟨z1, z1n⟩ := leLVf 1099511627776 1099511627776 a3
   have HS2 : Hid (gFold (b.take (k + 1)) = some (if p < 128 then (gs ++ [a3], 0) else (gs, a3))) := by show _ = _; rw [u_ HS, if_neg hbig]
   clear HS ha3
   by_cases h128 : p < 128
   case neg =>
    obtain ⟨z3, z3n⟩ := leLV 128 128 p
    have HS3 : Hid (gFold (b.take (k + 1)) = some (gs, a3)) := by show _ = _; rw [u_ HS2, if_neg h128]
    clear HG HS2
    go_wp2
    go_roundw
    case rel =>
     first
      | exact ⟨k + 1, a3, c, tx, gs, by omega, by omega, by omega, by omega, rfl, rfl, rfl, by go_num, HS3, HT, HC, HA⟩
      | ((repeat apply Exists.intro); exact ⟨⟨k + 1, a3, c, tx, gs, by omega, by omega, by omega, by omega, rfl, rfl, rfl, by go_num, HS3, HT, HC, HA⟩, rfl⟩)
    case measure => simp [intOf]; omega
   obtain ⟨z3, z3n⟩ := leLVf 128 128 p
   have HS3 : Hid (gFold (b.take (k + 1)) = some (gs ++ [a3], 0)) := by show _ = _; rw [u_ HS2, if_pos h128]
   have b40 : a3 < 1099511627776 := by omega
   clear HG HS2
   by_cases hgs : gs = []
   ·obtain rfl : c = 0 := HC.1 hgs
    subst hgs
    obtain ⟨a, ha⟩ := exq (a3 / 40)
    obtain ⟨F, hF⟩ := exq (min a 2)
    obtain ⟨D, hD⟩ := exq (a3 - 40 * F)
    have ea : (a3 : Int) / 40 = (a : Int) := by omega
    have eat : (a3 : Int).tdiv 40 = (a : Int) := by rw [Int.tdiv_eq_ediv_of_nonneg (by omega)]; exact ea
    have eF : min (a : Int) 2 = (F : Int) := by omega
    obtain ⟨F40, hF40⟩ := exq (40 * F)
    have eF40 : (40 : Int) * (F : Int) = (F40 : Int) := by omega
    have eD : (a3 : Int) - (F40 : Int) = (D : Int) := by omega
    have bF : F ≤ 2 := by omega
    have bF40 : F40 ≤ 80 := by omega
    have bD : D < 1099511627776 := by omega
    have ba1 : a < 1099511627776 := by omega
    obtain ⟨tF, htF⟩ := exq (Lib.decDigits F)
    obtain ⟨tD, htD⟩ := exq (Lib.decDigits D)
    obtain ⟨t1, ht1⟩ := exq (tF ++ [46] : Bs)
    obtain ⟨t2, ht2⟩ := exq (t1 ++ tD : Bs)
    have ltF : tF.length ≤ 13 := by rw [← htF]; exact u_ HDl F (by omega)
    have ltD : tD.length ≤ 13 := by rw [← htD]; exact u_ HDl D (by omega)
    have lt1 : t1.length ≤ 14 := by rw [← ht1, List.length_append, List.length_singleton]; omega
    have lt2 : t2.length ≤ 27 := by rw [← ht2, List.length_append]; omega
    have cc1 := cat_str tF [46] t1 ht1 (by simp; omega)
    have cc2 := cat_str t1 tD t2 ht2 (by omega)
    have Htx : Hid (t2 = oidTextG ([] ++ [a3])) := by
     show t2 = Lib.decDigits (min (a3 / 40) 2) ++ 46 :: Lib.decDigits (a3 - 40 * min (a3 / 40) 2) ++ restT []
     rw [ha, hF, hD, htF, htD, ← ht2, ← ht1]
     simp [restT]
    have H5 : Hid (∀ wr : World, Calls Tryz.prog 41 #[.int .i64 (F : Int)] wr fun e w' => e = .returned (.string (st tF)) ∧ Below wr.heap.size wr w') := fun wr => by rw [← htF]; exact u_ HDg F wr (by omega)
    have H6 : Hid (∀ wr : World, Calls Tryz.prog 41 #[.int .i64 (D : Int)] wr fun e w' => e = .returned (.string (st tD)) ∧ Below wr.heap.size wr w') := fun wr => by rw [← htD]; exact u_ HDg D wr (by omega)
    have HC2 : Hid ((([] ++ [a3] : List Nat) = [] → 2 = 0) ∧ (([] ++ [a3] : List Nat) ≠ [] → 2 = ([] ++ [a3] : List Nat).length + 1)) := ⟨fun h => by simp at h, fun _ => rfl⟩
    clear HC HT htF htD ht1 ht2 hD hF40 ha
    by_cases h2 : 2 < a
    ·obtain rfl : F = 2 := by omega
     obtain ⟨y1, y1n⟩ := ltLV 2 2 a
     have H5 : Hid (∀ wr : World, Calls Tryz.prog 41 #[.int .i64 2] wr fun e w' => e = .returned (.string (st tF)) ∧ Below wr.heap.size wr w') := u_ H5
     have eD80 : (a3 : Int) - 80 = (D : Int) := by omega
     clear hF eF eF40 eD bF40
     go_wp2_with fail
     refine (u_ H5 wr).mono ?_
     rintro e w5 ⟨rfl, hb⟩
     have HA5 := h_ (HA.call hb)
     clear hb k3 hcell HA
     go_wp2_with fail
     refine (u_ H6 w5).mono ?_
     rintro e w6 ⟨rfl, hb⟩
     have HA6 := h_ (HA5.call hb)
     clear hb HA5
     go_wp2
     go_roundw
     case rel =>
      first
       | exact ⟨k + 1, 0, 2, t2, [] ++ [a3], by omega, by omega, by omega, by omega, rfl, rfl, rfl, by go_num, HS3, Htx, HC2, HA6⟩
       | ((repeat apply Exists.intro); exact ⟨⟨k + 1, 0, 2, t2, [] ++ [a3], by omega, by omega, by omega, by omega, rfl, rfl, rfl, by go_num, HS3, Htx, HC2, HA6⟩, rfl⟩)
     case measure => simp [intOf]; omega
    ·obtain rfl : F = a := by omega
     obtain ⟨y1, y1n⟩ := ltLVf 2 2 F
     clear hF eF
     go_wp2_with fail
     refine (u_ H5 wr).mono ?_
     rintro e w5 ⟨rfl, hb⟩
     have HA5 := h_ (HA.call hb)
     clear hb k3 hcell HA
     go_wp2_with fail
     refine (u_ H6 w5).mono ?_
     rintro e w6 ⟨rfl, hb⟩
     have HA6 := h_ (HA5.call hb)
     clear hb HA5
     go_wp2
     go_roundw
     case rel =>
      first
       | exact ⟨k + 1, 0, 2, t2, [] ++ [a3], by omega, by omega, by omega, by omega, rfl, rfl, rfl, by go_num, HS3, Htx, HC2, HA6⟩
       | ((repeat apply Exists.intro); exact ⟨⟨k + 1, 0, 2, t2, [] ++ [a3], by omega, by omega, by omega, by omega, rfl, rfl, rfl, by go_num, HS3, Htx, HC2, HA6⟩, rfl⟩)
     case measure => simp [intOf]; omega
   ·have hcc := HC.2 hgs
    obtain ⟨tn, htn⟩ := exq (Lib.decDigits a3)
    obtain ⟨t1, ht1⟩ := exq (tx ++ [46] : Bs)
    obtain ⟨t2, ht2⟩ := exq (t1 ++ tn : Bs)
    have ltn : tn.length ≤ 13 := by rw [← htn]; exact u_ HDl a3 (by omega)
    have lt1 : t1.length ≤ 14 * (k + 1) + 1 := by rw [← ht1, List.length_append, List.length_singleton]; omega
    have lt2 : t2.length ≤ 14 * (k + 1 + 1) := by rw [← ht2, List.length_append]; omega
    have cc1 := cat_str tx [46] t1 ht1 (by simp; omega)
    have cc2 := cat_str t1 tn t2 ht2 (by omega)
    have Htx : Hid (t2 = oidTextG (gs ++ [a3])) := by
     show _ = _
     rw [oidText_snoc hgs, htn, ← ht2, ← ht1, u_ HT]
     simp
    have H6 : Hid (∀ wr : World, Calls Tryz.prog 41 #[.int .i64 (a3 : Int)] wr fun e w' => e = .returned (.string (st tn)) ∧ Below wr.heap.size wr w') := fun wr => by rw [← htn]; exact u_ HDg a3 wr (by omega)
    have HC2 : Hid ((gs ++ [a3] = [] → c + 1 = 0) ∧ (gs ++ [a3] ≠ [] → c + 1 = (gs ++ [a3]).length + 1)) := ⟨fun h => by simp at h, fun _ => by rw [List.length_append, List.length_singleton]; omega⟩
    have y1 : ((c : Int) == 0) = false := by simp; omega
    clear HC HT htn ht1 ht2 hcc
    go_wp2_with fail
    refine (u_ H6 wr).mono ?_
    rintro e w6 ⟨rfl, hb⟩
    have HA6 := h_ (HA.call hb)
    clear hb k3 hcell HA
    go_wp2
    go_roundw
    case rel =>
     first
      | exact ⟨k + 1, 0, c + 1, t2, gs ++ [a3], by omega, by omega, by omega, by omega, rfl, rfl, by go_num, by go_num, HS3, Htx, HC2, HA6⟩
      | ((repeat apply Exists.intro); exact ⟨⟨k + 1, 0, c + 1, t2, gs ++ [a3], by omega, by omega, by omega, by omega, rfl, rfl, by go_num, by go_num, HS3, Htx, HC2, HA6⟩, rfl⟩)
    case measure => simp [intOf]; omega
  ·obtain ⟨f1, f1n⟩ := ltVVf k kl
   obtain ⟨C, hC⟩ := exq (decide (c ≤ 20))
   have hCz : decide ((c : Int) ≤ 20) = C := by rw [← hC, decide_eq_decide]; omega
   have HF : Hid ((oidT v).isSome = C ∧ ∀ x, oidT v = some x → tx = x) := by
    have hG : gFold b = some (gs, n) := by
     have := u_ HG
     rw [List.take_of_length_le (by have := u_ HL; omega)] at this
     exact this
    obtain ⟨_, hne⟩ := oidG_end (u_ Hoid) hG
    have hc2 := HC.2 hne
    rw [u_ HE]
    unfold oidG
    rw [hG]
    simp only
    by_cases h19 : gs.length ≤ 19
    ·rw [if_pos h19, ← hC, decide_eq_true (by omega)]
     refine ⟨rfl, fun x hx => ?_⟩
     rw [Option.map_some, Option.some.injEq] at hx
     rw [← hx, u_ HT]
    ·rw [if_neg h19, ← hC, decide_eq_false (by omega)]
     exact ⟨rfl, fun x hx => by cases hx⟩
   clear HG HT HC hC
   go_wp2
   go_ret2
   exact ⟨st tx, by rw [HF.1]; rfl, fun x hx => (by rw [HF.2 x hx]), HA.b⟩
theorem qoid_c (w : World) (n : Nat) (S : Nat → Prop) (cs : List Value) (v : DV) (hv : VAt n S w cs v) (hw : weight v ≤ 100000) : Calls Tryz.prog 12 #[.agg cs.toArray] w (OidA v w) := by
 have key : ¬ (v.cls = 0 ∧ v.tag = 6 ∧ rightV v = true) → oidT v = none := fun h => by unfold oidT; rw [if_neg h]
 cases hr : rightV v with
 | false =>
  refine (qoid_bad w n S cs v hv hw hr).mono fun e w' h => ?_
  have h0 := key (by rw [hr]; simp)
  exact ⟨st [], by rw [h0]; exact h.1, fun x hx => (by rw [h0] at hx; cases hx), h.2⟩
 | true =>
  by_cases hc : v.cls = 0
  ·by_cases ht : v.tag = 6
   ·exact qoid_main w n S cs v hv hw hr hc ht
   ·refine (qoid_tag w n S cs v hv hw hr hc ht).mono fun e w' h => ?_
    have h0 := key (fun h => ht h.2.1)
    exact ⟨st [], by rw [h0]; exact h.1, fun x hx => (by rw [h0] at hx; cases hx), h.2⟩
  ·refine (qoid_cls w n S cs v hv hw hr hc).mono fun e w' h => ?_
   have h0 := key (fun h => hc h.1)
   exact ⟨st [], by rw [h0]; exact h.1, fun x hx => (by rw [h0] at hx; cases hx), h.2⟩
end Q
theorem oidV_weight (s : Bs) : weight (oidV s) ≤ 1000 := by
 cases h : oidVP s with
 | none => rw [oidV_no h]; decide
 | some gs =>
  rw [oidV_yes h]
  have := (oid_there h).2
  unfold oidDV weight
  simp only [weights]
  omega
theorem oidT_V (s : Bs) : oidT (oidV s) = (oidVP s).map fun _ => s := by
 cases h : oidVP s with
 | none => rw [oidV_no h]; rfl
 | some gs => rw [oidV_yes h, (oid_there h).1]; rfl
theorem oidT_len {v : DV} {x : Bs} (h : oidT v = some x) : x.length ≤ 1000 := by
 obtain ⟨gs, _, e2, e3, rfl, _⟩ := oidT_yes h
 obtain ⟨k1, _, k3, _⟩ := oidG_open e3 e2
 have := oidText_len k3
 omega
namespace Q
open N K
end Q
end Go.Proofs.YtcofnockikninaaGreatDoor
