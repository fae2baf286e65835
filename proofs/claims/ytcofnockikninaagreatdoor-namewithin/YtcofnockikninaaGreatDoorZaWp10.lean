/- Parts of the walk. -/
import Derived.Test.YtcofnockikninaaGreatDoorZaNn
import Derived.Lib.TrimAscii
import Derived.Lib.MapLaws
import Derived.Lib.SplitLaws
import Derived.Test.YtcofnockikninaaGreatDoorZaOq10
set_option maxRecDepth 100000
set_option maxHeartbeats 8000000
namespace Go.Proofs.YtcofnockikninaaGreatDoor
open Go.RowKit
def smallC (c : UInt8) : UInt8 := if capN c.toNat = true then UInt8.ofNat (c.toNat + 32) else c
def smallB (l : Bs) : Bs := l.map smallC
def labelP (l : Bs) : Bool := !decide (l = []) && decide (l.length ≤ 63) && (l.all fun c => labN c.toNat) && !decide ((l.getD 0 0).toNat = 45) && !decide ((l.getD (l.length - 1) 0).toNat = 45)
def machP (l : Bs) : Bool := (Lib.split l [46]).all labelP
def machW (m l : Bs) : Bool := machP (smallB m) && (decide (smallB l = []) || decide (smallB m = smallB l) || Lib.hasSuffix (smallB m) (46 :: smallB l))
theorem asc_at {s : Bs} (h : ascP s = true) : ∀ c ∈ s, c.toNat < 128 := fun c hc => by
 unfold ascP at h
 rw [List.all_eq_true] at h
 exact of_decide_eq_true (h c hc)
theorem capN_iff (r : Nat) : capN r = true ↔ 65 ≤ r ∧ r ≤ 90 := by unfold capN; simp
namespace N
open K
def smallZ (r : Int) : Int := if 65 ≤ r ∧ r ≤ 90 then r + 32 else r
theorem mapD_small : ∀ (l : Bs), (∀ c ∈ l, c.toNat < 128) → Lib.mapD smallZ l = smallB l
 | [], _ => rfl
 | b :: t, h => by
  have hb := h b List.mem_cons_self
  have hd := Lib.decodeL_ascii b t hb
  rw [Lib.mapD_step smallZ (b :: t) (by simp), hd]
  simp only [List.drop_succ_cons, List.drop_zero]
  rw [mapD_small t (fun c hc => h c (List.mem_cons_of_mem _ hc))]
  show _ = smallC b :: smallB t
  have e : (if 0 ≤ smallZ (b.toNat : Int) then Lib.encodeRune (smallZ (b.toNat : Int)) else []) = [smallC b] := by
   unfold smallZ smallC
   by_cases hc : capN b.toNat = true
   ·have h2 := (capN_iff _).1 hc
    rw [if_pos hc, if_pos (show (65 : Int) ≤ (b.toNat : Int) ∧ (b.toNat : Int) ≤ 90 by omega), if_pos (by omega)]
    unfold Lib.encodeRune
    rw [Lib.encodeRuneZ_one (by omega) (by omega)]
    simp only [List.map_cons, List.map_nil]
    congr 1
   ·have h2 : ¬ (65 ≤ b.toNat ∧ b.toNat ≤ 90) := fun h => hc ((capN_iff _).2 h)
    rw [if_neg hc, if_neg (show ¬ ((65 : Int) ≤ (b.toNat : Int) ∧ (b.toNat : Int) ≤ 90) by omega), if_pos (by omega)]
    unfold Lib.encodeRune
    rw [Lib.encodeRuneZ_one (by omega) (by omega)]
    simp only [List.map_cons, List.map_nil, Int.toNat_natCast]
    congr 1
    simp
  rw [e]
  rfl
theorem smallr_c (r : Nat) (hr : r ≤ 1114111) (w : World) : Calls Tryz.prog 117 #[.int .i32 (r : Int)] w fun e w' => e = .returned (.int .i32 (smallZ (r : Int))) ∧ w' = w := by
 have HC := h_ (iscap_c r (by omega) w)
 by_cases h : capN r = true
 ·have h2 := (capN_iff r).1 h
  rw [h] at HC
  obtain ⟨q, hq⟩ := exq (r - 65)
  obtain ⟨p, hp⟩ := exq (q + 97)
  have e1 : (r : Int) - 65 = (q : Int) := by omega
  have e2 : (q : Int) + 97 = (p : Int) := by omega
  have HT : Hid (smallZ (r : Int) = (p : Int)) := by show _ = _; unfold smallZ; rw [if_pos (by omega)]; omega
  clear hq hp
  go_enter Tryz.func117, Tryz.ntmps117
  go_wp2_with (go_at_call 147; refine HC.mono ?_; rintro e w' ⟨rfl, hw⟩; obtain rfl := hw)
  go_ret
  exact ⟨by rw [u_ HT]; rfl, rfl⟩
 ·have h' : capN r = false := by simpa using h
  have h2 : ¬ (65 ≤ r ∧ r ≤ 90) := fun k => h ((capN_iff r).2 k)
  rw [h'] at HC
  have HT : Hid (smallZ (r : Int) = (r : Int)) := by show _ = _; unfold smallZ; rw [if_neg (by omega)]
  clear h h' h2
  go_enter Tryz.func117, Tryz.ntmps117
  go_wp2_with (go_at_call 147; refine HC.mono ?_; rintro e w' ⟨rfl, hw⟩; obtain rfl := hw)
  go_ret
  exact ⟨by rw [u_ HT]; rfl, rfl⟩
theorem small_c (w : World) (hR : Rdy w) (s : ByteArray) (hs : s.size ≤ 1000000000) (ha : ascP (bs s) = true) : Calls Tryz.prog 96 #[.string s] w fun e w' => e = .returned (.string (st (smallB (bs s)))) ∧ Below w.heap.size w w' := by
 have hm := Tryz.strings_Map_runes 117 #[] (enters_of Tryz.func117 (by kernel_rfl) rfl) smallZ s w (by omega)
  (fun W x hx _ => (smallr_c x hx W).mono fun e w' h => ⟨h.1, 0, h.2⟩)
  (fun x hx => by unfold smallZ; split <;> omega) hR.tabs
 have e : Lib.mapD smallZ s.data.toList = smallB (bs s) := mapD_small (bs s) (asc_at ha)
 rw [e] at hm
 have Hm := h_ hm
 clear hm e ha
 go_enter Tryz.func96, Tryz.ntmps96
 go_wp2_with fail
 refine Hm.mono ?_
 rintro e w2 ⟨rfl, hb⟩
 have HB := h_ hb
 clear hb
 go_wp2
 go_ret
 exact ⟨rfl, u_ HB⟩
theorem islabel_c (w : World) (s : ByteArray) (hs : s.size ≤ 1000000000) : Calls Tryz.prog 115 #[.string s] w fun e w' => e = .returned (.bool (labelP (bs s))) ∧ Below w.heap.size w w' := by
 obtain ⟨N, hN⟩ := exq s.size
 have hl : (bs s).length = N := by rw [bs_len, hN]
 have bN : N ≤ 1000000000 := by omega
 by_cases h0 : N = 0
 ·have HT : Hid (labelP (bs s) = false) := by
   show _ = _
   unfold labelP
   rw [decide_eq_true (List.eq_nil_of_length_eq_zero (hl.trans h0))]
   rfl
  have he : (s.toList == ([] : Bs)) = true := by rw [nil_str]; exact decide_eq_true (List.eq_nil_of_length_eq_zero (hl.trans h0))
  have Hb := h_ (Below.refl w.heap.size w)
  clear hl
  go_enter Tryz.func115, Tryz.ntmps115
  go_wp2
  go_ret
  exact ⟨by rw [u_ HT]; rfl, u_ Hb⟩
 have hne : bs s ≠ [] := fun e => by rw [e] at hl; simp at hl; omega
 have he : (s.toList == ([] : Bs)) = false := by rw [nil_str]; exact decide_eq_false hne
 obtain ⟨L, hL⟩ := exq (decide (N ≤ 63))
 have hlz : decide ((N : Int) ≤ 63) = L := by rw [← hL, decide_eq_decide]; omega
 obtain ⟨V, hV⟩ := exq ((bs s).all fun c => labN c.toNat)
 obtain ⟨p, hp⟩ := exq (((bs s).getD 0 0).toNat)
 obtain ⟨q, hq⟩ := exq (((bs s).getD (N - 1) 0).toNat)
 obtain ⟨M, hM⟩ := exq (N - 1)
 rw [hM] at hq
 have eM : (N : Int) - 1 = (M : Int) := by omega
 obtain ⟨P, hP⟩ := exq (decide (p = 45))
 obtain ⟨Q, hQ⟩ := exq (decide (q = 45))
 have hpz : ((p : Int) == 45) = P := by rw [← hP]; by_cases h : p = 45 <;> simp [h] <;> omega
 have hqz : ((q : Int) == 45) = Q := by rw [← hQ]; by_cases h : q = 45 <;> simp [h] <;> omega
 have hpn : ((p : Int) != 45) = !P := by rw [← hpz]; rfl
 have hqn : ((q : Int) != 45) = !Q := by rw [← hqz]; rfl
 have ix0 : ∀ w, (Instr.index 9 (.string s) (.int .i64 0)).run Tryz.prog w = .ok (.int .u8 (p : Int)) w := fun w => index_str s 0 (by omega) p hp w
 have ixM : ∀ w, (Instr.index 9 (.string s) (.int .i64 (M : Int))).run Tryz.prog w = .ok (.int .u8 (q : Int)) w := fun w => index_str s M (by omega) q hq w
 have HT : Hid (labelP (bs s) = (L && V && !P && !Q)) := by
  show _ = _
  unfold labelP
  rw [decide_eq_false hne, hl, hL, hV, hp, hP, hM, hq, hQ]
  rfl
 have Hev := h_ (every_c 138 _ questLab s hs w)
 rw [hV] at Hev
 have Hb := h_ (Below.refl w.heap.size w)
 clear hl hne hV hp hq hM hP hQ h0
 cases L with
 | false =>
  go_enter Tryz.func115, Tryz.ntmps115
  go_wp2
  go_ret
  exact ⟨by rw [u_ HT]; rfl, u_ Hb⟩
 | true =>
  cases V with
  | false =>
   go_enter Tryz.func115, Tryz.ntmps115
   go_wp2_with fail
   refine Hev.mono ?_
   rintro e w2 ⟨rfl, hb⟩
   have HB := h_ hb
   clear hb
   go_wp2
   go_ret
   exact ⟨by rw [u_ HT]; rfl, u_ HB⟩
  | true =>
   cases P <;> cases Q <;>
   ·simp only [Bool.not_true, Bool.not_false] at hpn hqn
    go_enter Tryz.func115, Tryz.ntmps115
    go_wp2_with fail
    refine Hev.mono ?_
    rintro e w2 ⟨rfl, hb⟩
    have HB := h_ hb
    clear hb
    go_wp2
    go_ret
    exact ⟨by rw [u_ HT]; rfl, u_ HB⟩
end N
namespace N
open K
theorem ismach_c (w : World) (hR : Rdy w) (s : ByteArray) (hs : s.size ≤ 1000000000) : Calls Tryz.prog 95 #[.string s] w fun e w' => e = .returned (.bool (machP (bs s))) ∧ Below w.heap.size w w' := by
 obtain ⟨m, hm⟩ := hR.maxl
 have hsp := Tryz.strings_Split s (st [46]) m w (by omega) hm (by rw [st_size]; simp)
 obtain ⟨L, hL⟩ := exq (Lib.splitB (st [46]) 0 (Lib.countB s (st [46])) s)
 have hlen : L.length = Lib.countB s (st [46]) + 1 := by rw [← hL]; exact Lib.splitB_all (st [46]) (by rw [st_size]; simp) 0 _ s rfl
 have HM : Hid (machP (bs s) = L.all fun x => labelP (bs x)) := by
  show _ = _
  unfold machP Lib.split
  have h1 := Lib.splitB_data (st [46]) 0 (Lib.countB s (st [46])) s
  rw [hL] at h1
  have h2 : Lib.splitK [46] 0 (Lib.count (bs s) [46]) (bs s) = L.map fun x => bs x := by
   rw [show (fun x : ByteArray => bs x) = fun x => x.data.toList from rfl, h1, bs_st]
  rw [h2, List.all_map]
  rfl
 have hsz : ∀ x ∈ L, x.size ≤ 1000000000 := by
  have key : ∀ (k : Nat) (z : ByteArray), z.size ≤ 1000000000 → ∀ x ∈ Lib.splitB (st [46]) 0 k z, x.size ≤ 1000000000 := fun k => by
   induction k with
   | zero => intro z hz x hx; simp [Lib.splitB] at hx; rw [hx]; exact hz
   | succ k ih =>
    intro z hz x hx
    unfold Lib.splitB at hx
    split at hx
    ·simp at hx; rw [hx]; exact hz
    ·rw [List.mem_cons] at hx
     rcases hx with rfl | hx
     ·rw [ByteArray.size_extract]; omega
     ·exact ih _ (by rw [ByteArray.size_extract]; omega) x hx
  rw [← hL]
  exact key _ s hs
 obtain ⟨N, hN⟩ := exq L.length
 rw [← hlen, hL, hN] at hsp
 obtain ⟨w1, hw1⟩ := exq (w.alloc (.cells (L.map Value.string).toArray 9))
 obtain ⟨B, hB⟩ := exq w.heap.size
 rw [hw1, hB] at hsp
 have hA : Blk w w1 B (L.map Value.string).toArray 9 := by rw [← hw1, ← hB]; exact Blk.new (Below.refl _ _) _ _
 have Hsp := h_ hsp
 have HA := h_ hA
 have HN := h_ hN
 have Hsz := h_ hsz
 have hN2 : N ≤ 1000000001 := by
  have := Lib.countB_le (st [46]) (by rw [st_size]; simp) s.size s (Nat.le_refl _)
  omega
 clear hsp hA hN hsz hlen hL hw1 hm
 go_enter Tryz.func95, Tryz.ntmps95
 go_wp2_with fail
 refine Hsp.mono ?_
 rintro e w2 ⟨rfl, hw⟩
 obtain rfl := hw
 go_wp2
 go_loopw [8] (fun ii wr => ∃ k : Nat, k ≤ N ∧ ii = .int .i64 (k : Int) ∧ Hid ((L.take k).all (fun x => labelP (bs x)) = true) ∧ Hid (Blk w wr B (L.map Value.string).toArray 9)) (fun ii _ => N - (intOf ii).toNat)
 case atStart => exact ⟨0, by omega, rfl, rfl, HA⟩
 case round =>
  obtain ⟨k, hk, rfl, HE, HB⟩ := hrel
  clear HA Hsp
  by_cases hlt : k < N
  ·have hkl : k < L.length := by have := u_ HN; omega
   obtain ⟨x, hx⟩ := exq (L[k])
   have hc : w2.cell? ⟨B, k, none⟩ = w2.cell? ⟨B, k, none⟩ := rfl
   have hc : wr.cell? ⟨B, k, none⟩ = some (.string x) := HB.cell k _ (by rw [List.getElem?_toArray, List.getElem?_map, List.getElem?_eq_getElem hkl, hx]; rfl)
   obtain ⟨f1, f1n⟩ := ltVV k N
   have k0 : (0 : Int) ≤ (k : Int) := by omega
   have k1 : (k : Int) < (N : Int) := by omega
   have Hlb := h_ (islabel_c wr x (u_ Hsz x (by rw [← hx]; exact List.getElem_mem hkl)))
   obtain ⟨u, hu⟩ := exq (labelP (bs x))
   rw [hu] at Hlb
   have Hx : Hid (L[k]? = some x) := by show _ = _; rw [List.getElem?_eq_getElem hkl, hx]
   have Hu := h_ hu
   clear hx hu
   go_wp2_with fail
   refine Hlb.mono ?_
   rintro e w3 ⟨rfl, hb⟩
   have HB3 := h_ (HB.call hb)
   clear hb hc Hlb HB
   cases u with
   | false =>
    have HF : Hid (machP (bs s) = false) := by
     show _ = _
     rw [u_ HM, List.all_eq_false]
     exact ⟨x, List.mem_of_getElem? (u_ Hx), by rw [u_ Hu]; simp⟩
    clear HE
    go_wp2
    go_ret
    exact ⟨by rw [u_ HF]; rfl, HB3.b⟩
   | true =>
    have HE2 : Hid ((L.take (k + 1)).all (fun x => labelP (bs x)) = true) := by
     show _ = _
     rw [List.take_add_one, u_ Hx, List.all_append, u_ HE]
     simp [u_ Hu]
    clear HE
    go_wp2
    go_roundw
    case rel =>
     first
      | exact ⟨k + 1, by omega, by go_num, HE2, HB3⟩
      | ((repeat apply Exists.intro); exact ⟨⟨k + 1, by omega, by go_num, HE2, HB3⟩, rfl⟩)
    case measure => simp [intOf]; omega
  ·obtain ⟨f1, f1n⟩ := ltVVf k N
   have HF : Hid (machP (bs s) = true) := by
    show _ = _
    have h1 := u_ HE
    rw [List.take_of_length_le (by have := u_ HN; omega)] at h1
    rw [u_ HM, h1]
   clear HE
   go_wp2
   go_ret
   exact ⟨by rw [u_ HF]; rfl, HB.b⟩
theorem machw_c (w : World) (hR : Rdy w) (s l : ByteArray) (hs : s.size ≤ 1000000) (hl : l.size ≤ 1000000) (ha : ascP (bs s) = true) (hal : ascP (bs l) = true) :
  Calls Tryz.prog 70 #[.string s, .string l] w fun e w' => e = .returned (.bool (machW (bs s) (bs l))) ∧ Below w.heap.size w w' := by
 have H1 := h_ (small_c w hR s (by omega) ha)
 have HR := h_ hR
 obtain ⟨a, hae⟩ := exq (st (smallB (bs s)))
 obtain ⟨b, hbe⟩ := exq (st (smallB (bs l)))
 have H2 : Hid (∀ wr, Below w.heap.size w wr → Calls Tryz.prog 96 #[.string l] wr fun e w' => e = .returned (.string b) ∧ Below wr.heap.size wr w') := fun wr hb => by
  have := small_c wr (hR.below hb) l (by omega) hal
  rw [hbe] at this
  exact this
 rw [hae] at H1
 have ea : bs a = smallB (bs s) := by rw [← hae, bs_st]
 have eb : bs b = smallB (bs l) := by rw [← hbe, bs_st]
 have sa : a.size ≤ 1000000 := by rw [← bs_len, ea]; unfold smallB; rw [List.length_map, bs_len]; exact hs
 have sb : b.size ≤ 1000000 := by rw [← bs_len, eb]; unfold smallB; rw [List.length_map, bs_len]; exact hl
 have H3 : Hid (∀ wr, Below w.heap.size w wr → Calls Tryz.prog 95 #[.string a] wr fun e w' => e = .returned (.bool (machP (bs a))) ∧ Below wr.heap.size wr w') := fun wr hb => ismach_c wr (hR.below hb) a (by omega)
 obtain ⟨M, hM⟩ := exq (machP (bs a))
 obtain ⟨E, hE⟩ := exq (decide (bs b = []))
 obtain ⟨Q, hQ⟩ := exq (decide (bs a = bs b))
 obtain ⟨d, hd⟩ := exq (st (46 :: bs b))
 have hcat : ∀ W, (Op.stringOp .add { data := #[46] } b).run Tryz.prog W = .ok (.string d) W := fun W => by
  have := cat_str [46] (bs b) (46 :: bs b) rfl (by rw [bs_len]; simp; omega) W
  rw [hd, st_bs] at this
  exact this
 obtain ⟨U, hU⟩ := exq (Lib.hasSuffix (bs a) (bs d))
 have H4 : Hid (∀ wr : World, Calls Tryz.prog 98 #[.string a, .string d] wr fun e w' => e = .returned (.bool U) ∧ w' = wr) := fun wr => by
  have := Tryz.strings_HasSuffix a d wr (by omega)
  rw [show Lib.hasSuffix a.data.toList d.data.toList = U from hU] at this
  exact this
 have HT : Hid (machW (bs s) (bs l) = (M && (E || Q || U))) := by
  show _ = _
  unfold machW
  rw [← ea, ← eb, hM, hE, hQ, ← hU, ← hd, bs_st]
 rw [hM] at H3
 have he : (b.toList == ([] : Bs)) = E := by rw [nil_str]; exact hE
 have hq : (a.toList == b.toList) = Q := by rw [eql_str]; exact hQ
 clear hae hbe ea eb hM hE hQ hd hU ha hal hR hs hl
 go_enter Tryz.func70, Tryz.ntmps70
 go_wp2_with fail
 refine H1.mono ?_
 rintro e w2 ⟨rfl, hb⟩
 have HB2 := h_ hb
 clear hb H1
 go_wp2_with fail
 refine (u_ H2 w2 (u_ HB2)).mono ?_
 rintro e w3 ⟨rfl, hb⟩
 have HB3 := h_ (HB2.trans (hb.mono HB2.size))
 clear hb H2 HB2
 go_wp2_with fail
 refine (u_ H3 w3 (u_ HB3)).mono ?_
 rintro e w4 ⟨rfl, hb⟩
 have HB4 := h_ (HB3.trans (hb.mono HB3.size))
 clear hb H3 HB3
 cases M with
 | false =>
  go_wp2
  go_ret
  exact ⟨by rw [u_ HT]; rfl, u_ HB4⟩
 | true =>
  cases E with
  | true =>
   go_wp2
   go_ret
   exact ⟨by rw [u_ HT]; rfl, u_ HB4⟩
  | false =>
   cases Q with
   | true =>
    go_wp2
    go_ret
    exact ⟨by rw [u_ HT]; rfl, u_ HB4⟩
   | false =>
    go_wp2_with fail
    refine (u_ H4 w4).mono ?_
    rintro e w5 ⟨rfl, hw⟩
    obtain rfl := hw
    go_wp2
    go_ret
    exact ⟨by rw [u_ HT]; cases U <;> rfl, u_ HB4⟩
end N
def refG (dn : List (Bs × Bs) → Told DV) (g : Gen) (limit : Bool) : Bool := !decide (errOf (genV dn g limit) = 0)
theorem genV_kind {dn : List (Bs × Bs) → Told DV} {g : Gen} {limit : Bool} (h : refG dn g limit = false) : formG g = true ∧ namedP g limit = true := by
 unfold refG genV at h
 cases hf : formG g with
 | false => rw [hf] at h; simp [errOf] at h
 | true =>
  rw [hf] at h
  simp only [Bool.true_eq_false, if_false] at h
  cases hn : namedP g limit with
  | false => rw [hn] at h; simp [errOf] at h
  | true => exact ⟨rfl, rfl⟩
namespace N
open K
theorem isref_c (dn : List (Bs × Bs) → Told DV) (w : World) (cs : List Value) (g : Gen) (limit : Bool) (hg : GenAt w cs g) (ht : g.text.length ≤ 1000000000) (hdl : g.dir.length ≤ 1000000000) (h4 : g.kind ≠ 4) :
  Calls Tryz.prog 68 #[.agg cs.toArray, .bool limit] w fun e w' => e = .returned (.bool (refG dn g limit)) ∧ Below w.heap.size w w' := by
 have HV : Hid (∀ wr, Below w.heap.size w wr → Calls Tryz.prog 31 #[.agg cs.toArray, .bool limit] wr fun e w' => ∃ ds : List Value, e = .returned (.tuple #[.agg ds.toArray, .int .i64 (errOf (genV dn g limit) : Int)]) ∧ ValAt (fun k => wr.heap.size ≤ k) w' ds (valOf (genV dn g limit)) ∧ Below wr.heap.size wr w') := fun wr hb => genv_c dn wr cs g limit (hg.below hb) ht hdl h4
 obtain ⟨s, sp, c, rfl, hst, hdn⟩ := hg.form
 obtain ⟨k, hk⟩ := exq g.kind
 obtain ⟨n, hn⟩ := exq g.dir.length
 rw [hk, hn] at HV ⊢
 obtain ⟨w1, X, hw1, eX, hA⟩ := blkN (Below.refl w.heap.size w) #[.int .i64 k, .string s, .slice sp n c] 56
 obtain ⟨k0, k1, k2⟩ := three_at hA
 have HA := h_ hA
 obtain ⟨er, her⟩ := exq (errOf (genV dn g limit))
 rw [her] at HV
 obtain ⟨U, hU⟩ := exq (decide (er = 0))
 have z1 : ((er : Int) == 0) = U := by rw [← hU]; by_cases h : er = 0 <;> simp [h] <;> omega
 have z2 : ((er : Int) != 0) = !U := by rw [← z1]; rfl
 have HT : Hid (refG dn g limit = !U) := by show _ = _; unfold refG; rw [her, hU]
 unfold gcells at HV ⊢
 clear hA hdn hst her hU hg hk hn h4
 go_enter Tryz.func68, Tryz.ntmps68
 go_wp2_with fail
 refine (u_ HV w1 HA.b).mono ?_
 rintro e w2 ⟨ds, rfl, hv, hb⟩
 have HA2 := h_ (HA.call hb)
 obtain ⟨n5, hv⟩ := hv
 obtain ⟨p1, q1, p2, q2, rfl⟩ := hv.form
 obtain ⟨vc, hvc⟩ := exq ((valOf (genV dn g limit)).cls)
 obtain ⟨vt, hvt⟩ := exq ((valOf (genV dn g limit)).tag)
 obtain ⟨vm, hvm⟩ := exq ((valOf (genV dn g limit)).made)
 obtain ⟨vl, hvl⟩ := exq ((valOf (genV dn g limit)).bytes.length)
 obtain ⟨vk, hvk⟩ := exq ((valOf (genV dn g limit)).kids.length)
 simp only [hvc, hvt, hvm, hvl, hvk]
 unfold dcells
 have HB3 := h_ ((HA2.lit (.cells #[.int .i64 vc, .int .i64 vt, .bool vm, .slice p1 vl q1, .slice p2 vk q2] 25)).b)
 obtain ⟨w3, hw3⟩ := exq (w2.alloc (.cells #[.int .i64 vc, .int .i64 vt, .bool vm, .slice p1 vl q1, .slice p2 vk q2] 25))
 rw [hw3] at HB3
 clear hv hb hvc hvt hvm hvl hvk k0 k1 k2 HV
 cases U <;> simp only [Bool.not_true, Bool.not_false] at z2 HT <;>
  (go_wp2
   go_ret
   exact ⟨by rw [u_ HT]; rfl, u_ HB3⟩)
theorem within_mach (dn : List (Bs × Bs) → Told DV) (w : World) (cs ds : List Value) (g l : Gen) (hg : GenAt w cs g) (hl : GenAt w ds l) (htg : g.text.length ≤ 1000000) (htl : l.text.length ≤ 1000000) (hdg : g.dir.length ≤ 1000000) (hdl : l.dir.length ≤ 1000000) (hkk : g.kind = l.kind) (h4 : g.kind = 2) (hr1 : refG dn g false = false) (hr2 : refG dn l true = false) (U : Bool) (hc : ∀ (wr : World) (s s2 : ByteArray), Below w.heap.size w wr → bs s = g.text → bs s2 = l.text → Calls Tryz.prog 70 #[.string s, .string s2] wr fun e w' => e = .returned (.bool U) ∧ Below wr.heap.size wr w') :
  Calls Tryz.prog 34 #[.agg cs.toArray, .agg ds.toArray] w fun e w' => e = .returned (.bool U) ∧ Below w.heap.size w w' := by
 have HG : Hid (∀ wr, Below w.heap.size w wr → GenAt wr cs g) := fun wr hb => hg.below hb
 have HL : Hid (∀ wr, Below w.heap.size w wr → GenAt wr ds l) := fun wr hb => hl.below hb
 obtain ⟨s, sp, c, rfl, hst, hdn⟩ := hg.form
 obtain ⟨s2, sp2, c2, rfl, hst2, hdn2⟩ := hl.form
 obtain ⟨k, hk⟩ := exq g.kind
 obtain ⟨n, hn⟩ := exq g.dir.length
 obtain ⟨k', hk'⟩ : ∃ k, l.kind = k := ⟨_, rfl⟩
 obtain ⟨n', hn'⟩ : ∃ n, l.dir.length = n := ⟨_, rfl⟩
 rw [hk, hn] at HG ⊢
 rw [hk', hn'] at HL ⊢
 have hkk2 : k = k' := by rw [← hk, ← hk']; exact hkk
 subst hkk2
 obtain rfl : k = 2 := hk.symm.trans h4
 have HRf : Hid (∀ wr, Below w.heap.size w wr → Calls Tryz.prog 68 #[.agg #[.int .i64 2, .string s, .slice sp n c], .bool false] wr fun e w' => e = .returned (.bool false) ∧ Below wr.heap.size wr w') := fun wr hb => by
  have := isref_c dn wr _ g false (u_ HG wr hb) (by omega) (by omega) (by rw [h4]; decide)
  rw [hr1] at this
  exact this
 have HRl : Hid (∀ wr, Below w.heap.size w wr → Calls Tryz.prog 68 #[.agg #[.int .i64 2, .string s2, .slice sp2 n' c2], .bool true] wr fun e w' => e = .returned (.bool false) ∧ Below wr.heap.size wr w') := fun wr hb => by
  have := isref_c dn wr _ l true (u_ HL wr hb) (by omega) (by omega) (by rw [← hkk, h4]; decide)
  rw [hr2] at this
  exact this
 obtain ⟨w1, X, hw1, eX, hA⟩ := blkN (Below.refl w.heap.size w) #[.int .i64 2, .string s, .slice sp n c] 56
 have hY := Blk.new hA.b #[.int .i64 2, .string s2, .slice sp2 n' c2] 56
 have hA1 := hA.lit (.cells #[.int .i64 2, .string s2, .slice sp2 n' c2] 56)
 obtain ⟨w2, hw2⟩ := exq (w1.alloc (.cells #[.int .i64 2, .string s2, .slice sp2 n' c2] 56))
 obtain ⟨Y, eY⟩ := exq w1.heap.size
 rw [hw2, eY] at hY
 rw [hw2] at hA1
 obtain ⟨k0, k1, k2⟩ := three_at hA1
 obtain ⟨j0, j1, j2⟩ := three_at hY
 have HA := h_ hA1
 have HY := h_ hY
 unfold gcells
 have HC : Hid (∀ wr, Below w.heap.size w wr → Calls Tryz.prog 70 #[.string s, .string s2] wr fun e w' => e = .returned (.bool U) ∧ Below wr.heap.size wr w') := fun wr hb => hc wr s s2 hb hst hst2
 clear hA hA1 hY hdn hdn2 hst hst2 hg hl hk hk' hn hn' hkk h4 HG HL hr1 hr2 hc
 go_enter Tryz.func34, Tryz.ntmps34
 go_wp2_with fail
 refine (u_ HRf w2 HA.b).mono ?_
 rintro e w3 ⟨rfl, hb⟩
 have HA3 := h_ (HA.call hb)
 have HY3 := h_ (HY.call hb)
 clear hb k0 k1 k2 j0 j1 j2 HA HY hw1 hw2 eY
 obtain ⟨k0, k1, k2⟩ := three_at (u_ HA3)
 obtain ⟨j0, j1, j2⟩ := three_at (u_ HY3)
 go_wp2_with fail
 refine (u_ HRl w3 HA3.b).mono ?_
 rintro e w4 ⟨rfl, hb⟩
 have HA4 := h_ (HA3.call hb)
 have HY4 := h_ (HY3.call hb)
 clear hb k0 k1 k2 j0 j1 j2 HA3 HY3
 obtain ⟨k0, k1, k2⟩ := three_at (u_ HA4)
 obtain ⟨j0, j1, j2⟩ := three_at (u_ HY4)
 go_wp2_with fail
 refine (u_ HC w4 HA4.b).mono ?_
 rintro e w5 ⟨rfl, hb⟩
 have HA5 := h_ (HA4.call hb)
 clear hb k0 k1 k2 j0 j1 j2 HA4 HY4
 go_wp2
 go_ret
 exact ⟨rfl, HA5.b⟩
end N
namespace N
open K
theorem splitD_count : ∀ s : Bs, (splitD s).length = s.count 46 + 1
 | [] => by simp [splitD]
 | c :: l => by
  have ih := splitD_count l
  obtain ⟨p, ps, h⟩ := splitD_form l
  by_cases hc : c = 46
  ·subst hc; rw [splitD_eq, List.length_cons, List.count_cons_self, ih]
  ·rw [splitD_ne hc h, List.length_cons, List.count_cons_of_ne hc, ← ih, h, List.length_cons]
theorem split_D (s : Bs) : Lib.split s [46] = splitD s := by
 unfold Lib.split
 rw [Lib.count_one]
 exact (splitK_one _ s).1 (by rw [splitD_count]; exact Nat.le_refl _)
theorem machP_D (l : Bs) : machP l = (splitD l).all labelP := by unfold machP; rw [split_D]
theorem small_all : ∀ n : Fin 256, labN (smallC (UInt8.ofNat n.val)).toNat = labN n.val ∧ (smallC (UInt8.ofNat n.val) = 46 ↔ n.val = 46) ∧ (smallC (UInt8.ofNat n.val) = 45 ↔ n.val = 45) := by decide +kernel
theorem small_lab (c : UInt8) : labN (smallC c).toNat = labN c.toNat := by
 have h := (small_all ⟨c.toNat, c.toNat_lt⟩).1
 simp only [UInt8.ofNat_toNat] at h
 exact h
theorem small_dot (c : UInt8) : smallC c = 46 ↔ c = 46 := by
 have h := (small_all ⟨c.toNat, c.toNat_lt⟩).2.1
 simp only [UInt8.ofNat_toNat] at h
 rw [h]
 exact ⟨fun e => UInt8.toNat_inj.1 e, fun e => by rw [e]; rfl⟩
theorem small_bar (c : UInt8) : smallC c = 45 ↔ c = 45 := by
 have h := (small_all ⟨c.toNat, c.toNat_lt⟩).2.2
 simp only [UInt8.ofNat_toNat] at h
 rw [h]
 exact ⟨fun e => UInt8.toNat_inj.1 e, fun e => by rw [e]; rfl⟩
theorem splitD_small : ∀ l : Bs, splitD (smallB l) = (splitD l).map smallB
 | [] => rfl
 | c :: l => by
  have ih := splitD_small l
  obtain ⟨p, ps, h⟩ := splitD_form l
  show splitD (smallC c :: smallB l) = _
  by_cases hc : c = 46
  ·subst hc
   rw [show smallC 46 = 46 from (small_dot 46).2 rfl, splitD_eq, splitD_eq, ih]
   rfl
  ·rw [h] at ih
   rw [splitD_ne (fun e => hc ((small_dot c).1 e)) ih, splitD_ne hc h]
   rfl
theorem small_getD (l : Bs) (i : Nat) : (smallB l).getD i 0 = smallC (l.getD i 0) := by
 unfold smallB
 rw [List.getD_eq_getElem?_getD, List.getElem?_map, List.getD_eq_getElem?_getD]
 cases l[i]? <;> rfl
theorem toNat45 (c : UInt8) : decide (c.toNat = 45) = decide (c = 45) := by
 rw [decide_eq_decide]
 exact ⟨fun e => UInt8.toNat_inj.1 e, fun e => by rw [e]; rfl⟩
theorem label_small (l : Bs) : labelP (smallB l) = labelP l := by
 unfold labelP
 rw [small_getD, small_getD, toNat45, toNat45, toNat45, toNat45]
 have h1 : decide (smallB l = []) = decide (l = []) := by rw [decide_eq_decide]; unfold smallB; exact List.map_eq_nil_iff
 have h2 : (smallB l).length = l.length := by unfold smallB; exact List.length_map ..
 have h3 : ((smallB l).all fun c => labN c.toNat) = l.all fun c => labN c.toNat := by
  unfold smallB
  rw [List.all_map]
  congr 1
  funext c
  exact small_lab c
 rw [h1, h2, h3, decide_eq_decide.2 (small_bar (l.getD 0 0)), decide_eq_decide.2 (small_bar (l.getD (l.length - 1) 0))]
theorem mach_small (l : Bs) : machP (smallB l) = machP l := by
 rw [machP_D, machP_D, splitD_small, List.all_map]
 congr 1
 funext p
 exact label_small p
theorem mach_nil : machP [] = false := by rw [machP_D]; rfl
theorem mach_dot (l : Bs) : machP (46 :: l) = false := by rw [machP_D, splitD_eq]; rfl
def alikeP (a b : Bs) : Bool := decide (smallB a = smallB b)
def endsP (s l : Bs) : Bool := decide (l.length < s.length) && alikeP (s.drop (s.length - l.length)) l
def underP (h l : Bs) : Bool := if machP h = false ∨ l = [] then machP h else if l.getD 0 0 = 46 then endsP h l else alikeP h l
def hostW (h l : Bs) : Bool := decide (smallB l = []) || decide (smallB h = smallB l) || (Lib.hasPrefix (smallB l) [46] && Lib.hasSuffix (smallB h) (smallB l))
theorem small_len (l : Bs) : (smallB l).length = l.length := by unfold smallB; exact List.length_map ..
theorem small_drop (l : Bs) (k : Nat) : smallB (l.drop k) = (smallB l).drop k := by unfold smallB; exact List.map_drop ..
theorem suffix_drop (a b : Bs) : Lib.hasSuffix a b = decide (b = a.drop (a.length - b.length)) := by
 unfold Lib.hasSuffix
 rw [Bool.eq_iff_iff, decide_eq_true_eq, List.isSuffixOf_iff_suffix]
 exact List.suffix_iff_eq_drop
theorem ends_suffix {s t : Bs} (hm : machP s = true) : endsP s (46 :: t) = Lib.hasSuffix (smallB s) (smallB (46 :: t)) := by
 rw [suffix_drop]
 unfold endsP alikeP
 rw [small_drop, small_len, small_len]
 by_cases hl : (46 :: t).length < s.length
 ·rw [decide_eq_true hl, Bool.true_and, decide_eq_decide]
  exact ⟨fun e => e.symm, fun e => e.symm⟩
 ·rw [decide_eq_false hl, Bool.false_and]
  symm
  refine decide_eq_false fun e => ?_
  have h1 := congrArg List.length e
  rw [List.length_drop, small_len, small_len] at h1
  have h2 : s.length - (46 :: t).length = 0 := by omega
  rw [h2, List.drop_zero] at e
  cases s with
  | nil => simp [smallB] at e
  | cons c s =>
   have h3 : smallC 46 = smallC c := (List.cons.injEq .. ▸ e : _ ∧ _).1
   have h4 : c = 46 := (small_dot c).1 (h3.symm.trans ((small_dot 46).2 rfl))
   rw [h4, mach_dot] at hm
   cases hm
theorem prefix_dot (l : Bs) : Lib.hasPrefix l [46] = decide (l.getD 0 0 = 46) := by
 cases l with
 | nil => rfl
 | cons c l =>
  unfold Lib.hasPrefix
  simp only [List.isPrefixOf, List.getD_cons_zero, Bool.and_true]
  by_cases h : c = 46
  ·subst h; rfl
  ·rw [decide_eq_false h]
   exact beq_eq_false_iff_ne.2 (fun e => h e.symm)
theorem small_nil (l : Bs) : smallB l = [] ↔ l = [] := by unfold smallB; exact List.map_eq_nil_iff
theorem host_under {h l : Bs} (hm : machP h = true) : hostW h l = underP h l := by
 unfold hostW underP
 rw [hm]
 by_cases h0 : l = []
 ·rw [if_pos (Or.inr h0), decide_eq_true ((small_nil l).2 h0)]; rfl
 ·rw [if_neg (by simp [h0]), decide_eq_false (fun e => h0 ((small_nil l).1 e)), Bool.false_or, prefix_dot, small_getD]
  by_cases hd : l.getD 0 0 = 46
  ·rw [if_pos hd, hd, decide_eq_true ((small_dot 46).2 rfl), Bool.true_and]
   obtain ⟨t, rfl⟩ : ∃ t, l = 46 :: t := by
    cases l with
    | nil => exact absurd rfl h0
    | cons c t => rw [List.getD_cons_zero] at hd; rw [hd]; exact ⟨t, rfl⟩
   rw [ends_suffix hm]
   have hne : decide (smallB h = smallB (46 :: t)) = false := decide_eq_false fun e => by
    cases h with
    | nil => rw [mach_nil] at hm; cases hm
    | cons c s =>
     have h3 : smallC c = smallC 46 := (List.cons.injEq .. ▸ e : _ ∧ _).1
     rw [(small_dot 46).2 rfl] at h3
     rw [(small_dot c).1 h3, mach_dot] at hm
     cases hm
   rw [hne, Bool.false_or]
  ·rw [if_neg hd, decide_eq_false (fun e => hd ((small_dot _).1 e)), Bool.false_and, Bool.or_false]
   rfl
def machR (m l : Bs) : Bool := machP m && (decide (l = []) || alikeP m l || endsP m (46 :: l))
theorem mach_eq (m l : Bs) : machW m l = machR m l := by
 unfold machW machR
 rw [mach_small]
 cases hm : machP m with
 | false => rfl
 | true =>
  rw [ends_suffix hm, decide_eq_decide.2 (small_nil l)]
  rw [show smallB (46 :: l) = 46 :: smallB l by show smallC 46 :: smallB l = _; rw [(small_dot 46).2 rfl]]
  rfl
def mailW (a l : Bs) : Bool :=
 if (Lib.cut a [64]).1 = [] ∨ machP (Lib.cut a [64]).2.1 = false then false
 else if (Lib.cut l [64]).2.2 = true then decide ((Lib.cut a [64]).1 = (Lib.cut l [64]).1) && alikeP (Lib.cut a [64]).2.1 (Lib.cut l [64]).2.1 else hostW (Lib.cut a [64]).2.1 l
def uriH (u : Bs) : Bs := if 0 ≤ Lib.indexAny (Lib.cut u [58, 47, 47]).2.1 [47, 58, 63, 35] then (Lib.cut u [58, 47, 47]).2.1.take (Lib.indexAny (Lib.cut u [58, 47, 47]).2.1 [47, 58, 63, 35]).toNat else (Lib.cut u [58, 47, 47]).2.1
def uriW (u l : Bs) : Bool := machP (uriH u) && hostW (uriH u) l
end N
end Go.Proofs.YtcofnockikninaaGreatDoor
