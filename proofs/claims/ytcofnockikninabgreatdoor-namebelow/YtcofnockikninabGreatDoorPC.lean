/-
  Machines' names: the walks of the landed small, isLabel, isMachine, machineWithin.
-/
import Derived.Test.YtcofnockikninabGreatDoorNn
import Derived.Lib.TrimAscii
import Derived.Lib.MapLaws
import Derived.Lib.SplitLaws
namespace Go.Proofs.YtcofnockikninabGreatDoor
open Go.RowKit
/-- A small letter for a capital one. -/
def smallC (c : UInt8) : UInt8 := if capN c.toNat = true then UInt8.ofNat (c.toNat + 32) else c
def smallB (l : Bs) : Bs := l.map smallC
def labelP (l : Bs) : Bool := !decide (l = []) && decide (l.length ≤ 63) && (l.all fun c => labN c.toNat) && !decide ((l.getD 0 0).toNat = 45) && !decide ((l.getD (l.length - 1) 0).toNat = 45)
def machP (l : Bs) : Bool := (Lib.split l [46]).all labelP
def machW (m l : Bs) : Bool := machP (smallB m) && (decide (smallB l = []) || decide (smallB m = smallB l) || Lib.hasSuffix (smallB m) (46 :: smallB l))
theorem asc_at {s : Bs} (h : ascP s = true) : ∀ c ∈ s, c.toNat < 128 := fun c hc => by
  unfold ascP at h
  rw [List.all_eq_true] at h
  exact of_decide_eq_true (h c hc)
theorem capN_iff (r : Nat) : capN r = true ↔ 65 ≤ r ∧ r ≤ 90 := by unfold capN; simp
theorem smallC_asc {c : UInt8} (h : c.toNat < 128) : (smallC c).toNat < 128 := by
  unfold smallC
  split
  · rename_i hc
    have := (capN_iff _).1 hc
    rw [UInt8.toNat_ofNat']
    omega
  · exact h
theorem small_asc {s : Bs} (h : ascP s = true) : ascP (smallB s) = true := by
  unfold ascP smallB
  rw [List.all_eq_true]
  intro c hc
  obtain ⟨x, hx, rfl⟩ := List.mem_map.1 hc
  exact decide_eq_true (smallC_asc (asc_at h x hx))
namespace N
open K
def smallZ (r : Int) : Int := if 65 ≤ r ∧ r ≤ 90 then r + 32 else r
theorem mapD_small : ∀ (l : Bs), (∀ c ∈ l, c.toNat < 128) → Lib.mapD smallZ l = smallB l
  | [], _ => rfl
  | b :: t, h => by
    have hb := h b List.mem_cons_self
    have hd := Lib.decodeL_ascii b t hb
    rw [Lib.mapD_step smallZ (b :: t) (by simp), hd]
    simp only [List.drop_succ_cons, List.drop_zero]
    rw [mapD_small t (fun c hc => h c (List.mem_cons_of_mem _ hc))]
    show _ = smallC b :: smallB t
    have e : (if 0 ≤ smallZ (b.toNat : Int) then Lib.encodeRune (smallZ (b.toNat : Int)) else []) = [smallC b] := by
      unfold smallZ smallC
      by_cases hc : capN b.toNat = true
      · have h2 := (capN_iff _).1 hc
        rw [if_pos hc, if_pos (show (65 : Int) ≤ (b.toNat : Int) ∧ (b.toNat : Int) ≤ 90 by omega), if_pos (by omega)]
        unfold Lib.encodeRune
        rw [Lib.encodeRuneZ_one (by omega) (by omega)]
        simp only [List.map_cons, List.map_nil]
        congr 1
      · have h2 : ¬ (65 ≤ b.toNat ∧ b.toNat ≤ 90) := fun h => hc ((capN_iff _).2 h)
        rw [if_neg hc, if_neg (show ¬ ((65 : Int) ≤ (b.toNat : Int) ∧ (b.toNat : Int) ≤ 90) by omega), if_pos (by omega)]
        unfold Lib.encodeRune
        rw [Lib.encodeRuneZ_one (by omega) (by omega)]
        simp only [List.map_cons, List.map_nil, Int.toNat_natCast]
        congr 1
        simp
    rw [e]
    rfl
theorem smallr_c (r : Nat) (hr : r ≤ 1114111) (w : World) : Calls Tryz.prog 49 #[.int .i32 (r : Int)] w fun e w' => e = .returned (.int .i32 (smallZ (r : Int))) ∧ w' = w := by
  have HC := hide (iscap_c r (by omega) w)
  by_cases h : capN r = true
  · have h2 := (capN_iff r).1 h
    rw [h] at HC
    obtain ⟨q, hq⟩ : ∃ q, r - 65 = q := ⟨_, rfl⟩
    obtain ⟨p, hp⟩ : ∃ p, q + 97 = p := ⟨_, rfl⟩
    have e1 : (r : Int) - 65 = (q : Int) := by omega
    have e2 : (q : Int) + 97 = (p : Int) := by omega
    have HT : Hid (smallZ (r : Int) = (p : Int)) := by show _ = _; unfold smallZ; rw [if_pos (by omega)]; omega
    clear hq hp
    go_enter Tryz.func49, Tryz.ntmps49
    go_wp2_with (go_at_call 77; refine (unhide HC).mono ?_; rintro e w' ⟨rfl, hw⟩; obtain rfl := hw)
    go_ret
    exact ⟨by rw [unhide HT]; rfl, rfl⟩
  · have h' : capN r = false := by simpa using h
    have h2 : ¬ (65 ≤ r ∧ r ≤ 90) := fun k => h ((capN_iff r).2 k)
    rw [h'] at HC
    have HT : Hid (smallZ (r : Int) = (r : Int)) := by show _ = _; unfold smallZ; rw [if_neg (by omega)]
    clear h h' h2
    go_enter Tryz.func49, Tryz.ntmps49
    go_wp2_with (go_at_call 77; refine (unhide HC).mono ?_; rintro e w' ⟨rfl, hw⟩; obtain rfl := hw)
    go_ret
    exact ⟨by rw [unhide HT]; rfl, rfl⟩
theorem small_c (w : World) (hR : Rdy w) (s : ByteArray) (hs : s.size ≤ 1000000000) (ha : ascP (bs s) = true) : Calls Tryz.prog 29 #[.string s] w fun e w' => e = .returned (.string (st (smallB (bs s)))) ∧ Below w.heap.size w w' := by
  have hm := Tryz.strings_Map_runes 49 #[] (enters_of Tryz.func49 (by kernel_rfl) rfl) smallZ s w (by omega)
    (fun W x hx _ => (smallr_c x hx W).mono fun e w' h => ⟨h.1, 0, h.2⟩)
    (fun x hx => by unfold smallZ; split <;> omega) hR.tabs
  have e : Lib.mapD smallZ s.data.toList = smallB (bs s) := mapD_small (bs s) (asc_at ha)
  rw [e] at hm
  have Hm := hide hm
  clear hm e ha
  go_enter Tryz.func29, Tryz.ntmps29
  go_wp2_with fail
  refine (unhide Hm).mono ?_
  rintro e w2 ⟨rfl, hb⟩
  have HB := hide hb
  clear hb
  go_wp2
  go_ret
  exact ⟨rfl, unhide HB⟩
set_option maxRecDepth 100000 in
set_option maxHeartbeats 4000000 in
theorem islabel_c (w : World) (s : ByteArray) (hs : s.size ≤ 1000000000) : Calls Tryz.prog 47 #[.string s] w fun e w' => e = .returned (.bool (labelP (bs s))) ∧ Below w.heap.size w w' := by
  obtain ⟨N, hN⟩ : ∃ N, s.size = N := ⟨_, rfl⟩
  have hl : (bs s).length = N := by rw [bs_len, hN]
  have bN : N ≤ 1000000000 := by omega
  by_cases h0 : N = 0
  · have HT : Hid (labelP (bs s) = false) := by
      show _ = _
      unfold labelP
      rw [decide_eq_true (List.eq_nil_of_length_eq_zero (hl.trans h0))]
      rfl
    have he : (s.toList == ([] : Bs)) = true := by rw [nil_str]; exact decide_eq_true (List.eq_nil_of_length_eq_zero (hl.trans h0))
    have Hb := hide (Below.refl w.heap.size w)
    clear hl
    go_enter Tryz.func47, Tryz.ntmps47
    go_wp2
    go_ret
    exact ⟨by rw [unhide HT]; rfl, unhide Hb⟩
  have hne : bs s ≠ [] := fun e => by rw [e] at hl; simp at hl; omega
  have he : (s.toList == ([] : Bs)) = false := by rw [nil_str]; exact decide_eq_false hne
  obtain ⟨L, hL⟩ : ∃ L, decide (N ≤ 63) = L := ⟨_, rfl⟩
  have hlz : decide ((N : Int) ≤ 63) = L := by rw [← hL, decide_eq_decide]; omega
  obtain ⟨V, hV⟩ : ∃ V, ((bs s).all fun c => labN c.toNat) = V := ⟨_, rfl⟩
  obtain ⟨p, hp⟩ : ∃ p, ((bs s).getD 0 0).toNat = p := ⟨_, rfl⟩
  obtain ⟨q, hq⟩ : ∃ q, ((bs s).getD (N - 1) 0).toNat = q := ⟨_, rfl⟩
  obtain ⟨M, hM⟩ : ∃ M, N - 1 = M := ⟨_, rfl⟩
  rw [hM] at hq
  have eM : (N : Int) - 1 = (M : Int) := by omega
  obtain ⟨P, hP⟩ : ∃ P, decide (p = 45) = P := ⟨_, rfl⟩
  obtain ⟨Q, hQ⟩ : ∃ Q, decide (q = 45) = Q := ⟨_, rfl⟩
  have hpz : ((p : Int) == 45) = P := by rw [← hP]; by_cases h : p = 45 <;> simp [h] <;> omega
  have hqz : ((q : Int) == 45) = Q := by rw [← hQ]; by_cases h : q = 45 <;> simp [h] <;> omega
  have hpn : ((p : Int) != 45) = !P := by rw [← hpz]; rfl
  have hqn : ((q : Int) != 45) = !Q := by rw [← hqz]; rfl
  have ix0 : ∀ w, (Instr.index 9 (.string s) (.int .i64 0)).run Tryz.prog w = .ok (.int .u8 (p : Int)) w := fun w => index_str s 0 (by omega) p hp w
  have ixM : ∀ w, (Instr.index 9 (.string s) (.int .i64 (M : Int))).run Tryz.prog w = .ok (.int .u8 (q : Int)) w := fun w => index_str s M (by omega) q hq w
  have HT : Hid (labelP (bs s) = (L && V && !P && !Q)) := by
    show _ = _
    unfold labelP
    rw [decide_eq_false hne, hl, hL, hV, hp, hP, hM, hq, hQ]
    rfl
  have Hev := hide (every_c 68 _ questLab s hs w)
  rw [hV] at Hev
  have Hb := hide (Below.refl w.heap.size w)
  clear hl hne hV hp hq hM hP hQ h0
  cases L with
  | false =>
    go_enter Tryz.func47, Tryz.ntmps47
    go_wp2
    go_ret
    exact ⟨by rw [unhide HT]; rfl, unhide Hb⟩
  | true =>
    cases V with
    | false =>
      go_enter Tryz.func47, Tryz.ntmps47
      go_wp2_with fail
      refine (unhide Hev).mono ?_
      rintro e w2 ⟨rfl, hb⟩
      have HB := hide hb
      clear hb
      go_wp2
      go_ret
      exact ⟨by rw [unhide HT]; rfl, unhide HB⟩
    | true =>
      cases P <;> cases Q <;>
      · simp only [Bool.not_true, Bool.not_false] at hpn hqn
        go_enter Tryz.func47, Tryz.ntmps47
        go_wp2_with fail
        refine (unhide Hev).mono ?_
        rintro e w2 ⟨rfl, hb⟩
        have HB := hide hb
        clear hb
        go_wp2
        go_ret
        exact ⟨by rw [unhide HT]; rfl, unhide HB⟩
end N
end Go.Proofs.YtcofnockikninabGreatDoor
/-
  The walks of the landed isMachine, machineWithin.
-/
namespace Go.Proofs.YtcofnockikninabGreatDoor
open Go.RowKit
namespace N
open K
set_option maxRecDepth 100000 in
set_option maxHeartbeats 4000000 in
theorem ismach_c (w : World) (hR : Rdy w) (s : ByteArray) (hs : s.size ≤ 1000000000) : Calls Tryz.prog 28 #[.string s] w fun e w' => e = .returned (.bool (machP (bs s))) ∧ Below w.heap.size w w' := by
  obtain ⟨m, hm⟩ := hR.maxl
  have hsp := Tryz.strings_Split s (st [46]) m w (by omega) hm (by rw [st_size]; simp)
  obtain ⟨L, hL⟩ : ∃ L, Lib.splitB (st [46]) 0 (Lib.countB s (st [46])) s = L := ⟨_, rfl⟩
  have hlen : L.length = Lib.countB s (st [46]) + 1 := by rw [← hL]; exact Lib.splitB_all (st [46]) (by rw [st_size]; simp) 0 _ s rfl
  have HM : Hid (machP (bs s) = L.all fun x => labelP (bs x)) := by
    show _ = _
    unfold machP Lib.split
    have h1 := Lib.splitB_data (st [46]) 0 (Lib.countB s (st [46])) s
    rw [hL] at h1
    have h2 : Lib.splitK [46] 0 (Lib.count (bs s) [46]) (bs s) = L.map fun x => bs x := by
      rw [show (fun x : ByteArray => bs x) = fun x => x.data.toList from rfl, h1, bs_st]
    rw [h2, List.all_map]
    rfl
  have hsz : ∀ x ∈ L, x.size ≤ 1000000000 := by
    have key : ∀ (k : Nat) (z : ByteArray), z.size ≤ 1000000000 → ∀ x ∈ Lib.splitB (st [46]) 0 k z, x.size ≤ 1000000000 := fun k => by
      induction k with
      | zero => intro z hz x hx; simp [Lib.splitB] at hx; rw [hx]; exact hz
      | succ k ih =>
        intro z hz x hx
        unfold Lib.splitB at hx
        split at hx
        · simp at hx; rw [hx]; exact hz
        · rw [List.mem_cons] at hx
          rcases hx with rfl | hx
          · rw [ByteArray.size_extract]; omega
          · exact ih _ (by rw [ByteArray.size_extract]; omega) x hx
    rw [← hL]
    exact key _ s hs
  obtain ⟨N, hN⟩ : ∃ N, L.length = N := ⟨_, rfl⟩
  rw [← hlen, hL, hN] at hsp
  obtain ⟨w1, hw1⟩ : ∃ w1, w.alloc (.cells (L.map Value.string).toArray 9) = w1 := ⟨_, rfl⟩
  obtain ⟨B, hB⟩ : ∃ B, w.heap.size = B := ⟨_, rfl⟩
  rw [hw1, hB] at hsp
  have hA : Blk w w1 B (L.map Value.string).toArray 9 := by rw [← hw1, ← hB]; exact Blk.new (Below.refl _ _) _ _
  have Hsp := hide hsp
  have HA := hide hA
  have HN := hide hN
  have Hsz := hide hsz
  have hN2 : N ≤ 1000000001 := by
    have := Lib.countB_le (st [46]) (by rw [st_size]; simp) s.size s (Nat.le_refl _)
    omega
  clear hsp hA hN hsz hlen hL hw1 hm
  go_enter Tryz.func28, Tryz.ntmps28
  go_wp2_with fail
  refine (unhide Hsp).mono ?_
  rintro e w2 ⟨rfl, hw⟩
  obtain rfl := hw
  go_wp2
  go_loopw [8] (fun ii wr => ∃ k : Nat, k ≤ N ∧ ii = .int .i64 (k : Int) ∧ Hid ((L.take k).all (fun x => labelP (bs x)) = true) ∧ Hid (Blk w wr B (L.map Value.string).toArray 9)) (fun ii _ => N - (intOf ii).toNat)
  case atStart => exact ⟨0, by omega, rfl, rfl, HA⟩
  case round =>
    obtain ⟨k, hk, rfl, HE, HB⟩ := hrel
    clear HA Hsp
    by_cases hlt : k < N
    · have hkl : k < L.length := by have := unhide HN; omega
      obtain ⟨x, hx⟩ : ∃ x, L[k] = x := ⟨_, rfl⟩
      have hc : w2.cell? ⟨B, k, none⟩ = w2.cell? ⟨B, k, none⟩ := rfl
      have hc : wr.cell? ⟨B, k, none⟩ = some (.string x) := (unhide HB).cell k _ (by rw [List.getElem?_toArray, List.getElem?_map, List.getElem?_eq_getElem hkl, hx]; rfl)
      have f1 : decide ((k : Int) < (N : Int)) = true := by simp; omega
      have f1n : decide (k < N) = true := by simp; omega
      have k0 : (0 : Int) ≤ (k : Int) := by omega
      have k1 : (k : Int) < (N : Int) := by omega
      have Hlb := hide (islabel_c wr x (unhide Hsz x (by rw [← hx]; exact List.getElem_mem hkl)))
      obtain ⟨u, hu⟩ : ∃ u, labelP (bs x) = u := ⟨_, rfl⟩
      rw [hu] at Hlb
      have Hx : Hid (L[k]? = some x) := by show _ = _; rw [List.getElem?_eq_getElem hkl, hx]
      have Hu := hide hu
      clear hx hu
      go_wp2_with fail
      refine (unhide Hlb).mono ?_
      rintro e w3 ⟨rfl, hb⟩
      have HB3 := hide ((unhide HB).call hb)
      clear hb hc Hlb HB
      cases u with
      | false =>
        have HF : Hid (machP (bs s) = false) := by
          show _ = _
          rw [unhide HM, List.all_eq_false]
          exact ⟨x, List.mem_of_getElem? (unhide Hx), by rw [unhide Hu]; simp⟩
        clear HE
        go_wp2
        go_ret
        exact ⟨by rw [unhide HF]; rfl, (unhide HB3).b⟩
      | true =>
        have HE2 : Hid ((L.take (k + 1)).all (fun x => labelP (bs x)) = true) := by
          show _ = _
          rw [List.take_add_one, unhide Hx, List.all_append, unhide HE]
          simp [unhide Hu]
        clear HE
        go_wp2
        go_roundw
        case rel =>
          first
            | exact ⟨k + 1, by omega, by go_num, HE2, HB3⟩
            | ((repeat apply Exists.intro); exact ⟨⟨k + 1, by omega, by go_num, HE2, HB3⟩, rfl⟩)
        case measure => simp [intOf]; omega
    · have f1 : decide ((k : Int) < (N : Int)) = false := by simp; omega
      have f1n : decide (k < N) = false := by simp; omega
      have HF : Hid (machP (bs s) = true) := by
        show _ = _
        have h1 := unhide HE
        rw [List.take_of_length_le (by have := unhide HN; omega)] at h1
        rw [unhide HM, h1]
      clear HE
      go_wp2
      go_ret
      exact ⟨by rw [unhide HF]; rfl, (unhide HB).b⟩
set_option maxRecDepth 100000 in
set_option maxHeartbeats 4000000 in
theorem machw_c (w : World) (hR : Rdy w) (s l : ByteArray) (hs : s.size ≤ 1000000) (hl : l.size ≤ 1000000) (ha : ascP (bs s) = true) (hal : ascP (bs l) = true) :
    Calls Tryz.prog 13 #[.string s, .string l] w fun e w' => e = .returned (.bool (machW (bs s) (bs l))) ∧ Below w.heap.size w w' := by
  have H1 := hide (small_c w hR s (by omega) ha)
  have HR := hide hR
  obtain ⟨a, hae⟩ : ∃ a, st (smallB (bs s)) = a := ⟨_, rfl⟩
  obtain ⟨b, hbe⟩ : ∃ b, st (smallB (bs l)) = b := ⟨_, rfl⟩
  have H2 : Hid (∀ wr, Below w.heap.size w wr → Calls Tryz.prog 29 #[.string l] wr fun e w' => e = .returned (.string b) ∧ Below wr.heap.size wr w') := fun wr hb => by
    have := small_c wr (hR.below hb) l (by omega) hal
    rw [hbe] at this
    exact this
  rw [hae] at H1
  have ea : bs a = smallB (bs s) := by rw [← hae, bs_st]
  have eb : bs b = smallB (bs l) := by rw [← hbe, bs_st]
  have sa : a.size ≤ 1000000 := by rw [← bs_len, ea]; unfold smallB; rw [List.length_map, bs_len]; exact hs
  have sb : b.size ≤ 1000000 := by rw [← bs_len, eb]; unfold smallB; rw [List.length_map, bs_len]; exact hl
  have H3 : Hid (∀ wr, Below w.heap.size w wr → Calls Tryz.prog 28 #[.string a] wr fun e w' => e = .returned (.bool (machP (bs a))) ∧ Below wr.heap.size wr w') := fun wr hb => ismach_c wr (hR.below hb) a (by omega)
  obtain ⟨M, hM⟩ : ∃ M, machP (bs a) = M := ⟨_, rfl⟩
  obtain ⟨E, hE⟩ : ∃ E, decide (bs b = []) = E := ⟨_, rfl⟩
  obtain ⟨Q, hQ⟩ : ∃ Q, decide (bs a = bs b) = Q := ⟨_, rfl⟩
  obtain ⟨d, hd⟩ : ∃ d, st (46 :: bs b) = d := ⟨_, rfl⟩
  have hcat : ∀ W, (Op.stringOp .add { data := #[46] } b).run Tryz.prog W = .ok (.string d) W := fun W => by
    have := cat_str [46] (bs b) (46 :: bs b) rfl (by rw [bs_len]; simp; omega) W
    rw [hd, st_bs] at this
    exact this
  obtain ⟨U, hU⟩ : ∃ U, Lib.hasSuffix (bs a) (bs d) = U := ⟨_, rfl⟩
  have H4 : Hid (∀ wr : World, Calls Tryz.prog 31 #[.string a, .string d] wr fun e w' => e = .returned (.bool U) ∧ w' = wr) := fun wr => by
    have := Tryz.strings_HasSuffix a d wr (by omega)
    rw [show Lib.hasSuffix a.data.toList d.data.toList = U from hU] at this
    exact this
  have HT : Hid (machW (bs s) (bs l) = (M && (E || Q || U))) := by
    show _ = _
    unfold machW
    rw [← ea, ← eb, hM, hE, hQ, ← hU, ← hd, bs_st]
  rw [hM] at H3
  have he : (b.toList == ([] : Bs)) = E := by rw [nil_str]; exact hE
  have hq : (a.toList == b.toList) = Q := by rw [eql_str]; exact hQ
  clear hae hbe ea eb hM hE hQ hd hU ha hal hR hs hl
  go_enter Tryz.func13, Tryz.ntmps13
  go_wp2_with fail
  refine (unhide H1).mono ?_
  rintro e w2 ⟨rfl, hb⟩
  have HB2 := hide hb
  clear hb H1
  go_wp2_with fail
  refine (unhide H2 w2 (unhide HB2)).mono ?_
  rintro e w3 ⟨rfl, hb⟩
  have HB3 := hide ((unhide HB2).trans (hb.mono (unhide HB2).size))
  clear hb H2 HB2
  go_wp2_with fail
  refine (unhide H3 w3 (unhide HB3)).mono ?_
  rintro e w4 ⟨rfl, hb⟩
  have HB4 := hide ((unhide HB3).trans (hb.mono (unhide HB3).size))
  clear hb H3 HB3
  cases M with
  | false =>
    go_wp2
    go_ret
    exact ⟨by rw [unhide HT]; rfl, unhide HB4⟩
  | true =>
    cases E with
    | true =>
      go_wp2
      go_ret
      exact ⟨by rw [unhide HT]; rfl, unhide HB4⟩
    | false =>
      cases Q with
      | true =>
        go_wp2
        go_ret
        exact ⟨by rw [unhide HT]; rfl, unhide HB4⟩
      | false =>
        go_wp2_with fail
        refine (unhide H4 w4).mono ?_
        rintro e w5 ⟨rfl, hw⟩
        obtain rfl := hw
        go_wp2
        go_ret
        exact ⟨by rw [unhide HT]; cases U <;> rfl, unhide HB4⟩
end N
end Go.Proofs.YtcofnockikninabGreatDoor
/-
  The walks of the landed isRefused, Within (of the kinds other than 4).
-/
namespace Go.Proofs.YtcofnockikninabGreatDoor
open Go.RowKit
/-- Does Value refuse a name? -/
def refG (dn : List (Bs × Bs) → Told DV) (g : Gen) (limit : Bool) : Bool := !decide (errOf (genV dn g limit) = 0)
theorem genV_kind {dn : List (Bs × Bs) → Told DV} {g : Gen} {limit : Bool} (h : refG dn g limit = false) : formG g = true ∧ namedP g limit = true := by
  unfold refG genV at h
  cases hf : formG g with
  | false => rw [hf] at h; simp [errOf] at h
  | true =>
    rw [hf] at h
    simp only [Bool.true_eq_false, if_false] at h
    cases hn : namedP g limit with
    | false => rw [hn] at h; simp [errOf] at h
    | true => exact ⟨rfl, rfl⟩
namespace N
open K
set_option maxRecDepth 100000 in
set_option maxHeartbeats 4000000 in
theorem isref_c (dn : List (Bs × Bs) → Told DV) (w : World) (cs : List Value) (g : Gen) (limit : Bool) (hg : GenAt w cs g) (ht : g.text.length ≤ 1000000000) (hdl : g.dir.length ≤ 1000000000) (h4 : g.kind ≠ 4) :
    Calls Tryz.prog 11 #[.agg cs.toArray, .bool limit] w fun e w' => e = .returned (.bool (refG dn g limit)) ∧ Below w.heap.size w w' := by
  have HV : Hid (∀ wr, Below w.heap.size w wr → Calls Tryz.prog 8 #[.agg cs.toArray, .bool limit] wr fun e w' => ∃ ds : List Value, e = .returned (.tuple #[.agg ds.toArray, .int .i64 (errOf (genV dn g limit) : Int)]) ∧ ValAt (fun k => wr.heap.size ≤ k) w' ds (valOf (genV dn g limit)) ∧ Below wr.heap.size wr w') := fun wr hb => genv_c dn wr cs g limit (hg.below hb) ht hdl h4
  obtain ⟨s, sp, c, rfl, hst, hdn⟩ := hg.form
  obtain ⟨k, hk⟩ : ∃ k, g.kind = k := ⟨_, rfl⟩
  obtain ⟨n, hn⟩ : ∃ n, g.dir.length = n := ⟨_, rfl⟩
  rw [hk, hn] at HV ⊢
  have hA := Blk.new (Below.refl w.heap.size w) #[.int .i64 k, .string s, .slice sp n c] 28
  obtain ⟨w1, hw1⟩ : ∃ w1, w.alloc (.cells #[.int .i64 k, .string s, .slice sp n c] 28) = w1 := ⟨_, rfl⟩
  obtain ⟨X, eX⟩ : ∃ X, w.heap.size = X := ⟨_, rfl⟩
  rw [hw1, eX] at hA
  obtain ⟨k0, k1, k2⟩ := three_at hA
  have HA := hide hA
  obtain ⟨er, her⟩ : ∃ er, errOf (genV dn g limit) = er := ⟨_, rfl⟩
  rw [her] at HV
  obtain ⟨U, hU⟩ : ∃ U, decide (er = 0) = U := ⟨_, rfl⟩
  have z1 : ((er : Int) == 0) = U := by rw [← hU]; by_cases h : er = 0 <;> simp [h] <;> omega
  have z2 : ((er : Int) != 0) = !U := by rw [← z1]; rfl
  have HT : Hid (refG dn g limit = !U) := by show _ = _; unfold refG; rw [her, hU]
  unfold gcells at HV ⊢
  clear hA hdn hst her hU hg hk hn h4
  go_enter Tryz.func11, Tryz.ntmps11
  go_wp2_with fail
  refine (unhide HV w1 (unhide HA).b).mono ?_
  rintro e w2 ⟨ds, rfl, hv, hb⟩
  have HA2 := hide ((unhide HA).call hb)
  obtain ⟨n5, hv⟩ := hv
  obtain ⟨p1, q1, p2, q2, rfl⟩ := hv.form
  obtain ⟨vc, hvc⟩ : ∃ vc, (valOf (genV dn g limit)).cls = vc := ⟨_, rfl⟩
  obtain ⟨vt, hvt⟩ : ∃ vt, (valOf (genV dn g limit)).tag = vt := ⟨_, rfl⟩
  obtain ⟨vm, hvm⟩ : ∃ vm, (valOf (genV dn g limit)).made = vm := ⟨_, rfl⟩
  obtain ⟨vl, hvl⟩ : ∃ vl, (valOf (genV dn g limit)).bytes.length = vl := ⟨_, rfl⟩
  obtain ⟨vk, hvk⟩ : ∃ vk, (valOf (genV dn g limit)).kids.length = vk := ⟨_, rfl⟩
  simp only [hvc, hvt, hvm, hvl, hvk]
  unfold dcells
  have HB3 := hide (((unhide HA2).lit (.cells #[.int .i64 vc, .int .i64 vt, .bool vm, .slice p1 vl q1, .slice p2 vk q2] 36)).b)
  obtain ⟨w3, hw3⟩ : ∃ w3, w2.alloc (.cells #[.int .i64 vc, .int .i64 vt, .bool vm, .slice p1 vl q1, .slice p2 vk q2] 36) = w3 := ⟨_, rfl⟩
  rw [hw3] at HB3
  clear hv hb hvc hvt hvm hvl hvk k0 k1 k2 HV
  cases U <;> simp only [Bool.not_true, Bool.not_false] at z2 HT <;>
    (go_wp2
     go_ret
     exact ⟨by rw [unhide HT]; rfl, unhide HB3⟩)
set_option maxRecDepth 100000 in
set_option maxHeartbeats 8000000 in
theorem within_mach (dn : List (Bs × Bs) → Told DV) (w : World) (cs ds : List Value) (g l : Gen) (hg : GenAt w cs g) (hl : GenAt w ds l) (htg : g.text.length ≤ 1000000) (htl : l.text.length ≤ 1000000) (hdg : g.dir.length ≤ 1000000) (hdl : l.dir.length ≤ 1000000) (hkk : g.kind = l.kind) (h4 : g.kind = 2) (hr1 : refG dn g false = false) (hr2 : refG dn l true = false) (U : Bool) (hc : ∀ (wr : World) (s s2 : ByteArray), Below w.heap.size w wr → bs s = g.text → bs s2 = l.text → Calls Tryz.prog 13 #[.string s, .string s2] wr fun e w' => e = .returned (.bool U) ∧ Below wr.heap.size wr w') :
    Calls Tryz.prog 7 #[.agg cs.toArray, .agg ds.toArray] w fun e w' => e = .returned (.bool U) ∧ Below w.heap.size w w' := by
  have HG : Hid (∀ wr, Below w.heap.size w wr → GenAt wr cs g) := fun wr hb => hg.below hb
  have HL : Hid (∀ wr, Below w.heap.size w wr → GenAt wr ds l) := fun wr hb => hl.below hb
  obtain ⟨s, sp, c, rfl, hst, hdn⟩ := hg.form
  obtain ⟨s2, sp2, c2, rfl, hst2, hdn2⟩ := hl.form
  obtain ⟨k, hk⟩ : ∃ k, g.kind = k := ⟨_, rfl⟩
  obtain ⟨n, hn⟩ : ∃ n, g.dir.length = n := ⟨_, rfl⟩
  obtain ⟨k', hk'⟩ : ∃ k, l.kind = k := ⟨_, rfl⟩
  obtain ⟨n', hn'⟩ : ∃ n, l.dir.length = n := ⟨_, rfl⟩
  rw [hk, hn] at HG ⊢
  rw [hk', hn'] at HL ⊢
  have hkk2 : k = k' := by rw [← hk, ← hk']; exact hkk
  subst hkk2
  obtain rfl : k = 2 := hk.symm.trans h4
  have HRf : Hid (∀ wr, Below w.heap.size w wr → Calls Tryz.prog 11 #[.agg #[.int .i64 2, .string s, .slice sp n c], .bool false] wr fun e w' => e = .returned (.bool false) ∧ Below wr.heap.size wr w') := fun wr hb => by
    have := isref_c dn wr _ g false (unhide HG wr hb) (by omega) (by omega) (by rw [h4]; decide)
    rw [hr1] at this
    exact this
  have HRl : Hid (∀ wr, Below w.heap.size w wr → Calls Tryz.prog 11 #[.agg #[.int .i64 2, .string s2, .slice sp2 n' c2], .bool true] wr fun e w' => e = .returned (.bool false) ∧ Below wr.heap.size wr w') := fun wr hb => by
    have := isref_c dn wr _ l true (unhide HL wr hb) (by omega) (by omega) (by rw [← hkk, h4]; decide)
    rw [hr2] at this
    exact this
  have hA := Blk.new (Below.refl w.heap.size w) #[.int .i64 2, .string s, .slice sp n c] 28
  obtain ⟨w1, hw1⟩ : ∃ w1, w.alloc (.cells #[.int .i64 2, .string s, .slice sp n c] 28) = w1 := ⟨_, rfl⟩
  obtain ⟨X, eX⟩ : ∃ X, w.heap.size = X := ⟨_, rfl⟩
  rw [hw1, eX] at hA
  have hY := Blk.new hA.b #[.int .i64 2, .string s2, .slice sp2 n' c2] 28
  have hA1 := hA.lit (.cells #[.int .i64 2, .string s2, .slice sp2 n' c2] 28)
  obtain ⟨w2, hw2⟩ : ∃ w2, w1.alloc (.cells #[.int .i64 2, .string s2, .slice sp2 n' c2] 28) = w2 := ⟨_, rfl⟩
  obtain ⟨Y, eY⟩ : ∃ Y, w1.heap.size = Y := ⟨_, rfl⟩
  rw [hw2, eY] at hY
  rw [hw2] at hA1
  obtain ⟨k0, k1, k2⟩ := three_at hA1
  obtain ⟨j0, j1, j2⟩ := three_at hY
  have HA := hide hA1
  have HY := hide hY
  unfold gcells
  have HC : Hid (∀ wr, Below w.heap.size w wr → Calls Tryz.prog 13 #[.string s, .string s2] wr fun e w' => e = .returned (.bool U) ∧ Below wr.heap.size wr w') := fun wr hb => hc wr s s2 hb hst hst2
  clear hA hA1 hY hdn hdn2 hst hst2 hg hl hk hk' hn hn' hkk h4 HG HL hr1 hr2 hc
  go_enter Tryz.func7, Tryz.ntmps7
  go_wp2_with fail
  refine (unhide HRf w2 (unhide HA).b).mono ?_
  rintro e w3 ⟨rfl, hb⟩
  have HA3 := hide ((unhide HA).call hb)
  have HY3 := hide ((unhide HY).call hb)
  clear hb k0 k1 k2 j0 j1 j2 HA HY hw1 hw2 eY
  obtain ⟨k0, k1, k2⟩ := three_at (unhide HA3)
  obtain ⟨j0, j1, j2⟩ := three_at (unhide HY3)
  go_wp2_with fail
  refine (unhide HRl w3 (unhide HA3).b).mono ?_
  rintro e w4 ⟨rfl, hb⟩
  have HA4 := hide ((unhide HA3).call hb)
  have HY4 := hide ((unhide HY3).call hb)
  clear hb k0 k1 k2 j0 j1 j2 HA3 HY3
  obtain ⟨k0, k1, k2⟩ := three_at (unhide HA4)
  obtain ⟨j0, j1, j2⟩ := three_at (unhide HY4)
  go_wp2_with fail
  refine (unhide HC w4 (unhide HA4).b).mono ?_
  rintro e w5 ⟨rfl, hb⟩
  have HA5 := hide ((unhide HA4).call hb)
  clear hb k0 k1 k2 j0 j1 j2 HA4 HY4
  go_wp2
  go_ret
  exact ⟨rfl, (unhide HA5).b⟩
end N
end Go.Proofs.YtcofnockikninabGreatDoor
