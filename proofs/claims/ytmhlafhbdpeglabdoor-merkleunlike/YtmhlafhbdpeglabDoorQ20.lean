/-
  The walk of MerkleUnlike.
-/
import Derived.Test.YtmhlafhbdpeglabDoorQ18
import Derived.Test.YtmhlafhbdpeglabDoorQ16
import Derived.Deep.RegionHeld3
namespace Go.Proofs.YtmhlafhbdpeglabDoor
open Go.RowKit
theorem tree_s (w : World) (hr : Sha.Ready w) (x : Value) (ls : List Bs) (N : Nat) (hN : ls.length = N) (hx : LL w x ls) (hl : N ≤ 100) (hsm : ∀ b ∈ ls, b.length ≤ 10000) :
    Calls Tryd.prog 12 #[x] w fun e w' => ∃ t s c S, e = .returned (.tuple #[.pointer (some ⟨t, 0, none⟩), .slice s N c]) ∧ TreeAt S w' t (leavesH ls) N ∧ Below w.heap.size w w' := by
  subst hN
  refine (tree_any w hr x ls hx hl hsm).mono ?_
  rintro e w' ⟨t, l, S, rfl, hT, hG, hS, hb⟩
  obtain ⟨s, c, e⟩ := hG.form
  rw [List.length_map] at e
  subst e
  exact ⟨t, s, c, S, rfl, hT, hb⟩
/-- A copy of a list in new memory, one place written over. -/
theorem ll_poked {w w2 : World} {x ov lv : Value} {ls : List Bs} {d : Bs} {vs : List Value} {at_ : Nat} (h1 : ValsAt w x vs) (h2 : vs.length = ls.length) (h3 : ∀ i, i < ls.length → BytesAt w (vs.getD i undef) (ls.getD i [])) (hb : Below w.heap.size w w2) (ho : OwnV 23 w2 w.heap.size ov vs) (hd : BytesAt w lv d) (ha : at_ < ls.length) :
    ∃ ob cap old, ov = .slice (some ⟨ob, 0, none⟩) ls.length cap ∧ w2.cell? ⟨ob, at_, none⟩ = some old ∧ w2.frozen? ⟨ob, at_, none⟩ = false ∧ LL (w2.setCell ⟨ob, at_, none⟩ lv) ov (ls.set at_ d) ∧ Below w.heap.size w (w2.setCell ⟨ob, at_, none⟩ lv) := by
  obtain ⟨ob, rest, cap, hv, hB, hc, hm, hrow⟩ := ho.row (by rintro rfl; simp at h2; omega)
  rw [h2] at hv hc
  have hB2 : Below w.heap.size w (w2.setCell ⟨ob, at_, none⟩ lv) := hb.setCell (by simp only; exact hB) _
  refine ⟨ob, cap, _, hv, hrow.cell at_ (by omega), hrow.frozen at_, ?_, hB2⟩
  have hset := hrow.set at_ (by omega) lv
  have hown := hset.own hB ls.length cap (by rw [List.length_set]; exact h2) hc hm
  rw [hv]
  refine ⟨vs.set at_ lv, hown.vals, by rw [List.length_set, List.length_set]; exact h2, fun i hi => ?_⟩
  rw [List.length_set] at hi
  rw [getD_set _ _ _ _ _ (by omega), getD_set _ _ _ _ _ ha]
  split
  · exact hd.below hB2
  · exact (h3 i hi).below hB2
theorem empty_bb (w : World) : OwnV 23 (w.alloc (.cells #[] 23)) w.heap.size (.slice (some ⟨w.heap.size, 0, none⟩) 0 0) [] := ⟨rfl, Or.inr ⟨w.heap.size, 0, #[], rfl, Nat.le_refl _, heap_alloc_new w _, Nat.le_refl _, Nat.zero_le _, rfl, rfl⟩⟩
theorem slices_one {w : World} {vs : List Value} {ls : List Bs} (h2 : vs.length = ls.length) (h3 : ∀ i, i < ls.length → BytesAt w (vs.getD i undef) (ls.getD i [])) : ∀ u ∈ vs, u.oneCell' = true := fun u hu => by
  obtain ⟨i, hi, rfl⟩ := List.getElem_of_mem hu
  have := h3 i (by omega)
  rw [List.getD_eq_getElem?_getD, List.getElem?_eq_getElem hi] at this
  exact one_cell_bytes this
set_option maxRecDepth 100000 in
set_option maxHeartbeats 16000000 in
/-- MERKLEUNLIKE. -/
theorem unlike_true (w : World) (hr : Sha.Ready w) (x : Value) (ls : List Bs) (hx : LL w x ls) (hsm : ∀ b ∈ ls, b.length ≤ 1099511627776000) (hlb : ls.length ≤ 1099511627776000) (m : Int) (hm : -9223372036854775808 ≤ m ∧ m ≤ 9223372036854775807) (y : Value) (d : Bs) (hy : BytesAt w y d) (hdl : (d.length : Int) ≤ 9223372036854775807) : Says w 5 #[x, .int .i64 m, y] true := by
  obtain ⟨sp, cp, rfl⟩ := hx.form
  obtain ⟨sd, cd, rfl, _⟩ := bytes_open hy
  obtain ⟨m1, m2⟩ := hm
  have HX := hide hx
  have HY := hide hy
  have HR := hide hr
  have Hsm := hide hsm
  obtain ⟨N, hNN⟩ : ∃ N, ls.length = N := ⟨_, rfl⟩
  obtain ⟨D, hDD⟩ : ∃ D, d.length = D := ⟨_, rfl⟩
  have HNN := hide hNN
  have HDD := hide hDD
  rw [hNN] at HX hlb ⊢
  rw [hDD] at HY hdl ⊢
  have n0 : (0 : Int) ≤ (N : Int) := by omega
  have nb : (N : Int) ≤ 1099511627776000 := by omega
  have D0 : (0 : Int) ≤ (D : Int) := by omega
  clear hx hr hsm hNN hy hDD
  go_enter Tryd.func5, Tryd.ntmps5
  go_wp2_with fail
  refine (anchor_c w (unhide HR)).mono ?_
  rintro e w1 ⟨rfl, hb1⟩
  have HB1 := hide hb1
  have HX1 := hide ((unhide HX).below hb1)
  have HY1 := hide ((unhide HY).below hb1)
  have HR1 := hide (ready_on (unhide HR) hb1)
  clear hb1
  go_wp2_with fail
  refine (few_c w1 _ ls (unhide HX1) (unhide Hsm)).mono ?_
  rintro e w1' ⟨rfl, hw1⟩
  subst hw1
  by_cases hf : fewB ls = true
  case neg =>
    have hff : fewB ls = false := by simpa using hf
    rw [hff]
    clear hf hff
    go_wp2
    go_ret
    exact ⟨rfl, unhide HB1⟩
  case pos =>
  rw [hf]
  by_cases hin : 0 ≤ m ∧ m < (N : Int) ∧ D ≤ 100
  case neg =>
    by_cases h0 : m < 0
    · have d1 : decide (m < 0) = true := by simp; omega
      go_wp2
      go_ret
      exact ⟨rfl, unhide HB1⟩
    have d1 : decide (m < 0) = false := by simp; omega
    by_cases h1 : (N : Int) ≤ m
    · have d2 : decide ((N : Int) ≤ m) = true := by simp; omega
      go_wp2
      go_ret
      exact ⟨rfl, unhide HB1⟩
    have d2 : decide ((N : Int) ≤ m) = false := by simp; omega
    have d3 : decide ((100 : Int) < (D : Int)) = true := by simp; omega
    have d3n : decide (100 < D) = true := by simp; omega
    go_wp2
    go_ret
    exact ⟨rfl, unhide HB1⟩
  case pos =>
  obtain ⟨a, rfl⟩ : ∃ a : Nat, m = (a : Int) := ⟨m.toNat, by omega⟩
  have hN := (few_small hf).1
  have Hfs := hide (few_small hf).2
  rw [unhide HNN] at hN
  have d1 : decide ((a : Int) < 0) = false := by simp
  have d2 : decide ((N : Int) ≤ (a : Int)) = false := by simp; omega
  have d2n : decide (N ≤ a) = false := by simp; omega
  have d3 : decide ((100 : Int) < (D : Int)) = false := by simp; omega
  have d3n : decide (100 < D) = false := by simp; omega
  have haN : a < N := by omega
  have a0 : (0 : Int) ≤ (a : Int) := by omega
  have a1 : (a : Int) < (N : Int) := by omega
  have HaN := hide haN
  have HD := hide hin.2.2
  have HN := hide hN
  obtain ⟨vs, hv1, hv2, hv3⟩ := unhide HX1
  have Hv1 := hide hv1
  have Hv2 := hide hv2
  have Hv3 := hide hv3
  have hbE : Below w1'.heap.size w1' (w1'.alloc (.cells #[] 23)) := (Below.refl _ _).alloc (Nat.le_refl _) _
  have HE := hide (empty_bb w1')
  have HbE := hide hbE
  have HvE := hide (hv1.below hbE)
  have Hone := hide (slices_one hv2 hv3)
  have HszE := hide hbE.size
  have HlnE : Hid (([] : List Value).length + vs.length ≤ 1073741824) := by show _ ≤ _; rw [hv2, unhide HNN]; simp; omega
  clear hin hf m1 m2 haN hv1 hv2 hv3 hbE
  go_upto_region 6 with (at_builtin; refine wpList_append_vals Ebb rfl _ _ rfl w1'.heap.size _ _ [] vs rfl (unhide HE) rfl (unhide HvE) (unhide Hone) (unhide HszE) (unhide HlnE) ?_
                         intro ov w2 hO2 hg2 _
                         rw [List.nil_append] at hO2
                         have hB2 := own_below (unhide HE) hg2 (unhide HbE) (unhide HszE)
                         have HO2 := hide hO2
                         have HB2 := hide hB2
                         clear hO2 hg2 hB2)
  obtain ⟨ob, ocap, old, rfl, kc, kf, hll, hB3⟩ := ll_poked (unhide Hv1) (unhide Hv2) (unhide Hv3) (unhide HB2) (unhide HO2) (unhide HY1) (by have := unhide HNN; have := unhide HaN; omega : a < ls.length)
  rw [unhide HNN] at hll ⊢
  obtain ⟨w3, hw3⟩ : ∃ w3, w2.setCell ⟨ob, a, none⟩ (.slice sd D cd) = w3 := ⟨_, rfl⟩
  rw [hw3] at hll hB3
  have HLL := hide hll
  have HB3 := hide hB3
  have HX3 := hide ((unhide HX1).below hB3)
  have HY3 := hide ((unhide HY1).below hB3)
  have HR3 := hide (ready_on (unhide HR1) hB3)
  have hsm2 : ∀ b ∈ ls.set a d, b.length ≤ 10000 := fun b hb => by
    rcases List.mem_or_eq_of_mem_set hb with h | h
    · exact unhide Hfs b h
    · rw [h, unhide HDD]; have := unhide HD; omega
  have Hsm2 := hide hsm2
  have Hln2 : Hid ((ls.set a d).length = N) := by show _ = _; rw [List.length_set]; exact unhide HNN
  clear hll hB3 hsm2 HE HbE HvE Hone HszE HlnE HO2 HB2 Hv1 Hv2 Hv3
  go_wp2_with fail
  refine (tree_s w3 (unhide HR3) _ ls N (unhide HNN) (unhide HX3) (unhide HN) (unhide Hfs)).mono ?_
  rintro e w4 ⟨t, s4, c4, S4, rfl, hT4, hb4⟩
  have HT4 := hide hT4
  have HR4 := hide (ready_on (unhide HR3) hb4)
  have HLL4 := hide ((unhide HLL).below hb4)
  have HB4 := hide ((unhide HB3).trans (hb4.mono (unhide HB3).size))
  clear hT4 hb4 kc kf
  go_wp2_with fail
  refine (tree_s w4 (unhide HR4) _ (ls.set a d) N (unhide Hln2) (unhide HLL4) (unhide HN) (unhide Hsm2)).mono ?_
  rintro e w5 ⟨u, s5, c5, S5, rfl, hT5, hb5⟩
  have HU5 := hide hT5
  have HT5 := hide ((unhide HT4).below hb5)
  have HR5 := hide (ready_on (unhide HR4) hb5)
  have HB5 := hide ((unhide HB4).trans (hb5.mono (unhide HB4).size))
  clear hT5 hb5
  -- the roots
  have heq : rootP Sha.shaOf (leavesH (ls.set a d)) 0 a = rootP Sha.shaOf (leavesH ls) 0 a := root_congr a 0 fun i _ hi => by
    unfold leavesH
    rw [getD_set _ _ _ _ _ (by have := unhide HNN; have := unhide HaN; omega), if_neg (by omega)]
  have Hr1 := hide (troot_yes (len_leavesH ls) (by have := unhide HN; omega) w5 (unhide HR5) (unhide HT5) a (by have := unhide HaN; omega))
  have H2 : Hid (∀ W, Sha.Ready W → TreeAt S5 W u (leavesH (ls.set a d)) N → YesB W 13 #[.pointer (some ⟨u, 0, none⟩), .int .i64 (a : Int)] (rootP Sha.shaOf (leavesH ls) 0 a)) := fun W h1 h2 => by
    have h := troot_yes (len_leavesH (ls.set a d)) (by have := unhide HN; omega) W h1 h2 a (by have := unhide HaN; omega)
    rwa [heq] at h
  have H3 : Hid (∀ W, Sha.Ready W → TreeAt S4 W t (leavesH ls) N → YesB W 13 #[.pointer (some ⟨t, 0, none⟩), .int .i64 (N : Int)] (rootP Sha.shaOf (leavesH ls) 0 N)) := fun W h1 h2 => troot_yes (len_leavesH ls) (by have := unhide HN; omega) W h1 h2 N (Nat.le_refl _)
  have H4 : Hid (∀ W, Sha.Ready W → TreeAt S5 W u (leavesH (ls.set a d)) N → YesB W 13 #[.pointer (some ⟨u, 0, none⟩), .int .i64 (N : Int)] (rootP Sha.shaOf (leavesH (ls.set a d)) 0 N)) := fun W h1 h2 => troot_yes (len_leavesH _) (by have := unhide HN; omega) W h1 h2 N (Nat.le_refl _)
  obtain ⟨e0, he0⟩ : ∃ e0, ls[a]? = some e0 := ⟨_, List.getElem?_eq_getElem (by have := unhide HNN; have := unhide HaN; omega)⟩
  have hal : leafH Sha.shaOf d = leafH Sha.shaOf e0 → rootP Sha.shaOf (leavesH (ls.set a d)) 0 N = rootP Sha.shaOf (leavesH ls) 0 N := fun h => root_congr N 0 fun i _ _ => by
    unfold leavesH
    rw [getD_set _ _ _ _ _ (by have := unhide HNN; have := unhide HaN; omega)]
    split
    · rename_i e
      subst e
      rw [List.getD_eq_getElem?_getD, he0]
      exact h
    · rfl
  have Hal := hide hal
  have Hl1 : Hid ((rootP Sha.shaOf (leavesH ls) 0 a).length = 32) := len_root Sha.length_shaOf _ _ fun i _ _ => len_leavesH ls i
  have Hl2 : Hid ((rootP Sha.shaOf (leavesH ls) 0 N).length = 32) := len_root Sha.length_shaOf _ _ fun i _ _ => len_leavesH ls i
  have Hl3 : Hid ((rootP Sha.shaOf (leavesH (ls.set a d)) 0 N).length = 32) := len_root Sha.length_shaOf _ _ fun i _ _ => len_leavesH _ i
  have He0l := hide (unhide Hfs e0 (List.mem_of_getElem? he0))
  have He0 := hide he0
  obtain ⟨A, hA⟩ : ∃ A, rootP Sha.shaOf (leavesH ls) 0 a = A := ⟨_, rfl⟩
  obtain ⟨X, hXx⟩ : ∃ A, rootP Sha.shaOf (leavesH ls) 0 N = A := ⟨_, rfl⟩
  obtain ⟨Y, hYy⟩ : ∃ A, rootP Sha.shaOf (leavesH (ls.set a d)) 0 N = A := ⟨_, rfl⟩
  rw [hA] at Hr1 H2 Hl1
  rw [hXx] at H3 Hl2 Hal
  rw [hYy] at H4 Hl3 Hal
  clear heq hal he0 hA hXx hYy
  go_wp2_with fail
  refine (unhide Hr1).mono ?_
  rintro e w6 ⟨v6, rfl, hR6⟩
  obtain ⟨s6, n6, c6, rfl⟩ := hR6.bytes.forms
  have HR6 := hide (ready_on (unhide HR5) hR6.b)
  have HT6 := hide ((unhide HT5).below hR6.b)
  have HU6 := hide ((unhide HU5).below hR6.b)
  have HB6 := hide ((unhide HB5).trans (hR6.b.mono (unhide HB5).size))
  have HV6 := hide hR6.bytes
  clear hR6 Hr1
  go_wp2_with fail
  refine (unhide H2 w6 (unhide HR6) (unhide HU6)).mono ?_
  rintro e w7 ⟨v7, rfl, hR7⟩
  obtain ⟨s7, n7, c7, rfl⟩ := hR7.bytes.forms
  have HR7 := hide (ready_on (unhide HR6) hR7.b)
  have HT7 := hide ((unhide HT6).below hR7.b)
  have HU7 := hide ((unhide HU6).below hR7.b)
  have HB7 := hide ((unhide HB6).trans (hR7.b.mono (unhide HB6).size))
  have HV67 := hide ((unhide HV6).below hR7.b)
  have HV7 := hide hR7.bytes
  clear hR7 H2
  go_wp2_with fail
  refine (unhide H3 w7 (unhide HR7) (unhide HT7)).mono ?_
  rintro e w8 ⟨v8, rfl, hR8⟩
  obtain ⟨s8, n8, c8, rfl⟩ := hR8.bytes.forms
  have HR8 := hide (ready_on (unhide HR7) hR8.b)
  have HU8 := hide ((unhide HU7).below hR8.b)
  have HB8 := hide ((unhide HB7).trans (hR8.b.mono (unhide HB7).size))
  have HV68 := hide ((unhide HV67).below hR8.b)
  have HV78 := hide ((unhide HV7).below hR8.b)
  have HV8 := hide hR8.bytes
  clear hR8 H3
  go_wp2_with fail
  refine (unhide H4 w8 (unhide HR8) (unhide HU8)).mono ?_
  rintro e w9 ⟨v9, rfl, hR9⟩
  obtain ⟨s9, n9, c9, rfl⟩ := hR9.bytes.forms
  have HR9 := hide (ready_on (unhide HR8) hR9.b)
  have hB9 := (unhide HB8).trans (hR9.b.mono (unhide HB8).size)
  have HV69 := hide ((unhide HV68).below hR9.b)
  have HV79 := hide ((unhide HV78).below hR9.b)
  have HV89 := hide ((unhide HV8).below hR9.b)
  have HV9 := hide hR9.bytes
  have hx9 := (unhide HX1).below hB9
  obtain ⟨lb, lo, lv, rfl, kl, hlv⟩ := hx9.atb (unhide He0)
  obtain ⟨s10, n10, c10, rfl⟩ := hlv.forms
  have hdr : Below w9.heap.size w9 w9.drew := (Below.refl _ _).drew
  have HLv := hide (hlv.below hdr)
  have HY9 := hide (((unhide HY1).below hB9).below hdr)
  have HB9 := hide hB9
  have Hdr := hide hdr
  have HR9d := hide (ready_on (unhide HR9) hdr)
  clear hR9 H4 hB9 hx9 hlv hdr
  go_wp2
  go_region_held3 (fun w' => w'.cell? ⟨lb, lo + a, none⟩ = some (.slice s10 n10 c10)) (go_keep)
    ((first
      | (go_at_call_of 20 (Value.slice sd D cd); refine (mleaf_c w9.drew (unhide HR9d) _ d (unhide HY9) (by have := unhide HDD; have := unhide HD; omega)).mono ?_; rintro e w10 ⟨v10, rfl, hR10⟩; obtain ⟨s11, n11, c11, rfl⟩ := hR10.bytes.forms; have k1 := cell_below (show w9.drew.cell? _ = _ from kl) hR10.b; have HV10 := hide hR10.bytes; have HB10 := hide hR10.b; clear hR10)
      | (go_at_call_of 20 (Value.slice s10 n10 c10); refine (mleaf_c w10 (ready_on (unhide HR9d) (unhide HB10)) _ e0 ((unhide HLv).below (unhide HB10)) (by have := unhide He0l; omega)).mono ?_; rintro e w11 ⟨v11, rfl, hR11⟩; obtain ⟨s12, n12, c12, rfl⟩ := hR11.bytes.forms; have k2 := cell_below k1 hR11.b; have HV11 := hide hR11.bytes; have HV1011 := hide ((unhide HV10).below hR11.b); have HB11 := hide ((unhide HB10).trans (hR11.b.mono (unhide HB10).size)); clear hR11)
      | (go_at_call 17; refine (same_any w11 _ _ (leafH Sha.shaOf d) (leafH Sha.shaOf e0) (unhide HV1011) (unhide HV11) (by rw [show (leafH Sha.shaOf d).length = 32 from Sha.length_shaOf _]; omega)).mono ?_; rintro e w12 ⟨rfl, hb12⟩; have k3 := cell_below k2 hb12; have HB12 := hide ((unhide HB11).trans (hb12.mono (unhide HB11).size)); clear hb12)))
  have HBd := hide ((unhide Hdr).trans (unhide HB12))
  have HV612 := hide ((unhide HV69).below (unhide HBd))
  have HV712 := hide ((unhide HV79).below (unhide HBd))
  have HV812 := hide ((unhide HV89).below (unhide HBd))
  have HV912 := hide ((unhide HV9).below (unhide HBd))
  have HBf := hide ((unhide HB1).trans (((unhide HB9).trans ((unhide HBd).mono (unhide HB9).size)).mono (unhide HB1).size))
  clear k1 k2 k3 kl
  by_cases halike : leafH Sha.shaOf d = leafH Sha.shaOf e0
  · rw [decide_eq_true halike]
    have hXY := unhide Hal halike
    have HXY := hide hXY
    clear hXY
    go_wp2_with fail
    refine (same_any w12 _ _ A A (unhide HV612) (unhide HV712) (by have := unhide Hl1; omega)).mono ?_
    rintro e w13 ⟨rfl, hb13⟩
    rw [decide_eq_true rfl]
    have HV813 := hide ((unhide HV812).below hb13)
    have HV913 := hide ((unhide HV912).below hb13)
    have HB13 := hide ((unhide HBf).trans (hb13.mono (unhide HBf).size))
    clear hb13
    go_wp2_with fail
    refine (same_any w13 _ _ X Y (unhide HV813) (unhide HV913) (by have := unhide Hl2; omega)).mono ?_
    rintro e w14 ⟨rfl, hb14⟩
    rw [decide_eq_true (unhide HXY).symm]
    have HB14 := hide ((unhide HB13).trans (hb14.mono (unhide HB13).size))
    clear hb14
    go_wp2
    go_ret
    exact ⟨rfl, unhide HB14⟩
  · rw [decide_eq_false halike]
    go_wp2_with fail
    refine (same_any w12 _ _ A A (unhide HV612) (unhide HV712) (by have := unhide Hl1; omega)).mono ?_
    rintro e w13 ⟨rfl, hb13⟩
    rw [decide_eq_true rfl]
    have HB13 := hide ((unhide HBf).trans (hb13.mono (unhide HBf).size))
    clear hb13
    go_wp2
    go_ret
    exact ⟨rfl, unhide HB13⟩
end Go.Proofs.YtmhlafhbdpeglabDoor
