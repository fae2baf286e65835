/-
  The walk of Add: one leaf more.
  The walk of the reference's climb.
  The walk of the reference's Root.
  The walk of Same: whether two slices hold the same bytes.
-/
import Derived.Test.YtmhlafhbdpeglaaDoorQ14
import Derived.Deep.Cut
import Derived.Deep.RegionHeld3
import Derived.Test.YtmhlafhbdpeglaaDoorQ13
import Derived.Test.YtmhlafhbdpeglaaDoorQ1
namespace Go.Proofs.YtmhlafhbdpeglaaDoor
open Go.RowKit
theorem ready_aside {S : Set_} {a b : World} (h : Sha.Ready a) (hb : Aside S a b) (hS : ∀ k, S k → 1 < k) : Sha.Ready b := by
  obtain ⟨⟨tk, fr, h1⟩, ⟨tk2, fr2, h2⟩⟩ := h
  refine ⟨⟨tk, fr, ?_⟩, ⟨tk2, fr2, ?_⟩⟩
  · rw [hb.block 0 (Array.getElem?_eq_some_iff.1 h1).1 fun e => by have := hS _ e; omega]; exact h1
  · rw [hb.block 1 (Array.getElem?_eq_some_iff.1 h2).1 fun e => by have := hS _ e; omega]; exact h2
/-- How many hashes stand in the row x while a leaf is being added, at the height h. -/
def cntA (N h : Nat) (x : Nat) : Nat := if x < h then (N + 1) / 2 ^ x else N / 2 ^ x
theorem div_next {N h : Nat} (hd : 2 ^ h ∣ N + 1) : (N + 1) / 2 ^ h = N / 2 ^ h + 1 := by
  rw [Nat.succ_div, if_pos hd]
/-- While it is not a multiple, the number of whole ones stays. -/
theorem div_same {N x : Nat} (hd : ¬ 2 ^ x ∣ N + 1) : (N + 1) / 2 ^ x = N / 2 ^ x := by
  rw [Nat.succ_div, if_neg hd, Nat.add_zero]
theorem cnt_push (N h x : Nat) (hd : 2 ^ h ∣ N + 1) : (if x = h then cntA N h h + 1 else cntA N h x) = cntA N (h + 1) x := by
  unfold cntA
  by_cases e : x = h
  · subst e
    rw [if_pos rfl, if_neg (by omega), if_pos (by omega), div_next hd]
  · rw [if_neg e]
    by_cases hl : x < h
    · rw [if_pos hl, if_pos (by omega)]
    · rw [if_neg hl, if_neg (by omega)]
/-- At an odd count all is done. -/
theorem cnt_done (N h x : Nat) (hd : 2 ^ h ∣ N + 1) (ho : (N / 2 ^ h + 1) % 2 = 1) : cntA N (h + 1) x = (N + 1) / 2 ^ x := by
  unfold cntA
  by_cases hl : x < h + 1
  · rw [if_pos hl]
  · rw [if_neg hl, div_same]
    intro hx
    have h1 : 2 ^ (h + 1) ∣ N + 1 := Nat.dvd_trans (Nat.pow_dvd_pow 2 (by omega)) hx
    obtain ⟨q, hq⟩ := h1
    have h2 := div_next hd
    rw [hq, Nat.pow_succ, Nat.mul_assoc, Nat.mul_div_cancel_left _ (Nat.pow_pos (by omega))] at h2
    omega
theorem even_dvd {N h : Nat} (hd : 2 ^ h ∣ N + 1) (he : (N / 2 ^ h + 1) % 2 = 0) : 2 ^ (h + 1) ∣ N + 1 := by
  have h2 := div_next hd
  obtain ⟨q, hq⟩ := hd
  have hp : 0 < 2 ^ h := Nat.pow_pos (by omega)
  rw [hq, Nat.mul_div_cancel_left _ hp] at h2
  refine ⟨q / 2, ?_⟩
  rw [hq, Nat.pow_succ, Nat.mul_assoc]
  congr 1
  omega
theorem sub_node {g : Nat → Bs} {N h : Nat} (he : (N / 2 ^ h + 1) % 2 = 0) : nodeH Sha.shaOf (subP g h (N / 2 ^ h - 1)) (subP g h (N / 2 ^ h)) = subP g (h + 1) (N / 2 ^ (h + 1)) := by
  have e1 : N / 2 ^ (h + 1) = N / 2 ^ h / 2 := by rw [Nat.pow_succ, Nat.div_div_eq_div_mul]
  obtain ⟨q, hq⟩ : ∃ q, N / 2 ^ h / 2 = q := ⟨_, rfl⟩
  have e2 : N / 2 ^ h = 2 * q + 1 := by omega
  rw [e1, hq, e2]
  unfold subP
  rw [root_twice]
  have e3 : q * 2 ^ (h + 1) = (2 * q + 1 - 1) * 2 ^ h := by rw [Nat.pow_succ, show 2 * q + 1 - 1 = q * 2 by omega, Nat.mul_assoc, Nat.mul_comm 2 (2 ^ h)]
  rw [e3]
  congr 2
  rw [show 2 * q + 1 - 1 = 2 * q by omega, Nat.add_mul, Nat.one_mul]
/-- What is so while a leaf is being added, at the height h. -/
structure Adds (S : Set_) (w wr : World) (t : Nat) (g : Nat → Bs) (N h : Nat) (cs : List Value) (hash : Value) (S' : Set_) : Prop where
  tree : TreeC S' wr t cs (cntA N h) g
  loose : LooseB S' t cs hash
  bytes : BytesAt wr hash (subP g h (N / 2 ^ h))
  ready : Sha.Ready wr
  aside : Aside S w wr
  set : ∀ k, S' k → S k ∨ w.heap.size ≤ k
set_option maxRecDepth 100000 in
set_option maxHeartbeats 8000000 in
theorem tadd_c {S : Set_} {t : Nat} {g : Nat → Bs} {N : Nat} (hg : ∀ i, (g i).length = 32) (hN : N ≤ 100) (w : World) (hr : Sha.Ready w) (T : TreeAt S w t g N) (hS : ∀ k, S k → 1 < k) (x : Value) (d : Bs) (hx : BytesAt w x d) (hd : d.length ≤ 1000000) (hgN : g N = leafH Sha.shaOf d) :
    Calls Tryd.prog 27 #[.pointer (some ⟨t, 0, none⟩), x] w fun e w' => e = .returned (.tuple #[]) ∧ ∃ S', TreeAt S' w' t g (N + 1) ∧ (∀ k, S' k → S k ∨ w.heap.size ≤ k) ∧ Aside S w w' := by
  obtain ⟨cs, T⟩ := T
  have HT := hide T
  have HR := hide hr
  have HX := hide hx
  have HS := hide hS
  have Hd := hide hd
  have Hg := hide hg
  have HgN := hide hgN
  obtain ⟨sx, nx, cx, rfl⟩ := hx.forms
  clear T hr hx hd hgN hS hg
  go_enter Tryd.func27, Tryd.ntmps27
  go_wp2_with fail
  refine (mleaf_c w (unhide HR) _ d (unhide HX) (unhide Hd)).mono ?_
  rintro e w1 ⟨v1, rfl, hR1⟩
  have HA1 : Hid (Adds S w w1 t g N 0 cs v1 (grownSet S w w1)) := by
    have hT1 := (unhide HT).fresh hR1
    refine ⟨hT1.1.counts fun h _ => by simp [cntA], hT1.2, ?_, (unhide HR).below hR1.b, Aside.of_below hR1.b, fun k hk => ?_⟩
    · have := hR1.bytes
      unfold subP
      rw [Nat.pow_zero, Nat.div_one, Nat.mul_one, root_one, unhide HgN]
      exact this
    · rcases hk with hk | hk
      · exact Or.inl hk
      · exact Or.inr hk.1
  obtain ⟨s1, n1, c1, rfl⟩ := hR1.bytes.forms
  clear hR1 HT HX Hd HgN
  go_wp2
  go_loopw [4, 9] (fun hash ii wr => ∃ (h : Nat) (cs : List Value) (S' : Set_) (s : Option Addr) (n c : Nat), h ≤ 6 ∧ ii = .int .i64 (h : Int) ∧ hash = .slice s n c ∧ Hid (2 ^ h ∣ N + 1) ∧ Hid (Adds S w wr t g N h cs (.slice s n c) S')) (fun _ ii _ => 64 - (intOf ii).toNat)
  case atStart => exact ⟨0, cs, _, _, _, _, by omega, rfl, rfl, Nat.one_dvd _, HA1⟩
  case round =>
    clear HA1
    obtain ⟨h, cs, S', s, n, c, hh, rfl, rfl, Hdv, HA⟩ := hrel
    rename World => wr
    have h0 : (0 : Int) ≤ (h : Int) := by omega
    have h1 : (h : Int) ≤ 6 := by omega
    have h2 : (h : Int) < 64 := by omega
    have h3 : h < 64 := by omega
    obtain ⟨vs, hov, hvl, hve⟩ := (unhide HA).tree.row h h3
    have hcell := (unhide HA).tree.blk.cell h (by rw [(unhide HA).tree.len]; exact h3)
    obtain ⟨rv, hrv⟩ : ∃ rv, cs.getD h undef = rv := ⟨_, rfl⟩
    have hcnt : cntA N h h = N / 2 ^ h := by unfold cntA; rw [if_neg (by omega)]
    obtain ⟨q, hq⟩ : ∃ q, N / 2 ^ h = q := ⟨_, rfl⟩
    have hq100 : q ≤ 100 := by rw [← hq]; exact Nat.le_trans (Nat.div_le_self _ _) hN
    rw [hcnt, hq] at hvl hve
    rw [hrv] at hcell hov
    obtain ⟨rs, rc, hrf⟩ := hov.form
    have hbL : Below wr.heap.size wr (wr.alloc (.cells #[.slice s n c] 28)) := (Below.refl _ _).alloc (Nat.le_refl _) _
    have HL := hide (vals_new wr [.slice s n c] 28)
    have HTL := hide ((unhide HA).tree.below hbL)
    have HBL := hide ((unhide HA).bytes.below hbL)
    have HOL := hide (hov.below hbL)
    have Hsz := hide (Nat.zero_le (wr.alloc (.cells #[.slice s n c] 28)).heap.size)
    have Hone : Hid (∀ u ∈ [Value.slice s n c], u.oneCell' = true) := fun u hu => by rw [List.mem_singleton.1 hu]; rfl
    have Hln : Hid (vs.length + [Value.slice s n c].length ≤ 1073741824) := by show _ ≤ _; rw [hvl]; simp; omega
    have Hve := hide hve
    have Hvl := hide hvl
    have Hrv := hide hrv
    have Hcnt := hide (hcnt.trans hq)
    have Hq := hide hq
    obtain ⟨vn, hvn⟩ : ∃ vn, vs.length = vn := ⟨_, rfl⟩
    rw [hvn] at hrf
    subst hrf
    have HbL := hide hbL
    clear hov hve hvl hrv hbL hcnt hq hvn
    obtain ⟨C1, hC1⟩ : ∃ C1, q + 1 = C1 := ⟨_, rfl⟩
    have HC1 := hide hC1
    go_upto_region 6 with (at_builtin; refine wpList_append_vals Ebb rfl _ _ rfl 0 _ _ vs [.slice s n c] rfl (unhide HOL) rfl (unhide HL) (unhide Hone) (unhide Hsz) (unhide Hln) ?_
                           intro v2 w2 hO2 hg2 hor2
                           obtain ⟨s2, c2, hf2⟩ := hO2.form
                           have hl2 : (vs ++ [Value.slice s n c]).length = C1 := by rw [List.length_append, unhide Hvl, ← unhide HC1]; rfl
                           rw [hl2] at hf2
                           have hb2 : RowAt 50 w2 t [] cs := (unhide HTL).blk.grown hg2 (fun e => ((unhide HTL).sr h h3 t (by rw [unhide Hrv]; exact e.symm)).2 rfl)
                           have z1 := hb2.frozen h
                           have z2 := hb2.cell h (by rw [(unhide HTL).len]; exact h3)
                           rw [unhide Hrv] at z2
                           have hP := (unhide HTL).push (vs := vs) (u := .slice s n c) (v' := v2) h3 (by rw [unhide Hvl, unhide Hcnt]) (fun j hj => ⟨((unhide Hve) j (by rw [← unhide Hcnt]; exact hj)).1.below (unhide HbL), ((unhide Hve) j (by rw [← unhide Hcnt]; exact hj)).2⟩) (by rw [unhide Hcnt, ← unhide Hq]; exact unhide HBL) (unhide HA).loose hO2 (by rw [unhide Hrv]; exact hg2) (by rw [unhide Hrv]; exact hor2)
                           subst hf2
                           have HP := hide hP
                           obtain ⟨w3, hw3⟩ : ∃ w3, w2.setCell ⟨t, h, none⟩ (.slice s2 C1 c2) = w3 := ⟨_, rfl⟩
                           rw [hw3] at HP
                           clear hP hO2 hg2 hor2 hl2 hb2)
    have hw31 : Aside S w w3 := (unhide HA).aside.trans ((Aside.of_below (S := S') (unhide HbL)).trans (T := S') (unhide HP).2 (fun _ _ h => h)) fun k hk h => ((unhide HA).set k h).resolve_right (by omega)
    have hset3 : ∀ k, grownSet S' (wr.alloc (.cells #[.slice s n c] 28)) w2 k → S k ∨ w.heap.size ≤ k := fun k hk => by
      rcases hk with hk | hk
      · exact (unhide HA).set k hk
      · have := (unhide HbL).size; have := (unhide HA).aside.size; exact Or.inr (by omega)
    have Hw31 := hide hw31
    have Hset3 := hide hset3
    have q0 : (0 : Int) ≤ (C1 : Int) := by omega
    have q1 : (C1 : Int) ≤ 101 := by omega
    clear hw31 hset3 hcell HL HOL HBL Hsz Hone Hln z1 z2 hw3
    by_cases hpar : C1 % 2 = 1
    · have hr1 : (C1 : Int) % 2 = 1 := by omega
      have HF : Hid (TreeC (grownSet S' (wr.alloc (.cells #[.slice s n c] 28)) w2) w3 t (cs.set h (.slice s2 C1 c2)) (fun x => (N + 1) / 2 ^ x) g) := by
        show TreeC _ _ _ _ _ _
        refine (unhide HP).1.counts fun x _ => ?_
        rw [cnt_push N h x (unhide Hdv)]
        exact cnt_done N h x (unhide Hdv) (by rw [unhide Hq, unhide HC1]; exact hpar)
      clear hC1 hpar HP HTL HA Hve
      go_wp2
      refine bodyPost_ret (v := .tuple #[]) (results_none rfl _ _ _) rfl ⟨rfl, _, ⟨_, unhide HF⟩, unhide Hset3, unhide Hw31⟩
    · have hr1 : (C1 : Int) % 2 = 0 := by omega
      have he : (N / 2 ^ h + 1) % 2 = 0 := by rw [unhide Hq, unhide HC1]; omega
      have HT3 : Hid (TreeC (grownSet S' (wr.alloc (.cells #[.slice s n c] 28)) w2) w3 t (cs.set h (.slice s2 C1 c2)) (cntA N (h + 1)) g) := (unhide HP).1.counts fun x _ => cnt_push N h x (unhide Hdv)
      obtain ⟨us, ho3, hl3, he3⟩ := (unhide HT3).row h h3
      have hc3 : cntA N (h + 1) h = C1 := by unfold cntA; rw [if_pos (by omega), div_next (unhide Hdv), unhide Hq, unhide HC1]
      rw [getD_set _ _ _ _ _ (by rw [(unhide HTL).len]; exact h3), if_pos rfl] at ho3
      rw [hc3] at hl3 he3
      obtain ⟨b, c3, e3, _, _, hcell3⟩ := ho3.cellAt (by rintro rfl; simp at hl3; omega)
      simp only [Value.slice.injEq] at e3
      obtain ⟨rfl, hcl, rfl⟩ := e3
      clear hcl
      obtain ⟨p, hp⟩ : ∃ p, q - 1 = p := ⟨_, rfl⟩
      have hqp : q = p + 1 := by omega
      have k1 := hcell3 p (by omega)
      have k2 := hcell3 q (by omega)
      have hu1 := (he3 p (by omega)).1
      have hu2 := (he3 q (by omega)).1
      obtain ⟨sa, na, ca, hfa⟩ := hu1.forms
      obtain ⟨sb, nb, cb, hfb⟩ := hu2.forms
      rw [hfa] at k1 hu1
      rw [hfb] at k2 hu2
      have e1 : IntKind.i64.wrap ((C1 : Int) - 2) = (C1 : Int) - 2 := IntWalk.i64_in _ (by omega)
      have e2 : IntKind.i64.wrap ((C1 : Int) - 1) = (C1 : Int) - 1 := IntWalk.i64_in _ (by omega)
      have e3 : ((C1 : Int) - 2).toNat = p := by omega
      have e4 : ((C1 : Int) - 1).toNat = q := by omega
      have e5 : (2 : Int) ≤ (C1 : Int) := by omega
      have e6 : (1 : Int) ≤ (C1 : Int) := by omega
      have e7 : (C1 : Int) - 2 < (C1 : Int) := by omega
      have e8 : (C1 : Int) - 1 < (C1 : Int) := by omega
      have p0 : (0 : Int) ≤ (p : Int) := by omega
      have p1 : (p : Int) < (C1 : Int) := by omega
      have p2 : (q : Int) < (C1 : Int) := by omega
      have p3 : (0 : Int) ≤ (q : Int) := by omega
      have Hnode : Hid (nodeH Sha.shaOf (subP g h p) (subP g h q) = subP g (h + 1) (N / 2 ^ (h + 1))) := by
        show _ = _
        rw [← sub_node he, unhide Hq, hp]
      have hSr : ∀ k, S k ∨ w.heap.size ≤ k → 1 < k := fun k hk => by
        rcases hk with hk | hk
        · exact unhide HS k hk
        · have := (unhide HR).lt; omega
      have HR3 := hide (show Sha.Ready w3 from ready_aside (unhide HR) (unhide Hw31) (unhide HS))
      have HU1 := hide hu1
      have HU2 := hide hu2
      have Hl1 := hide (len_subP (unhide Hg) h p)
      have Hl2 := hide (len_subP (unhide Hg) h q)
      have Hd2 := hide (even_dvd (unhide Hdv) he)
      have hdr : Below w3.heap.size w3 w3.drew := (Below.refl _ _).drew
      have hh6 : h + 1 ≤ 6 := by
        rcases Nat.lt_or_ge 6 (h + 1) with h' | h'
        · have a := Nat.le_of_dvd (by omega) (unhide Hd2)
          have b := Nat.pow_le_pow_right (show 0 < 2 by omega) h'
          omega
        · exact h'
      have Hdr := hide hdr
      clear hC1 hpar HP HTL HA Hve he ho3 hl3 he3 hc3 hcell3 hp hqp hu1 hu2 hfa hfb hSr hdr Hq HC1 Hcnt Hrv Hvl HbL
      go_wp2
      go_region_held3 (fun w'' => w''.cell? ⟨b, p, none⟩ = some (.slice sa na ca) ∧ w''.cell? ⟨b, q, none⟩ = some (.slice sb nb cb)) (go_keep)
        ((go_at_call 45; refine (joined_c _ (ready_on (unhide HR3) (unhide Hdr)) _ _ (subP g h p) (subP g h q) ((unhide HU1).below (unhide Hdr)) ((unhide HU2).below (unhide Hdr)) (by have := unhide Hl1; omega) (by have := unhide Hl2; omega)).mono ?_; rintro e w4 ⟨v4, rfl, hR4⟩; have m1 := cell_below (show w3.drew.cell? _ = _ from k1) hR4.b; have m2 := cell_below (show w3.drew.cell? _ = _ from k2) hR4.b; have HR4 := hide (hR4.up (unhide Hdr)); clear hR4))
      obtain ⟨s4, n4, c4, rfl⟩ := (unhide HR4).bytes.forms
      have HA4 : Hid (Adds S w w4 t g N (h + 1) (cs.set h (.slice (some ⟨b, 0, none⟩) C1 c2)) (.slice s4 n4 c4) (grownSet (grownSet S' (wr.alloc (.cells #[.slice s n c] 28)) w2) w3 w4)) := by
        have h4 := (unhide HT3).fresh (unhide HR4)
        refine ⟨h4.1, h4.2, ?_, ready_on (unhide HR3) (unhide HR4).b, (unhide Hw31).trans (Aside.of_below (S := S) (unhide HR4).b) (fun _ _ h => h), fun k hk => ?_⟩
        · rw [← unhide Hnode]; exact (unhide HR4).bytes
        · rcases hk with hk | hk
          · exact unhide Hset3 k hk
          · have := (unhide Hw31).size; exact Or.inr (by omega)
      clear k1 k2 m1 m2
      go_wp2
      go_roundw
      case rel =>
        first
          | exact ⟨h + 1, _, _, _, _, _, hh6, by go_num, rfl, Hd2, HA4⟩
          | ((repeat apply Exists.intro); exact ⟨⟨h + 1, _, _, _, _, _, hh6, by go_num, rfl, Hd2, HA4⟩, rfl⟩)
      case measure => simp [intOf]; omega
end Go.Proofs.YtmhlafhbdpeglaaDoor
namespace Go.Proofs.YtmhlafhbdpeglaaDoor
open Go.RowKit
set_option maxRecDepth 100000 in
set_option maxHeartbeats 4000000 in
theorem qclimb_c : ∀ (q ls : List Bs), ls.reverse = q → All32 ls → ls.length ≤ 1000 → ∀ (w : World) (x : Value) (leaf : Bs) (m n : Nat) (s : Option Addr) (k c : Nat), m < n → n ≤ 9223372036854775807 → BytesAt w x leaf → leaf.length = 32 → LL w (.slice s k c) ls →
    Climbs w 43 #[x, .int .i64 (m : Int), .int .i64 (n : Int), .slice s k c] (climbP Sha.shaOf leaf m n q) := by
  intro q
  induction q with
  | nil =>
    intro ls hq h32 hll w x leaf m n s k c hmn hn hx hlf hp
    obtain rfl : ls = [] := by simpa using hq
    obtain ⟨sx, nx, cx, rfl⟩ := hx.forms
    have HX := hide hx
    have HP := hide hp
    obtain rfl : k = 0 := hp.len.1
    have n0 : (1 : Int) ≤ (n : Int) := by omega
    have n1 : (n : Int) ≤ 9223372036854775807 := by omega
    have m0 : (0 : Int) ≤ (m : Int) := by omega
    have Hlf := hide hlf
    clear hx hp hlf h32 hq hll
    by_cases h1 : n = 1
    · subst h1
      have He : Hid (climbP Sha.shaOf leaf m 1 [] = some leaf) := by show _ = _; simp [climbP]
      go_enter Tryd.func43, Tryd.ntmps43
      go_wp2
      refine bodyPost_ret (v := .tuple #[.slice sx nx cx, .bool true]) (by simp [results, Tryd.results43, go_sem]) rfl ⟨_, leaf, by rw [unhide He]; rfl, unhide HX, Below.refl _ _, by have := unhide Hlf; omega, fun x hx => by rw [unhide He] at hx; exact Option.some.inj hx⟩
    · have He : Hid (climbP Sha.shaOf leaf m n [] = none) := by show _ = _; simp [climbP, h1]
      have d1 : ((n : Int) == 1) = false := by simp; omega
      go_enter Tryd.func43, Tryd.ntmps43
      go_wp2
      refine bodyPost_ret (v := .tuple #[.slice none 0 0, .bool false]) (by simp [results, Tryd.results43, go_sem]) rfl ⟨_, [], by rw [unhide He]; rfl, bytes_nil _, Below.refl _ _, by simp, fun x hx => by rw [unhide He] at hx; cases hx⟩
  | cons last rest ih =>
    intro ls hq h32 hll w x leaf m n s k c hmn hn hx hlf hp
    have hls := snoc_of hq
    have hne : ls ≠ [] := by rw [hls]; simp
    obtain ⟨sx, nx, cx, rfl⟩ := hx.forms
    have HX := hide hx
    have HP := hide hp
    have hk := hp.len
    have hk1 : ls.length = rest.length + 1 := by rw [hls]; simp
    obtain ⟨p, rfl⟩ : ∃ p, k = p + 1 := ⟨k - 1, by omega⟩
    have n0 : (1 : Int) ≤ (n : Int) := by omega
    have n1 : (n : Int) ≤ 9223372036854775807 := by omega
    have m0 : (0 : Int) ≤ (m : Int) := by omega
    have p0 : (0 : Int) ≤ (p : Int) := by omega
    have Hlf := hide hlf
    have hp2 := LL.front hp p (by omega)
    have hpl : p = rest.length := by omega
    rw [hls, hpl, List.take_left' (by simp)] at hp2
    rw [← hpl] at hp2
    have HP2 := hide hp2
    have hlast : ls.getD (ls.length - 1) [] = last := by rw [hls]; simp [List.getD_eq_getElem?_getD]
    have Hlast := hide hlast
    have h32r : All32 rest.reverse := fun b hb => h32 b (by rw [hls]; exact List.mem_append_left _ hb)
    have h32l : last.length = 32 := h32 last (by rw [hls]; simp)
    have Hih := hide (ih rest.reverse (by simp) h32r (by simp; omega))
    have H32l := hide h32l
    have Hk := hide (show p + 1 ≤ 1000 by omega)
    have Hne := hide hne
    clear hx hp hlf h32 hq hll hls hne hk hk1 hp2 hpl hlast h32r h32l ih
    by_cases h1 : n = 1
    · subst h1
      have He : Hid (climbP Sha.shaOf leaf m 1 (last :: rest) = none) := by show _ = _; simp [climbP]
      have d0 : (((p + 1 : Nat) : Int) == 0) = false := by simp; omega
      go_enter Tryd.func43, Tryd.ntmps43
      go_wp2
      refine bodyPost_ret (v := .tuple #[.slice sx nx cx, .bool false]) (by simp [results, Tryd.results43, go_sem]; omega) rfl ⟨_, leaf, by rw [unhide He]; rfl, unhide HX, Below.refl _ _, by have := unhide Hlf; omega, fun x hx => by rw [unhide He] at hx; cases hx⟩
    · have d1 : ((n : Int) == 1) = false := by simp; omega
      have hk1 := cut_lt (n := n) (by omega)
      have hk0 := cut_pos n
      have Hcut : ∀ w, Calls Tryd.prog 32 #[.int .i64 (n : Int)] w fun e w' => e = .returned (.int .i64 (cutP n : Int)) ∧ w' = w := fun w => qcut_c w n (by omega) hn
      have He : Hid (climbP Sha.shaOf leaf m n (last :: rest) = if m < cutP n then (climbP Sha.shaOf leaf m (cutP n) rest).map fun x => nodeH Sha.shaOf x last else (climbP Sha.shaOf leaf (m - cutP n) (n - cutP n) rest).map fun x => nodeH Sha.shaOf last x) := by show _ = _; rw [climbP, if_neg h1]
      obtain ⟨K, hK⟩ : ∃ K, cutP n = K := ⟨_, rfl⟩
      rw [hK] at hk1 hk0 Hcut He
      have k0 : (1 : Int) ≤ (K : Int) := by omega
      have k1 : (K : Int) < (n : Int) := by omega
      have Hcu := hide Hcut
      clear hK Hcut
      obtain ⟨bb, o, c', v1, e, hb, hc, hv⟩ := (unhide HP).at p (by have := (unhide HP).len; omega)
      simp only [Value.slice.injEq] at e
      obtain ⟨rfl, hml, rfl⟩ := e
      have hs : ∀ w, (Instr.sliceAt 22 (.slice (some ⟨bb, o, none⟩) (p + 1) c) none (some (.int .i64 (p : Int))) none).run Tryd.prog w = .ok (.slice (some ⟨bb, o, none⟩) p c) w := slice_frontbb _ _ _ p (by have := (unhide HP).len; omega)
      have e1 : ((p + 1 : Nat) : Int) - 1 = (p : Int) := by omega
      have el : ls.length - 1 = p := by omega
      rw [← el, unhide Hlast] at hv
      have p1 : (p : Int) ≤ 1000 := by have := unhide Hk; omega
      have d0 : (((p + 1 : Nat) : Int) == 0) = false := by simp; omega
      obtain ⟨s1, c1, hf1, _⟩ := bytes_open hv
      have HV1 := hide hv
      subst hf1
      clear hv el hml hb
      go_enter Tryd.func43, Tryd.ntmps43
      go_wp2_with fail
      refine (unhide Hcu w).mono ?_
      rintro e w1' ⟨rfl, hw1'⟩
      subst hw1'
      by_cases hm : m < K
      · have dm : decide ((m : Int) < (K : Int)) = true := by simp; omega
        have dmn : decide (m < K) = true := by simp; omega
        have He2 : Hid (climbP Sha.shaOf leaf m n (last :: rest) = (climbP Sha.shaOf leaf m K rest).map fun x => nodeH Sha.shaOf x last) := by show _ = _; rw [unhide He, if_pos hm]
        clear He
        go_wp2_with fail
        refine (unhide Hih w1' _ leaf m K _ p c hm (by omega) (unhide HX) (unhide Hlf) (unhide HP2)).mono ?_
        rintro e w2 ⟨v2, l2, rfl, hv2, hb2, hl2, hr2⟩
        obtain ⟨s2, n2, c2, rfl⟩ := hv2.forms
        have HV2 := hide hv2
        have Hr2 := hide hr2
        have HB2 := hide hb2
        have HV12 := hide ((unhide HV1).below hb2)
        have Hl2 := hide hl2
        clear hv2 hb2 hl2 hr2
        obtain ⟨r, hr⟩ : ∃ r, climbP Sha.shaOf leaf m K rest = r := ⟨_, rfl⟩
        rw [hr] at Hr2 He2
        rw [hr]
        clear hr
        obtain ⟨ok, hok⟩ : ∃ ok, r.isSome = ok := ⟨_, rfl⟩
        rw [hok]
        have Hok := hide hok
        clear hok
        go_wp2_with fail
        refine (qnode_c ref_hash w2 _ _ l2 last (unhide HV2) (unhide HV12) (by have := unhide Hl2; omega) (by have := unhide H32l; omega)).mono ?_
        rintro e w3 ⟨v3, rfl, hR3⟩
        have HR3 := hide (hR3.up (unhide HB2))
        clear hR3
        go_wp2
        refine bodyPost_ret (v := .tuple #[v3, .bool ok]) (by simp [results, Tryd.results43, go_sem]) rfl ⟨_, _, by rw [unhide He2, Option.isSome_map, unhide Hok], (unhide HR3).bytes, (unhide HR3).b, by rw [len_node]; omega, fun x hx => ?_⟩
        rw [unhide He2] at hx
        obtain ⟨y, hy, rfl⟩ := Option.map_eq_some_iff.1 hx
        rw [unhide Hr2 y hy]
      · have dm : decide ((m : Int) < (K : Int)) = false := by simp; omega
        have dmn : decide (m < K) = false := by simp; omega
        obtain ⟨m', hm'⟩ : ∃ m', m - K = m' := ⟨_, rfl⟩
        obtain ⟨n', hn'⟩ : ∃ n', n - K = n' := ⟨_, rfl⟩
        have em : (m : Int) - (K : Int) = (m' : Int) := by omega
        have en : (n : Int) - (K : Int) = (n' : Int) := by omega
        have hmn' : m' < n' := by omega
        have hn'b : n' ≤ 9223372036854775807 := by omega
        have He2 : Hid (climbP Sha.shaOf leaf m n (last :: rest) = (climbP Sha.shaOf leaf m' n' rest).map fun x => nodeH Sha.shaOf last x) := by show _ = _; rw [unhide He, if_neg hm, hm', hn']
        have Hmn := hide hmn'
        have Hnb := hide hn'b
        clear He hm' hn' hmn' hn'b
        go_wp2_with fail
        refine (unhide Hih w1' _ leaf m' n' _ p c (unhide Hmn) (unhide Hnb) (unhide HX) (unhide Hlf) (unhide HP2)).mono ?_
        rintro e w2 ⟨v2, l2, rfl, hv2, hb2, hl2, hr2⟩
        obtain ⟨s2, n2, c2, rfl⟩ := hv2.forms
        have HV2 := hide hv2
        have Hr2 := hide hr2
        have HB2 := hide hb2
        have HV12 := hide ((unhide HV1).below hb2)
        have Hl2 := hide hl2
        clear hv2 hb2 hl2 hr2
        obtain ⟨r, hr⟩ : ∃ r, climbP Sha.shaOf leaf m' n' rest = r := ⟨_, rfl⟩
        rw [hr] at Hr2 He2
        rw [hr]
        clear hr
        obtain ⟨ok, hok⟩ : ∃ ok, r.isSome = ok := ⟨_, rfl⟩
        rw [hok]
        have Hok := hide hok
        clear hok
        go_wp2_with fail
        refine (qnode_c ref_hash w2 _ _ last l2 (unhide HV12) (unhide HV2) (by have := unhide H32l; omega) (by have := unhide Hl2; omega)).mono ?_
        rintro e w3 ⟨v3, rfl, hR3⟩
        have HR3 := hide (hR3.up (unhide HB2))
        clear hR3
        go_wp2
        refine bodyPost_ret (v := .tuple #[v3, .bool ok]) (by simp [results, Tryd.results43, go_sem]) rfl ⟨_, _, by rw [unhide He2, Option.isSome_map, unhide Hok], (unhide HR3).bytes, (unhide HR3).b, by rw [len_node]; omega, fun x hx => ?_⟩
        rw [unhide He2] at hx
        obtain ⟨y, hy, rfl⟩ := Option.map_eq_some_iff.1 hx
        rw [unhide Hr2 y hy]
end Go.Proofs.YtmhlafhbdpeglaaDoor
namespace Go.Proofs.YtmhlafhbdpeglaaDoor
open Go.RowKit
/-- The call tells these bytes; they lie below B, or in new memory. -/
def TellsR (B : Nat) (w : World) (f : FuncId) (args : Array Value) (l : Bs) : Prop :=
  Calls Tryd.prog f args w fun e w' => ∃ v, e = .returned v ∧ BytesAt w' v l ∧ Below w.heap.size w w' ∧ ∀ k, v.ownBlock = some k → k < B ∨ w.heap.size ≤ k
set_option maxRecDepth 100000 in
set_option maxHeartbeats 4000000 in
theorem qroot_c {g : Nat → Bs} (hg : ∀ i, (g i).length = 32) (B : Nat) : ∀ (n f : Nat), n ≤ 1000000 → ∀ (w : World) (s : Option Addr) (c : Nat), B ≤ w.heap.size → HL B w (.slice s n c) g f n → TellsR B w 15 #[.slice s n c] (rootP Sha.shaOf g f n) := by
  intro n
  induction n using Nat.strongRecOn with
  | ind n ih =>
    intro f hn w s c hB hx
    have n0 : (0 : Int) ≤ (n : Int) := by omega
    have n1 : (n : Int) ≤ 1000000 := by omega
    rcases (by omega : n = 0 ∨ n = 1 ∨ 2 ≤ n) with rfl | rfl | hn2
    · have He := hide (root_zero Sha.shaOf g f)
      clear ih hx
      go_enter Tryd.func15, Tryd.ntmps15
      go_wp2_with fail
      refine (ref_hash.sum w _ [] (bytes_nil w) (by simp)).mono ?_
      rintro e w1 ⟨v1, rfl, hR1⟩
      have HR1 : Hid (Row w w1 v1 (rootP Sha.shaOf g f 0)) := by show Row _ _ _ _; rw [unhide He]; exact hR1
      clear hR1
      go_wp2
      go_ret
      exact ⟨_, rfl, (unhide HR1).bytes, (unhide HR1).b, fun k hk => Or.inr ((unhide HR1).own.fresh k hk)⟩
    · have He := hide (root_one Sha.shaOf g f)
      obtain ⟨b, o, v, rfl, hb, hc, hv, hvb⟩ := hx.at 0 (by omega)
      rw [Nat.add_zero] at hc hv
      obtain ⟨s1, n1', c1, rfl⟩ := hv.forms
      have HV := hide hv
      have HVb := hide hvb
      clear ih hx hb hv hvb
      go_enter Tryd.func15, Tryd.ntmps15
      go_wp2
      go_ret
      exact ⟨_, rfl, by rw [unhide He]; exact unhide HV, Below.refl _ _, fun k hk => Or.inl (unhide HVb k hk)⟩
    · have hk1 := cut_lt hn2
      have hk0 := cut_pos n
      obtain ⟨_, _, e0, hnc⟩ := hx.form
      simp only [Value.slice.injEq] at e0
      obtain ⟨rfl, _, rfl⟩ := e0
      have He := hide (root_more Sha.shaOf g f hn2)
      have Hcu := hide (fun w => qcut_c w n hn2 (by omega))
      have Hl1 : Hid ((rootP Sha.shaOf g f (cutP n)).length = 32) := len_root Sha.length_shaOf _ _ fun i _ _ => hg i
      have Hl2 : Hid ((rootP Sha.shaOf g (f + cutP n) (n - cutP n)).length = 32) := len_root Sha.length_shaOf _ _ fun i _ _ => hg i
      have hx1 := hx.front (cutP n) (by omega)
      have hx2 := hx.rest (cutP n) (by omega)
      have Hi1 := hide (ih (cutP n) hk1 f (by omega))
      have Hi2 := hide (ih (n - cutP n) (by omega) (f + cutP n) (by omega))
      have hs1 : ∀ w, (Instr.sliceAt 22 (.slice s n c) none (some (.int .i64 (cutP n : Int))) none).run Tryd.prog w = .ok (.slice s (cutP n) c) w := slice_frontbb _ _ _ _ (by omega)
      have hs2 : ∀ w, (Instr.sliceAt 22 (.slice s n c) (some (.int .i64 (cutP n : Int))) none none).run Tryd.prog w = .ok (.slice (cutAt s c (cutP n)) (n - cutP n) (c - cutP n)) w := slice_restbb _ _ _ _ (by omega)
      obtain ⟨K, hK⟩ : ∃ K, cutP n = K := ⟨_, rfl⟩
      rw [hK] at hk1 hk0 Hi1 Hi2 He Hcu Hl1 Hl2 hx1 hx2 hs1 hs2
      obtain ⟨n', hn'⟩ : ∃ n', n - K = n' := ⟨_, rfl⟩
      obtain ⟨f', hf'⟩ : ∃ f', f + K = f' := ⟨_, rfl⟩
      obtain ⟨s', hs'⟩ : ∃ s', cutAt s c K = s' := ⟨_, rfl⟩
      obtain ⟨c', hc'⟩ : ∃ c', c - K = c' := ⟨_, rfl⟩
      rw [hn', hf'] at Hi2 He Hl2
      rw [hn', hf', hs', hc'] at hx2
      rw [hn', hs', hc'] at hs2
      have k0 : (1 : Int) ≤ (K : Int) := by omega
      have k1 : (K : Int) < (n : Int) := by omega
      have hdr : Below w.heap.size w w.drew := (Below.refl _ _).drew
      have HX1 := hide (hx1.below hdr)
      have HX2 := hide (hx2.below hdr)
      have Hdr := hide hdr
      have HB : Hid (B ≤ w.drew.heap.size) := hB
      clear hK hn' hf' hs' hc' ih hx hx1 hx2 hg hn2 hdr hB hnc hn
      go_enter Tryd.func15, Tryd.ntmps15
      go_wp2_with fail
      refine (unhide Hcu w).mono ?_
      rintro e w' ⟨rfl, hw'⟩
      subst hw'
      go_wp2
      go_region_held3 (fun _ => True) (trivial)
        ((first
          | (go_at_call_of 15 (Value.slice s K c); refine (unhide Hi1 w'.drew s c (unhide HB) (unhide HX1)).mono ?_; rintro e w1 ⟨v1, rfl, hv1, hb1, hq1⟩; have HV1 := hide hv1; have HB1 := hide hb1; clear hv1 hb1 hq1)
          | (go_at_call_of 15 (Value.slice s' n' c'); refine (unhide Hi2 w1 s' c' (by have := unhide HB; have := (unhide HB1).size; omega) ((unhide HX2).below (unhide HB1))).mono ?_; rintro e w2 ⟨v2, rfl, hv2, hb2, hq2⟩; have HV2 := hide hv2; have HV12 := hide ((unhide HV1).below hb2); have HB2 := hide ((unhide HB1).trans (hb2.mono (unhide HB1).size)); clear hv2 hb2 hq2)
          | (go_at_call 33; refine (qnode_c ref_hash w2 _ _ _ _ (unhide HV12) (unhide HV2) (by have := unhide Hl1; omega) (by have := unhide Hl2; omega)).mono ?_; rintro e w3 ⟨v3, rfl, hR3⟩; have HR3 := hide (hR3.up (unhide HB2)); clear hR3)))
      have HF : Hid (Row w' w3 v3 (rootP Sha.shaOf g f n)) := by show Row _ _ _ _; rw [unhide He]; exact (unhide HR3).up (unhide Hdr)
      go_wp2
      go_ret
      exact ⟨_, rfl, (unhide HF).bytes, (unhide HF).b, fun k hk => Or.inr ((unhide HF).own.fresh k hk)⟩
end Go.Proofs.YtmhlafhbdpeglaaDoor
namespace Go.Proofs.YtmhlafhbdpeglaaDoor
open Go.RowKit
theorem take_eq_succ {a b : Bs} {k : Nat} (h : a.take k = b.take k) (ha : k < a.length) (hb : k < b.length) (he : (a.getD k 0).toNat = (b.getD k 0).toNat) : a.take (k + 1) = b.take (k + 1) := by
  have e : a[k] = b[k] := by
    apply UInt8.toNat_inj.1
    simpa [List.getD_eq_getElem?_getD, ha, hb] using he
  rw [List.take_add_one, List.take_add_one, h, List.getElem?_eq_getElem ha, List.getElem?_eq_getElem hb, e]
set_option maxRecDepth 100000 in
set_option maxHeartbeats 1000000 in
theorem same_any (w : World) (x y : Value) (a b : Bs) (hx : BytesAt w x a) (hy : BytesAt w y b) (hl : a.length ≤ 1099511627776) :
    Calls Tryd.prog 14 #[x, y] w fun e w' => e = .returned (.bool (decide (a = b))) ∧ Below w.heap.size w w' := by
  obtain ⟨sp, c, rfl, _, _, hc⟩ := bytes_open hx
  obtain ⟨sp2, c2, rfl, _, _, hc2⟩ := bytes_open hy
  have H1 := hide hc
  have H2 := hide hc2
  clear hc hc2 hx hy
  go_enter Tryd.func14, Tryd.ntmps14
  by_cases hab : a.length = b.length
  · obtain ⟨N, hN⟩ : ∃ N, a.length = N := ⟨_, rfl⟩
    have hN2 : b.length = N := by omega
    have hNb : N ≤ 1099511627776 := by rw [← hN]; exact hl
    rw [hN] at H1
    rw [hN2] at H2
    rw [hN, hN2]
    have HN := hide hN
    have HN2 := hide hN2
    clear hN hN2 hab
    go_wp2
    go_loopw [5] (fun i wr => ∃ k : Nat, k ≤ N ∧ i = .int .i64 k ∧ wr.heap = w.heap ∧ Hid (a.take k = b.take k) ∧ Below w.heap.size w wr) (fun i _ => N - (intOf i).toNat)
    case atStart => exact ⟨0, by omega, rfl, rfl, rfl, Below.refl _ _⟩
    case round =>
      obtain ⟨k, hk, rfl, hh, HE, hB⟩ := hrel
      by_cases hlt : k < N
      · have hna : a ≠ [] := by intro e; have := unhide HN; rw [e] at this; simp at this; omega
        have hnb : b ≠ [] := by intro e; have := unhide HN2; rw [e] at this; simp at this; omega
        obtain ⟨ba, oa, rfl, _, hcell⟩ := unhide H1 hna
        obtain ⟨bb, ob, rfl, _, hcell2⟩ := unhide H2 hnb
        have c1 : wr.cell? ⟨ba, oa + k, none⟩ = some (.int .u8 ((a.getD k 0).toNat : Int)) := by rw [← hcell k hlt]; unfold World.cell?; rw [hh]
        have c2' : wr.cell? ⟨bb, ob + k, none⟩ = some (.int .u8 ((b.getD k 0).toNat : Int)) := by rw [← hcell2 k hlt]; unfold World.cell?; rw [hh]
        have Ht : Hid ((a.getD k 0).toNat = (b.getD k 0).toNat → a.take (k + 1) = b.take (k + 1)) := fun e => take_eq_succ (unhide HE) (by have := unhide HN; omega) (by have := unhide HN2; omega) e
        have Hf : Hid ((a.getD k 0).toNat ≠ (b.getD k 0).toNat → a ≠ b) := fun e e2 => e (by rw [e2])
        obtain ⟨p, hp⟩ : ∃ p, (a.getD k 0).toNat = p := ⟨_, rfl⟩
        obtain ⟨q, hq⟩ : ∃ q, (b.getD k 0).toNat = q := ⟨_, rfl⟩
        rw [hp] at c1 Ht Hf
        rw [hq] at c2' Ht Hf
        have HB := hide hB
        have Hh := hide hh
        clear hB hh hcell hcell2 hp hq hna hnb
        have k0 : (0 : Int) ≤ (k : Int) := by omega
        have k1 : (k : Int) < (N : Int) := by omega
        by_cases hpq : p = q
        · have Ht2 := hide (unhide Ht hpq)
          have de : ((p : Int) == (q : Int)) = true := by simp [hpq]
          subst hpq
          clear Ht Hf
          go_wp2
          go_region_held3 (fun w' => w'.cell? ⟨ba, oa + k, none⟩ = some (.int .u8 p) ∧ w'.cell? ⟨bb, ob + k, none⟩ = some (.int .u8 p)) (go_keep) (fail)
          go_wp2
          go_roundw
          case rel =>
            first
              | exact ⟨k + 1, by omega, by go_num, unhide Hh, Ht2, (unhide HB).drew⟩
              | ((repeat apply Exists.intro); exact ⟨⟨k + 1, by omega, by go_num, unhide Hh, Ht2, (unhide HB).drew⟩, rfl⟩)
          case measure => simp [intOf]; omega
        · have Hf2 := hide (unhide Hf hpq)
          have de : ((p : Int) == (q : Int)) = false := by simp; omega
          clear Ht Hf hpq
          go_wp2
          go_region_held3 (fun w' => w'.cell? ⟨ba, oa + k, none⟩ = some (.int .u8 p) ∧ w'.cell? ⟨bb, ob + k, none⟩ = some (.int .u8 q)) (go_keep) (fail)
          go_wp2
          go_ret
          exact ⟨by simp [unhide Hf2], (unhide HB).drew⟩
      · have Hf : Hid (a = b) := by
          show _ = _
          have h1 := unhide HE
          rwa [List.take_of_length_le (by have := unhide HN; omega), List.take_of_length_le (by have := unhide HN2; omega)] at h1
        go_wp2
        go_ret
        exact ⟨by simp [unhide Hf], hB⟩
  · have Hf : Hid (a ≠ b) := fun e => hab (by rw [e])
    have de : ((a.length : Int) == (b.length : Int)) = false := by simp; omega
    go_wp2
    go_ret
    exact ⟨by simp [unhide Hf], Below.refl _ _⟩
end Go.Proofs.YtmhlafhbdpeglaaDoor
