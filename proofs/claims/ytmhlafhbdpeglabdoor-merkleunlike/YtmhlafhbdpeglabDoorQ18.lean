/-
  The walk of MerkleStays.
-/
import Derived.Test.YtmhlafhbdpeglabDoorQ16
import Derived.Test.YtmhlafhbdpeglabDoorQ17
import Derived.Deep.Cut
namespace Go.Proofs.YtmhlafhbdpeglabDoor
open Go.RowKit
theorem TreeAt.congr {S : Set_} {w : World} {t : Nat} {g g' : Nat → Bs} {N : Nat} (T : TreeAt S w t g N) (h : ∀ i, i < N → g i = g' i) : TreeAt S w t g' N := by
  obtain ⟨cs, T⟩ := T
  refine ⟨cs, T.blk, T.len, fun x hx => ?_, T.st, T.sr, T.apart, T.old⟩
  obtain ⟨vs, h1, h2, h3⟩ := T.row x hx
  refine ⟨vs, h1, h2, fun j hj => ?_⟩
  have e : subP g' x j = subP g x j := by
    unfold subP
    refine root_congr _ _ fun i hi1 hi2 => (h i ?_).symm
    have a : (j + 1) * 2 ^ x ≤ N := Nat.le_trans (Nat.mul_le_mul_right _ hj) (Nat.div_mul_le_self N (2 ^ x))
    rw [Nat.add_mul, Nat.one_mul] at a
    omega
  rw [e]
  exact h3 j hj
theorem few_take {ls : List Bs} (h : fewB ls = true) (n : Nat) : fewB (ls.take n) = true := by
  unfold fewB at h ⊢
  simp only [Bool.and_eq_true, decide_eq_true_eq] at h ⊢
  have := flat_le ls n
  exact ⟨by rw [List.length_take]; omega, by omega⟩
theorem leavesH_take (ls : List Bs) (n i : Nat) (hi : i < n) : leavesH (ls.take n) i = leavesH ls i := by
  unfold leavesH
  rw [List.getD_eq_getElem?_getD, List.getD_eq_getElem?_getD, List.getElem?_take, if_pos hi]
theorem tree_n (w : World) (hr : Sha.Ready w) (x : Value) (ls : List Bs) (N : Nat) (hN : ls.length = N) (hx : LL w x ls) (hf : fewB ls = true) :
    Calls Tryd.prog 12 #[x] w fun e w' => ∃ t s c S, e = .returned (.tuple #[.pointer (some ⟨t, 0, none⟩), .slice s N c]) ∧ Treed w' t (.slice s N c) ls S w'.heap.size ∧ (∀ k, S k → w.heap.size ≤ k) ∧ Below w.heap.size w w' := by
  subst hN
  exact tree_t w hr x ls hx hf
theorem bv_set (l : Bs) (i : Nat) (x : UInt8) : (l.map bv).set i (.int .u8 (x.toNat : Int)) = (l.set i x).map bv := by rw [List.map_set]; rfl
theorem poke {W : World} {B : Nat} {v : Value} {l : Bs} (h : OwnB W B v l) {i : Nat} (hi : i < l.length) :
    ∃ b cap c, v = .slice (some ⟨b, 0, none⟩) l.length cap ∧ c < 256 ∧ B ≤ b ∧ W.cell? ⟨b, i, none⟩ = some (.int .u8 ((c : Nat) : Int)) ∧ W.frozen? ⟨b, i, none⟩ = false ∧
      ∀ r : Nat, r < 256 → OwnB (W.setCell ⟨b, i, none⟩ (.int .u8 (r : Int))) B v (l.set i (UInt8.ofNat r)) := by
  obtain ⟨b, rest, cap, hv, hb, hc, hm, hrow⟩ := OwnV.row h (by intro e; have := congrArg List.length e; rw [List.length_map] at this; simp at this; rw [this] at hi; simp at hi)
  rw [List.length_map] at hv hc
  refine ⟨b, cap, (l.getD i 0).toNat, hv, (l.getD i 0).toNat_lt, hb, ?_, hrow.frozen i, fun r hr => ?_⟩
  · rw [hrow.cell i (by rw [List.length_map]; exact hi)]
    simp [bv, List.getD_eq_getElem?_getD, hi]
  · have e : (.int .u8 (r : Int) : Value) = .int .u8 ((UInt8.ofNat r).toNat : Int) := by rw [UInt8.toNat_ofNat']; congr 2; omega
    have h2 := hrow.set i (by rw [List.length_map]; exact hi) (.int .u8 (r : Int))
    rw [e, bv_set] at h2
    rw [e, hv]
    have h3 := h2.own hb l.length cap (by rw [List.length_map, List.length_set]) hc hm
    exact h3
/-- While the root is written over. -/
structure Flips (ws wr : World) (B : Nat) (v : Value) : Prop where
  own : ∃ l : Bs, l.length = 32 ∧ OwnB wr B v l
  aside : Aside (fun k => v.ownBlock = some k) ws wr
/-- While leaves are added. -/
structure Adding (S U : Set_) (w ws wr : World) (t : Nat) (g : Nat → Bs) (n : Nat) (S' : Set_) : Prop where
  tree : TreeAt S' wr t g n
  set : ∀ k, S' k → S k ∨ ws.heap.size ≤ k
  aside : Aside U ws wr
  b : Below w.heap.size w wr
set_option maxRecDepth 100000 in
set_option maxHeartbeats 16000000 in
/-- MERKLESTAYS. -/
theorem stays_true (w : World) (hr : Sha.Ready w) (x : Value) (ls : List Bs) (hx : LL w x ls) (hsm : ∀ b ∈ ls, b.length ≤ 1099511627776000) (hlb : ls.length ≤ 1099511627776000) (n m : Int) (hn : -9223372036854775808 ≤ n ∧ n ≤ 9223372036854775807) (hm : -9223372036854775808 ≤ m ∧ m ≤ 9223372036854775807) : Says w 4 #[x, .int .i64 n, .int .i64 m] true := by
  obtain ⟨sp, cp, rfl⟩ := hx.form
  obtain ⟨n1, n2⟩ := hn
  obtain ⟨m1, m2⟩ := hm
  have HX := hide hx
  have HR := hide hr
  have Hsm := hide hsm
  obtain ⟨N, hNN⟩ : ∃ N, ls.length = N := ⟨_, rfl⟩
  have HNN := hide hNN
  rw [hNN] at HX hlb ⊢
  have n0 : (0 : Int) ≤ (N : Int) := by omega
  have nb : (N : Int) ≤ 1099511627776000 := by omega
  clear hx hr hsm hNN
  go_enter Tryd.func4, Tryd.ntmps4
  go_wp2_with fail
  refine (anchor_c w (unhide HR)).mono ?_
  rintro e w1 ⟨rfl, hb1⟩
  have HB1 := hide hb1
  have HX1 := hide ((unhide HX).below hb1)
  have HR1 := hide (ready_on (unhide HR) hb1)
  clear hb1
  go_wp2_with fail
  refine (few_c w1 _ ls (unhide HX1) (unhide Hsm)).mono ?_
  rintro e w1' ⟨rfl, hw1⟩
  subst hw1
  by_cases hf : fewB ls = true
  case neg =>
    have hff : fewB ls = false := by simpa using hf
    rw [hff]
    clear hf hff
    go_wp2
    go_ret
    exact ⟨rfl, unhide HB1⟩
  case pos =>
  rw [hf]
  by_cases hin : 1 ≤ n ∧ n ≤ (N : Int) ∧ 0 ≤ m ∧ m < n
  case neg =>
    by_cases h0 : n < 1
    · have d1 : decide (n < 1) = true := by simp; omega
      go_wp2
      go_ret
      exact ⟨rfl, unhide HB1⟩
    have d1 : decide (n < 1) = false := by simp; omega
    by_cases h1 : (N : Int) < n
    · have d2 : decide ((N : Int) < n) = true := by simp; omega
      go_wp2
      go_ret
      exact ⟨rfl, unhide HB1⟩
    have d2 : decide ((N : Int) < n) = false := by simp; omega
    by_cases h2 : m < 0
    · have d3 : decide (m < 0) = true := by simp; omega
      go_wp2
      go_ret
      exact ⟨rfl, unhide HB1⟩
    have d3 : decide (m < 0) = false := by simp; omega
    have d4 : decide (n ≤ m) = true := by simp; omega
    go_wp2
    go_ret
    exact ⟨rfl, unhide HB1⟩
  case pos =>
  obtain ⟨a, rfl⟩ : ∃ a : Nat, m = (a : Int) := ⟨m.toNat, by omega⟩
  obtain ⟨b, rfl⟩ : ∃ b : Nat, n = (b : Int) := ⟨n.toNat, by omega⟩
  have hN := (few_small hf).1
  have Hfs := hide (few_small hf).2
  rw [unhide HNN] at hN
  have d1 : decide ((b : Int) < 1) = false := by simp; omega
  have d2 : decide ((N : Int) < (b : Int)) = false := by simp; omega
  have d2n : decide (N < b) = false := by simp; omega
  have d3 : decide ((a : Int) < 0) = false := by simp
  have d4 : decide ((b : Int) ≤ (a : Int)) = false := by simp; omega
  have d4n : decide (b ≤ a) = false := by simp; omega
  have hab : a < b := by omega
  have hbN : b ≤ N := by omega
  have a0 : (0 : Int) ≤ (a : Int) := by omega
  have b0 : (0 : Int) ≤ (b : Int) := by omega
  have b1 : (b : Int) ≤ (N : Int) := by omega
  have b100 : (b : Int) ≤ 100 := by omega
  have hlen := (unhide HX1).len
  have hs1 : ∀ w, (Instr.sliceAt 22 (.slice sp N cp) none (some (.int .i64 (b : Int))) none).run Tryd.prog w = .ok (.slice sp b cp) w := slice_frontbb _ _ _ _ (by omega)
  have hs2 : ∀ w, (Instr.sliceAt 22 (.slice sp N cp) (some (.int .i64 (b : Int))) none none).run Tryd.prog w = .ok (.slice (cutAt sp cp b) (N - b) (cp - b)) w := slice_restbb _ _ _ _ (by omega)
  have HXf := hide ((unhide HX1).front b hbN)
  have hXr := (unhide HX1).rest b hbN
  obtain ⟨sr, hsr⟩ : ∃ sr, cutAt sp cp b = sr := ⟨_, rfl⟩
  obtain ⟨M, hM⟩ : ∃ M, N - b = M := ⟨_, rfl⟩
  obtain ⟨cr, hcr⟩ : ∃ cr, cp - b = cr := ⟨_, rfl⟩
  rw [hsr, hM, hcr] at hXr hs2
  have HXr := hide hXr
  have HM : Hid (b + M = N) := by show _ = _; omega
  have HMl : Hid ((ls.drop b).length = M) := by show _ = _; rw [List.length_drop, unhide HNN]; omega
  have mm0 : (0 : Int) ≤ (M : Int) := by omega
  have mm1 : (M : Int) ≤ 100 := by omega
  have Hft := hide (few_take hf b)
  have Hlt : Hid ((ls.take b).length = b) := by show _ = _; rw [List.length_take, unhide HNN]; omega
  have Hpf : Hid ((pathP Sha.shaOf (leavesH ls) 0 a b).length ≤ 7) := path_few (by omega)
  have H32 : Hid (All32 (pathP Sha.shaOf (leavesH ls) 0 a b)) := path_32 Sha.length_shaOf b 0 a fun i _ _ => len_leavesH ls i
  have Hbf : Hid ((if a = 0 ∨ a = b then [] else bridgeP Sha.shaOf (leavesH ls) 0 a b true).length ≤ 8) := by
    show _ ≤ _
    split
    · simp
    · exact bridge_few (by omega)
  have Hb32 : Hid (All32 (if a = 0 ∨ a = b then [] else bridgeP Sha.shaOf (leavesH ls) 0 a b true)) := by
    show All32 _
    split
    · intro b hb; simp at hb
    · exact bridge_32 Sha.length_shaOf b 0 a true (by omega) fun i _ _ => len_leavesH ls i
  have HRl : Hid ((rootP Sha.shaOf (leavesH ls) 0 b).length = 32) := len_root Sha.length_shaOf _ _ fun i _ _ => len_leavesH ls i
  have Hroot := hide (fun (S : Set_) (t K : Nat) (hK : K ≤ 100) (w : World) (hr : Sha.Ready w) (T : TreeAt S w t (leavesH ls) K) (h : b ≤ K) => troot_yes (len_leavesH ls) (by omega) w hr T b h)
  have Hpath := hide (fun (S : Set_) (t K : Nat) (hK : K ≤ 100) (w : World) (hr : Sha.Ready w) (T : TreeAt S w t (leavesH ls) K) (h : b ≤ K) => ntpath_yes (len_leavesH ls) (by omega) w hr T a b hab h)
  have Hbrid := hide (fun (S : Set_) (t K : Nat) (hK : K ≤ 100) (w : World) (hr : Sha.Ready w) (T : TreeAt S w t (leavesH ls) K) (h : b ≤ K) => ntbridge_yes (len_leavesH ls) (by omega) w hr T a b (Nat.le_of_lt hab) h)
  obtain ⟨P, hP⟩ : ∃ P, pathP Sha.shaOf (leavesH ls) 0 a b = P := ⟨_, rfl⟩
  obtain ⟨Bg, hBg⟩ : ∃ Bg, (if a = 0 ∨ a = b then [] else bridgeP Sha.shaOf (leavesH ls) 0 a b true) = Bg := ⟨_, rfl⟩
  obtain ⟨R, hRR⟩ : ∃ R, rootP Sha.shaOf (leavesH ls) 0 b = R := ⟨_, rfl⟩
  rw [hP] at Hpf H32 Hpath
  rw [hBg] at Hbf Hb32 Hbrid
  rw [hRR] at HRl Hroot
  obtain ⟨pn, hpn⟩ : ∃ pn, P.length = pn := ⟨_, rfl⟩
  obtain ⟨bn, hbn⟩ : ∃ bn, Bg.length = bn := ⟨_, rfl⟩
  have Hpn := hide hpn
  have Hbn := hide hbn
  have HbN := hide hbN
  have HN := hide hN
  clear hin hf n1 n2 m1 m2 hab hbN hlen hXr hsr hM hcr hP hBg hRR hpn hbn
  go_wp2_with fail
  refine (tree_n w1' (unhide HR1) _ (ls.take b) b (unhide Hlt) (unhide HXf) (unhide Hft)).mono ?_
  rintro e w2 ⟨t, ls', lc, S, rfl, hT, hS, hb2⟩
  have hT0 := hT.tree
  rw [unhide Hlt] at hT0
  have HT2 := hide (hT0.congr (g' := leavesH ls) fun i hi => leavesH_take ls b i hi)
  have HS := hide hS
  have HR2 := hide hT.ready
  have HB2 := hide hb2
  clear hT hS hb2 hT0
  go_wp2_with fail
  refine (unhide Hroot S t b (by have := unhide HN; have := unhide HbN; omega) w2 (unhide HR2) (unhide HT2) (Nat.le_refl _)).mono ?_
  rintro e w3 ⟨v3, rfl, hR3⟩
  obtain ⟨s3, c3, hf3⟩ := hR3.own.form
  rw [unhide HRl] at hf3
  subst hf3
  have HRo3 := hide hR3.own
  have HR3 := hide (ready_on (unhide HR2) hR3.b)
  have HT3 := hide ((unhide HT2).below hR3.b)
  have Hs23 := hide hR3.b.size
  have HB3 := hide ((unhide HB2).trans (hR3.b.mono (unhide HB2).size))
  clear hR3
  go_wp2_with fail
  refine (unhide Hpath S t b (by have := unhide HN; have := unhide HbN; omega) w3 (unhide HR3) (unhide HT3) (Nat.le_refl _)).mono ?_
  rintro e w4 ⟨v4, rfl, hG4, hb4⟩
  obtain ⟨s4, c4, hf4⟩ := hG4.form
  rw [unhide Hpn] at hf4
  subst hf4
  have HG4 := hide hG4
  have HRo4 := hide ((unhide HRo3).below hb4)
  have HR4 := hide (ready_on (unhide HR3) hb4)
  have HT4 := hide ((unhide HT3).below hb4)
  have Hs34 := hide hb4.size
  have HB4 := hide ((unhide HB3).trans (hb4.mono (unhide HB3).size))
  clear hG4 hb4
  go_wp2_with fail
  refine (unhide Hbrid S t b (by have := unhide HN; have := unhide HbN; omega) w4 (unhide HR4) (unhide HT4) (Nat.le_refl _)).mono ?_
  rintro e w5 ⟨v5, rfl, hG5, hb5⟩
  obtain ⟨s5, c5, hf5⟩ := hG5.form
  rw [unhide Hbn] at hf5
  subst hf5
  have HG5 := hide hG5
  have HG45 := hide ((unhide HG4).below hb5)
  have HRo5 := hide ((unhide HRo4).below hb5)
  have HT5 := hide ((unhide HT4).below hb5)
  have Hs45 := hide hb5.size
  have HB5 := hide ((unhide HB4).trans (hb5.mono (unhide HB4).size))
  clear hG5 hb5
  have hbE : Below w5.heap.size w5 (w5.alloc (.cells #[] 5)) := (Below.refl _ _).alloc (Nat.le_refl _) _
  have HE : Hid (Row w5 (w5.alloc (.cells #[] 5)) (.slice (some ⟨w5.heap.size, 0, none⟩) 0 0) []) := ⟨ownb_empty w5, hbE⟩
  have HRE := hide ((unhide HRo5).bytes.below hbE)
  have HRlen : Hid (([] : Bs).length + R.length ≤ 1073741824) := by show _ ≤ _; have := unhide HRl; simp; omega
  clear hbE
  go_upto_region 10 with (at_builtin; refine wpList_append_row rfl _ _ rfl _ _ [] R rfl (unhide HE) rfl (unhide HRE) (unhide HRlen) ?_
                          intro v7 w7 hR7
                          rw [List.nil_append] at hR7
                          have HR7 := hide hR7
                          clear hR7)
  obtain ⟨s7, c7, hf7⟩ := (unhide HR7).own.form
  rw [unhide HRl] at hf7
  subst hf7
  have HB7 := hide ((unhide HB5).trans ((unhide HR7).b.mono (unhide HB5).size))
  have HT7 := hide ((unhide HT5).below (unhide HR7).b)
  have HK7 := hide (unhide HR7).own
  have HP7 := hide ((unhide HG45).below (unhide HR7).b)
  have HG7 := hide ((unhide HG5).below (unhide HR7).b)
  have Hs57 := hide (unhide HR7).b.size
  have HF7 : Hid (Flips w7 w7 w2.heap.size (.slice s3 32 c3)) := hide ⟨⟨R, unhide HRl, (unhide HRo5).below (unhide HR7).b⟩, Aside.refl _ _⟩
  have hrb : ∀ k, (Value.slice s3 32 c3).ownBlock = some k → w2.heap.size ≤ k ∧ k < w3.heap.size := fun k hk => World.ownsRow.lt (unhide HRo3) k hk
  have Hrb := hide hrb
  have HSo := hide (unhide HT2).old
  clear hrb HE HRE HRlen HR7
  go_wp2
  go_loopw [81] (fun ii wr => ∃ i : Nat, i ≤ 32 ∧ ii = .int .i64 (i : Int) ∧ Hid (Flips w7 wr w2.heap.size (.slice s3 32 c3))) (fun ii _ => 32 - (intOf ii).toNat)
  case atStart => exact ⟨0, by omega, rfl, HF7⟩
  case round =>
    clear HF7
    obtain ⟨i, hi, rfl, HF⟩ := hrel
    rename World => wr
    have i0 : (0 : Int) ≤ (i : Int) := by omega
    have i32 : (i : Int) ≤ 32 := by omega
    by_cases hlt : i < 32
    · obtain ⟨l', hl', ho'⟩ := (unhide HF).own
      obtain ⟨pb, pcap, pc, hpv, hpc, hpB, hcell, hfz, hset⟩ := poke ho' (i := i) (by omega)
      rw [hl'] at hpv
      simp only [Value.slice.injEq] at hpv
      obtain ⟨rfl, _, rfl⟩ := hpv
      obtain ⟨z, hz⟩ : ∃ z, pc ^^^ 255 = z := ⟨_, rfl⟩
      have hzb : z < 256 := by rw [← hz]; exact Nat.xor_lt_two_pow (n := 8) hpc (by omega)
      have hx : bits .xor .u8 (pc : Int) 255 = (z : Int) := by
        have := u8_xor_nat pc 255 hpc (by omega)
        rw [hz] at this
        exact this
      have HF2 : Hid (Flips w7 (wr.setCell ⟨pb, i, none⟩ (.int .u8 (z : Int))) w2.heap.size (.slice (some ⟨pb, 0, none⟩) 32 c3)) := hide ⟨⟨_, by rw [List.length_set]; exact hl', hset z hzb⟩, (unhide HF).aside.setCell _ _ (Or.inr rfl)⟩
      obtain ⟨wn, hwn⟩ : ∃ wn, wr.setCell ⟨pb, i, none⟩ (.int .u8 (z : Int)) = wn := ⟨_, rfl⟩
      rw [hwn] at HF2
      have il : (i : Int) < 32 := by omega
      have pc0 : (0 : Int) ≤ (pc : Int) := by omega
      have pc1 : (pc : Int) < 256 := by omega
      clear ho' hset hl' hz HF
      go_wp2
      go_roundw
      case rel =>
        first
          | exact ⟨i + 1, by omega, by go_num, HF2⟩
          | ((repeat apply Exists.intro); exact ⟨⟨i + 1, by omega, by go_num, HF2⟩, rfl⟩)
      case measure => simp [intOf]; omega
    · obtain rfl : i = 32 := by omega
      -- all but the root's own bytes is as it was
      have HU : Hid (Adding S (fun k => (Value.slice s3 32 c3).ownBlock = some k ∨ S k) w1' w7 wr t (leavesH ls) b S) := by
        refine hide ⟨(unhide HT7).aside (unhide HF).aside fun k hk hq => ?_, fun k hk => Or.inl hk, (unhide HF).aside.mono fun k _ h => Or.inl h, ?_⟩
        · have := unhide HSo k hk; have := (unhide Hrb k hq).1; omega
        · exact (unhide HB7).trans ((unhide HF).aside.below (unhide HB7).size fun k hk => by have := (unhide Hrb k hk).1; have := (unhide HB2).size; omega)
      have di : decide ((32 : Int) < 32) = false := by decide
      clear HF
      go_wp2
      go_loopw [95] (fun ii wr => ∃ (i : Nat) (S' : Set_), i ≤ M ∧ ii = .int .i64 (i : Int) ∧ Hid (Adding S (fun k => (Value.slice s3 32 c3).ownBlock = some k ∨ S k) w1' w7 wr t (leavesH ls) (b + i) S')) (fun ii _ => M - (intOf ii).toNat)
      case atStart => exact ⟨0, _, by omega, rfl, HU⟩
      case round =>
        clear HU
        obtain ⟨i, S', hi, rfl, HA⟩ := hrel
        rename World => wq
        have i0 : (0 : Int) ≤ (i : Int) := by omega
        have i1 : (i : Int) ≤ 100 := by omega
        by_cases hlt : i < M
        · have il : (i : Int) < (M : Int) := by omega
          have hgt : i < (ls.drop b).length := by have := unhide HMl; omega
          obtain ⟨d, hd⟩ : ∃ d, (ls.drop b)[i]? = some d := ⟨_, List.getElem?_eq_getElem hgt⟩
          obtain ⟨lb, lo, lv, rfl, hc0, hv0⟩ := (unhide HXr).atb hd
          have hc := cell_below hc0 (unhide HA).b
          have hv := hv0.below (unhide HA).b
          rw [List.getElem?_drop] at hd
          have hgd : leavesH ls (b + i) = leafH Sha.shaOf d := by unfold leavesH; rw [List.getD_eq_getElem?_getD, hd]; rfl
          obtain ⟨s9, n9, c9, rfl⟩ := hv.forms
          have HV := hide hv
          have Hvl := hide (unhide Hfs _ (List.mem_of_getElem? hd))
          have Hgd := hide hgd
          have Hbi : Hid (b + i ≤ 100) := by show _ ≤ _; have := unhide HM; have := unhide HN; omega
          have HSg : Hid (∀ k, S' k → 1 < k) := fun k hk => by
            have h1 := (unhide HR1).lt
            rcases (unhide HA).set k hk with h | h
            · have := unhide HS k h; omega
            · have := (unhide HB7).size; omega
          clear hv hv0 hc0 hd hgd hgt
          go_wp2_with fail
          refine (tadd_c (N := b + i) (len_leavesH ls) (unhide Hbi) wq (ready_on (unhide HR1) (unhide HA).b) (unhide HA).tree (unhide HSg) _ d (unhide HV) (by have := unhide Hvl; omega) (unhide Hgd)).mono ?_
          rintro e w8 ⟨rfl, S8, hT8, hS8, hA8⟩
          have HA8 : Hid (Adding S (fun k => (Value.slice s3 32 c3).ownBlock = some k ∨ S k) w1' w7 w8 t (leavesH ls) (b + (i + 1)) S8) := by
            refine hide ⟨by rw [← Nat.add_assoc]; exact hT8, fun k hk => ?_, (unhide HA).aside.trans hA8 fun k hk hq => ?_, (unhide HA).b.trans (hA8.below (unhide HA).b.size fun k hk => ?_)⟩
            · rcases hS8 k hk with h | h
              · exact (unhide HA).set k h
              · have := (unhide HA).aside.size; exact Or.inr (by omega)
            · rcases (unhide HA).set k hq with h | h
              · exact Or.inr h
              · omega
            · rcases (unhide HA).set k hk with h | h
              · exact unhide HS k h
              · have := (unhide HB7).size; omega
          clear hT8 hS8 hA8 hc HA
          go_wp2
          go_roundw
          case rel =>
            first
              | exact ⟨i + 1, _, by omega, by go_num, HA8⟩
              | ((repeat apply Exists.intro); exact ⟨⟨i + 1, _, by omega, by go_num, HA8⟩, rfl⟩)
          case measure => simp [intOf]; omega
        · obtain rfl : i = M := by omega
          have di2 : decide ((i : Int) < (i : Int)) = false := by simp
          have hTN := (unhide HA).tree
          rw [unhide HM] at hTN
          have HTN := hide hTN
          have HRq := hide (ready_on (unhide HR1) (unhide HA).b)
          have HBq := hide ((unhide HB1).trans ((unhide HA).b.mono (unhide HB1).size))
          have hoff : ∀ k, w3.heap.size ≤ k → k < w7.heap.size → ¬ ((Value.slice s3 32 c3).ownBlock = some k ∨ S k) := fun k h1 _ h3 => by
            rcases h3 with h | h
            · have := (unhide Hrb k h).2; omega
            · have := unhide HSo k h; have := unhide Hs23; omega
          have HKq : Hid (BytesAt wq (.slice s7 32 c7) R) := hide (OwnV.vals ((unhide HK7).aside (unhide HA).aside fun k hk => hoff k (by have := (World.ownsRow.lt (unhide HK7) k hk).1; have := unhide Hs34; have := unhide Hs45; omega) (World.ownsRow.lt (unhide HK7) k hk).2))
          have HPq := hide ((unhide HP7).off (unhide HA).aside hoff)
          have HGq := hide ((unhide HG7).off (unhide HA).aside fun k h1 h2 => hoff k (by have := unhide Hs34; omega) h2)
          clear HA hTN hoff
          go_wp2_with fail
          refine (unhide Hroot _ t N (unhide HN) wq (unhide HRq) (unhide HTN) (unhide HbN)).mono ?_
          rintro e w9 ⟨v9, rfl, hR9⟩
          obtain ⟨s9, n9, c9, rfl⟩ := hR9.bytes.forms
          have HR9 := hide (ready_on (unhide HRq) hR9.b)
          have HT9 := hide ((unhide HTN).below hR9.b)
          have HB9 := hide ((unhide HBq).trans (hR9.b.mono (unhide HBq).size))
          have HV9 := hide hR9.bytes
          have HK9 := hide ((unhide HKq).below hR9.b)
          have HP9 := hide ((unhide HPq).below hR9.b)
          have HG9 := hide ((unhide HGq).below hR9.b)
          clear hR9 HKq HPq HGq
          go_wp2_with fail
          refine (unhide Hpath _ t N (unhide HN) w9 (unhide HR9) (unhide HT9) (unhide HbN)).mono ?_
          rintro e w10 ⟨v10, rfl, hG10, hb10⟩
          obtain ⟨s10, c10, hf10⟩ := hG10.form
          rw [unhide Hpn] at hf10
          subst hf10
          have HR10 := hide (ready_on (unhide HR9) hb10)
          have HT10 := hide ((unhide HT9).below hb10)
          have HB10 := hide ((unhide HB9).trans (hb10.mono (unhide HB9).size))
          have HV10 := hide ((unhide HV9).below hb10)
          have HK10 := hide ((unhide HK9).below hb10)
          have HP10 := hide ((unhide HP9).below hb10)
          have HG10 := hide ((unhide HG9).below hb10)
          have HQ10 := hide hG10.lists
          clear hG10 hb10 HV9 HK9 HP9 HG9
          go_wp2_with fail
          refine (unhide Hbrid _ t N (unhide HN) w10 (unhide HR10) (unhide HT10) (unhide HbN)).mono ?_
          rintro e w11 ⟨v11, rfl, hG11, hb11⟩
          obtain ⟨s11, c11, hf11⟩ := hG11.form
          rw [unhide Hbn] at hf11
          subst hf11
          have HT11 := hide ((unhide HT10).below hb11)
          have HB11 := hide ((unhide HB10).trans (hb11.mono (unhide HB10).size))
          have HV11 := hide ((unhide HV10).below hb11)
          have HK11 := hide ((unhide HK10).below hb11)
          have HP11 := hide ((unhide HP10).below hb11)
          have HG11 := hide ((unhide HG10).below hb11)
          have HQ11 := hide ((unhide HQ10).below hb11)
          have HC11 := hide hG11.lists
          clear hG11 hb11 HV10 HK10 HP10 HG10 HQ10
          go_wp2_with fail
          refine (same_any w11 _ _ R R (unhide HV11) (unhide HK11) (by have := unhide HRl; omega)).mono ?_
          rintro e w12 ⟨rfl, hb12⟩
          rw [decide_eq_true rfl]
          have HT12 := hide ((unhide HT11).below hb12)
          have HB12 := hide ((unhide HB11).trans (hb12.mono (unhide HB11).size))
          have HP12 := hide ((unhide HP11).below hb12)
          have HG12 := hide ((unhide HG11).below hb12)
          have HQ12 := hide ((unhide HQ11).below hb12)
          have HC12 := hide ((unhide HC11).below hb12)
          clear hb12 HP11 HG11 HQ11 HC11
          go_wp2_with fail
          refine (lsame_c w12 _ _ P P (unhide HP12) (unhide HQ12) (fun b hb => by have := unhide H32 b hb; omega) (by have := unhide Hpf; omega) (by have := unhide Hpf; omega)).mono ?_
          rintro e w13 ⟨rfl, hb13⟩
          rw [decide_eq_true rfl]
          have HT13 := hide ((unhide HT12).below hb13)
          have HB13 := hide ((unhide HB12).trans (hb13.mono (unhide HB12).size))
          have HG13 := hide ((unhide HG12).below hb13)
          have HC13 := hide ((unhide HC12).below hb13)
          clear hb13
          go_wp2_with fail
          refine (lsame_c w13 _ _ Bg Bg (unhide HG13) (unhide HC13) (fun b hb => by have := unhide Hb32 b hb; omega) (by have := unhide Hbf; omega) (by have := unhide Hbf; omega)).mono ?_
          rintro e w14 ⟨rfl, hb14⟩
          rw [decide_eq_true rfl]
          have HT14 := hide ((unhide HT13).below hb14)
          have HB14 := hide ((unhide HB13).trans (hb14.mono (unhide HB13).size))
          clear hb14
          go_wp2_with fail
          refine (tsize_c w14 (unhide HT14) (by have := unhide HN; omega)).mono ?_
          rintro e w15 ⟨rfl, hw15⟩
          subst hw15
          go_wp2
          go_ret
          exact ⟨rfl, unhide HB14⟩
end Go.Proofs.YtmhlafhbdpeglabDoor
