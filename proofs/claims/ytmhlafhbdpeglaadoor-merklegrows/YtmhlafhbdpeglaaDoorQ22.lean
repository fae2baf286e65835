/-
  The walk of MerkleGrows.
-/
import Derived.Test.YtmhlafhbdpeglaaDoorQ19
import Derived.Test.YtmhlafhbdpeglaaDoorQ20
import Derived.Test.YtmhlafhbdpeglaaDoorQ18
import Derived.Test.YtmhlafhbdpeglaaDoorQ21
import Derived.Deep.CutBlock
namespace Go.Proofs.YtmhlafhbdpeglaaDoor
open Go.RowKit
set_option maxRecDepth 100000 in
set_option maxHeartbeats 16000000 in
/-- MERKLEGROWS. -/
theorem grows_true (w : World) (hr : Sha.Ready w) (x : Value) (ls : List Bs) (hx : LL w x ls) (hsm : ∀ b ∈ ls, b.length ≤ 1099511627776000) (hlb : ls.length ≤ 1099511627776000) (m n pos bit part other : Int) (hm : -9223372036854775808 ≤ m ∧ m ≤ 9223372036854775807) (hn : -9223372036854775808 ≤ n ∧ n ≤ 9223372036854775807) (hpos : -9223372036854775808 ≤ pos ∧ pos ≤ 9223372036854775807) (_hbit : -9223372036854775808 ≤ bit ∧ bit ≤ 9223372036854775807) (hpart : -9223372036854775808 ≤ part ∧ part ≤ 9223372036854775807) (hother : -9223372036854775808 ≤ other ∧ other ≤ 9223372036854775807) : Says w 8 #[x, .int .i64 m, .int .i64 n, .int .i64 pos, .int .i64 bit, .int .i64 part, .int .i64 other] true := by
  obtain ⟨sp, cp, rfl⟩ := hx.form
  obtain ⟨n1, n2⟩ := hn
  obtain ⟨m1, m2⟩ := hm
  obtain ⟨pos1, pos2⟩ := hpos
  have Hoth := hide hother
  have HX := hide hx
  have HR := hide hr
  have Hsm := hide hsm
  obtain ⟨N, hNN⟩ : ∃ N, ls.length = N := ⟨_, rfl⟩
  have HNN := hide hNN
  rw [hNN] at HX hlb ⊢
  have n0 : (0 : Int) ≤ (N : Int) := by omega
  have nb : (N : Int) ≤ 1099511627776000 := by omega
  clear hx hr hsm hNN hother _hbit
  go_enter Tryd.func8, Tryd.ntmps8
  go_wp2_with fail
  refine (anchor_c w (unhide HR)).mono ?_
  rintro e w1 ⟨rfl, hb1⟩
  have HB1 := hide hb1
  have HX1 := hide ((unhide HX).below hb1)
  have HR1 := hide (ready_on (unhide HR) hb1)
  clear hb1
  go_wp2_with fail
  refine (few_c w1 _ ls (unhide HX1) (unhide Hsm)).mono ?_
  rintro e w1' ⟨rfl, hw1⟩
  subst hw1
  by_cases hf : fewB ls = true
  case neg =>
    have hff : fewB ls = false := by simpa using hf
    rw [hff]
    clear hf hff
    go_wp2
    go_ret
    exact ⟨rfl, unhide HB1⟩
  case pos =>
  rw [hf]
  by_cases hin : 0 ≤ m ∧ m ≤ n ∧ n ≤ (N : Int) ∧ 0 ≤ pos ∧ 0 ≤ bit ∧ bit ≤ 255
  case neg =>
    by_cases h0 : m < 0
    · have d1 : decide (m < 0) = true := by simp; omega
      go_wp2
      go_ret
      exact ⟨rfl, unhide HB1⟩
    have d1 : decide (m < 0) = false := by simp; omega
    by_cases h1 : n < m
    · have d2 : decide (n < m) = true := by simp; omega
      go_wp2
      go_ret
      exact ⟨rfl, unhide HB1⟩
    have d2 : decide (n < m) = false := by simp; omega
    by_cases h2 : (N : Int) < n
    · have d3 : decide ((N : Int) < n) = true := by simp; omega
      go_wp2
      go_ret
      exact ⟨rfl, unhide HB1⟩
    have d3 : decide ((N : Int) < n) = false := by simp; omega
    by_cases h3 : pos < 0
    · have d4 : decide (pos < 0) = true := by simp; omega
      go_wp2
      go_ret
      exact ⟨rfl, unhide HB1⟩
    have d4 : decide (pos < 0) = false := by simp; omega
    by_cases h4 : bit < 0
    · have d5 : decide (bit < 0) = true := by simp; omega
      go_wp2
      go_ret
      exact ⟨rfl, unhide HB1⟩
    have d5 : decide (bit < 0) = false := by simp; omega
    have d6 : decide (255 < bit) = true := by simp; omega
    go_wp2
    go_ret
    exact ⟨rfl, unhide HB1⟩
  case pos =>
  obtain ⟨a, rfl⟩ : ∃ a : Nat, m = (a : Int) := ⟨m.toNat, by omega⟩
  obtain ⟨b, rfl⟩ : ∃ b : Nat, n = (b : Int) := ⟨n.toNat, by omega⟩
  obtain ⟨ps, rfl⟩ : ∃ b : Nat, pos = (b : Int) := ⟨pos.toNat, by omega⟩
  obtain ⟨bt, rfl⟩ : ∃ b : Nat, bit = (b : Int) := ⟨bit.toNat, by omega⟩
  have hN := (few_small hf).1
  rw [unhide HNN] at hN
  have d1 : decide ((a : Int) < 0) = false := by simp
  have d2 : decide ((b : Int) < (a : Int)) = false := by simp; omega
  have d2n : decide (b < a) = false := by simp; omega
  have d3 : decide ((N : Int) < (b : Int)) = false := by simp; omega
  have d3n : decide (N < b) = false := by simp; omega
  have d4 : decide ((ps : Int) < 0) = false := by simp
  have d5 : decide ((bt : Int) < 0) = false := by simp
  have d6 : decide ((255 : Int) < (bt : Int)) = false := by simp; omega
  have d6n : decide (255 < bt) = false := by simp; omega
  have hab : a ≤ b := by omega
  have hbN : b ≤ N := by omega
  have a0 : (0 : Int) ≤ (a : Int) := by omega
  have a1 : (a : Int) ≤ (N : Int) := by omega
  have a2 : a ≤ N := by omega
  have b100 : (b : Int) ≤ 100 := by omega
  have bt255 : (bt : Int) ≤ 255 := by omega
  have bt0 : (0 : Int) ≤ (bt : Int) := by omega
  have ps0 : (0 : Int) ≤ (ps : Int) := by omega
  have psb : (ps : Int) ≤ 9223372036854775807 := by omega
  have Hab := hide hab
  have HbN := hide hbN
  have Hf := hide hf
  clear hin hf n1 n2 m1 m2 pos1 pos2 hbN
  go_wp2_with fail
  refine (tree_n w1' (unhide HR1) _ ls N (unhide HNN) (unhide HX1) (unhide Hf)).mono ?_
  rintro e w2 ⟨t, ls', lc, S, rfl, hT, _, hb2⟩
  have HB2 := hide ((unhide HB1).trans (hb2.mono (unhide HB1).size))
  have hl2 := hT.hl
  rw [unhide HNN] at hl2
  have HR2 := hide hT.ready
  have hcutb := hl2.cut b (unhide HbN)
  have hcuta := hl2.cut a a2
  have HsB := hide hcutb.1
  have HsA := hide hcuta.1
  have Hcb := hide hcutb.2
  have Hca := hide hcuta.2
  clear hT hb2 hl2 hcutb hcuta
  go_upto_if 61 with (fail)
  go_cut [17] from 61 to 66 (fun pv wc => ∃ (s3 : Option Addr) (pn c3 : Nat) (P : List Bs), pv = .slice s3 pn c3 ∧ Hid (pn ≤ 8) ∧ Hid (P.length = pn) ∧ Hid (GrL wc w2.heap.size (.slice s3 pn c3) P) ∧ Hid (Below w2.heap.size w2 wc) ∧ Hid (All32 P))
  case first =>
    by_cases ha : a = 0
    · subst ha
      go_wp2_with fail
      go_meet
      case rel => exact ⟨none, 0, 0, [], rfl, Nat.zero_le _, rfl, grl_nil _ _, Below.refl _ _, fun b hb => by cases hb⟩
    · have ha1 : 1 ≤ a := by omega
      have e1 : decide ((0 : Int) < (a : Int)) = true := by simp; omega
      have e2 : decide (0 < a) = true := by simp; omega
      have e3 : (0 : Int) < (a : Int) := by omega
      have e4 : 0 < a := by omega
      have Hq := hide (qbridge_c (len_leavesH ls) w2.heap.size b 0 a true ha1 hab (by omega) w2 ls' lc (Nat.le_refl _) (unhide Hcb))
      have Hpf : Hid ((bridgeP Sha.shaOf (leavesH ls) 0 a b true).length ≤ 8) := bridge_len 7 b 0 a true (by omega)
      have H32 : Hid (All32 (bridgeP Sha.shaOf (leavesH ls) 0 a b true)) := bridge_32 Sha.length_shaOf b 0 a true hab fun i _ _ => len_leavesH ls i
      have hs1 := unhide HsB w2
      clear ha
      go_wp2_with fail
      refine (unhide Hq).mono ?_
      rintro e w3 ⟨v3, rfl, hG3, hb3⟩
      obtain ⟨s3, c3, hf3⟩ := hG3.form
      subst hf3
      have HG3 := hide hG3
      have Hb3 := hide hb3
      clear hG3 hb3 Hq
      go_wp2_with fail
      go_meet
      case rel => exact ⟨s3, _, c3, _, rfl, Hpf, rfl, HG3, Hb3, H32⟩
  case rest =>
  obtain ⟨s3, pn, c3, P, rfl, Hpf, Hpn, HG3, Hb3, H32⟩ := hcut
  go_upto_region 9 with (fail)
  obtain ⟨w3, hw3⟩ : ∃ y, wc = y := ⟨_, rfl⟩
  rw [hw3] at HG3 Hb3 ⊢
  clear hw3
  obtain ⟨FF, hFF⟩ : ∃ R, rootP Sha.shaOf (leavesH ls) 0 a = R := ⟨_, rfl⟩
  obtain ⟨R, hRR⟩ : ∃ R, rootP Sha.shaOf (leavesH ls) 0 b = R := ⟨_, rfl⟩
  have Hra : Hid (∀ W, Below w3.heap.size w3 W → TellsR w2.heap.size W 15 #[.slice ls' a lc] FF) := fun W hW => hFF ▸ qroot_c (len_leavesH ls) w2.heap.size a 0 (by omega) W _ lc (Nat.le_trans (unhide Hb3).size hW.size) (((unhide Hca).below (unhide Hb3)).below hW)
  have Hrb' : Hid (∀ W, Below w3.heap.size w3 W → TellsR w2.heap.size W 15 #[.slice ls' b lc] R) := fun W hW => hRR ▸ qroot_c (len_leavesH ls) w2.heap.size b 0 (by omega) W _ lc (Nat.le_trans (unhide Hb3).size hW.size) (((unhide Hcb).below (unhide Hb3)).below hW)
  have Hl32 : Hid (FF.length = 32) := by show _ = _; rw [← hFF]; exact len_root Sha.length_shaOf _ _ fun i _ _ => len_leavesH ls i
  have HR32 : Hid (R.length = 32) := by show _ = _; rw [← hRR]; exact len_root Sha.length_shaOf _ _ fun i _ _ => len_leavesH ls i
  clear hFF hRR
  refine region_join (join9 w3 FF R) ?_ ?_
  · intro Q0 hQ0
    exact region9 (unhide HsA) (unhide HsB) Hra Hrb' Hl32 HR32 hQ0
  · rintro a' w10 ⟨ha, w8, w9, lfv, rtv, q18, q19, hR8, hB9, hR10⟩
    simp only [Slots, List.map_cons, List.map_nil] at ha
    rw [q18, q19] at ha
    generalize a'.tmps.getD 67 undef = u67 at ha
    generalize a'.tmps.getD 68 undef = u68 at ha
    generalize a'.tmps.getD 69 undef = u69 at ha
    generalize a'.tmps.getD 70 undef = u70 at ha
    generalize a'.tmps.getD 71 undef = u71 at ha
    generalize a'.tmps.getD 72 undef = u72 at ha
    generalize a'.tmps.getD 73 undef = u73 at ha
    generalize a'.tmps.getD 74 undef = u74 at ha
    generalize a'.tmps.getD 75 undef = u75 at ha
    generalize a'.tmps.getD 76 undef = u76 at ha
    generalize a'.tmps.getD 77 undef = u77 at ha
    generalize a'.tmps.getD 78 undef = u78 at ha
    clear q18 q19
    subst ha
    simp only [puts, List.foldl, Act.put, List.setIfInBounds_toArray, List.set_cons_zero, List.set_cons_succ]
    obtain ⟨sf, cf, hff⟩ := hR8.own.form
    rw [unhide Hl32] at hff
    subst hff
    obtain ⟨sr, cr, hfr⟩ := hR10.own.form
    rw [unhide HR32] at hfr
    subst hfr
    have hb38 := hR8.b
    have hb89 := hB9
    have hb910 := hR10.b
    have hb310 : Below w3.heap.size w3 w10 := (hb38.trans (hb89.mono hb38.size)).trans (hb910.mono (Nat.le_trans hb38.size hb89.size))
    have Hlb := hide (World.ownsRow.lt hR8.own)
    have Hrb := hide (World.ownsRow.lt hR10.own)
    have Hb310 := hide hb310
    have HLf := hide ((hR8.own.below hb89).below hb910)
    have HRt := hide hR10.own
    have HGp := hide ((unhide HG3).below hb310)
    have HB3 := hide ((unhide HB2).trans ((unhide Hb3).mono (unhide HB2).size))
    have HB10 := hide ((unhide HB3).trans (hb310.mono (unhide HB3).size))
    have HR10 := hide (ready_on (unhide HR2) ((unhide Hb3).trans (hb310.mono (unhide Hb3).size)))
    have Hsz := hide (And.intro hb38.size (And.intro hb89.size (And.intro hb910.size (unhide Hb3).size)))
    have Hg3 := hide ((unhide HG3).lt)
    have HF : Hid (Fin16 w w10 (.slice sf 32 cf) (.slice sr 32 cr) (.slice s3 pn c3) FF R P) := hide ⟨(unhide HLf).bytes, (unhide HRt).bytes, (unhide HGp).lists, by have := unhide Hpf; have := unhide Hpn; omega, unhide HR10, unhide HB10⟩
    clear hR8 hB9 hR10 hb38 hb89 hb910 hb310
    go_upto_block 0 with (fail)
    go_cut [18, 19, 17, 20, 21] from 82 to 163 (fun fv sv pv av bv wc => ∃ (A B : Int) (X Y : Bs) (Z : List Bs), av = .int .i64 A ∧ bv = .int .i64 B ∧ (-9223372036854775808 ≤ A ∧ A ≤ 9223372036854775807) ∧ (-9223372036854775808 ≤ B ∧ B ≤ 9223372036854775807) ∧ (A = B → 0 ≤ A) ∧ Hid (Fin16 w wc fv sv pv X Y Z))
    case rest =>
      obtain ⟨A, B, X, Y, Z, rfl, rfl, hA, hB, hAB, HX⟩ := hcut
      go_wp2_with fail
      refine (grown_c _ (unhide HX).ready _ _ _ X Y Z A B hA hB hAB (unhide HX).leaf (unhide HX).root (unhide HX).list (unhide HX).few).mono ?_
      rintro e wx ⟨rfl, hbx⟩
      have HFx := hide ((unhide HX).on hbx)
      clear hbx
      go_wp2_with fail
      refine (qgrown_c _ _ _ _ X Y Z A B hA hB (unhide HFx).leaf (unhide HFx).root (unhide HFx).list (unhide HFx).few).mono ?_
      rintro e wy ⟨rfl, hby⟩
      have HFy := hide ((unhide HFx).on hby)
      clear hby
      obtain ⟨rr, hrr⟩ : ∃ rr, grownB Sha.shaOf A B X Y Z = rr := ⟨_, rfl⟩
      rw [hrr]
      have hre : (rr == rr) = true := by simp
      clear hrr
      go_wp2
      go_ret
      exact ⟨rfl, (unhide HFy).b⟩
    case first =>
      obtain ⟨i, hi⟩ : ∃ i, bt / 8 = i := ⟨_, rfl⟩
      obtain ⟨q, hq⟩ : ∃ q, bt % 8 = q := ⟨_, rfl⟩
      have i0 : (0 : Int) ≤ (i : Int) := by omega
      have i32 : (i : Int) < 32 := by omega
      have q0 : (0 : Int) ≤ (q : Int) := by omega
      have q8 : (q : Int) < 8 := by omega
      have e1 : (bt : Int) / 8 = (i : Int) := by omega
      have e2 : (bt : Int) % 8 = (q : Int) := by omega
      have e3 : Int.tdiv (bt : Int) 8 = (i : Int) := by rw [Int.tdiv_eq_ediv_of_nonneg (by omega)]; omega
      have e4 : Int.tmod (bt : Int) 8 = (q : Int) := by rw [Int.tmod_eq_emod_of_nonneg (by omega)]; omega
      have Hi32 := hide (show i < 32 by omega)
      obtain ⟨sv, hsv⟩ : ∃ sv, 2 ^ q = sv := ⟨_, rfl⟩
      have hsvb : sv < 256 := by rw [← hsv]; exact Nat.pow_lt_pow_right (by omega) (show q < 8 by omega)
      have g1 : (2 : Int) ^ q = (sv : Int) := by rw [← hsv]; simp
      have g2 : IntKind.u8.wrap (sv : Int) = (sv : Int) := IntWalk.u8_in _ (by omega)
      have g3 : IntKind.u8.wrap ((2 : Int) ^ q) = (sv : Int) := by rw [g1, g2]
      have Hsv := hide hsvb
      clear hi hq hsv hsvb
      by_cases p1 : part = 1
      · subst p1
        obtain ⟨pb, pcap, pc, hpv, hpc, hpB, hcell, hfz, hset⟩ := poke (W := w10.drew) (unhide HLf) (i := i) (by have := unhide Hl32; have := unhide Hi32; omega)
        rw [unhide Hl32] at hpv
        simp only [Value.slice.injEq] at hpv
        obtain ⟨rfl, _, rfl⟩ := hpv
        obtain ⟨z, hz⟩ : ∃ z, pc ^^^ sv = z := ⟨_, rfl⟩
        have hzb : z < 256 := by rw [← hz]; exact Nat.xor_lt_two_pow (n := 8) hpc (unhide Hsv)
        have hx : bits .xor .u8 (pc : Int) (sv : Int) = (z : Int) := by
          have := u8_xor_nat pc sv hpc (unhide Hsv)
          rw [hz] at this
          exact this
        have hpk := unhide Hlb pb (by simp [Value.ownBlock])
        have hbw : Below w3.heap.size w3 (w10.drew.setCell ⟨pb, i, none⟩ (.int .u8 (z : Int))) := ((unhide Hb310).drew).setCell (by simp only; exact hpk.1) _
        have hbv : Below w.heap.size w (w10.drew.setCell ⟨pb, i, none⟩ (.int .u8 (z : Int))) := (unhide HB3).trans (hbw.mono (unhide HB3).size)
        have HF1 : Hid (Fin16 w (w10.drew.setCell ⟨pb, i, none⟩ (.int .u8 (z : Int))) (.slice (some ⟨pb, 0, none⟩) 32 cf) (.slice sr 32 cr) (.slice s3 pn c3) (FF.set i (UInt8.ofNat z)) R P) := hide ⟨(hset z hzb).bytes, BytesAt.set_other (unhide HF).root _ _ _ (fun e => by have := unhide Hrb pb e; have := unhide Hsz; omega), (unhide HG3).lists.below hbw, (unhide HF).few, ready_on (unhide HR) hbv, hbv⟩
        obtain ⟨wn, hwn⟩ : ∃ wn, w10.drew.setCell ⟨pb, i, none⟩ (.int .u8 (z : Int)) = wn := ⟨_, rfl⟩
        rw [hwn] at HF1
        have pc0 : (0 : Int) ≤ (pc : Int) := by omega
        have pc1 : (pc : Int) < 256 := by omega
        clear hset hpk hbw hbv hz HF
        go_wp2
        go_region
        go_wp2_with fail
        go_meet
        case rel => exact ⟨(a : Int), (b : Int), (FF.set i (UInt8.ofNat z)), R, P, rfl, rfl, by omega, by omega, fun _ => by omega, HF1⟩
      have dp1 : (part == 1) = false := by simp; omega
      by_cases p2 : part = 2
      · subst p2
        obtain ⟨pb, pcap, pc, hpv, hpc, hpB, hcell, hfz, hset⟩ := poke (W := w10.drew) (unhide HRt) (i := i) (by have := unhide HR32; have := unhide Hi32; omega)
        rw [unhide HR32] at hpv
        simp only [Value.slice.injEq] at hpv
        obtain ⟨rfl, _, rfl⟩ := hpv
        obtain ⟨z, hz⟩ : ∃ z, pc ^^^ sv = z := ⟨_, rfl⟩
        have hzb : z < 256 := by rw [← hz]; exact Nat.xor_lt_two_pow (n := 8) hpc (unhide Hsv)
        have hx : bits .xor .u8 (pc : Int) (sv : Int) = (z : Int) := by
          have := u8_xor_nat pc sv hpc (unhide Hsv)
          rw [hz] at this
          exact this
        have hpk := unhide Hrb pb (by simp [Value.ownBlock])
        have hbw : Below w3.heap.size w3 (w10.drew.setCell ⟨pb, i, none⟩ (.int .u8 (z : Int))) := ((unhide Hb310).drew).setCell (by simp only; have := unhide Hsz; omega) _
        have hbv : Below w.heap.size w (w10.drew.setCell ⟨pb, i, none⟩ (.int .u8 (z : Int))) := (unhide HB3).trans (hbw.mono (unhide HB3).size)
        have HF1 : Hid (Fin16 w (w10.drew.setCell ⟨pb, i, none⟩ (.int .u8 (z : Int))) (.slice sf 32 cf) (.slice (some ⟨pb, 0, none⟩) 32 cr) (.slice s3 pn c3) FF (R.set i (UInt8.ofNat z)) P) := hide ⟨BytesAt.set_other (unhide HF).leaf _ _ _ (fun e => by have := unhide Hlb pb e; have := unhide Hsz; omega), (hset z hzb).bytes, (unhide HG3).lists.below hbw, (unhide HF).few, ready_on (unhide HR) hbv, hbv⟩
        obtain ⟨wn, hwn⟩ : ∃ wn, w10.drew.setCell ⟨pb, i, none⟩ (.int .u8 (z : Int)) = wn := ⟨_, rfl⟩
        rw [hwn] at HF1
        have pc0 : (0 : Int) ≤ (pc : Int) := by omega
        have pc1 : (pc : Int) < 256 := by omega
        clear hset hpk hbw hbv hz HF
        go_wp2
        go_region
        go_wp2_with fail
        go_meet
        case rel => exact ⟨(a : Int), (b : Int), FF, (R.set i (UInt8.ofNat z)), P, rfl, rfl, by omega, by omega, fun _ => by omega, HF1⟩
      have dp2 : (part == 2) = false := by simp; omega
      by_cases p3 : part = 3
      · subst p3
        by_cases hz : pn = 0
        · have dz : decide ((0 : Int) < (pn : Int)) = false := by simp; omega
          have dzn : decide (0 < pn) = false := by simp; omega
          clear hz
          go_wp2_with fail
          go_meet
          case rel => exact ⟨(a : Int), (b : Int), FF, R, P, rfl, rfl, by omega, by omega, fun _ => by omega, HF⟩
        · have dz : decide ((0 : Int) < (pn : Int)) = true := by simp; omega
          have dzn : decide (0 < pn) = true := by simp; omega
          obtain ⟨j, hj⟩ : ∃ j, ps % pn = j := ⟨_, rfl⟩
          have hjb : j < pn := by rw [← hj]; exact Nat.mod_lt _ (by omega)
          have f1 : (ps : Int) % (pn : Int) = (j : Int) := by rw [← hj]; simp
          have f2 : Int.tmod (ps : Int) (pn : Int) = (j : Int) := by rw [Int.tmod_eq_emod_of_nonneg (by omega)]; exact f1
          have hpn7 := unhide Hpf
          have j0 : (0 : Int) ≤ (j : Int) := by omega
          have j1 : (j : Int) < (pn : Int) := by omega
          have pnb : (pn : Int) ≤ 8 := by omega
          have pn1 : (1 : Int) ≤ (pn : Int) := by omega
          have Hjb := hide (show j < P.length by have := unhide Hpn; omega)
          obtain ⟨X, hX⟩ : ∃ X, P[j]? = some X := ⟨_, List.getElem?_eq_getElem (unhide Hjb)⟩
          have HX32 := hide (unhide H32 X (List.mem_of_getElem? hX))
          obtain ⟨eb, eo, ev, rfl, ke, hev⟩ := (unhide HF).list.atb hX
          obtain ⟨se, ne, ce, rfl⟩ := hev.forms
          have hbE : Below w10.heap.size w10 (w10.alloc (.cells #[] 5)) := (Below.refl _ _).alloc (Nat.le_refl _) _
          have HE : Hid (Row w10 (w10.alloc (.cells #[] 5)) (.slice (some ⟨w10.heap.size, 0, none⟩) 0 0) []) := ⟨ownb_empty w10, hbE⟩
          have HevE := hide (hev.below hbE)
          have HlnE : Hid (([] : Bs).length + X.length ≤ 1073741824) := by show _ ≤ _; have := unhide HX32; simp; omega
          have keE := cell_below ke hbE
          clear hj hjb hpn7 hX hev hbE ke
          go_upto_region 19 with (at_builtin; refine wpList_append_row rfl _ _ rfl _ _ [] X rfl (unhide HE) rfl (unhide HevE) (unhide HlnE) ?_
                                  intro v11 w11 hR11
                                  rw [List.nil_append] at hR11
                                  have HR11 := hide hR11
                                  clear hR11)
          obtain ⟨xb, xcap, pc, hpv, hpc, hpB, hcell, hfz, hset⟩ := poke (W := w11.drew) (unhide HR11).own (i := i) (by have := unhide HX32; have := unhide Hi32; omega)
          rw [unhide HX32] at hpv
          subst hpv
          obtain ⟨z, hzz⟩ : ∃ z, pc ^^^ sv = z := ⟨_, rfl⟩
          have hzb : z < 256 := by rw [← hzz]; exact Nat.xor_lt_two_pow (n := 8) hpc (unhide Hsv)
          have hx : bits .xor .u8 (pc : Int) (sv : Int) = (z : Int) := by
            have := u8_xor_nat pc sv hpc (unhide Hsv)
            rw [hzz] at this
            exact this
          have hb12 : Below w10.heap.size w10 (w11.drew.setCell ⟨xb, i, none⟩ (.int .u8 (z : Int))) := ((unhide HR11).b.drew).setCell (by simp only; exact hpB) _
          have hxo := hset z hzb
          have hF12 := (unhide HF).on hb12
          have hG12 := (unhide HGp).below hb12
          obtain ⟨w12, hw12⟩ : ∃ wn, w11.drew.setCell ⟨xb, i, none⟩ (.int .u8 (z : Int)) = wn := ⟨_, rfl⟩
          rw [hw12] at hxo hF12 hG12 hb12
          obtain ⟨pb, pcap, old, hpe, hpB2, kc, kf, hll⟩ := grl_store hG12 (unhide Hjb) hxo.bytes (fun _ k hk hq => by
            have := unhide Hg3 k hk
            have := unhide Hsz
            simp [Value.ownBlock] at hq
            omega)
          rw [unhide Hpn] at hpe
          simp only [Value.slice.injEq, Option.some.injEq, Addr.mk.injEq] at hpe
          obtain ⟨⟨rfl, rfl, _⟩, _, rfl⟩ := hpe
          rw [Nat.zero_add] at keE
          have hpk := unhide Hg3 eb (by simp [Value.ownBlock])
          have hbw : Below w.heap.size w (w12.setCell ⟨eb, j, none⟩ (.slice (some ⟨xb, 0, none⟩) 32 xcap)) := hF12.b.setCell (by simp only; have := (unhide HB2).size; omega) _
          have HF13 : Hid (Fin16 w (w12.setCell ⟨eb, j, none⟩ (.slice (some ⟨xb, 0, none⟩) 32 xcap)) (.slice sf 32 cf) (.slice sr 32 cr) (.slice (some ⟨eb, 0, none⟩) pn c3) FF R (P.set j (X.set i (UInt8.ofNat z)))) := hide ⟨BytesAt.set_other hF12.leaf _ _ _ (fun e => by have := unhide Hlb eb e; omega), BytesAt.set_other hF12.root _ _ _ (fun e => by have := unhide Hrb eb e; have := unhide Hsz; omega), hll, by rw [List.length_set]; exact hF12.few, ready_on (unhide HR) hbw, hbw⟩
          obtain ⟨w13, hw13⟩ : ∃ wn, w12.setCell ⟨eb, j, none⟩ (.slice (some ⟨xb, 0, none⟩) 32 xcap) = wn := ⟨_, rfl⟩
          rw [hw13] at HF13
          have pc0 : (0 : Int) ≤ (pc : Int) := by omega
          have pc1 : (pc : Int) < 256 := by omega
          clear hset hb12 hxo hF12 hG12 hll hpk hbw hzz keE HF HR11 hz
          go_wp2
          go_region
          go_wp2_with fail
          go_meet
          case rel => exact ⟨(a : Int), (b : Int), FF, R, (P.set j (X.set i (UInt8.ofNat z))), rfl, rfl, by omega, by omega, fun _ => by omega, HF13⟩
      have dp3 : (part == 3) = false := by simp; omega
      by_cases p4 : part = 4
      · subst p4
        obtain ⟨j, hj⟩ : ∃ j, ps % (pn + 1) = j := ⟨_, rfl⟩
        have hjb : j < pn + 1 := by rw [← hj]; exact Nat.mod_lt _ (by omega)
        have f1 : (ps : Int) % ((pn : Int) + 1) = (j : Int) := by rw [← hj]; simp
        have f2 : Int.tmod (ps : Int) ((pn : Int) + 1) = (j : Int) := by rw [Int.tmod_eq_emod_of_nonneg (by omega)]; exact f1
        have hpn7 := unhide Hpf
        have j0 : (0 : Int) ≤ (j : Int) := by omega
        have j1 : (j : Int) ≤ (pn : Int) := by omega
        have pnb : (pn : Int) ≤ 8 := by omega
        have hcap := (unhide HGp).lists.len
        have hs4 : ∀ w, (Instr.sliceAt 22 (.slice s3 pn c3) none (some (.int .i64 (j : Int))) none).run Tryd.prog w = .ok (.slice s3 j c3) w := slice_frontbb _ _ _ _ (by omega)
        have HF4 : Hid (Fin16 w w10 (.slice sf 32 cf) (.slice sr 32 cr) (.slice s3 j c3) FF R (P.take j)) := hide ⟨(unhide HF).leaf, (unhide HF).root, (unhide HF).list.front j (by omega), by have := (unhide HF).few; rw [List.length_take]; omega, (unhide HF).ready, (unhide HF).b⟩
        clear hj hjb hcap hpn7 HF
        go_wp2_with fail
        go_meet
        case rel => exact ⟨(a : Int), (b : Int), FF, R, (P.take j), rfl, rfl, by omega, by omega, fun _ => by omega, HF4⟩
      have dp4 : (part == 4) = false := by simp; omega
      by_cases p5 : part = 5
      · subst p5
        have hbL : Below w10.heap.size w10 (w10.alloc (.cells #[.slice sf 32 cf] 28)) := (Below.refl _ _).alloc (Nat.le_refl _) _
        have HL5 := hide (vals_new w10 [.slice sf 32 cf] 28)
        have HG5 := hide ((unhide HGp).below hbL)
        have HF5 := hide ((unhide HF).on hbL)
        have Hsz5 : Hid (w2.heap.size ≤ (w10.alloc (.cells #[.slice sf 32 cf] 28)).heap.size) := Nat.le_trans (Nat.le_trans (unhide Hb3).size (unhide Hb310).size) hbL.size
        have Hap5 : Hid (FF ≠ [] → Apart (.slice s3 pn c3) (.slice sf 32 cf)) := fun _ k hk hq => by
          have := unhide Hg3 k hk
          have := unhide Hlb k hq
          have := unhide Hsz
          omega
        have Hln5 : Hid (P.length + 1 ≤ 1073741824) := by show _ ≤ _; have := (unhide HF).few; omega
        have hlb5 : ∀ k, (Value.slice s3 pn c3).ownBlock = some k → (Value.slice sf 32 cf).ownBlock ≠ some k ∧ (Value.slice sr 32 cr).ownBlock ≠ some k := fun k hk => ⟨fun e => by
          have := unhide Hg3 k hk
          have := unhide Hlb k e
          omega, fun e => by
          have := unhide Hg3 k hk
          have := unhide Hrb k e
          have := unhide Hsz
          omega⟩
        have Hlb5 := hide hlb5
        have Hpl : Hid ((P ++ [FF]).length = pn + 1) := by show _ = _; rw [List.length_append, unhide Hpn]; rfl
        clear hbL hlb5 HF
        go_wp2_with (at_builtin; refine wpList_append_grl rfl _ _ rfl w2.heap.size _ _ _ P FF rfl (unhide HG5) rfl (unhide HL5) (unhide HF5).leaf (unhide Hap5) (unhide Hsz5) (unhide Hln5) ?_
                     intro v11 w11 hG11 hg11 _
                     obtain ⟨s11, c11, hf11⟩ := hG11.form
                     rw [unhide Hpl] at hf11
                     have hbw : Below w.heap.size w w11 := (unhide HF5).b.grown hg11 (unhide HF5).b.size (fun k hk => by have := unhide Hg3 k hk; have := (unhide HB2).size; omega)
                     have HF11 : Hid (Fin16 w w11 (.slice sf 32 cf) (.slice sr 32 cr) v11 FF R (P ++ [FF])) := hide ⟨bytes_grown (unhide HF5).leaf hg11 (fun _ k hk => (unhide Hlb5 k hk).1), bytes_grown (unhide HF5).root hg11 (fun _ k hk => (unhide Hlb5 k hk).2), hG11.lists, by have := unhide Hpl; have := unhide Hpf; omega, ready_on (unhide HR) hbw, hbw⟩
                     subst hf11
                     clear hG11 hg11 hbw)
        go_wp2_with fail
        go_meet
        case rel => exact ⟨(a : Int), (b : Int), FF, R, (P ++ [FF]), rfl, rfl, by omega, by omega, fun _ => by omega, HF11⟩
      have dp5 : (part == 5) = false := by simp; omega
      by_cases p6 : part = 6
      · subst p6
        go_wp2_with fail
        go_meet
        case rel => exact ⟨other, (b : Int), FF, R, P, rfl, rfl, unhide Hoth, by omega, fun e => by omega, HF⟩
      have dp6 : (part == 6) = false := by simp; omega
      by_cases p7 : part = 7
      · subst p7
        go_wp2_with fail
        go_meet
        case rel => exact ⟨(a : Int), other, FF, R, P, rfl, rfl, by omega, unhide Hoth, fun _ => by omega, HF⟩
      have dp7 : (part == 7) = false := by simp; omega
      by_cases p8 : part = 8
      · subst p8
        have hcap : 32 ≤ cf := by
          obtain ⟨_, _, e, h, _⟩ := bytes_open (unhide HF).leaf
          simp only [Value.slice.injEq] at e
          have := unhide Hl32
          omega
        have hs8 : ∀ w, (Instr.sliceAt 28 (.slice sf 32 cf) none (some (.int .i64 (i : Int))) none).run Tryd.prog w = .ok (.slice sf i cf) w := slice_front _ _ _ _ (by omega)
        have hlf := (unhide HF).leaf
        rw [← unhide Hl32] at hlf
        have HF8 : Hid (Fin16 w w10 (.slice sf i cf) (.slice sr 32 cr) (.slice s3 pn c3) (FF.take i) R P) := hide ⟨bytes_front hlf i (by have := unhide Hl32; have := unhide Hi32; omega), (unhide HF).root, (unhide HF).list, (unhide HF).few, (unhide HF).ready, (unhide HF).b⟩
        clear hcap hlf HF
        go_wp2_with fail
        go_meet
        case rel => exact ⟨(a : Int), (b : Int), (FF.take i), R, P, rfl, rfl, by omega, by omega, fun _ => by omega, HF8⟩
      have dp8 : (part == 8) = false := by simp; omega
      go_wp2_with fail
      go_meet
      case rel => exact ⟨(a : Int), (b : Int), FF, R, P, rfl, rfl, by omega, by omega, fun _ => by omega, HF⟩
end Go.Proofs.YtmhlafhbdpeglaaDoor
