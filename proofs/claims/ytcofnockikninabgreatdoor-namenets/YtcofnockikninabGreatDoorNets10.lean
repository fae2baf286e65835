/-
  The walk of the statement NameNets.
-/
import Derived.Test.YtcofnockikninabGreatDoorNt10
import Derived.Test.YtcofnockikninabGreatDoorAnc10
import Derived.Test.YtcofnockikninabGreatDoorJoin9
namespace Go.Proofs.YtcofnockikninabGreatDoor
open Go.RowKit
namespace N
open K
theorem or_u8 (p q : Nat) (hp : p < 256) (hq : q < 256) : bits .or .u8 (p : Int) (q : Int) = ((p ||| q : Nat) : Int) := by
  have e : ∀ n : Nat, n < 256 → (BitVec.ofInt 8 (n : Int)).toNat = n := fun n hn => by rw [BitVec.toNat_ofInt]; omega
  have hx : p ||| q < 2 ^ 8 := Nat.or_lt_two_pow (by omega) (by omega)
  show IntKind.u8.wrap ((BitVec.ofInt 8 (p : Int) ||| BitVec.ofInt 8 (q : Int)).toNat : Int) = _
  rw [BitVec.toNat_or, e p hp, e q hq, IntKind.wrap_u8']
  omega
theorem xor_u8 (p q : Nat) (hp : p < 256) (hq : q < 256) : bits .xor .u8 (p : Int) (q : Int) = ((p ^^^ q : Nat) : Int) := by
  have e : ∀ n : Nat, n < 256 → (BitVec.ofInt 8 (n : Int)).toNat = n := fun n hn => by rw [BitVec.toNat_ofInt]; omega
  have hx : p ^^^ q < 2 ^ 8 := Nat.xor_lt_two_pow (by omega) (by omega)
  show IntKind.u8.wrap ((BitVec.ofInt 8 (p : Int) ^^^ BitVec.ofInt 8 (q : Int)).toNat : Int) = _
  rw [BitVec.toNat_xor, e p hp, e q hq, IntKind.wrap_u8']
  omega
theorem xor_bit (p q t : Nat) : decide ((p ^^^ q) / 2 ^ t % 2 = 0) = decide (p / 2 ^ t % 2 = q / 2 ^ t % 2) := by
  have h := Nat.testBit_xor p q t
  simp only [Nat.testBit_eq_decide_div_mod_eq] at h
  rw [decide_eq_decide]
  by_cases h1 : p / 2 ^ t % 2 = 1 <;> by_cases h2 : q / 2 ^ t % 2 = 1 <;> simp [h1, h2] at h <;> omega
/-- The bytes of a mask in their block. -/
def MaskAt (w0 wr : World) (B n k : Nat) : Prop := Blk w0 wr B ((maskL n k).map bv).toArray 5
theorem MaskAt.cell {w0 wr : World} {B n k : Nat} (h : MaskAt w0 wr B n k) {i : Nat} (hi : i < n) : wr.cell? ⟨B, i, none⟩ = some (.int .u8 (mb (min 8 (k - 8 * i)) : Int)) := by
  refine Blk.cell h i _ ?_
  have hl : i < (maskL n k).length := by rw [maskL_len]; exact hi
  rw [List.getElem?_toArray, List.getElem?_map, List.getElem?_eq_getElem hl]
  have := maskL_at (bits := k) hi
  rw [List.getD_eq_getElem?_getD, List.getElem?_eq_getElem hl, Option.getD_some] at this
  simp [bv, this]
theorem MaskAt.step {w0 wr : World} {B n k : Nat} (h : MaskAt w0 wr B n k) (hk : k < 8 * n) : MaskAt w0 (wr.setCell ⟨B, k / 8, none⟩ (.int .u8 (mb (k % 8 + 1) : Int))) B n (k + 1) := by
  have h1 := Blk.put (cs := (maskL n k).map bv) h (k / 8) (by rw [List.length_map, maskL_len]; omega) (.int .u8 (mb (k % 8 + 1) : Int))
  have e : ((maskL n k).map bv).set (k / 8) (.int .u8 (mb (k % 8 + 1) : Int)) = (maskL n (k + 1)).map bv := by
    rw [← maskL_step, List.map_set]
    congr 1
    unfold bv
    rw [UInt8.toNat_ofNat']
    have := mb_lt (k % 8 + 1)
    congr 2
    omega
  rw [e] at h1
  exact h1
theorem MaskAt.bytes {w0 wr : World} {B n k : Nat} (h : MaskAt w0 wr B n k) : BytesAt wr (.slice (some ⟨B, 0, none⟩) n n) (maskL n k) := by
  refine ⟨_, _, by rw [List.length_map, maskL_len], by rw [List.length_map, maskL_len]; exact Nat.le_refl _, fun e => (by cases e), fun _ => ⟨B, 0, rfl, fun j v hv => ?_⟩⟩
  rw [Nat.zero_add]
  exact Blk.cell h j v (by rw [List.getElem?_toArray]; exact hv)
set_option maxRecDepth 100000 in
set_option maxHeartbeats 8000000 in
theorem nets_guard (w0 : World) (hR : Rdy w0) (x y : Value) (a b : Bs) (bits : Int) (hx : BytesAt w0 x a) (hy : BytesAt w0 y b) (hla : a.length ≤ 1000000000000000)
    (hg : (a.length ≠ 4 ∧ a.length ≠ 16) ∨ b.length ≠ a.length ∨ bits < 0 ∨ 8 * (a.length : Int) < bits) :
    Calls Tryz.prog 3 #[x, y, .int .i64 bits] w0 fun e w' => e = .returned (.bool true) ∧ Below w0.heap.size w0 w' := by
  have Hanc := hide (anchor_c w0 hR)
  obtain ⟨sa, ca, rfl, _, _, _⟩ := bytes_open hx
  obtain ⟨sb, cb, rfl, _, _, _⟩ := bytes_open hy
  obtain ⟨n, hn⟩ : ∃ n, a.length = n := ⟨_, rfl⟩
  obtain ⟨m, hm⟩ : ∃ m, b.length = m := ⟨_, rfl⟩
  rw [hn, hm] at hg
  rw [hn] at hla
  rw [hn, hm]
  obtain ⟨P, hP⟩ : ∃ P, decide (n = 4) = P := ⟨_, rfl⟩
  obtain ⟨Q, hQ⟩ : ∃ Q, decide (n = 16) = Q := ⟨_, rfl⟩
  obtain ⟨U, hU⟩ : ∃ U, decide (m = n) = U := ⟨_, rfl⟩
  have p1 : ((n : Int) != 4) = !P := by rw [← hP]; by_cases h : n = 4 <;> simp [h] <;> omega
  have q1 : ((n : Int) != 16) = !Q := by rw [← hQ]; by_cases h : n = 16 <;> simp [h] <;> omega
  have u1 : ((m : Int) != (n : Int)) = !U := by rw [← hU]; by_cases h : m = n <;> simp [h] <;> omega
  obtain ⟨z, hz⟩ : ∃ z, decide (bits < 0) = z := ⟨_, rfl⟩
  obtain ⟨L, hL⟩ : ∃ L, 8 * n = L := ⟨_, rfl⟩
  have eL : (8 : Int) * (n : Int) = (L : Int) := by omega
  obtain ⟨t, ht⟩ : ∃ t, decide ((L : Int) < bits) = t := ⟨_, rfl⟩
  have hall : ((!P && !Q) || !U || z || t) = true := by
    rcases hg with ⟨h1, h2⟩ | h | h | h
    · rw [← hP, ← hQ, decide_eq_false h1, decide_eq_false h2]; rfl
    · rw [← hU, decide_eq_false h]; simp
    · rw [← hz, decide_eq_true h]; simp
    · rw [← ht, decide_eq_true (by omega)]; simp
  clear hg hx hy hn hm hR hP hQ hU hL
  cases P <;> cases Q <;> cases U <;> cases z <;> cases t <;> simp only [Bool.not_true, Bool.not_false] at p1 q1 u1 <;>
    first
    | (exact absurd hall (by decide))
    | (clear hall
       go_enter Tryz.func3, Tryz.ntmps3
       go_wp2_with fail
       refine (unhide Hanc).mono ?_
       rintro e w1 ⟨rfl, hb⟩
       have HB := hide hb
       clear hb
       go_wp2
       go_ret
       exact ⟨rfl, unhide HB⟩)
theorem byte_cell {w0 wr : World} {sp : Option Addr} {n c : Nat} {l : Bs} (h : BytesAt w0 (.slice sp n c) l) (hn : l.length = n) (hb : Below w0.heap.size w0 wr) (q : Nat) (hq : q < n) : ∃ ba oa, sp = some ⟨ba, oa, none⟩ ∧ wr.cell? ⟨ba, oa + q, none⟩ = some (.int .u8 ((l.getD q 0).toNat : Int)) := by
  obtain ⟨ba, oa, p, e1, e2, _, e4⟩ := K.byte_at (h.below hb) hn q hq
  exact ⟨ba, oa, e1, by rw [e2]; exact e4⟩
set_option maxRecDepth 100000 in
set_option maxHeartbeats 16000000 in
theorem nets_main (w0 : World) (hR : Rdy w0) (x y : Value) (a b : Bs) (K n : Nat) (hx : BytesAt w0 x a) (hy : BytesAt w0 y b) (hna : a.length = n) (hnb : b.length = n) (hn : n = 4 ∨ n = 16) (hK : K ≤ 8 * n) :
    Calls Tryz.prog 3 #[x, y, .int .i64 (K : Int)] w0 fun e w' => e = .returned (.bool true) ∧ Below w0.heap.size w0 w' := by
  have Hanc := hide (anchor_c w0 hR)
  have HR := hide hR
  obtain ⟨sa, ca, rfl, _, _, _⟩ := bytes_open hx
  obtain ⟨sb, cb, rfl, _, _, _⟩ := bytes_open hy
  rw [hna] at hx ⊢
  rw [hnb] at hy ⊢
  have HXA := hide hx
  have HYB := hide hy
  have HNA := hide hna
  have HNB := hide hnb
  have Hn := hide hn
  obtain ⟨P, hP⟩ : ∃ P, decide (n = 4) = P := ⟨_, rfl⟩
  have p1 : ((n : Int) != 4) = !P := by rw [← hP]; by_cases h : n = 4 <;> simp [h] <;> omega
  have q1 : P = false → ((n : Int) != 16) = false := fun h => by
    rw [h] at hP
    have := of_decide_eq_false hP
    simp; omega
  have u1 : ((n : Int) != (n : Int)) = false := by simp
  obtain ⟨L, hL⟩ : ∃ L, 8 * n = L := ⟨_, rfl⟩
  have eL : (8 : Int) * (n : Int) = (L : Int) := by omega
  have z1 : decide ((K : Int) < 0) = false := by simp
  have z2 : decide ((L : Int) < (K : Int)) = false := by simp; omega
  have z2n : decide (L < K) = false := by simp; omega
  have hn16 : n ≤ 16 := by omega
  have HL := hide hL
  have hK2 : K ≤ 128 := by omega
  clear hx hy hna hnb hn hR hP hL
  cases P <;> simp only [Bool.not_true, Bool.not_false] at p1
  case' false => have q2 := q1 rfl
  all_goals clear q1
  all_goals
    go_enter Tryz.func3, Tryz.ntmps3
    go_wp2_with fail
    refine (unhide Hanc).mono ?_
    rintro e w1 ⟨rfl, hb1⟩
    obtain ⟨W, hmk, hrow, hbw⟩ := made_vals Eb rfl w1 .i64 .i64 n (n : Int) (n : Int) rfl rfl (by omega)
    obtain ⟨B, hB⟩ : ∃ B, w1.heap.size = B := ⟨_, rfl⟩
    rw [hB] at hmk hrow
    have HM0 : Hid (MaskAt w0 W B n 0) := by
      refine ⟨?_, hb1.trans (hbw.mono hb1.size), by have := hb1.size; omega⟩
      have h1 : W.heap[B]? = some (.cells ((List.replicate n (Value.int .u8 0)) ++ []).toArray 5 (0, 0)) := hrow
      rw [h1, maskL_zero, List.append_nil, List.map_replicate]
      rfl
    clear hrow hbw hb1 Hanc
    go_wp2
    clear hmk hB p1 u1 z1 z2 z2n
    go_loopw [8, 43] (fun ss ii wr => ∃ (k : Nat) (u : Bool), k ≤ K ∧ ss = .bool u ∧ ii = .int .i64 (k : Int) ∧ Hid (u = sameTo a b k) ∧ Hid (MaskAt w0 wr B n k)) (fun _ ii _ => K - (intOf ii).toNat)
    case atStart => exact ⟨0, true, by omega, rfl, rfl, rfl, HM0⟩
    case round =>
      obtain ⟨k, u, hk, rfl, rfl, HU, HM⟩ := hrel
      clear HM0
      by_cases hlt : k < K
      · have f1 : decide ((k : Int) < (K : Int)) = true := by simp; omega
        have f1n : decide (k < K) = true := by simp; omega
        obtain ⟨q, hq⟩ : ∃ q, k / 8 = q := ⟨_, rfl⟩
        obtain ⟨r, hr⟩ : ∃ r, k % 8 = r := ⟨_, rfl⟩
        obtain ⟨t, ht⟩ : ∃ t, 7 - r = t := ⟨_, rfl⟩
        have eq : (k : Int) / 8 = (q : Int) := by omega
        have er : (k : Int) % 8 = (r : Int) := by omega
        have et : (7 : Int) - (r : Int) = (t : Int) := by omega
        have hqn : q < n := by have := unhide HL; omega
        have q0 : (0 : Int) ≤ (q : Int) := by omega
        have qn : (q : Int) < (n : Int) := by omega
        obtain ⟨m0, hm0⟩ : ∃ m, mb r = m := ⟨_, rfl⟩
        obtain ⟨m1, hm1⟩ : ∃ m, mb (r + 1) = m := ⟨_, rfl⟩
        obtain ⟨sv, hsv⟩ : ∃ m, 128 / 2 ^ r = m := ⟨_, rfl⟩
        have hsv2 : sv < 256 := by rw [← hsv]; exact Nat.lt_of_le_of_lt (Nat.div_le_self _ _) (by omega)
        have esv : (128 : Int) / 2 ^ r = (sv : Int) := by rw [← hsv]; simp
        have usv : IntKind.u8.wrap (sv : Int) = (sv : Int) := by rw [IntKind.wrap_u8']; omega
        have hm02 : m0 < 256 := by rw [← hm0]; exact mb_lt r
        have hor : bits .or .u8 (m0 : Int) (sv : Int) = (m1 : Int) := by
          rw [or_u8 m0 sv hm02 hsv2, ← hm0, ← hsv, ← hm1]
          have := mb_or ⟨r, by omega⟩
          simp only at this
          rw [this]
        have ck : wr.cell? ⟨B, q, none⟩ = some (.int .u8 (m0 : Int)) := by
          have := (unhide HM).cell hqn
          rw [show min 8 (k - 8 * q) = r by omega, hm0] at this
          exact this
        have fk : wr.frozen? ⟨B, q, none⟩ = false := (unhide HM).frozen q
        have HM1 : Hid (MaskAt w0 (wr.setCell ⟨B, q, none⟩ (.int .u8 (m1 : Int))) B n (k + 1)) := by
          have := (unhide HM).step (by have := unhide HL; omega)
          rw [hq, hr, hm1] at this
          exact this
        obtain ⟨ba, oa, rfl, hca⟩ := byte_cell (unhide HXA) (unhide HNA) (unhide HM1).b q hqn
        obtain ⟨bb, ob, rfl, hcb⟩ := byte_cell (unhide HYB) (unhide HNB) (unhide HM1).b q hqn
        obtain ⟨p, hp⟩ : ∃ p, (a.getD q 0).toNat = p := ⟨_, rfl⟩
        obtain ⟨o, ho⟩ : ∃ p, (b.getD q 0).toNat = p := ⟨_, rfl⟩
        have hp2 : p < 256 := by rw [← hp]; exact UInt8.toNat_lt _
        have ho2 : o < 256 := by rw [← ho]; exact UInt8.toNat_lt _
        rw [hp] at hca
        rw [ho] at hcb
        obtain ⟨xo, hxo⟩ : ∃ m, p ^^^ o = m := ⟨_, rfl⟩
        have exo : bits .xor .u8 (p : Int) (o : Int) = (xo : Int) := by rw [xor_u8 p o hp2 ho2, hxo]
        have hxo2 : xo < 256 := by rw [← hxo]; exact Nat.xor_lt_two_pow (n := 8) (by omega) (by omega)
        obtain ⟨z, hz⟩ : ∃ z, xo / 2 ^ t = z := ⟨_, rfl⟩
        have ez : (xo : Int) / 2 ^ t = (z : Int) := by rw [← hz]; simp
        have uz : IntKind.u8.wrap (z : Int) = (z : Int) := by
          rw [IntKind.wrap_u8']
          have : z ≤ xo := by rw [← hz]; exact Nat.div_le_self _ _
          omega
        obtain ⟨v, hv⟩ : ∃ v, z % 2 = v := ⟨_, rfl⟩
        have hand : bits .and .u8 (z : Int) 1 = (v : Int) := by rw [← hv, ← hz]; exact shr_and xo t hxo2
        obtain ⟨E, hE⟩ : ∃ E, (bitAt a k == bitAt b k) = E := ⟨_, rfl⟩
        have hvE : ((v : Int) == 0) = E := by
          have h1 := xor_bit p o t
          rw [hxo, hz, hv] at h1
          have h2 : decide (p / 2 ^ t % 2 = o / 2 ^ t % 2) = E := by
            rw [← hE, Bool.eq_iff_iff, decide_eq_true_eq, bit_eq a b k, hq, hr, ht, hp, ho]
          rw [← h2, ← h1]
          by_cases h3 : v = 0 <;> simp [h3] <;> omega
        have HS : Hid (sameTo a b (k + 1) = (u && E)) := by show _ = _; rw [sameTo_succ, ← unhide HU, hE]
        clear hp ho hxo hz hv hE hq hr ht hm0 hm1 hsv HU HM
        go_wp2
        go_region
        clear ck fk hor esv usv
        have HM2 : Hid (MaskAt w0 ((wr.setCell ⟨B, q, none⟩ (.int .u8 (m1 : Int))).drew) B n (k + 1)) := Blk.drew (unhide HM1)
        go_wp2
        cases u <;> cases E <;>
        · go_region
          have HM3 : Hid (MaskAt w0 ((wr.setCell ⟨B, q, none⟩ (.int .u8 (m1 : Int))).drew.drew) B n (k + 1)) := Blk.drew (unhide HM2)
          go_wp2
          go_roundw
          case rel =>
            first
              | exact ⟨k + 1, _, by omega, rfl, by go_num, by show _ = _; rw [unhide HS]; rfl, HM3⟩
              | ((repeat apply Exists.intro); exact ⟨⟨k + 1, _, by omega, rfl, by go_num, by show _ = _; rw [unhide HS]; rfl, HM3⟩, rfl⟩)
          case measure => simp [intOf]; omega
      · have f1 : decide ((k : Int) < (K : Int)) = false := by simp; omega
        have f1n : decide (k < K) = false := by simp; omega
        obtain rfl : k = K := by omega
        have Hjn := hide (join_any wr (.slice sb n cb) (.slice (some ⟨B, 0, none⟩) n n) b (maskL n k) ((unhide HYB).below (unhide HM).b) (unhide HM).bytes (by rw [unhide HNB, maskL_len]; omega))
        obtain ⟨lm, hlm⟩ : ∃ lm, b ++ maskL n k = lm := ⟨_, rfl⟩
        rw [hlm] at Hjn
        have Hlm := hide hlm
        obtain ⟨N2, hN2⟩ : ∃ N2, 2 * n = N2 := ⟨_, rfl⟩
        have Hla : Hid (lm.length = N2) := by show _ = _; rw [← hlm, List.length_append, unhide HNB, maskL_len]; omega
        have hN16 : N2 ≤ 32 := by omega
        clear hlm hN2
        go_wp2_with fail
        refine (unhide Hjn).mono ?_
        rintro e w6 ⟨vj, rfl, hrowj⟩
        obtain ⟨pj, qj, rfl⟩ := hrowj.own.form
        rw [unhide Hla] at hrowj ⊢
        have HB6 := hide ((unhide HM).b.trans (hrowj.b.mono (unhide HM).b.size))
        have cv6 := conv_str hrowj.bytes
        obtain ⟨SL, hSL⟩ : ∃ SL, st lm = SL := ⟨_, rfl⟩
        rw [hSL] at cv6
        have HSL : Hid (bs SL = lm) := by show _ = _; rw [← hSL, bs_st]
        have hG := Blk.new (unhide HB6) #[.int .i64 7, .string SL, .slice none 0 0] 28
        obtain ⟨G, eG⟩ : ∃ G, w6.heap.size = G := ⟨_, rfl⟩
        rw [eG] at hG
        have HG := hide hG
        have cv7 := conv_str ((unhide HXA).below hG.b)
        obtain ⟨SA, hSA⟩ : ∃ SA, st a = SA := ⟨_, rfl⟩
        rw [hSA] at cv7
        have HSA : Hid (bs SA = a) := by show _ = _; rw [← hSA, bs_st]
        have Hw8 := hide (within_addr noDn (w6.alloc (.cells #[.int .i64 7, .string SL, .slice none 0 0] 28)) _ _ ⟨7, a, []⟩ ⟨7, lm, []⟩ (by have := gen_lit (w6.alloc (.cells #[.int .i64 7, .string SL, .slice none 0 0] 28)) 7 SA; rw [unhide HSA] at this; exact this) (by have := gen_lit (w6.alloc (.cells #[.int .i64 7, .string SL, .slice none 0 0] 28)) 7 SL; rw [unhide HSL] at this; exact this) (by show a.length ≤ _; rw [unhide HNA]; omega) (by show lm.length ≤ _; rw [unhide Hla]; omega) (by simp) (by simp) rfl rfl (nets_ref1 (by rw [unhide HNA]; exact unhide Hn) noDn) (by rw [← unhide Hlm]; exact nets_ref2 (unhide HNB) (unhide Hn) noDn) u (fun wr' s s2 hb h1 h2 => by
          have h := addrw_c wr' s s2 (by rw [← bs_len, h1]; show a.length ≤ _; rw [unhide HNA]; omega) (by rw [← bs_len, h2]; show lm.length ≤ _; rw [unhide Hla]; omega)
          have e : addrW (bs s) (bs s2) = u := by
            rw [h1, h2]
            show addrW a lm = u
            rw [← unhide Hlm, nets_within (unhide HNA) (unhide HNB) (by have := unhide HL; omega), ← unhide HU]
          rw [e] at h
          exact h))
        unfold gcells at Hw8
        clear hG hrowj hSL hSA Hjn
        go_wp2_with fail
        refine (unhide Hw8).mono ?_
        rintro e w8 ⟨rfl, hb8⟩
        have HG8 := hide ((unhide HG).call hb8)
        clear eG cv6 cv7 Hw8 hb8 HG
        obtain ⟨g0, g1, g2⟩ := three_at (unhide HG8)
        have cv8 := conv_str ((unhide HXA).below (unhide HG8).b)
        obtain ⟨SA2, hSA2⟩ : ∃ SA2, st a = SA2 := ⟨_, rfl⟩
        rw [hSA2] at cv8
        obtain ⟨SX, hSX⟩ : ∃ SX, st (a ++ [120]) = SX := ⟨_, rfl⟩
        have hcat : ∀ W, (Op.stringOp .add SA2 { data := #[120] }).run Tryz.prog W = .ok (.string SX) W := fun W => by
          have := cat_str a [120] (a ++ [120]) rfl (by rw [unhide HNA]; simp; omega) W
          rw [hSA2, hSX] at this
          exact this
        have HSX : Hid (bs SX = a ++ [120]) := by show _ = _; rw [← hSX, bs_st]
        have Hw9 := hide (within_ref1 noDn w8 _ _ ⟨7, a ++ [120], []⟩ ⟨7, lm, []⟩ (by have := gen_lit w8 7 SX; rw [unhide HSX] at this; exact this) (by have := gen_lit w8 7 SL; rw [unhide HSL] at this; exact this) (by show (a ++ [120]).length ≤ _; rw [List.length_append, unhide HNA]; simp; omega) (by simp) rfl (by show (7 : Int) ≠ 4; decide) (nets_ref3 (by rw [unhide HNA]; exact unhide Hn) noDn))
        unfold gcells at Hw9
        clear hSA2 hSX
        cases u <;>
        · go_wp2_with fail
          refine (unhide Hw9).mono ?_
          rintro e w9 ⟨rfl, hb9⟩
          have HG9 := hide ((unhide HG8).call hb9)
          clear hb9 g0 g1 g2 cv8
          go_wp2
          go_ret
          exact ⟨rfl, (unhide HG9).b⟩
set_option maxRecDepth 100000 in
set_option maxHeartbeats 4000000 in
theorem nets_big (w0 : World) (hR : Rdy w0) (x y : Value) (a b : Bs) (bits : Int) (hx : BytesAt w0 x a) (hy : BytesAt w0 y b) (h4 : a.length ≠ 4) (h16 : a.length ≠ 16) :
    Calls Tryz.prog 3 #[x, y, .int .i64 bits] w0 fun e w' => e = .returned (.bool true) ∧ Below w0.heap.size w0 w' := by
  have Hanc := hide (anchor_c w0 hR)
  obtain ⟨sa, ca, rfl, _, _, _⟩ := bytes_open hx
  obtain ⟨sb, cb, rfl, _, _, _⟩ := bytes_open hy
  obtain ⟨n, hn⟩ : ∃ n, a.length = n := ⟨_, rfl⟩
  obtain ⟨m, hm⟩ : ∃ m, b.length = m := ⟨_, rfl⟩
  rw [hn] at h4 h16
  rw [hn, hm]
  have p1 : ((n : Int) != 4) = true := by simp; omega
  have q1 : ((n : Int) != 16) = true := by simp; omega
  clear hx hy hn hm hR
  go_enter Tryz.func3, Tryz.ntmps3
  go_wp2_with fail
  refine (unhide Hanc).mono ?_
  rintro e w1 ⟨rfl, hb⟩
  have HB := hide hb
  clear hb
  go_wp2
  go_ret
  exact ⟨rfl, unhide HB⟩
theorem nets_true (w0 : World) (hR : Rdy w0) (x y : Value) (a b : Bs) (bits : Int) (hx : BytesAt w0 x a) (hy : BytesAt w0 y b) :
    Calls Tryz.prog 3 #[x, y, .int .i64 bits] w0 fun e w' => e = .returned (.bool true) ∧ Below w0.heap.size w0 w' := by
  by_cases h416 : a.length ≠ 4 ∧ a.length ≠ 16
  · exact nets_big w0 hR x y a b bits hx hy h416.1 h416.2
  by_cases hg : (a.length ≠ 4 ∧ a.length ≠ 16) ∨ b.length ≠ a.length ∨ bits < 0 ∨ 8 * (a.length : Int) < bits
  · exact nets_guard w0 hR x y a b bits hx hy (by omega) hg
  · obtain ⟨K, rfl⟩ : ∃ K : Nat, bits = (K : Int) := ⟨bits.toNat, by omega⟩
    exact nets_main w0 hR x y a b K a.length hx hy rfl (by omega) (by omega) (by omega)
end N
end Go.Proofs.YtcofnockikninabGreatDoor
