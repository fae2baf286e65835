/- Parts of the walk. -/
import Derived.Test.YtcofnockikninaaGreatDoorZgKe
import Derived.Test.YtcofnockikninaaGreatDoorZgMH
import Derived.Deep.Cut
import Derived.BigQuiet
import Derived.WalkSmall
set_option maxRecDepth 100000
set_option maxHeartbeats 40000000
namespace Go.Proofs.YtcofnockikninaaGreatDoor
open Go.RowKit
namespace K
theorem below_drewNk {B : Nat} {a w : World} (h : Below B a w) : ∀ q, Below B a (w.drewN q)
 | 0 => h
 | q + 1 => (below_drewNk h q).drew
theorem tail_val {w0 : World} {sp : Option Addr} {n c : Nat} {t : Bs} (h : BytesAt w0 (.slice sp n c) t) (hn : t.length = n) (k : Nat) (kz : Int) (hkz : kz = (k : Int)) (hk : k ≤ n) :
  ∃ sp' c' m, m + k = n ∧ (∀ W, (Instr.sliceAt 22 (.slice sp n c) (some (.int .i64 kz)) none none).run Tryz.prog W = .ok (.slice sp' m c') W) ∧ BytesAt w0 (.slice sp' m c') (t.drop k) ∧ (t.drop k).length = m := by
 subst hn
 subst hkz
 exact ⟨_, _, _, by omega, fun W => slice_rest sp t.length c k hk W, bytes_rest h k hk, by rw [List.length_drop]⟩
theorem full_val {w0 : World} {sp : Option Addr} {n c : Nat} {t : Bs} (h : BytesAt w0 (.slice sp n c) t) (hn : t.length = n) :
  (∀ W, (Instr.sliceAt 22 (.slice sp n c) none (some (.int .i64 (n : Int))) (some (.int .i64 (n : Int)))).run Tryz.prog W = .ok (.slice sp n n) W) ∧ BytesAt w0 (.slice sp n n) t := by
 obtain ⟨s', c', e, h1, h2, h3⟩ := h
 simp only [Value.slice.injEq] at e
 obtain ⟨rfl, e2, rfl⟩ := e
 rw [List.length_map] at h1 e2
 refine ⟨fun W => ?_, ?_⟩
 ·rw [run_sliceAt_slice W 22 _ _ _ _ under_b, run_slice_hm W 22 sp n c under_b .i64 .i64 (n : Int) (n : Int) (by omega) (by omega) (by omega), elem_b, size5, Result.andThen_ok]
  simp only [sliced, Int.toNat_natCast, Nat.sub_zero, Nat.zero_mul]
  split
  ·rfl
  ·cases sp <;> simp [Addr.add]
 ·refine ⟨sp, n, by rw [List.length_map, e2], by rw [List.length_map]; omega, fun e => ?_, h3⟩
  have := h2 e
  omega
theorem tabs_below {g3 g4 : Nat} {a b : World} (h : Lib.Utf8Tabs g3 g4 a) (hb : Below a.heap.size a b) : Lib.Utf8Tabs g3 g4 b := by
 refine ⟨fun c hc => ?_, fun i hi => ?_⟩
 ·have h1 := h.1 c hc
  rw [hb.cell (p := ⟨g3, c, none⟩) (World.block_lt_of_cell? a _ h1)]
  exact h1
 ·obtain ⟨h1, h2⟩ := h.2 i hi
  refine ⟨?_, ?_⟩
  ·rw [hb.cell (p := ⟨g4, 2 * i, none⟩) (World.block_lt_of_cell? a _ h1)]
   exact h1
  ·rw [hb.cell (p := ⟨g4, 2 * i + 1, none⟩) (World.block_lt_of_cell? a _ h2)]
   exact h2
theorem and7 : ∀ X : Fin 256, bits .and .u8 ((X.val : Nat) : Int) 7 = ((X.val % 8 : Nat) : Int) := by decide
theorem word_told {w wq : World} {sp : Option Addr} {m c : Nat} {t : Bs} (hb : Below w.heap.size w wq) (h : BytesAt w (.slice sp m c) t) (hm : t.length = m) (h8 : 8 ≤ m) :
  ∃ A : Nat, A < 18446744073709551616 ∧ (∀ n, Calls Tryz.prog 191 #[.slice sp m c] (wq.drewN n) fun e w' => e = .returned (.int .u64 (A : Int)) ∧ ∃ q, w' = (wq.drewN n).drewN q) ∧ (A &&& 9259542123273814144 = 0 → ∀ x ∈ t.take 8, x.toNat < 128) :=
 ⟨wordN t, word_low (by omega), fun n => word_c _ _ t (h.below (below_drewNk hb n)) (by omega), word_asc (by omega)⟩
set_option maxRecDepth 1000000 in
theorem valid_c (w : World) (x : Value) (b : Bs) (hT : Lib.Utf8Tabs 0 1 w) (hx : BytesAt w x b) (hl : b.length ≤ 1000000) :
  Calls Tryz.prog 177 #[x] w fun e w' => e = .returned (.bool (validB b)) ∧ Below w.heap.size w w' := by
 obtain ⟨sp, c, rfl, _, _, _⟩ := bytes_open hx
 obtain ⟨N, hN⟩ := exq b.length
 obtain ⟨ANS, hA⟩ := exq (validB b)
 rw [hN] at hx hl ⊢
 rw [hA]
 obtain ⟨hfs, hx2⟩ := full_val hx hN
 have HX := h_ hx2
 have HN := h_ hN
 have HA := h_ hA
 have HT := h_ hT
 clear hx hx2 hN hA hT
 go_enter Tryz.func177, Tryz.ntmps177
 go_wp2
 clear hfs
 go_loopg [0] (N + 1) (fun gk s0 wx => Hid (Below w.heap.size w wx) ∧ ∃ (sp : Option Addr) (n c : Nat) (t : Bs), s0 = .slice sp n c ∧ Hid (BytesAt w (.slice sp n c) t) ∧ Hid (t.length = n) ∧ Hid (validB t = ANS) ∧ n < gk ∧ n ≤ 1000000)
 case atStart => exact ⟨Below.refl _ _, sp, N, N, b, rfl, HX, HN, HA, by omega, hl⟩
 case round =>
  clear HX HN HA hl
  obtain ⟨HB, sp, n, c, t, rfl, HX, HN, HV, hg, hn⟩ := hrel
  by_cases h0 : 0 < n
  case neg =>
   obtain rfl : n = 0 := by omega
   have HT2 : Hid (ANS = true) := by
    show _ = _
    rw [← u_ HV, List.eq_nil_of_length_eq_zero (u_ HN)]
    rfl
   go_wp2
   go_ret
   exact ⟨by rw [u_ HT2]; rfl, u_ HB⟩
  obtain ⟨g', rfl⟩ : ∃ g', gk = g' + 1 := ⟨gk - 1, by omega⟩
  have h0z : (0 : Int) < (n : Int) := by omega
  have h0b : decide ((0 : Int) < (n : Int)) = true := by simp; omega
  obtain ⟨ba, oa, p, rfl, hp, hpb, hc⟩ := byte_at (HX.below (u_ HB)) (u_ HN) 0 h0
  rw [Nat.add_zero] at hc
  have Hp := h_ hp
  clear hp
  by_cases hasc : p < 128
  ·as_aux_lemma =>
    obtain ⟨ascz, ascn⟩ := ltVL p 128 128
    obtain ⟨sp1, c1, m1, hm1, hs1, hx1, hl1⟩ := tail_val (u_ HX) (u_ HN) 1 1 rfl (by omega)
    have HX1 := h_ hx1
    have HL1 := h_ hl1
    have HV1 : Hid (validB (t.drop 1) = ANS) := by
     show _ = _
     rw [valid_skip 1 t (by have := u_ HN; omega) (fun y hy => ?_)]
     ·exact u_ HV
     ·obtain ⟨a, r, hat⟩ : ∃ a r, t = a :: r := by cases t with
       | nil => have := u_ HN; simp at this; omega
       | cons a r => exact ⟨a, r, rfl⟩
      have h1 := u_ Hp
      rw [hat] at hy h1
      simp at hy h1
      rw [hy, h1]
      exact hasc
    obtain ⟨t1, ht1⟩ := exq (t.drop 1)
    rw [ht1] at HX1 HL1 HV1
    clear hx1 hl1 ht1 Hp HX HN HV HT
    by_cases c8 : 8 < m1
    case neg =>
     obtain ⟨c8b, c8n⟩ := ltLVf 8 8 m1
     go_wp2
     go_roundg g'
     case measure => omega
     case rel => exact ⟨HB, sp1, m1, c1, t1, rfl, HX1, HL1, HV1, by omega, by omega⟩
    obtain ⟨c8b, c8n⟩ := ltLV 8 8 m1
    obtain ⟨A1, lA1, cW1, kA1⟩ := word_told (u_ HB) (u_ HX1) (u_ HL1) (by omega)
    have HW1 := h_ (cW1 0)
    have hand1 : bits .and .u64 (A1 : Int) 9259542123273814144 = ((A1 &&& 9259542123273814144 : Nat) : Int) := u64_and_nat A1 9259542123273814144 lA1 (by omega)
    obtain ⟨Z1, hZ1⟩ := exq (A1 &&& 9259542123273814144)
    rw [hZ1] at hand1 kA1
    have HK1 := h_ kA1
    clear cW1 kA1 hZ1 lA1
    by_cases hz1 : Z1 = 0
    case neg =>
     have hz1b : ((Z1 : Int) == 0) = false := by simp; omega
     go_wp2_with fail
     refine HW1.mono ?_
     rintro e W1 ⟨rfl, q1, rfl⟩
     have HB1 := h_ (below_drewNk (u_ HB) q1)
     go_wp2
     go_roundg g'
     case measure => omega
     case rel => exact ⟨HB1, sp1, m1, c1, t1, rfl, HX1, HL1, HV1, by omega, by omega⟩
    have hz1b : ((Z1 : Int) == 0) = true := by simp [hz1]
    obtain ⟨sp2, c2, m2, hm2, hs2, hx2, hl2⟩ := tail_val (u_ HX1) (u_ HL1) 8 8 rfl (by omega)
    have HX2 := h_ hx2
    have HL2 := h_ hl2
    have HV2 : Hid (validB (t1.drop 8) = ANS) := by
     show _ = _
     rw [valid_skip 8 t1 (by have := u_ HL1; omega) (u_ HK1 hz1)]
     exact u_ HV1
    obtain ⟨t2, ht2⟩ := exq (t1.drop 8)
    rw [ht2] at HX2 HL2 HV2
    clear hx2 hl2 ht2 HX1 HL1 HV1 HK1
    go_upto_region 8 with (first | (go_at_call 191; refine HW1.mono ?_; rintro e W1 ⟨rfl, q1, rfl⟩) | fail)
    have HB1 := h_ (below_drewNk (u_ HB) q1)
    have ewq : ∃ wq, (wr.drewN 0).drewN q1 = wq := ⟨_, rfl⟩
    obtain ⟨wq, hwq⟩ := ewq
    have HBq : Hid (Below w.heap.size w wq) := by rw [← hwq]; exact u_ HB1
    simp only [World.drewN_zero] at hwq
    rw [hwq]
    clear hwq HB1 HB HW1 hs1 hs2 hc
    by_cases c16 : 16 < m2
    case neg =>
     obtain ⟨c16b, c16n⟩ := ltLVf 16 16 m2
     go_big_quiet (fail)
     have HB2 := h_ (below_drewNk (u_ HBq) nq)
     go_wp2
     go_roundg g'
     case measure => omega
     case rel => exact ⟨HB2, sp2, m2, c2, t2, rfl, HX2, HL2, HV2, by omega, by omega⟩
    obtain ⟨c16b, c16n⟩ := ltLV 16 16 m2
    obtain ⟨spb, cb, mb, hmb, hsb, hxb, hlb⟩ := tail_val (u_ HX2) (u_ HL2) 8 8 rfl (by omega)
    obtain ⟨A2, lA2, cW2, kA2⟩ := word_told (u_ HBq) (u_ HX2) (u_ HL2) (by omega)
    obtain ⟨A3, lA3, cW3, kA3⟩ := word_told (u_ HBq) hxb hlb (by omega)
    have hor2 : bits .or .u64 (A2 : Int) (A3 : Int) = ((A2 ||| A3 : Nat) : Int) := u64_or_nat A2 A3 lA2 lA3
    have lor2 : A2 ||| A3 < 18446744073709551616 := Nat.or_lt_two_pow (n := 64) lA2 lA3
    have hand2 : bits .and .u64 ((A2 ||| A3 : Nat) : Int) 9259542123273814144 = (((A2 ||| A3) &&& 9259542123273814144 : Nat) : Int) := u64_and_nat _ 9259542123273814144 lor2 (by omega)
    have k2 : (A2 ||| A3) &&& 9259542123273814144 = 0 → ∀ x ∈ t2.take 16, x.toNat < 128 := fun h0' => by
     obtain ⟨e1, e2⟩ := (or_mask A2 A3 _).1 h0'
     exact asc_add (a := 8) (b := 8) (kA2 e1) (kA3 e2)
    obtain ⟨O2, hO2⟩ := exq (A2 ||| A3)
    rw [hO2] at hor2 hand2 k2
    obtain ⟨Z2, hZ2⟩ := exq (O2 &&& 9259542123273814144)
    rw [hZ2] at hand2 k2
    have HK2 := h_ k2
    clear k2 kA2 kA3 lA2 lA3 lor2 hO2 hZ2 hxb hlb
    by_cases hz2 : Z2 = 0
    case neg =>
     have hz2b : ((Z2 : Int) == 0) = false := by simp; omega
     go_big_quiet (first | (go_at_call_of 191 (Value.slice sp2 m2 c2); refine Calls.quiet_of (cW2 _)) | (go_at_call_of 191 (Value.slice spb mb cb); refine Calls.quiet_of (cW3 _)))
     have HB2 := h_ (below_drewNk (u_ HBq) nq)
     clear cW2 cW3
     go_wp2
     go_roundg g'
     case measure => omega
     case rel => exact ⟨HB2, sp2, m2, c2, t2, rfl, HX2, HL2, HV2, by omega, by omega⟩
    have hz2b : ((Z2 : Int) == 0) = true := by simp [hz2]
    obtain ⟨sp3, c3, m3, hm3, hs3, hx3, hl3⟩ := tail_val (u_ HX2) (u_ HL2) 16 16 rfl (by omega)
    have HX3 := h_ hx3
    have HL3 := h_ hl3
    have HV3 : Hid (validB (t2.drop 16) = ANS) := by
     show _ = _
     rw [valid_skip 16 t2 (by have := u_ HL2; omega) (u_ HK2 hz2)]
     exact u_ HV2
    obtain ⟨t3, ht3⟩ := exq (t2.drop 16)
    rw [ht3] at HX3 HL3 HV3
    clear hx3 hl3 ht3 HV2 HK2
    go_big_quiet (first | (go_at_call_of 191 (Value.slice sp2 m2 c2); refine Calls.quiet_of (cW2 _)) | (go_at_call_of 191 (Value.slice spb mb cb); refine Calls.quiet_of (cW3 _)))
    have HB2 := h_ (below_drewNk (u_ HBq) nq)
    obtain ⟨wq2, hwq2⟩ := exq (wq.drewN nq)
    rw [hwq2] at HB2 ⊢
    clear cW2 cW3 hwq2 HBq HX2 HL2 hsb
    go_wp2
    clear hs3
    go_loopg [0] (m3 + 1) (fun g2 s0 wx => Hid (Below w.heap.size w wx) ∧ ∃ (sp : Option Addr) (n c : Nat) (t : Bs), s0 = .slice sp n c ∧ Hid (BytesAt w (.slice sp n c) t) ∧ Hid (t.length = n) ∧ Hid (validB t = ANS) ∧ n < g2 ∧ n ≤ m3)
    case atStart => exact ⟨HB2, sp3, m3, c3, t3, rfl, HX3, HL3, HV3, by omega, by omega⟩
    case round =>
     clear HB2 HX3 HL3 HV3
     obtain ⟨HBu, spu, mu, cu, u, rfl, HXu, HLu, HVu, hgu, hut⟩ := hrel
     by_cases c32 : 32 < mu
     case neg =>
      obtain ⟨c32b, c32n⟩ := ltLVf 32 32 mu
      go_wp2_with fail
      go_big_quiet (fail)
      have HB3 := h_ (below_drewNk (u_ HBu) nq)
      go_wp2
      go_roundg g'
      case measure => omega
      case rel => exact ⟨HB3, spu, mu, cu, u, rfl, HXu, HLu, HVu, by omega, by omega⟩
     obtain ⟨c32b, c32n⟩ := ltLV 32 32 mu
     obtain ⟨g3, rfl⟩ : ∃ g3, gk = g3 + 1 := ⟨gk - 1, by omega⟩
     obtain ⟨spv, cv, mv, hmv, hsv, hxv, hlv⟩ := tail_val (u_ HXu) (u_ HLu) 8 8 rfl (by omega)
     obtain ⟨spx, cx, mx, hmx, hsx, hxx, hlx⟩ := tail_val (u_ HXu) (u_ HLu) 16 16 rfl (by omega)
     obtain ⟨spy, cy, my, hmy, hsy, hxy, hly⟩ := tail_val (u_ HXu) (u_ HLu) 24 24 rfl (by omega)
     obtain ⟨B0, lB0, cB0, kB0⟩ := word_told (u_ HBu) (u_ HXu) (u_ HLu) (by omega)
     obtain ⟨B1, lB1, cB1, kB1⟩ := word_told (u_ HBu) hxv hlv (by omega)
     obtain ⟨B2, lB2, cB2, kB2⟩ := word_told (u_ HBu) hxx hlx (by omega)
     obtain ⟨B3, lB3, cB3, kB3⟩ := word_told (u_ HBu) hxy hly (by omega)
     have ho1 : bits .or .u64 (B0 : Int) (B1 : Int) = ((B0 ||| B1 : Nat) : Int) := u64_or_nat B0 B1 lB0 lB1
     have ho2 : bits .or .u64 (B2 : Int) (B3 : Int) = ((B2 ||| B3 : Nat) : Int) := u64_or_nat B2 B3 lB2 lB3
     have lo1 : B0 ||| B1 < 18446744073709551616 := Nat.or_lt_two_pow (n := 64) lB0 lB1
     have lo2 : B2 ||| B3 < 18446744073709551616 := Nat.or_lt_two_pow (n := 64) lB2 lB3
     have ho3 : bits .or .u64 ((B0 ||| B1 : Nat) : Int) ((B2 ||| B3 : Nat) : Int) = (((B0 ||| B1) ||| (B2 ||| B3) : Nat) : Int) := u64_or_nat _ _ lo1 lo2
     have lo3 : (B0 ||| B1) ||| (B2 ||| B3) < 18446744073709551616 := Nat.or_lt_two_pow (n := 64) lo1 lo2
     have hand3 : bits .and .u64 (((B0 ||| B1) ||| (B2 ||| B3) : Nat) : Int) 9259542123273814144 = ((((B0 ||| B1) ||| (B2 ||| B3)) &&& 9259542123273814144 : Nat) : Int) := u64_and_nat _ 9259542123273814144 lo3 (by omega)
     have k3 : ((B0 ||| B1) ||| (B2 ||| B3)) &&& 9259542123273814144 = 0 → ∀ x ∈ u.take 32, x.toNat < 128 := fun h0' => by
      obtain ⟨e01, e23⟩ := (or_mask _ _ _).1 h0'
      obtain ⟨e0, e1⟩ := (or_mask _ _ _).1 e01
      obtain ⟨e2, e3⟩ := (or_mask _ _ _).1 e23
      have s16 := asc_add (a := 8) (b := 8) (kB0 e0) (kB1 e1)
      have s24 := asc_add (a := 16) (b := 8) s16 (kB2 e2)
      exact asc_add (a := 24) (b := 8) s24 (kB3 e3)
     obtain ⟨P1, hP1⟩ := exq (B0 ||| B1)
     obtain ⟨P2, hP2⟩ := exq (B2 ||| B3)
     rw [hP1, hP2] at ho3 hand3 k3
     rw [hP1] at ho1
     rw [hP2] at ho2
     obtain ⟨P3, hP3⟩ := exq (P1 ||| P2)
     rw [hP3] at ho3 hand3 k3
     obtain ⟨Z3, hZ3⟩ := exq (P3 &&& 9259542123273814144)
     rw [hZ3] at hand3 k3
     have HK3 := h_ k3
     clear kB0 kB1 kB2 kB3 lo1 lo2 lo3 hP1 hP2 hP3 hZ3 k3 lB0 lB1 lB2 lB3 hxv hxx hxy hlv hlx hly
     by_cases hz3 : Z3 = 0
     ·have hz3b : ((Z3 : Int) == 0) = true := by simp [hz3]
      obtain ⟨spz, cz, mz, hmz, hsz, hxz, hlz⟩ := tail_val (u_ HXu) (u_ HLu) 32 32 rfl (by omega)
      have HVz : Hid (validB (u.drop 32) = ANS) := by
       show _ = _
       rw [valid_skip 32 u (by have := u_ HLu; omega) (u_ HK3 hz3)]
       exact u_ HVu
      have HXz := h_ hxz
      have HLz := h_ hlz
      clear hxz hlz HK3 HVu HXu HLu
      go_wp2_with fail
      go_big_quiet (first | (go_at_call_of 191 (Value.slice spu mu cu); refine Calls.quiet_of (cB0 _)) | (go_at_call_of 191 (Value.slice spv mv cv); refine Calls.quiet_of (cB1 _)) | (go_at_call_of 191 (Value.slice spx mx cx); refine Calls.quiet_of (cB2 _)) | (go_at_call_of 191 (Value.slice spy my cy); refine Calls.quiet_of (cB3 _)))
      have HB3 := h_ (below_drewNk (u_ HBu) nq)
      clear cB0 cB1 cB2 cB3
      go_wp2
      go_roundg g3
      case measure => omega
      case rel => exact ⟨HB3, spz, mz, cz, _, rfl, HXz, HLz, HVz, by omega, by omega⟩
     ·have hz3b : ((Z3 : Int) == 0) = false := by simp; omega
      go_wp2_with fail
      go_big_quiet (first | (go_at_call_of 191 (Value.slice spu mu cu); refine Calls.quiet_of (cB0 _)) | (go_at_call_of 191 (Value.slice spv mv cv); refine Calls.quiet_of (cB1 _)) | (go_at_call_of 191 (Value.slice spx mx cx); refine Calls.quiet_of (cB2 _)) | (go_at_call_of 191 (Value.slice spy my cy); refine Calls.quiet_of (cB3 _)))
      have HB3 := h_ (below_drewNk (u_ HBu) nq)
      clear cB0 cB1 cB2 cB3
      go_wp2
      go_roundg g'
      case measure => omega
      case rel => exact ⟨HB3, spu, mu, cu, u, rfl, HXu, HLu, HVu, by omega, by omega⟩
  ·obtain ⟨ascz, ascn⟩ := ltVLf p 128 128
   obtain ⟨a, r, hat, hap⟩ : ∃ a r, t = a :: r ∧ a.toNat = p := by
    cases t with
    | nil => have := u_ HN; simp at this; omega
    | cons a r => exact ⟨a, r, rfl, u_ Hp⟩
   have HAT := h_ hat
   have hTr := tabs_below (u_ HT) (u_ HB)
   have hc0 := hTr.1 p hpb
   obtain ⟨hld, hacc, hX16, hX256⟩ := first_lead ⟨p, hpb⟩ (by show 128 ≤ p; omega)
   simp only at hld hacc hX16 hX256
   have ha0 : wr.cell? ⟨1, Lib.firstT p / 16 * 2, none⟩ = some (.int .u8 (Lib.accLo (Lib.firstT p / 16) : Int)) := by rw [Nat.mul_comm]; exact (hTr.2 _ hX16).1
   have ha1 : wr.cell? ⟨1, Lib.firstT p / 16 * 2 + 1, none⟩ = some (.int .u8 (Lib.accHi (Lib.firstT p / 16) : Int)) := by rw [Nat.mul_comm]; exact (hTr.2 _ hX16).2
   have h7 := and7 ⟨Lib.firstT p, hX256⟩
   simp only at h7
   have HST : Hid (validB t = if runeP t = 0 then false else validB (t.drop (runeP t))) := valid_step t (by rw [hat]; simp)
   obtain ⟨X, hX⟩ := exq (Lib.firstT p)
   rw [hX] at hc0 ha0 ha1 h7 hld hacc hX16 hX256
   obtain ⟨LO, hLO⟩ := exq (Lib.accLo (X / 16))
   obtain ⟨HI, hHI⟩ := exq (Lib.accHi (X / 16))
   rw [hLO] at ha0 hacc
   rw [hHI] at ha1 hacc
   have hLOb : LO < 256 := by rw [← hLO]; unfold Lib.accLo; (repeat' split) <;> omega
   have hHIb : HI < 256 := by rw [← hHI]; unfold Lib.accHi; (repeat' split) <;> omega
   obtain ⟨SZ, hSZ⟩ := exq (X % 8)
   rw [hSZ] at hld h7
   have HACC := h_ hacc
   obtain ⟨I, hI⟩ := exq (X / 16)
   rw [hI] at ha0 ha1 hX16
   have eI : (X : Int) / 16 = (I : Int) := by omega
   have hIz : (I : Int) < 16 := by omega
   have hI0 : (0 : Int) ≤ (I : Int) := by omega
   have hp0 : (0 : Int) ≤ (p : Int) := by omega
   have hp256 : (p : Int) < 256 := by omega
   clear hTr hX hLO hHI hat HT hacc
   by_cases s2 : SZ = 2
   ·subst s2
    have uS : IntKind.i64.wrap (2 : Int) = 2 := rfl
    obtain ⟨eLO, eHI⟩ := u_ HACC (by omega)
    have HR : Hid (runeP t = if 1 ≤ r.length ∧ LO ≤ (r.getD 0 0).toNat ∧ (r.getD 0 0).toNat ≤ HI then 2 else 0) := by
     show _ = _
     have h1 := rune_two (c := a) (r := r) (by rw [hap]; exact hld.symm)
     rw [u_ HAT, h1]
     have e1 : LO = 128 := by rw [eLO]; unfold leadLo; unfold leadN at hld; (repeat' split at hld) <;> (repeat' split) <;> omega
     have e2 : HI = 191 := by rw [eHI]; unfold leadHi; unfold leadN at hld; (repeat' split at hld) <;> (repeat' split) <;> omega
     rw [e1, e2]
    have Hrl : Hid (r.length + 1 = n) := by show _ = _; have := u_ HN; rw [u_ HAT] at this; simpa using this
    clear eLO eHI hld HACC hap
    by_cases q0 : n < 2
    ·as_aux_lemma =>
      obtain ⟨q0z, q0n⟩ := ltVL n 2 2
      have HF : Hid (ANS = false) := by
       show _ = _
       have h0 : runeP t = 0 := by rw [u_ HR, if_neg (by have := u_ Hrl; omega)]
       rw [← u_ HV, u_ HST, if_pos h0]
      clear HR HST HV
      go_upto_region 18 with fail
      go_big_quiet (fail)
      have HB2 := h_ (below_drewNk (HB.alloc HB.size (.cells #[.int .u8 (LO : Int), .int .u8 (HI : Int)] 145)) nq)
      go_wp2
      go_ret
      exact ⟨by rw [u_ HF]; rfl, u_ HB2⟩
    obtain ⟨q0z, q0n⟩ := ltVLf n 2 2
    obtain ⟨ba1, oa1, x1, ee, hx1, hxb1, hc1⟩ := byte_at (HX.below (u_ HB)) (u_ HN) 1 (by omega)
    simp only [Option.some.injEq, Addr.mk.injEq, and_true] at ee
    obtain ⟨rfl, rfl⟩ := ee
    have Hx1 : Hid ((r.getD 0 0).toNat = x1) := by show _ = _; rw [← hx1, u_ HAT]; rfl
    clear hx1
    have nz1 : (1 : Int) < (n : Int) := by omega
    have hc1a : (wr.alloc (.cells #[.int .u8 (LO : Int), .int .u8 (HI : Int)] 145)).cell? ⟨ba, oa + 1, none⟩ = some (.int .u8 (x1 : Int)) := by rw [((Below.refl wr.heap.size wr).alloc (Nat.le_refl _) _).cell (p := ⟨ba, oa + 1, none⟩) (World.block_lt_of_cell? wr _ hc1)]; exact hc1
    rw [u_ Hx1] at HR
    by_cases r0 : x1 < LO
    ·as_aux_lemma =>
      obtain ⟨r0z, r0n⟩ := ltVV x1 LO
      have HF : Hid (ANS = false) := by
       show _ = _
       have h0 : runeP t = 0 := by rw [u_ HR, if_neg (by omega)]
       rw [← u_ HV, u_ HST, if_pos h0]
      clear HR HST HV
      go_upto_region 18 with fail
      go_big_quiet (fail)
      have HB2 := h_ (below_drewNk (HB.alloc HB.size (.cells #[.int .u8 (LO : Int), .int .u8 (HI : Int)] 145)) nq)
      go_wp2
      go_ret
      exact ⟨by rw [u_ HF]; rfl, u_ HB2⟩
    obtain ⟨r0z, r0n⟩ := ltVVf x1 LO
    by_cases r1 : HI < x1
    ·as_aux_lemma =>
      obtain ⟨r1z, r1n⟩ := ltVV HI x1
      have HF : Hid (ANS = false) := by
       show _ = _
       have h0 : runeP t = 0 := by rw [u_ HR, if_neg (by omega)]
       rw [← u_ HV, u_ HST, if_pos h0]
      clear HR HST HV
      go_upto_region 18 with fail
      go_big_quiet (fail)
      have HB2 := h_ (below_drewNk (HB.alloc HB.size (.cells #[.int .u8 (LO : Int), .int .u8 (HI : Int)] 145)) nq)
      go_wp2
      go_ret
      exact ⟨by rw [u_ HF]; rfl, u_ HB2⟩
    obtain ⟨r1z, r1n⟩ := ltVVf HI x1
    as_aux_lemma =>
     obtain ⟨sp2, c2, m2, hm2, hs2, hx2, hl2⟩ := tail_val (u_ HX) (u_ HN) 2 2 rfl (by omega)
     have HV2 : Hid (validB (t.drop 2) = ANS) := by
      show _ = _
      have h1 := u_ HST
      have h0 : runeP t = 2 := by rw [u_ HR, if_pos (by have := u_ Hrl; omega)]
      rw [h0, if_neg (by omega), u_ HV] at h1
      exact h1.symm
     have HX2 := h_ hx2
     have HL2 := h_ hl2
     clear hx2 hl2 HV HX HN HR HST
     go_upto_region 18 with fail
     go_big_quiet (fail)
     have HB2 := h_ (below_drewNk (HB.alloc HB.size (.cells #[.int .u8 (LO : Int), .int .u8 (HI : Int)] 145)) nq)
     go_wp2
     go_roundg g'
     case measure => omega
     case rel => exact ⟨HB2, sp2, m2, c2, _, rfl, HX2, HL2, HV2, by omega, by omega⟩
   by_cases s3 : SZ = 3
   ·subst s3
    have uS : IntKind.i64.wrap (3 : Int) = 3 := rfl
    obtain ⟨eLO, eHI⟩ := u_ HACC (by omega)
    have HR : Hid (runeP t = if 2 ≤ r.length ∧ LO ≤ (r.getD 0 0).toNat ∧ (r.getD 0 0).toNat ≤ HI ∧ 128 ≤ (r.getD 1 0).toNat ∧ (r.getD 1 0).toNat ≤ 191 then 3 else 0) := by
     show _ = _
     have h1 := rune_three (c := a) (r := r) (by rw [hap]; exact hld.symm)
     rw [u_ HAT, h1, hap, ← eLO, ← eHI]
    have Hrl : Hid (r.length + 1 = n) := by show _ = _; have := u_ HN; rw [u_ HAT] at this; simpa using this
    clear eLO eHI hld HACC hap
    by_cases q0 : n < 3
    ·as_aux_lemma =>
      obtain ⟨q0z, q0n⟩ := ltVL n 3 3
      have HF : Hid (ANS = false) := by
       show _ = _
       have h0 : runeP t = 0 := by rw [u_ HR, if_neg (by have := u_ Hrl; omega)]
       rw [← u_ HV, u_ HST, if_pos h0]
      clear HR HST HV
      go_upto_region 22 with fail
      go_big_quiet (fail)
      have HB2 := h_ (below_drewNk (HB.alloc HB.size (.cells #[.int .u8 (LO : Int), .int .u8 (HI : Int)] 145)) nq)
      go_wp2
      go_ret
      exact ⟨by rw [u_ HF]; rfl, u_ HB2⟩
    obtain ⟨q0z, q0n⟩ := ltVLf n 3 3
    obtain ⟨ba1, oa1, x1, ee, hx1, hxb1, hc1⟩ := byte_at (HX.below (u_ HB)) (u_ HN) 1 (by omega)
    simp only [Option.some.injEq, Addr.mk.injEq, and_true] at ee
    obtain ⟨rfl, rfl⟩ := ee
    have Hx1 : Hid ((r.getD 0 0).toNat = x1) := by show _ = _; rw [← hx1, u_ HAT]; rfl
    clear hx1
    have nz1 : (1 : Int) < (n : Int) := by omega
    have hc1a : (wr.alloc (.cells #[.int .u8 (LO : Int), .int .u8 (HI : Int)] 145)).cell? ⟨ba, oa + 1, none⟩ = some (.int .u8 (x1 : Int)) := by rw [((Below.refl wr.heap.size wr).alloc (Nat.le_refl _) _).cell (p := ⟨ba, oa + 1, none⟩) (World.block_lt_of_cell? wr _ hc1)]; exact hc1
    obtain ⟨ba2, oa2, x2, ee, hx2, hxb2, hc2⟩ := byte_at (HX.below (u_ HB)) (u_ HN) 2 (by omega)
    simp only [Option.some.injEq, Addr.mk.injEq, and_true] at ee
    obtain ⟨rfl, rfl⟩ := ee
    have Hx2 : Hid ((r.getD 1 0).toNat = x2) := by show _ = _; rw [← hx2, u_ HAT]; rfl
    clear hx2
    have nz2 : (2 : Int) < (n : Int) := by omega
    have hc2a : (wr.alloc (.cells #[.int .u8 (LO : Int), .int .u8 (HI : Int)] 145)).cell? ⟨ba, oa + 2, none⟩ = some (.int .u8 (x2 : Int)) := by rw [((Below.refl wr.heap.size wr).alloc (Nat.le_refl _) _).cell (p := ⟨ba, oa + 2, none⟩) (World.block_lt_of_cell? wr _ hc2)]; exact hc2
    rw [u_ Hx1, u_ Hx2] at HR
    by_cases r0 : x1 < LO
    ·as_aux_lemma =>
      obtain ⟨r0z, r0n⟩ := ltVV x1 LO
      have HF : Hid (ANS = false) := by
       show _ = _
       have h0 : runeP t = 0 := by rw [u_ HR, if_neg (by omega)]
       rw [← u_ HV, u_ HST, if_pos h0]
      clear HR HST HV
      go_upto_region 22 with fail
      go_big_quiet (fail)
      have HB2 := h_ (below_drewNk (HB.alloc HB.size (.cells #[.int .u8 (LO : Int), .int .u8 (HI : Int)] 145)) nq)
      go_wp2
      go_ret
      exact ⟨by rw [u_ HF]; rfl, u_ HB2⟩
    obtain ⟨r0z, r0n⟩ := ltVVf x1 LO
    by_cases r1 : HI < x1
    ·as_aux_lemma =>
      obtain ⟨r1z, r1n⟩ := ltVV HI x1
      have HF : Hid (ANS = false) := by
       show _ = _
       have h0 : runeP t = 0 := by rw [u_ HR, if_neg (by omega)]
       rw [← u_ HV, u_ HST, if_pos h0]
      clear HR HST HV
      go_upto_region 22 with fail
      go_big_quiet (fail)
      have HB2 := h_ (below_drewNk (HB.alloc HB.size (.cells #[.int .u8 (LO : Int), .int .u8 (HI : Int)] 145)) nq)
      go_wp2
      go_ret
      exact ⟨by rw [u_ HF]; rfl, u_ HB2⟩
    obtain ⟨r1z, r1n⟩ := ltVVf HI x1
    by_cases r2 : x2 < 128
    ·as_aux_lemma =>
      obtain ⟨r2z, r2n⟩ := ltVL x2 128 128
      have HF : Hid (ANS = false) := by
       show _ = _
       have h0 : runeP t = 0 := by rw [u_ HR, if_neg (by omega)]
       rw [← u_ HV, u_ HST, if_pos h0]
      clear HR HST HV
      go_upto_region 22 with fail
      go_big_quiet (fail)
      have HB2 := h_ (below_drewNk (HB.alloc HB.size (.cells #[.int .u8 (LO : Int), .int .u8 (HI : Int)] 145)) nq)
      go_wp2
      go_ret
      exact ⟨by rw [u_ HF]; rfl, u_ HB2⟩
    obtain ⟨r2z, r2n⟩ := ltVLf x2 128 128
    by_cases r3 : 191 < x2
    ·as_aux_lemma =>
      obtain ⟨r3z, r3n⟩ := ltLV 191 191 x2
      have HF : Hid (ANS = false) := by
       show _ = _
       have h0 : runeP t = 0 := by rw [u_ HR, if_neg (by omega)]
       rw [← u_ HV, u_ HST, if_pos h0]
      clear HR HST HV
      go_upto_region 22 with fail
      go_big_quiet (fail)
      have HB2 := h_ (below_drewNk (HB.alloc HB.size (.cells #[.int .u8 (LO : Int), .int .u8 (HI : Int)] 145)) nq)
      go_wp2
      go_ret
      exact ⟨by rw [u_ HF]; rfl, u_ HB2⟩
    obtain ⟨r3z, r3n⟩ := ltLVf 191 191 x2
    as_aux_lemma =>
     obtain ⟨sp2, c2, m2, hm2, hs2, hx2, hl2⟩ := tail_val (u_ HX) (u_ HN) 3 3 rfl (by omega)
     have HV2 : Hid (validB (t.drop 3) = ANS) := by
      show _ = _
      have h1 := u_ HST
      have h0 : runeP t = 3 := by rw [u_ HR, if_pos (by have := u_ Hrl; omega)]
      rw [h0, if_neg (by omega), u_ HV] at h1
      exact h1.symm
     have HX2 := h_ hx2
     have HL2 := h_ hl2
     clear hx2 hl2 HV HX HN HR HST
     go_upto_region 22 with fail
     go_big_quiet (fail)
     have HB2 := h_ (below_drewNk (HB.alloc HB.size (.cells #[.int .u8 (LO : Int), .int .u8 (HI : Int)] 145)) nq)
     go_wp2
     go_roundg g'
     case measure => omega
     case rel => exact ⟨HB2, sp2, m2, c2, _, rfl, HX2, HL2, HV2, by omega, by omega⟩
   by_cases s4 : SZ = 4
   ·subst s4
    have uS : IntKind.i64.wrap (4 : Int) = 4 := rfl
    obtain ⟨eLO, eHI⟩ := u_ HACC (by omega)
    have HR : Hid (runeP t = if 3 ≤ r.length ∧ LO ≤ (r.getD 0 0).toNat ∧ (r.getD 0 0).toNat ≤ HI ∧ 128 ≤ (r.getD 1 0).toNat ∧ (r.getD 1 0).toNat ≤ 191 ∧ 128 ≤ (r.getD 2 0).toNat ∧ (r.getD 2 0).toNat ≤ 191 then 4 else 0) := by
     show _ = _
     have h1 := rune_four (c := a) (r := r) (by rw [hap]; exact hld.symm)
     rw [u_ HAT, h1, hap, ← eLO, ← eHI]
    have Hrl : Hid (r.length + 1 = n) := by show _ = _; have := u_ HN; rw [u_ HAT] at this; simpa using this
    clear eLO eHI hld HACC hap
    by_cases q0 : n < 4
    ·as_aux_lemma =>
      obtain ⟨q0z, q0n⟩ := ltVL n 4 4
      have HF : Hid (ANS = false) := by
       show _ = _
       have h0 : runeP t = 0 := by rw [u_ HR, if_neg (by have := u_ Hrl; omega)]
       rw [← u_ HV, u_ HST, if_pos h0]
      clear HR HST HV
      go_upto_region 26 with fail
      go_big_quiet (fail)
      have HB2 := h_ (below_drewNk (HB.alloc HB.size (.cells #[.int .u8 (LO : Int), .int .u8 (HI : Int)] 145)) nq)
      go_wp2
      go_ret
      exact ⟨by rw [u_ HF]; rfl, u_ HB2⟩
    obtain ⟨q0z, q0n⟩ := ltVLf n 4 4
    obtain ⟨ba1, oa1, x1, ee, hx1, hxb1, hc1⟩ := byte_at (HX.below (u_ HB)) (u_ HN) 1 (by omega)
    simp only [Option.some.injEq, Addr.mk.injEq, and_true] at ee
    obtain ⟨rfl, rfl⟩ := ee
    have Hx1 : Hid ((r.getD 0 0).toNat = x1) := by show _ = _; rw [← hx1, u_ HAT]; rfl
    clear hx1
    have nz1 : (1 : Int) < (n : Int) := by omega
    have hc1a : (wr.alloc (.cells #[.int .u8 (LO : Int), .int .u8 (HI : Int)] 145)).cell? ⟨ba, oa + 1, none⟩ = some (.int .u8 (x1 : Int)) := by rw [((Below.refl wr.heap.size wr).alloc (Nat.le_refl _) _).cell (p := ⟨ba, oa + 1, none⟩) (World.block_lt_of_cell? wr _ hc1)]; exact hc1
    obtain ⟨ba2, oa2, x2, ee, hx2, hxb2, hc2⟩ := byte_at (HX.below (u_ HB)) (u_ HN) 2 (by omega)
    simp only [Option.some.injEq, Addr.mk.injEq, and_true] at ee
    obtain ⟨rfl, rfl⟩ := ee
    have Hx2 : Hid ((r.getD 1 0).toNat = x2) := by show _ = _; rw [← hx2, u_ HAT]; rfl
    clear hx2
    have nz2 : (2 : Int) < (n : Int) := by omega
    have hc2a : (wr.alloc (.cells #[.int .u8 (LO : Int), .int .u8 (HI : Int)] 145)).cell? ⟨ba, oa + 2, none⟩ = some (.int .u8 (x2 : Int)) := by rw [((Below.refl wr.heap.size wr).alloc (Nat.le_refl _) _).cell (p := ⟨ba, oa + 2, none⟩) (World.block_lt_of_cell? wr _ hc2)]; exact hc2
    obtain ⟨ba3, oa3, x3, ee, hx3, hxb3, hc3⟩ := byte_at (HX.below (u_ HB)) (u_ HN) 3 (by omega)
    simp only [Option.some.injEq, Addr.mk.injEq, and_true] at ee
    obtain ⟨rfl, rfl⟩ := ee
    have Hx3 : Hid ((r.getD 2 0).toNat = x3) := by show _ = _; rw [← hx3, u_ HAT]; rfl
    clear hx3
    have nz3 : (3 : Int) < (n : Int) := by omega
    have hc3a : (wr.alloc (.cells #[.int .u8 (LO : Int), .int .u8 (HI : Int)] 145)).cell? ⟨ba, oa + 3, none⟩ = some (.int .u8 (x3 : Int)) := by rw [((Below.refl wr.heap.size wr).alloc (Nat.le_refl _) _).cell (p := ⟨ba, oa + 3, none⟩) (World.block_lt_of_cell? wr _ hc3)]; exact hc3
    rw [u_ Hx1, u_ Hx2, u_ Hx3] at HR
    by_cases r0 : x1 < LO
    ·as_aux_lemma =>
      obtain ⟨r0z, r0n⟩ := ltVV x1 LO
      have HF : Hid (ANS = false) := by
       show _ = _
       have h0 : runeP t = 0 := by rw [u_ HR, if_neg (by omega)]
       rw [← u_ HV, u_ HST, if_pos h0]
      clear HR HST HV
      go_upto_region 26 with fail
      go_big_quiet (fail)
      have HB2 := h_ (below_drewNk (HB.alloc HB.size (.cells #[.int .u8 (LO : Int), .int .u8 (HI : Int)] 145)) nq)
      go_wp2
      go_ret
      exact ⟨by rw [u_ HF]; rfl, u_ HB2⟩
    obtain ⟨r0z, r0n⟩ := ltVVf x1 LO
    by_cases r1 : HI < x1
    ·as_aux_lemma =>
      obtain ⟨r1z, r1n⟩ := ltVV HI x1
      have HF : Hid (ANS = false) := by
       show _ = _
       have h0 : runeP t = 0 := by rw [u_ HR, if_neg (by omega)]
       rw [← u_ HV, u_ HST, if_pos h0]
      clear HR HST HV
      go_upto_region 26 with fail
      go_big_quiet (fail)
      have HB2 := h_ (below_drewNk (HB.alloc HB.size (.cells #[.int .u8 (LO : Int), .int .u8 (HI : Int)] 145)) nq)
      go_wp2
      go_ret
      exact ⟨by rw [u_ HF]; rfl, u_ HB2⟩
    obtain ⟨r1z, r1n⟩ := ltVVf HI x1
    by_cases r2 : x2 < 128
    ·as_aux_lemma =>
      obtain ⟨r2z, r2n⟩ := ltVL x2 128 128
      have HF : Hid (ANS = false) := by
       show _ = _
       have h0 : runeP t = 0 := by rw [u_ HR, if_neg (by omega)]
       rw [← u_ HV, u_ HST, if_pos h0]
      clear HR HST HV
      go_upto_region 26 with fail
      go_big_quiet (fail)
      have HB2 := h_ (below_drewNk (HB.alloc HB.size (.cells #[.int .u8 (LO : Int), .int .u8 (HI : Int)] 145)) nq)
      go_wp2
      go_ret
      exact ⟨by rw [u_ HF]; rfl, u_ HB2⟩
    obtain ⟨r2z, r2n⟩ := ltVLf x2 128 128
    by_cases r3 : 191 < x2
    ·as_aux_lemma =>
      obtain ⟨r3z, r3n⟩ := ltLV 191 191 x2
      have HF : Hid (ANS = false) := by
       show _ = _
       have h0 : runeP t = 0 := by rw [u_ HR, if_neg (by omega)]
       rw [← u_ HV, u_ HST, if_pos h0]
      clear HR HST HV
      go_upto_region 26 with fail
      go_big_quiet (fail)
      have HB2 := h_ (below_drewNk (HB.alloc HB.size (.cells #[.int .u8 (LO : Int), .int .u8 (HI : Int)] 145)) nq)
      go_wp2
      go_ret
      exact ⟨by rw [u_ HF]; rfl, u_ HB2⟩
    obtain ⟨r3z, r3n⟩ := ltLVf 191 191 x2
    by_cases r4 : x3 < 128
    ·as_aux_lemma =>
      obtain ⟨r4z, r4n⟩ := ltVL x3 128 128
      have HF : Hid (ANS = false) := by
       show _ = _
       have h0 : runeP t = 0 := by rw [u_ HR, if_neg (by omega)]
       rw [← u_ HV, u_ HST, if_pos h0]
      clear HR HST HV
      go_upto_region 26 with fail
      go_big_quiet (fail)
      have HB2 := h_ (below_drewNk (HB.alloc HB.size (.cells #[.int .u8 (LO : Int), .int .u8 (HI : Int)] 145)) nq)
      go_wp2
      go_ret
      exact ⟨by rw [u_ HF]; rfl, u_ HB2⟩
    obtain ⟨r4z, r4n⟩ := ltVLf x3 128 128
    by_cases r5 : 191 < x3
    ·as_aux_lemma =>
      obtain ⟨r5z, r5n⟩ := ltLV 191 191 x3
      have HF : Hid (ANS = false) := by
       show _ = _
       have h0 : runeP t = 0 := by rw [u_ HR, if_neg (by omega)]
       rw [← u_ HV, u_ HST, if_pos h0]
      clear HR HST HV
      go_upto_region 26 with fail
      go_big_quiet (fail)
      have HB2 := h_ (below_drewNk (HB.alloc HB.size (.cells #[.int .u8 (LO : Int), .int .u8 (HI : Int)] 145)) nq)
      go_wp2
      go_ret
      exact ⟨by rw [u_ HF]; rfl, u_ HB2⟩
    obtain ⟨r5z, r5n⟩ := ltLVf 191 191 x3
    as_aux_lemma =>
     obtain ⟨sp2, c2, m2, hm2, hs2, hx2, hl2⟩ := tail_val (u_ HX) (u_ HN) 4 4 rfl (by omega)
     have HV2 : Hid (validB (t.drop 4) = ANS) := by
      show _ = _
      have h1 := u_ HST
      have h0 : runeP t = 4 := by rw [u_ HR, if_pos (by have := u_ Hrl; omega)]
      rw [h0, if_neg (by omega), u_ HV] at h1
      exact h1.symm
     have HX2 := h_ hx2
     have HL2 := h_ hl2
     clear hx2 hl2 HV HX HN HR HST
     go_upto_region 26 with fail
     go_big_quiet (fail)
     have HB2 := h_ (below_drewNk (HB.alloc HB.size (.cells #[.int .u8 (LO : Int), .int .u8 (HI : Int)] 145)) nq)
     go_wp2
     go_roundg g'
     case measure => omega
     case rel => exact ⟨HB2, sp2, m2, c2, _, rfl, HX2, HL2, HV2, by omega, by omega⟩
   have HF : Hid (ANS = false) := by
    show _ = _
    rw [← u_ HV, u_ HST, u_ HAT, rune_bad (by omega) (by rw [hap, ← hld]; unfold leadN at hld; (repeat' split at hld) <;> omega), if_pos rfl]
   have z2 : ((SZ : Int) == 2) = false := by simp; omega
   have z3 : ((SZ : Int) == 3) = false := by simp; omega
   have z4 : ((SZ : Int) == 4) = false := by simp; omega
   have uS : IntKind.i64.wrap (SZ : Int) = (SZ : Int) := IntWalk.i64_in _ (by omega)
   have HB2 := h_ (HB.alloc HB.size (.cells #[.int .u8 (LO : Int), .int .u8 (HI : Int)] 145))
   clear hld HACC HST HAT hap
   go_wp2
   go_ret
   exact ⟨by rw [u_ HF]; rfl, u_ HB2⟩
end K
end Go.Proofs.YtcofnockikninaaGreatDoor
