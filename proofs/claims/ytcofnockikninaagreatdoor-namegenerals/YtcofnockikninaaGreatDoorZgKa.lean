/- Parts of the walk. -/
import Derived.Test.YtcofnockikninaaGreatDoorZgNum9
set_option maxRecDepth 100000
set_option maxHeartbeats 8000000
namespace Go.Proofs.YtcofnockikninaaGreatDoor
def dig (d : Nat) : UInt8 := UInt8.ofNat (48 + d)
theorem dig_toNat {d : Nat} (h : d ≤ 9) : (dig d).toNat = 48 + d := by unfold dig; rw [UInt8.toNat_ofNat']; omega
def piece (sh : Bool) (i n : Nat) : Bs := (if i = 0 ∧ sh = false then [dig (n / 1000), dig (n / 100 % 10)] else []) ++ [dig (n / 10 % 10), dig (n % 10)]
def tb (sh : Bool) (f : Nat → Nat) : Nat → Bs
 | 0 => []
 | i + 1 => tb sh f i ++ piece sh i (f i)
open Go.RowKit
namespace K
theorem anyb_c (R : World → Prop) : BFn R 153 (fun _ => true) := fun w x b _ _ _ => by
 have Hb := h_ (Below.refl w.heap.size w)
 go_enter Tryz.func153, Tryz.ntmps153
 go_wp2
 go_ret
 exact ⟨rfl, u_ Hb⟩
theorem anyk_c (w : World) (x : Value) : Calls Tryz.prog 154 #[x] w fun e w' => e = .returned (.bool true) ∧ Below w.heap.size w w' := by
 have Hb := h_ (Below.refl w.heap.size w)
 go_enter Tryz.func154, Tryz.ntmps154
 go_wp2
 go_ret
 exact ⟨rfl, u_ Hb⟩
theorem isnull_c (R : World → Prop) : BFn R 175 (rightP 5) := fun w x b _ hx _ => by
 rw [right5]
 have Hb := h_ (Below.refl w.heap.size w)
 obtain ⟨sp, c, rfl, _, _, _⟩ := bytes_open hx
 obtain ⟨N, hN⟩ := exq b.length
 rw [hN]
 clear hx hN
 by_cases h : N = 0
 ·subst h
  go_enter Tryz.func175, Tryz.ntmps175
  go_wp2
  go_ret
  exact ⟨rfl, u_ Hb⟩
 ·have d : ((N : Int) == 0) = false := by simp; omega
  have HT := h_ (decide_eq_false h)
  go_enter Tryz.func175, Tryz.ntmps175
  go_wp2
  go_ret
  exact ⟨by rw [u_ HT]; rfl, u_ Hb⟩
theorem isbool_c (R : World → Prop) : BFn R 172 (rightP 1) := fun w x b _ hx _ => by
 have HR := h_ (right1 b)
 obtain ⟨sp, c, rfl, _, _, _⟩ := bytes_open hx
 obtain ⟨N, hN⟩ := exq b.length
 rw [hN] at hx HR ⊢
 have Hb := h_ (Below.refl w.heap.size w)
 by_cases h1 : N = 1
 ·obtain ⟨ba, oa, p, rfl, hp, hpb, hc⟩ := byte_at hx hN 0 (by omega)
  rw [Nat.add_zero] at hc
  rw [hp] at HR
  subst h1
  clear hx hN hp
  rcases (by omega : p = 0 ∨ p = 255 ∨ (p ≠ 0 ∧ p ≠ 255)) with rfl | rfl | hpp
  ·have HT : Hid (rightP 1 b = true) := by show _ = _; rw [u_ HR]; rfl
   clear HR
   go_enter Tryz.func172, Tryz.ntmps172
   go_wp2
   go_ret
   exact ⟨by rw [u_ HT]; rfl, u_ Hb⟩
  ·have HT : Hid (rightP 1 b = true) := by show _ = _; rw [u_ HR]; rfl
   clear HR
   go_enter Tryz.func172, Tryz.ntmps172
   go_wp2
   go_ret
   exact ⟨by rw [u_ HT]; rfl, u_ Hb⟩
  ·have HT : Hid (rightP 1 b = false) := by show _ = _; rw [u_ HR]; simp; omega
   have d1 : ((p : Int) == 0) = false := by simp; omega
   have d2 : ((p : Int) == 255) = false := by simp; omega
   clear HR
   go_enter Tryz.func172, Tryz.ntmps172
   go_wp2
   go_ret
   exact ⟨by rw [u_ HT]; rfl, u_ Hb⟩
 ·have HT : Hid (rightP 1 b = false) := by show _ = _; rw [u_ HR]; simp; omega
  have d1 : ((N : Int) == 1) = false := by simp; omega
  clear HR hx hN
  go_enter Tryz.func172, Tryz.ntmps172
  go_wp2
  go_ret
  exact ⟨by rw [u_ HT]; rfl, u_ Hb⟩
theorem isint_c (R : World → Prop) (t : Nat) (ht : t = 2 ∨ t = 10) : BFn R 173 (rightP t) := fun w x b _ hx _ => by
 have HR := h_ (right2 ht b)
 obtain ⟨sp, c, rfl, _, _, _⟩ := bytes_open hx
 obtain ⟨N, hN⟩ := exq b.length
 rw [hN] at hx HR ⊢
 have Hb := h_ (Below.refl w.heap.size w)
 clear ht
 rcases (by omega : N = 1 ∨ N = 0 ∨ 1 < N) with h1 | h1 | h1
 ·subst h1
  have HT : Hid (rightP t b = true) := by show _ = _; rw [u_ HR]; rfl
  clear HR hx hN
  go_enter Tryz.func173, Tryz.ntmps173
  go_wp2
  go_ret
  exact ⟨by rw [u_ HT]; rfl, u_ Hb⟩
 ·subst h1
  have HT : Hid (rightP t b = false) := by show _ = _; rw [u_ HR]; rfl
  clear HR hx hN
  go_enter Tryz.func173, Tryz.ntmps173
  go_wp2
  go_ret
  exact ⟨by rw [u_ HT]; rfl, u_ Hb⟩
 ·obtain ⟨ba, oa, p, rfl, hp, hpb, hc⟩ := byte_at hx hN 0 (by omega)
  rw [Nat.add_zero] at hc
  obtain ⟨ba', oa', q, e, hq, hqb, hc2⟩ := byte_at hx hN 1 (by omega)
  simp only [Option.some.injEq, Addr.mk.injEq, and_true] at e
  obtain ⟨rfl, rfl⟩ := e
  rw [hp, hq] at HR
  have n2 : decide ((N : Int) < 2) = false := by simp; omega
  have n2n : decide (1 < N) = true := by simp; omega
  have n2m : decide (N < 2) = false := by simp; omega
  have n3 : (0 : Int) < (N : Int) := by omega
  have n4 : (1 : Int) < (N : Int) := by omega
  rw [n2n, decide_eq_false (by omega : ¬ N = 1)] at HR
  clear hx hN hp hq
  rcases (by omega : (p ≠ 0 ∧ p ≠ 255) ∨ (p = 0 ∧ 128 ≤ q) ∨ (p = 0 ∧ q < 128) ∨ (p = 255 ∧ 128 ≤ q) ∨ (p = 255 ∧ q < 128)) with h | h | h | h | h
  ·have HT : Hid (rightP t b = true) := by show _ = _; rw [u_ HR]; simp [h.1, h.2]
   have d1 : ((p : Int) == 0) = false := by simp; omega
   have d2 : ((p : Int) == 255) = false := by simp; omega
   clear HR
   go_enter Tryz.func173, Tryz.ntmps173
   go_wp2
   go_ret
   exact ⟨by rw [u_ HT]; rfl, u_ Hb⟩
  ·obtain ⟨rfl, hq⟩ := h
   have HT : Hid (rightP t b = true) := by show _ = _; rw [u_ HR]; simp; omega
   obtain ⟨d1, d1n⟩ := ltVLf q 128 128
   clear HR
   go_enter Tryz.func173, Tryz.ntmps173
   go_wp2
   go_ret
   exact ⟨by rw [u_ HT]; rfl, u_ Hb⟩
  ·obtain ⟨rfl, hq⟩ := h
   have HT : Hid (rightP t b = false) := by show _ = _; rw [u_ HR]; simp; omega
   obtain ⟨d1, d1n⟩ := ltVL q 128 128
   clear HR
   go_enter Tryz.func173, Tryz.ntmps173
   go_wp2
   go_ret
   exact ⟨by rw [u_ HT]; rfl, u_ Hb⟩
  ·obtain ⟨rfl, hq⟩ := h
   have HT : Hid (rightP t b = false) := by show _ = _; rw [u_ HR]; simp; omega
   obtain ⟨d1, d1n⟩ := leLV 128 128 q
   clear HR
   go_enter Tryz.func173, Tryz.ntmps173
   go_wp2
   go_ret
   exact ⟨by rw [u_ HT]; rfl, u_ Hb⟩
  ·obtain ⟨rfl, hq⟩ := h
   have HT : Hid (rightP t b = true) := by show _ = _; rw [u_ HR]; simp; omega
   obtain ⟨d1, d1n⟩ := leLVf 128 128 q
   clear HR
   go_enter Tryz.func173, Tryz.ntmps173
   go_wp2
   go_ret
   exact ⟨by rw [u_ HT]; rfl, u_ Hb⟩
theorem low_bits : ∀ (p : Fin 8) (q : Fin 256), bits .and .u8 ((q.val : Nat) : Int) (2 ^ p.val - 1) = ((q.val % 2 ^ p.val : Nat) : Int) := by decide +kernel
theorem isbits_c (R : World → Prop) : BFn R 174 (rightP 3) := fun w x b _ hx hl => by
 have HR := h_ (right3 b)
 obtain ⟨sp, c, rfl, _, _, _⟩ := bytes_open hx
 obtain ⟨N, hN⟩ := exq b.length
 rw [hN] at hx HR hl ⊢
 have Hb := h_ (Below.refl w.heap.size w)
 by_cases h0 : N = 0
 ·subst h0
  have HT : Hid (rightP 3 b = false) := by show _ = _; rw [u_ HR]; rfl
  clear HR hx hN
  go_enter Tryz.func174, Tryz.ntmps174
  go_wp2
  go_ret
  exact ⟨by rw [u_ HT]; rfl, u_ Hb⟩
 obtain ⟨ba, oa, p, rfl, hp, hpb, hc⟩ := byte_at hx hN 0 (by omega)
 rw [Nat.add_zero] at hc
 rw [hp] at HR
 have n0 : ((N : Int) == 0) = false := by simp; omega
 have n3 : (0 : Int) < (N : Int) := by omega
 by_cases h7 : 7 < p
 ·have HT : Hid (rightP 3 b = false) := by show _ = _; rw [u_ HR, if_pos (Or.inr h7)]
  obtain ⟨d1, d1n⟩ := ltLV 7 7 p
  clear HR hx hN hp
  go_enter Tryz.func174, Tryz.ntmps174
  go_wp2
  go_ret
  exact ⟨by rw [u_ HT]; rfl, u_ Hb⟩
 obtain ⟨d1, d1n⟩ := ltLVf 7 7 p
 by_cases h1 : N = 1
 ·subst h1
  have HT : Hid (rightP 3 b = decide (p = 0)) := by show _ = _; rw [u_ HR, if_neg (by omega), if_pos rfl]
  clear HR hx hN hp
  by_cases hp0 : p = 0
  ·subst hp0
   go_enter Tryz.func174, Tryz.ntmps174
   go_wp2
   go_ret
   exact ⟨by rw [u_ HT]; rfl, u_ Hb⟩
  ·have d2 : ((p : Int) == 0) = false := by simp; omega
   go_enter Tryz.func174, Tryz.ntmps174
   go_wp2
   go_ret
   exact ⟨by rw [u_ HT, decide_eq_false hp0]; rfl, u_ Hb⟩
 have n1 : ((N : Int) == 1) = false := by simp; omega
 obtain ⟨K, hK⟩ := exq (N - 1)
 obtain ⟨ba', oa', q, e, hq, hqb, hc2⟩ := byte_at hx hN K (by omega)
 simp only [Option.some.injEq, Addr.mk.injEq, and_true] at e
 obtain ⟨rfl, rfl⟩ := e
 have HT : Hid (rightP 3 b = decide (q % 2 ^ p = 0)) := by show _ = _; rw [u_ HR, if_neg (by omega), if_neg h1, hK, hq]
 have eK : (N : Int) - 1 = (K : Int) := by omega
 have K0 : (0 : Int) ≤ (K : Int) := by omega
 have K1 : (K : Int) < (N : Int) := by omega
 obtain ⟨r, hr⟩ := exq (q % 2 ^ p)
 have hbit : bits .and .u8 (q : Int) (2 ^ p - 1) = (r : Int) := by rw [← hr]; exact low_bits ⟨p, by omega⟩ ⟨q, hqb⟩
 rw [hr] at HT
 clear HR hx hN hp hq hK h1 h0 hr
 rcases (by omega : p = 0 ∨ p = 1 ∨ p = 2 ∨ p = 3 ∨ p = 4 ∨ p = 5 ∨ p = 6 ∨ p = 7) with rfl | rfl | rfl | rfl | rfl | rfl | rfl | rfl <;>
 ·simp only [Int.reducePow, Int.reduceSub] at hbit
  by_cases hr0 : r = 0
  ·subst hr0
   go_enter Tryz.func174, Tryz.ntmps174
   go_wp2
   go_ret
   exact ⟨by rw [u_ HT]; rfl, u_ Hb⟩
  ·have d5 : ((r : Int) == 0) = false := by simp; omega
   go_enter Tryz.func174, Tryz.ntmps174
   go_wp2
   go_ret
   exact ⟨by rw [u_ HT, decide_eq_false hr0]; rfl, u_ Hb⟩
theorem isoid_c (R : World → Prop) : BFn R 176 (rightP 6) := fun w x b _ hx hl => by
 have HR := h_ (right6 b)
 obtain ⟨sp, c, rfl, _, _, _⟩ := bytes_open hx
 obtain ⟨N, hN⟩ := exq b.length
 have HN := h_ hN
 rw [hN] at hx hl ⊢
 have HX := h_ hx
 have Hb := h_ (Below.refl w.heap.size w)
 clear hx hN
 go_enter Tryz.func176, Tryz.ntmps176
 go_wp2
 go_loopw [3, 8] (fun bb ii wr => ∃ (k : Nat) (u : Bool), k ≤ N ∧ bb = .bool u ∧ ii = .int .i64 (k : Int) ∧ wr = w ∧ Hid ((∀ j, j < k → badAt b j = false) ∧ u = (decide (k = 0) || decide ((b.getD (k - 1) 0).toNat < 128)))) (fun _ ii _ => N - (intOf ii).toNat)
 case atStart => exact ⟨0, true, by omega, rfl, rfl, rfl, fun j hj => by omega, rfl⟩
 case round =>
  obtain ⟨k, u, hk, rfl, rfl, hwr, HE⟩ := hrel
  have := hwr.symm
  subst this
  by_cases hlt : k < N
  ·obtain ⟨ba, oa, p, rfl, hp, hpb, hc⟩ := byte_at (u_ HX) (u_ HN) k hlt
   have Hp := h_ hp
   obtain ⟨d1, d1n⟩ := ltVV k N
   have k0 : (0 : Int) ≤ (k : Int) := by omega
   have k1 : (k : Int) < (N : Int) := by omega
   clear hp
   have Hbad : Hid (badAt b k = (decide (p = 128) && u)) := by show _ = _; rw [HE.2]; unfold badAt; rw [u_ Hp]
   by_cases hbd : p = 128 ∧ u = true
   ·obtain ⟨rfl, rfl⟩ := hbd
    have HT : Hid (rightP 6 b = false) := by show _ = _; rw [u_ HR]; exact oid_bad (by rw [u_ HN]; exact hlt) (by rw [u_ Hbad]; rfl)
    clear HE HR Hbad
    go_wp2
    go_ret
    exact ⟨by rw [u_ HT]; rfl, u_ Hb⟩
   ·have HE2 : Hid ((∀ j, j < k + 1 → badAt b j = false) ∧ decide (p < 128) = (decide (k + 1 = 0) || decide ((b.getD (k + 1 - 1) 0).toNat < 128))) := ⟨fun j hj => by
     by_cases e : j = k
     ·rw [e, u_ Hbad]
      cases u with
      | false => simp
      | true => simp only [and_true] at hbd; simp [hbd]
     ·exact HE.1 j (by omega), by rw [Nat.add_sub_cancel, u_ Hp]; simp⟩
    clear HE HR Hbad
    by_cases hs : p < 128
    ·have s1 : decide ((p : Int) < 128) = true := by simp; omega
     have s2 : ((p : Int) == 128) = false := by simp; omega
     have s1n : decide (p < 128) = true := by simp; omega
     rw [s1n] at HE2
     clear hbd
     cases u <;>
     ·go_wp2
      go_roundw
      case rel =>
       first
        | exact ⟨k + 1, true, by omega, rfl, by go_num, rfl, HE2⟩
        | exact ⟨k + 1, true, by omega, rfl, by go_num, trivial, HE2⟩
        | ((repeat apply Exists.intro); exact ⟨⟨k + 1, true, by omega, rfl, by go_num, rfl, HE2⟩, rfl⟩)
        | ((repeat apply Exists.intro); exact ⟨⟨k + 1, true, by omega, rfl, by go_num, trivial, HE2⟩, rfl⟩)
      case measure => simp [intOf]; omega
    ·obtain ⟨s1, s1n⟩ := ltVLf p 128 128
     rw [s1n] at HE2
     cases u with
     | false =>
      clear hbd
      go_wp2
      go_roundw
      case rel =>
       first
        | exact ⟨k + 1, false, by omega, rfl, by go_num, rfl, HE2⟩
        | exact ⟨k + 1, false, by omega, rfl, by go_num, trivial, HE2⟩
        | ((repeat apply Exists.intro); exact ⟨⟨k + 1, false, by omega, rfl, by go_num, rfl, HE2⟩, rfl⟩)
        | ((repeat apply Exists.intro); exact ⟨⟨k + 1, false, by omega, rfl, by go_num, trivial, HE2⟩, rfl⟩)
      case measure => simp [intOf]; omega
     | true =>
      have s2 : ((p : Int) == 128) = false := by simp at hbd; simp; omega
      clear hbd
      go_wp2
      go_roundw
      case rel =>
       first
        | exact ⟨k + 1, false, by omega, rfl, by go_num, rfl, HE2⟩
        | exact ⟨k + 1, false, by omega, rfl, by go_num, trivial, HE2⟩
        | ((repeat apply Exists.intro); exact ⟨⟨k + 1, false, by omega, rfl, by go_num, rfl, HE2⟩, rfl⟩)
        | ((repeat apply Exists.intro); exact ⟨⟨k + 1, false, by omega, rfl, by go_num, trivial, HE2⟩, rfl⟩)
      case measure => simp [intOf]; omega
  ·obtain rfl : k = N := by omega
   have d1 : decide ((k : Int) < (k : Int)) = false := by simp
   have HT : Hid (rightP 6 b = (decide (0 < k) && u)) := by
    show _ = _
    rw [u_ HR, oid_good (fun j hj => HE.1 j (by rw [← u_ HN]; exact hj)), u_ HN, HE.2]
    by_cases h0 : k = 0
    ·simp [h0]
    ·simp [h0]
   clear HE HR
   by_cases h0 : k = 0
   ·subst h0
    go_wp2
    go_ret
    exact ⟨by rw [u_ HT]; rfl, u_ Hb⟩
   ·obtain ⟨d2, d2n⟩ := ltLV 0 0 k
    go_wp2
    go_ret
    exact ⟨by rw [u_ HT, d2n]; rfl, u_ Hb⟩
end K
end Go.Proofs.YtcofnockikninaaGreatDoor
