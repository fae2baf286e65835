/- Parts of the walk. -/
import Derived.Test.YtcofnockikninaaGreatDoorZgRB
import Derived.Test.YtcofnockikninaaGreatDoorZgRT
import Derived.Test.YtcofnockikninaaGreatDoorZgDwr
import Derived.Deep.Cut
set_option maxRecDepth 100000
set_option maxHeartbeats 20000000
namespace Go.Proofs.YtcofnockikninaaGreatDoor
open Go.RowKit
theorem right19 (b : Bs) : rightP 19 b = b.all printP := by
 unfold rightP
 rw [if_neg (by omega), if_neg (by omega), if_neg (by omega), if_neg (by omega), if_neg (by omega), if_neg (by omega), if_pos rfl]
theorem right22 (b : Bs) : rightP 22 b = b.all fun c => decide (c.toNat < 128) := by
 unfold rightP
 rw [if_neg (by omega), if_neg (by omega), if_neg (by omega), if_neg (by omega), if_neg (by omega), if_neg (by omega), if_neg (by omega), if_pos rfl]
theorem right6 (b : Bs) : rightP 6 b = oidP b := by
 unfold rightP
 rw [if_neg (by omega), if_neg (by omega), if_neg (by omega), if_neg (by omega), if_pos rfl]
theorem all_not {b : Bs} {f : UInt8 → Bool} {k : Nat} (hk : k < b.length) (h : f (b.getD k 0) = false) : b.all f = false := by
 rw [List.all_eq_false]
 refine ⟨b.getD k 0, ?_, by rw [h]; simp⟩
 rw [List.getD_eq_getElem?_getD, List.getElem?_eq_getElem hk, Option.getD_some]
 exact List.getElem_mem hk
theorem all_all {b : Bs} {f : UInt8 → Bool} (h : ∀ k, k < b.length → f (b.getD k 0) = true) : b.all f = true := by
 rw [List.all_eq_true]
 intro c hc
 obtain ⟨k, hk, rfl⟩ := List.getElem_of_mem hc
 have := h k hk
 rwa [List.getD_eq_getElem?_getD, List.getElem?_eq_getElem hk, Option.getD_some] at this
def badAt (b : Bs) (i : Nat) : Bool := decide ((b.getD i 0).toNat = 128) && (decide (i = 0) || decide ((b.getD (i - 1) 0).toNat < 128))
theorem oidP_eq (b : Bs) : oidP b = (((List.range b.length).all fun i => !badAt b i) && decide (0 < b.length) && decide ((b.getD (b.length - 1) 0).toNat < 128)) := by
 unfold oidP badAt
 congr 2
 congr 1
 funext i
 rw [← u8_dec _ 128 (by omega)]
 rfl
theorem oid_bad {b : Bs} {k : Nat} (hk : k < b.length) (h : badAt b k = true) : oidP b = false := by
 rw [oidP_eq]
 have : ((List.range b.length).all fun i => !badAt b i) = false := by
  rw [List.all_eq_false]
  exact ⟨k, List.mem_range.2 hk, by rw [h]; simp⟩
 rw [this]
 rfl
theorem oid_good {b : Bs} (h : ∀ k, k < b.length → badAt b k = false) : oidP b = (decide (0 < b.length) && decide ((b.getD (b.length - 1) 0).toNat < 128)) := by
 rw [oidP_eq]
 have : ((List.range b.length).all fun i => !badAt b i) = true := by
  rw [List.all_eq_true]
  intro k hk
  rw [h k (List.mem_range.1 hk)]
  rfl
 rw [this]
 rfl
theorem right_22 (w : World) (x : Value) (b : Bs) (hx : BytesAt w x b) (hl : b.length ≤ 100000) :
  Calls Tryz.prog 163 #[.int .i64 22, x] w fun e w' => e = .returned (.bool (rightP 22 b)) ∧ Below w.heap.size w w' := by
 have HR := h_ (right22 b)
 obtain ⟨sp, c, rfl, _, _, _⟩ := bytes_open hx
 obtain ⟨N, hN⟩ := exq b.length
 have HN := h_ hN
 rw [hN] at hx hl ⊢
 have HX := h_ hx
 have Hb := h_ (Below.refl w.heap.size w)
 clear hx hN
 go_enter Tryz.func163, Tryz.ntmps163
 go_wp2
 go_loopw [8] (fun ii wr => ∃ k : Nat, k ≤ N ∧ ii = .int .i64 (k : Int) ∧ wr = w ∧ Hid (∀ j, j < k → decide ((b.getD j 0).toNat < 128) = true)) (fun ii _ => N - (intOf ii).toNat)
 case atStart => exact ⟨0, by omega, rfl, rfl, fun j hj => by omega⟩
 case round =>
  obtain ⟨k, hk, rfl, hwr, HE⟩ := hrel
  have := hwr.symm
  subst this
  by_cases hlt : k < N
  ·obtain ⟨ba, oa, p, rfl, hp, hpb, hc⟩ := byte_at (u_ HX) (u_ HN) k hlt
   have Hp := h_ hp
   obtain ⟨d1, d1n⟩ := ltVV k N
   have k0 : (0 : Int) ≤ (k : Int) := by omega
   have k1 : (k : Int) < (N : Int) := by omega
   clear hp
   by_cases h128 : 128 ≤ p
   ·have HT : Hid (rightP 22 b = false) := by show _ = _; rw [u_ HR]; exact all_not (by rw [u_ HN]; exact hlt) (by rw [u_ Hp]; simp; omega)
    obtain ⟨d2, d2n⟩ := leLV 128 128 p
    clear HE HR
    go_wp2
    go_ret
    exact ⟨by rw [u_ HT]; rfl, u_ Hb⟩
   ·have HE2 : Hid (∀ j, j < k + 1 → decide ((b.getD j 0).toNat < 128) = true) := fun j hj => by
     by_cases e : j = k
     ·rw [e, u_ Hp]; simp; omega
     ·exact u_ HE j (by omega)
    obtain ⟨d2, d2n⟩ := leLVf 128 128 p
    clear HE HR
    go_wp2
    go_roundw
    case rel =>
     first
      | exact ⟨k + 1, by omega, by go_num, rfl, HE2⟩
      | exact ⟨k + 1, by omega, by go_num, trivial, HE2⟩
      | ((repeat apply Exists.intro); exact ⟨⟨k + 1, by omega, by go_num, rfl, HE2⟩, rfl⟩)
      | ((repeat apply Exists.intro); exact ⟨⟨k + 1, by omega, by go_num, trivial, HE2⟩, rfl⟩)
    case measure => simp [intOf]; omega
  ·obtain rfl : k = N := by omega
   have d1 : decide ((k : Int) < (k : Int)) = false := by simp
   have HT : Hid (rightP 22 b = true) := by show _ = _; rw [u_ HR]; exact all_all (fun j hj => u_ HE j (by rw [← u_ HN]; exact hj))
   clear HE HR
   go_wp2
   go_ret
   exact ⟨by rw [u_ HT]; rfl, u_ Hb⟩
theorem right_19 (w : World) (x : Value) (b : Bs) (hx : BytesAt w x b) (hl : b.length ≤ 100000) :
  Calls Tryz.prog 163 #[.int .i64 19, x] w fun e w' => e = .returned (.bool (rightP 19 b)) ∧ Below w.heap.size w w' := by
 have HR := h_ (right19 b)
 obtain ⟨sp, c, rfl, _, _, _⟩ := bytes_open hx
 obtain ⟨N, hN⟩ := exq b.length
 have HN := h_ hN
 rw [hN] at hx hl ⊢
 have HX := h_ hx
 have Hb := h_ (Below.refl w.heap.size w)
 clear hx hN
 go_enter Tryz.func163, Tryz.ntmps163
 go_wp2
 go_loopw [7] (fun ii wr => ∃ k : Nat, k ≤ N ∧ ii = .int .i64 (k : Int) ∧ wr = w ∧ Hid (∀ j, j < k → printP (b.getD j 0) = true)) (fun ii _ => N - (intOf ii).toNat)
 case atStart => exact ⟨0, by omega, rfl, rfl, fun j hj => by omega⟩
 case round =>
  obtain ⟨k, hk, rfl, hwr, HE⟩ := hrel
  have := hwr.symm
  subst this
  by_cases hlt : k < N
  ·obtain ⟨ba, oa, p, rfl, hp, hpb, hc⟩ := byte_at (u_ HX) (u_ HN) k hlt
   have Hpr := h_ (print_any (b.getD k 0) w)
   unfold bv at Hpr
   rw [hp] at Hpr
   obtain ⟨d1, d1n⟩ := ltVV k N
   have k0 : (0 : Int) ≤ (k : Int) := by omega
   have k1 : (k : Int) < (N : Int) := by omega
   obtain ⟨u, hu⟩ := exq (printP (b.getD k 0))
   have Hu := h_ hu
   rw [hu] at Hpr
   clear hp hu
   go_wp2_with fail
   refine Hpr.mono ?_
   rintro e w1 ⟨rfl, rfl⟩
   cases u with
   | false =>
    have HT : Hid (rightP 19 b = false) := by show _ = _; rw [u_ HR]; exact all_not (by rw [u_ HN]; exact hlt) (u_ Hu)
    clear HE HR Hpr
    go_wp2
    go_ret
    exact ⟨by rw [u_ HT]; rfl, u_ Hb⟩
   | true =>
    have HE2 : Hid (∀ j, j < k + 1 → printP (b.getD j 0) = true) := fun j hj => by
     by_cases e : j = k
     ·rw [e]; exact u_ Hu
     ·exact u_ HE j (by omega)
    clear HE HR Hpr
    go_wp2
    go_roundw
    case rel =>
     first
      | exact ⟨k + 1, by omega, by go_num, rfl, HE2⟩
      | exact ⟨k + 1, by omega, by go_num, trivial, HE2⟩
      | ((repeat apply Exists.intro); exact ⟨⟨k + 1, by omega, by go_num, rfl, HE2⟩, rfl⟩)
      | ((repeat apply Exists.intro); exact ⟨⟨k + 1, by omega, by go_num, trivial, HE2⟩, rfl⟩)
    case measure => simp [intOf]; omega
  ·obtain rfl : k = N := by omega
   have d1 : decide ((k : Int) < (k : Int)) = false := by simp
   have HT : Hid (rightP 19 b = true) := by show _ = _; rw [u_ HR]; exact all_all (fun j hj => u_ HE j (by rw [← u_ HN]; exact hj))
   clear HE HR
   go_wp2
   go_ret
   exact ⟨by rw [u_ HT]; rfl, u_ Hb⟩
theorem right_6 (w : World) (x : Value) (b : Bs) (hx : BytesAt w x b) (hl : b.length ≤ 100000) :
  Calls Tryz.prog 163 #[.int .i64 6, x] w fun e w' => e = .returned (.bool (rightP 6 b)) ∧ Below w.heap.size w w' := by
 have HR := h_ (right6 b)
 obtain ⟨sp, c, rfl, _, _, _⟩ := bytes_open hx
 obtain ⟨N, hN⟩ := exq b.length
 have HN := h_ hN
 rw [hN] at hx hl ⊢
 have HX := h_ hx
 have Hb := h_ (Below.refl w.heap.size w)
 clear hx hN
 go_enter Tryz.func163, Tryz.ntmps163
 go_wp2
 go_loopw [6] (fun ii wr => ∃ k : Nat, k ≤ N ∧ ii = .int .i64 (k : Int) ∧ wr = w ∧ Hid (∀ j, j < k → badAt b j = false)) (fun ii _ => N - (intOf ii).toNat)
 case atStart => exact ⟨0, by omega, rfl, rfl, fun j hj => by omega⟩
 case round =>
  obtain ⟨k, hk, rfl, hwr, HE⟩ := hrel
  have := hwr.symm
  subst this
  by_cases hlt : k < N
  ·obtain ⟨ba, oa, p, rfl, hp, hpb, hc⟩ := byte_at (u_ HX) (u_ HN) k hlt
   have Hp := h_ hp
   obtain ⟨d1, d1n⟩ := ltVV k N
   have k0 : (0 : Int) ≤ (k : Int) := by omega
   have k1 : (k : Int) < (N : Int) := by omega
   have HE2 : badAt b k = false → Hid (∀ j, j < k + 1 → badAt b j = false) := fun hbad j hj => by
    by_cases e : j = k
    ·rw [e]; exact hbad
    ·exact u_ HE j (by omega)
   clear hp
   by_cases h128 : p = 128
   ·subst h128
    by_cases hk0 : k = 0
    ·subst hk0
     have HT : Hid (rightP 6 b = false) := by show _ = _; rw [u_ HR]; exact oid_bad (by rw [u_ HN]; exact hlt) (by unfold badAt; rw [u_ Hp]; rfl)
     rw [Nat.add_zero] at hc
     clear HE HR HE2
     go_wp2
     go_ret
     exact ⟨by rw [u_ HT]; rfl, u_ Hb⟩
    ·obtain ⟨K, hK⟩ := exq (k - 1)
     obtain ⟨ba', oa', q, e, hq, hqb, hc2⟩ := byte_at (u_ HX) (u_ HN) K (by omega)
     simp only [Option.some.injEq, Addr.mk.injEq, and_true] at e
     obtain ⟨rfl, rfl⟩ := e
     have eK : (k : Int) - 1 = (K : Int) := by omega
     have K0 : (0 : Int) ≤ (K : Int) := by omega
     have K1 : (K : Int) < (N : Int) := by omega
     have e0 : ((k : Int) == 0) = false := by simp; omega
     have hbad : badAt b k = decide (q < 128) := by
      unfold badAt
      rw [u_ Hp, hK, hq, decide_eq_false hk0]
      simp
     by_cases hq128 : q < 128
     ·have HT : Hid (rightP 6 b = false) := by show _ = _; rw [u_ HR]; exact oid_bad (by rw [u_ HN]; exact hlt) (by rw [hbad]; simp; omega)
      obtain ⟨d2, d2n⟩ := ltVL q 128 128
      clear HE HR HE2 hbad hq hK
      go_wp2
      go_ret
      exact ⟨by rw [u_ HT]; rfl, u_ Hb⟩
     ·have HE3 := HE2 (by rw [hbad]; simp; omega)
      obtain ⟨d2, d2n⟩ := ltVLf q 128 128
      clear HE HR HE2 hbad hq hK
      go_wp2
      go_roundw
      case rel =>
       first
        | exact ⟨k + 1, by omega, by go_num, rfl, HE3⟩
        | exact ⟨k + 1, by omega, by go_num, trivial, HE3⟩
        | ((repeat apply Exists.intro); exact ⟨⟨k + 1, by omega, by go_num, rfl, HE3⟩, rfl⟩)
        | ((repeat apply Exists.intro); exact ⟨⟨k + 1, by omega, by go_num, trivial, HE3⟩, rfl⟩)
      case measure => simp [intOf]; omega
   ·have HE3 := HE2 (by unfold badAt; rw [u_ Hp, decide_eq_false h128]; rfl)
    have d2 : ((p : Int) == 128) = false := by simp; omega
    clear HE HR HE2
    go_wp2
    go_roundw
    case rel =>
     first
      | exact ⟨k + 1, by omega, by go_num, rfl, HE3⟩
      | exact ⟨k + 1, by omega, by go_num, trivial, HE3⟩
      | ((repeat apply Exists.intro); exact ⟨⟨k + 1, by omega, by go_num, rfl, HE3⟩, rfl⟩)
      | ((repeat apply Exists.intro); exact ⟨⟨k + 1, by omega, by go_num, trivial, HE3⟩, rfl⟩)
    case measure => simp [intOf]; omega
  ·obtain rfl : k = N := by omega
   have d1 : decide ((k : Int) < (k : Int)) = false := by simp
   have HT : Hid (rightP 6 b = (decide (0 < k) && decide ((b.getD (k - 1) 0).toNat < 128))) := by
    show _ = _
    rw [u_ HR, oid_good (fun j hj => u_ HE j (by rw [← u_ HN]; exact hj)), u_ HN]
   clear HE HR
   by_cases hk0 : k = 0
   ·subst hk0
    go_wp2
    go_ret
    exact ⟨by rw [u_ HT]; rfl, u_ Hb⟩
   ·obtain ⟨K, hK⟩ := exq (k - 1)
    obtain ⟨ba, oa, q, rfl, hq, hqb, hc2⟩ := byte_at (u_ HX) (u_ HN) K (by omega)
    have eK : (k : Int) - 1 = (K : Int) := by omega
    have K0 : (0 : Int) ≤ (K : Int) := by omega
    have K1 : (K : Int) < (k : Int) := by omega
    have kb : (k : Int) ≤ 100000 := by omega
    obtain ⟨d2, d2n⟩ := ltLV 0 0 k
    rw [hK, hq, d2n] at HT
    clear hq hK
    by_cases hq128 : q < 128
    ·obtain ⟨d3, d3n⟩ := ltVL q 128 128
     rw [d3n] at HT
     go_wp2
     go_ret
     exact ⟨by rw [u_ HT]; rfl, u_ Hb⟩
    ·obtain ⟨d3, d3n⟩ := ltVLf q 128 128
     rw [d3n] at HT
     go_wp2
     go_ret
     exact ⟨by rw [u_ HT]; rfl, u_ Hb⟩
theorem right12 (b : Bs) : rightP 12 b = utf8P b.length b := by
 unfold rightP
 rw [if_neg (by omega), if_neg (by omega), if_neg (by omega), if_neg (by omega), if_neg (by omega), if_pos rfl]
theorem right23 (b : Bs) : rightP 23 b = timeP 2 b := by
 unfold rightP
 rw [if_neg (by omega), if_neg (by omega), if_neg (by omega), if_neg (by omega), if_neg (by omega), if_neg (by omega), if_neg (by omega), if_neg (by omega), if_pos rfl]
theorem right24 (b : Bs) : rightP 24 b = timeP 4 b := by
 unfold rightP
 rw [if_neg (by omega), if_neg (by omega), if_neg (by omega), if_neg (by omega), if_neg (by omega), if_neg (by omega), if_neg (by omega), if_neg (by omega), if_neg (by omega), if_pos rfl]
theorem six_lit (q : Nat → Nat) : (six q).toArray = #[.int .i64 (q 0 : Int), .int .i64 (q 1 : Int), .int .i64 (q 2 : Int), .int .i64 (q 3 : Int), .int .i64 (q 4 : Int), .int .i64 (q 5 : Int)] := rfl
theorem right_12 (w : World) (x : Value) (b : Bs) (hx : BytesAt w x b) (hl : b.length ≤ 100000) :
  Calls Tryz.prog 163 #[.int .i64 12, x] w fun e w' => e = .returned (.bool (rightP 12 b)) ∧ Below w.heap.size w w' := by
 have HU := h_ (utf8s_any w x b hx (by omega))
 rw [← right12] at HU
 obtain ⟨sp, c, rfl, _, _, _⟩ := bytes_open hx
 obtain ⟨N, hN⟩ := exq b.length
 obtain ⟨r, hr⟩ := exq (rightP 12 b)
 rw [hN, hr] at HU ⊢
 have Hb := h_ (Below.refl w.heap.size w)
 clear hx hN hr hl
 go_enter Tryz.func163, Tryz.ntmps163
 go_wp2_with fail
 refine HU.mono ?_
 rintro e w1 ⟨rfl, rfl⟩
 go_wp2
 go_ret
 exact ⟨rfl, u_ Hb⟩
theorem right_23 (w : World) (x : Value) (b : Bs) (hx : BytesAt w x b) (hl : b.length ≤ 100000) :
  Calls Tryz.prog 163 #[.int .i64 23, x] w fun e w' => e = .returned (.bool (rightP 23 b)) ∧ Below w.heap.size w w' := by
 have HU := h_ (time_2 w x b hx (by omega))
 rw [← right23] at HU
 obtain ⟨sp, c, rfl, _, _, _⟩ := bytes_open hx
 obtain ⟨N, hN⟩ := exq b.length
 obtain ⟨r, hr⟩ := exq (rightP 23 b)
 rw [hN, hr] at HU ⊢
 clear hx hN hr hl
 go_enter Tryz.func163, Tryz.ntmps163
 go_wp2_with fail
 refine HU.mono ?_
 rintro e w1 ⟨q, rfl, _, hb⟩
 rw [six_lit]
 have Hb := h_ hb
 clear hb HU
 go_wp2
 go_ret
 exact ⟨rfl, Hb.alloc Hb.size _⟩
theorem right_24 (w : World) (x : Value) (b : Bs) (hx : BytesAt w x b) (hl : b.length ≤ 100000) :
  Calls Tryz.prog 163 #[.int .i64 24, x] w fun e w' => e = .returned (.bool (rightP 24 b)) ∧ Below w.heap.size w w' := by
 have HU := h_ (time_4 w x b hx (by omega))
 rw [← right24] at HU
 obtain ⟨sp, c, rfl, _, _, _⟩ := bytes_open hx
 obtain ⟨N, hN⟩ := exq b.length
 obtain ⟨r, hr⟩ := exq (rightP 24 b)
 rw [hN, hr] at HU ⊢
 clear hx hN hr hl
 go_enter Tryz.func163, Tryz.ntmps163
 go_wp2_with fail
 refine HU.mono ?_
 rintro e w1 ⟨q, rfl, _, hb⟩
 rw [six_lit]
 have Hb := h_ hb
 clear hb HU
 go_wp2
 go_ret
 exact ⟨rfl, Hb.alloc Hb.size _⟩
theorem rights : Rights := fun w t x b ht hx hl => by
 have h : t = 1 ∨ t = 2 ∨ t = 3 ∨ t = 4 ∨ t = 5 ∨ t = 6 ∨ t = 10 ∨ t = 12 ∨ t = 19 ∨ t = 22 ∨ t = 23 ∨ t = 24 := by
  simp only [plainT, Bool.or_eq_true, Bool.and_eq_true, decide_eq_true_eq] at ht
  omega
 rcases h with rfl | rfl | rfl | rfl | rfl | rfl | rfl | rfl | rfl | rfl | rfl | rfl
 ·exact right_1 w x b hx
 ·exact right_2 2 (Or.inl rfl) w x b hx
 ·exact right_3 w x b hx hl
 ·exact right_4 w x b hx
 ·exact right_5 w x b hx
 ·exact right_6 w x b hx hl
 ·exact right_2 10 (Or.inr rfl) w x b hx
 ·exact right_12 w x b hx hl
 ·exact right_19 w x b hx hl
 ·exact right_22 w x b hx hl
 ·exact right_23 w x b hx hl
 ·exact right_24 w x b hx hl
def Writes (f : Nat) : Prop := ∀ (n : Nat) (S : Nat → Prop) (v : DV) (w : World) (cs : List Value) (d : Nat), d + f = 17 → VAt n S w cs v → weight v ≤ 100000 → Calls Tryz.prog 106 #[.agg cs.toArray, .int .i64 (d : Int)] w fun e w' => ∃ x, e = .returned (.tuple #[x, .int .i64 (errOf (writeP formD f v) : Int)]) ∧ OwnB w' w.heap.size x (bytesOf (writeP formD f v)) ∧ Below w.heap.size w w'
theorem writes_zero : Writes 0 := fun n S v w cs d hd hv hw => by
 obtain ⟨p1, q1, p2, q2, rfl⟩ := hv.form
 unfold dcells
 obtain rfl : d = 17 := by omega
 obtain ⟨kc, kt, km, kl, kk, hkc, hkt, hkm, hkl, hkk⟩ := ex5 v
 simp only [hkc, hkt, hkm, hkl, hkk]
 have Hb : Hid (Below w.heap.size w (w.alloc (.cells #[.int .i64 kc, .int .i64 kt, .bool km, .slice p1 kl q1, .slice p2 kk q2] 33))) := (Below.refl _ _).alloc (Nat.le_refl _) _
 clear hkc hkt hkm hkl hkk hv hw hd
 go_enter Tryz.func106, Tryz.ntmps106
 go_wp2
 exact bodyPost_ret (v := .tuple #[.slice none 0 0, .int .i64 23]) (by simp [results, Tryz.results106, go_sem]) rfl ⟨_, rfl, ownb_nil _ _, u_ Hb⟩
structure WAt (f : Nat) (ks : List DV) (bs : Bs) (w2 wr : World) (sB : Option Addr) (nB cB : Nat) (lv : Value) (lx : Bs) (fl : Bool) (dn : List Bs) (i : Nat) : Prop where
 row : Row w2 wr (.slice sB nB cB) (bs ++ dn.flatten)
 nb : (bs ++ dn.flatten).length = nB
 last : OwnB wr w2.heap.size lv lx
 ap : Apart (.slice sB nB cB) lv
 lst : (dn = [] ∧ lx = []) ∨ ∃ d0, dn = d0 ++ [lx]
 len : dn.length = i
 fl : fl = fallsP dn
 told : allP (writeP formD f) ks = prepA dn (allP (writeP formD f) (ks.drop i))
 took : allP (writeP formD f) (ks.take i) = .yes dn
theorem WAt.add {f : Nat} {ks : List DV} {bs : Bs} {w2 wr w7 : World} {sB : Option Addr} {nB cB : Nat} {lv : Value} {lx : Bs} {fl : Bool} {dn : List Bs} {i : Nat} {k : DV} {y : Bs} {Y : Nat} {s7 : Option Addr} {c7 : Nat} {x5 : Value} {fl' : Bool} (h : WAt f ks bs w2 wr sB nB cB lv lx fl dn i) (hik : ks[i]? = some k) (hy : writeP formD f k = .yes y)
  (hr : Row w2 w7 (.slice s7 (nB + Y) c7) (bs ++ dn.flatten ++ y)) (hY : y.length = Y) (ho : OwnB w7 w2.heap.size x5 y) (hap : Apart (.slice s7 (nB + Y) c7) x5) (hfl : fl' = fallsP (dn ++ [y])) : WAt f ks bs w2 w7 s7 (nB + Y) c7 x5 y fl' (dn ++ [y]) (i + 1) := by
 have e : bs ++ (dn ++ [y]).flatten = bs ++ dn.flatten ++ y := by simp
 refine ⟨by rw [e]; exact hr, by rw [e, List.length_append, h.nb, hY], ho, hap, Or.inr ⟨dn, rfl⟩, by rw [List.length_append, h.len]; rfl, hfl, ?_, all_snoc h.took hik hy⟩
 rw [h.told, all_yes dn hik hy]
theorem writes_succ (f : Nat) (ih : Writes f) : Writes (f + 1) := fun n S v w cs d hd hv hw => by
 cases n with
 | zero => exact hv.elim
 | succ n =>
 have Hih := h_ ih
 obtain ⟨c, t, md, bs, ks⟩ := v
 obtain ⟨xa, sa, na, rfl, hxa, hxs, ⟨hbl, hkl⟩, _, _, hka⟩ := hv
 simp only [DV.cls, DV.tag, DV.made, DV.bytes, DV.kids] at *
 have hwb : bs.length ≤ 100000 ∧ ks.length ≤ 100000 ∧ weights ks ≤ 100000 ∧ ∀ (i : Nat) (k : DV), ks[i]? = some k → weight k ≤ 100000 := by
  have h1 := weights_len ks
  simp only [weight] at hw
  exact ⟨by omega, by omega, by omega, fun i k hik => by have := weight_kid hik; omega⟩
 obtain ⟨hbl2, hkl2, hkws, hkw⟩ := hwb
 have Hkw := h_ hkw
 have Hkws := h_ hkws
 have HU := h_ (write_unf f c t md bs ks)
 obtain ⟨spa, cpa, rfl, _, _, _⟩ := bytes_open hxa
 unfold dcells
 obtain ⟨w1, hw1⟩ := exq (w.alloc (.cells #[.int .i64 c, .int .i64 t, .bool md, .slice spa bs.length cpa, .slice sa ks.length na] 33))
 have hb1 := allocB hw1
 have Hb1 := h_ hb1
 have hc1 : CellsAt w1 w.heap.size 0 (dcells c t md (.slice spa bs.length cpa) (.slice sa ks.length na)) := by rw [← hw1]; exact cells_new w _ 33
 have HRA : Hid (w1.heap[w.heap.size]? = some (.cells #[.int .i64 c, .int .i64 t, .bool md, .slice spa bs.length cpa, .slice sa ks.length na] 33 (0, 0))) := by show _ = _; rw [← hw1]; exact heap_alloc_new w _
 have HXA := h_ (hxa.below hb1)
 have HKA := h_ hka
 obtain ⟨L, hL⟩ := exq bs.length
 obtain ⟨K, hK⟩ := exq ks.length
 obtain ⟨A, hA⟩ := exq w.heap.size
 have HL := h_ hL
 have HK := h_ hK
 have HA := h_ hA
 rw [hL, hK] at hw1 hc1 HRA
 rw [hL] at HXA HU hbl2
 rw [hK] at HU hkl2
 rw [hA] at hc1 HRA
 have hsz5 : (Tryz.prog.info? 33).map (·.size) = some 5 := by kernel_rfl
 have HC : Hid (∀ w', Below w1.heap.size w1 w' → w'.cell? ⟨A, 0, none⟩ = some (.int .i64 c) ∧ w'.cell? ⟨A, 1, none⟩ = some (.int .i64 t) ∧ w'.cell? ⟨A, 2, none⟩ = some (.bool md) ∧ w'.cell? ⟨A, 3, none⟩ = some (.slice spa L cpa) ∧ w'.cell? ⟨A, 4, none⟩ = some (.slice sa K na)) := fun w' hb => (hc1.below hb).five0
 obtain ⟨a0, a1, a2, a3, a4⟩ := u_ HC w1 (Below.refl _ _)
 obtain ⟨x16, x16n⟩ := ltLVf 16 16 d
 have db : (d : Int) ≤ 17 := by omega
 have Hd := h_ hd
 have Lb : (L : Int) ≤ 100000 := by omega
 have Kb : (K : Int) ≤ 100000 := by omega
 simp only [hL, hK]
 clear ih hxa hxs hka hkw hkws hb1 hc1 hw hL hK hbl hkl hd
 -- what is refused at once
 by_cases hbad : c < 0 ∨ 3 < c ∨ t < 0 ∨ 2097152 ≤ t
 ·have HT : Hid (writeP formD (f + 1) (.mk c t md bs ks) = .no 21) := by show _ = _; rw [u_ HU, if_pos hbad]
  have Hfin : Hid (OwnB w1 w.heap.size (.slice none 0 0) (bytesOf (writeP formD (f + 1) (.mk c t md bs ks)))) := by show OwnB _ _ _ _; rw [u_ HT]; exact ownb_nil _ _
  obtain ⟨T, hT⟩ := exq (writeP formD (f + 1) (.mk c t md bs ks))
  rw [hT] at HT Hfin ⊢
  clear HU hT
  rcases (by omega : c < 0 ∨ (¬ c < 0 ∧ 3 < c) ∨ (¬ c < 0 ∧ ¬ 3 < c ∧ t < 0) ∨ (¬ c < 0 ∧ ¬ 3 < c ∧ ¬ t < 0 ∧ 2097152 ≤ t)) with h | ⟨h, h2⟩ | ⟨h, h2, h3⟩ | ⟨h, h2, h3, h4⟩
  ·have e1 : decide (c < 0) = true := by simp; omega
   clear hbad
   go_enter Tryz.func106, Tryz.ntmps106
   go_wp2
   exact bodyPost_ret (v := .tuple #[.slice none 0 0, .int .i64 21]) (by simp [results, Tryz.results106, go_sem]) rfl ⟨_, by rw [u_ HT]; rfl, by first | exact u_ Hfin | (rw [← u_ HA]; exact u_ Hfin), by first | exact u_ Hb1 | (rw [← u_ HA]; exact u_ Hb1)⟩
  ·have e1 : decide (c < 0) = false := by simp; omega
   have e2 : decide (3 < c) = true := by simp; omega
   clear hbad
   go_enter Tryz.func106, Tryz.ntmps106
   go_wp2
   exact bodyPost_ret (v := .tuple #[.slice none 0 0, .int .i64 21]) (by simp [results, Tryz.results106, go_sem]) rfl ⟨_, by rw [u_ HT]; rfl, by first | exact u_ Hfin | (rw [← u_ HA]; exact u_ Hfin), by first | exact u_ Hb1 | (rw [← u_ HA]; exact u_ Hb1)⟩
  ·have e1 : decide (c < 0) = false := by simp; omega
   have e2 : decide (3 < c) = false := by simp; omega
   have e3 : decide (t < 0) = true := by simp; omega
   clear hbad
   go_enter Tryz.func106, Tryz.ntmps106
   go_wp2
   exact bodyPost_ret (v := .tuple #[.slice none 0 0, .int .i64 21]) (by simp [results, Tryz.results106, go_sem]) rfl ⟨_, by rw [u_ HT]; rfl, by first | exact u_ Hfin | (rw [← u_ HA]; exact u_ Hfin), by first | exact u_ Hb1 | (rw [← u_ HA]; exact u_ Hb1)⟩
  ·have e1 : decide (c < 0) = false := by simp; omega
   have e2 : decide (3 < c) = false := by simp; omega
   have e3 : decide (t < 0) = false := by simp; omega
   have e4 : decide (2097152 ≤ t) = true := by simp; omega
   clear hbad
   go_enter Tryz.func106, Tryz.ntmps106
   go_wp2
   exact bodyPost_ret (v := .tuple #[.slice none 0 0, .int .i64 21]) (by simp [results, Tryz.results106, go_sem]) rfl ⟨_, by rw [u_ HT]; rfl, by first | exact u_ Hfin | (rw [← u_ HA]; exact u_ Hfin), by first | exact u_ Hb1 | (rw [← u_ HA]; exact u_ Hb1)⟩
 have e1 : decide (c < 0) = false := by simp; omega
 have e2 : decide (3 < c) = false := by simp; omega
 have e3 : decide (t < 0) = false := by simp; omega
 have e4 : decide (2097152 ≤ t) = false := by simp; omega
 obtain ⟨cN, rfl⟩ : ∃ cN : Nat, c = (cN : Int) := ⟨c.toNat, by omega⟩
 obtain ⟨tN, rfl⟩ : ∃ tN : Nat, t = (tN : Int) := ⟨t.toNat, by omega⟩
 have hU := u_ HU
 rw [if_neg hbad] at hU
 simp only [Int.toNat_natCast] at hU
 have HcN : Hid (cN ≤ 3 ∧ tN < 2097152) := ⟨by omega, by omega⟩
 have hform := form_any rights w1 cN tN md spa cpa sa K na bs (by rw [u_ HL]; exact u_ HXA) (by rw [u_ HL]; omega)
 rw [u_ HL] at hform
 have Hform := h_ hform
 obtain ⟨F, hF⟩ := exq (formD cN tN md bs)
 rw [hF] at Hform hU
 have HU2 := h_ hU
 clear HU hU hform hF hbad
 have Hl0 : Hid (([] : Bs).length + bs.length ≤ 1073741824) := by show _ ≤ _; rw [u_ HL]; simp; omega
 have Hkn : Hid (∀ (i : Nat) (wr : World), i < K → Below w.heap.size w wr → ∃ (k : DV) (ba oa : Nat) (ds : List Value), sa = some ⟨ba, oa, none⟩ ∧ ks[i]? = some k ∧ weight k ≤ 100000 ∧ CellsAt wr ba (oa + i * 5) ds ∧ VAt n S wr ds k) := fun i wr hi hb => by
  have hne : ks ≠ [] := fun e => by have := u_ HK; rw [e] at this; simp at this; omega
  have hi2 : i < ks.length := by have := u_ HK; omega
  have hik : ks[i]? = some ks[i] := List.getElem?_eq_getElem hi2
  obtain ⟨ba, oa, e1, _, f1⟩ := u_ HKA hne
  obtain ⟨ds, g1, v1⟩ := f1 i _ hik
  exact ⟨_, ba, oa, ds, e1, hik, u_ Hkw i _ hik, g1.below hb, v1.below hb⟩
 by_cases hF21 : F = 21
 ·subst hF21
  have HT : Hid (writeP formD (f + 1) (.mk (cN : Int) (tN : Int) md bs ks) = .no 21) := by show _ = _; rw [u_ HU2, if_pos rfl]
  have Hfin : Hid (∀ w', OwnB w' w.heap.size (.slice none 0 0) (bytesOf (writeP formD (f + 1) (.mk (cN : Int) (tN : Int) md bs ks)))) := fun w' => by rw [u_ HT]; exact ownb_nil _ _
  obtain ⟨T, hT⟩ := exq (writeP formD (f + 1) (.mk (cN : Int) (tN : Int) md bs ks))
  rw [hT] at HT Hfin ⊢
  clear hT HU2
  go_enter Tryz.func106, Tryz.ntmps106
  go_wp2_with (first
   | (refine wpList_load_row rfl 33 _ rfl A rfl 33 _ (0, 0) _ (u_ HRA) Tryz.underlying33 rfl hsz5 ?_)
   | (go_at_call 131; refine Hform.mono ?_; rintro e w2 ⟨rfl, hb2⟩
      have Hb02 := h_ (Hb1.trans (hb2.mono Hb1.size))
      obtain ⟨a0, a1, a2, a3, a4⟩ := u_ HC w2 hb2
      clear hb2))
  exact bodyPost_ret (v := .tuple #[.slice none 0 0, .int .i64 21]) (by simp [results, Tryz.results106, go_sem]) rfl ⟨_, by rw [u_ HT]; rfl, u_ Hfin _, u_ Hb02⟩
 have f21 : ((F : Int) == 21) = false := by simp; omega
 by_cases hF24 : F ≠ 0 ∨ (md = true ∧ 0 < L) ∨ (md = false ∧ 0 < K)
 ·have HT : Hid (writeP formD (f + 1) (.mk (cN : Int) (tN : Int) md bs ks) = .no 24) := by show _ = _; rw [u_ HU2, if_neg hF21, if_pos hF24]
  have Hfin : Hid (∀ w', OwnB w' w.heap.size (.slice none 0 0) (bytesOf (writeP formD (f + 1) (.mk (cN : Int) (tN : Int) md bs ks)))) := fun w' => by rw [u_ HT]; exact ownb_nil _ _
  obtain ⟨T, hT⟩ := exq (writeP formD (f + 1) (.mk (cN : Int) (tN : Int) md bs ks))
  rw [hT] at HT Hfin ⊢
  clear hT HU2
  rcases (by by_cases h : F = 0 <;> simp [h] at hF24 ⊢ <;> exact hF24 : F ≠ 0 ∨ (F = 0 ∧ ((md = true ∧ 0 < L) ∨ (md = false ∧ 0 < K)))) with h | ⟨rfl, ⟨rfl, h⟩ | ⟨rfl, h⟩⟩
  ·have f0 : ((F : Int) == 0) = false := by simp; omega
   have f0' : ((F : Int) != 0) = true := by simp; omega
   clear hF24
   go_enter Tryz.func106, Tryz.ntmps106
   go_upto_region 8 with (first
    | (refine wpList_load_row rfl 33 _ rfl A rfl 33 _ (0, 0) _ (u_ HRA) Tryz.underlying33 rfl hsz5 ?_)
    | (go_at_call 131; refine Hform.mono ?_; rintro e w2 ⟨rfl, hb2⟩
       have Hb02 := h_ (Hb1.trans (hb2.mono Hb1.size))
       obtain ⟨a0, a1, a2, a3, a4⟩ := u_ HC w2 hb2
       clear hb2))
   go_wp2
   exact bodyPost_ret (v := .tuple #[.slice none 0 0, .int .i64 24]) (by simp [results, Tryz.results106, go_sem]) rfl ⟨_, by rw [u_ HT]; rfl, u_ Hfin _, u_ Hb02⟩
  ·obtain ⟨l0, l0n⟩ := ltLV 0 0 L
   clear hF24
   go_enter Tryz.func106, Tryz.ntmps106
   go_upto_region 8 with (first
    | (refine wpList_load_row rfl 33 _ rfl A rfl 33 _ (0, 0) _ (u_ HRA) Tryz.underlying33 rfl hsz5 ?_)
    | (go_at_call 131; refine Hform.mono ?_; rintro e w2 ⟨rfl, hb2⟩
       have Hb02 := h_ (Hb1.trans (hb2.mono Hb1.size))
       obtain ⟨a0, a1, a2, a3, a4⟩ := u_ HC w2 hb2
       clear hb2))
   go_wp2
   exact bodyPost_ret (v := .tuple #[.slice none 0 0, .int .i64 24]) (by simp [results, Tryz.results106, go_sem]) rfl ⟨_, by rw [u_ HT]; rfl, u_ Hfin _, u_ Hb02⟩
  ·obtain ⟨l0, l0n⟩ := ltLV 0 0 K
   clear hF24
   go_enter Tryz.func106, Tryz.ntmps106
   go_upto_region 8 with (first
    | (refine wpList_load_row rfl 33 _ rfl A rfl 33 _ (0, 0) _ (u_ HRA) Tryz.underlying33 rfl hsz5 ?_)
    | (go_at_call 131; refine Hform.mono ?_; rintro e w2 ⟨rfl, hb2⟩
       have Hb02 := h_ (Hb1.trans (hb2.mono Hb1.size))
       obtain ⟨a0, a1, a2, a3, a4⟩ := u_ HC w2 hb2
       clear hb2))
   go_wp2
   exact bodyPost_ret (v := .tuple #[.slice none 0 0, .int .i64 24]) (by simp [results, Tryz.results106, go_sem]) rfl ⟨_, by rw [u_ HT]; rfl, u_ Hfin _, u_ Hb02⟩
 obtain rfl : F = 0 := by simp only [not_or, Decidable.not_not] at hF24; exact hF24.1
 have HU3 : Hid (writeP formD (f + 1) (.mk (cN : Int) (tN : Int) md bs ks) = match allP (writeP formD f) ks with
  | .no e => .no e
  | .yes dn => if (fallsP dn && decide ((cN : Int) = 0) && decide ((tN : Int) = 17)) = true then .no 25 else .yes (tagB cN tN md ++ lenB (bs ++ dn.flatten).length ++ (bs ++ dn.flatten))) := by show _ = _; rw [u_ HU2, if_neg hF21, if_neg hF24]; rfl
 have hmd : (md = true ∧ L = 0) ∨ (md = false ∧ K = 0) := by
  simp only [not_or, not_and, Nat.not_lt, Nat.le_zero] at hF24
  cases md with
  | true => exact Or.inl ⟨rfl, hF24.2.1 rfl⟩
  | false => exact Or.inr ⟨rfl, hF24.2.2 rfl⟩
 have Hmd := h_ hmd
 clear HU2 hF21 hF24 f21
 go_enter Tryz.func106, Tryz.ntmps106
 rcases hmd with ⟨rfl, rfl⟩ | ⟨rfl, rfl⟩
 ·go_wp2_with (first
   | (refine wpList_load_row rfl 33 _ rfl A rfl 33 _ (0, 0) _ (u_ HRA) Tryz.underlying33 rfl hsz5 ?_)
   | (go_at_call 131; refine Hform.mono ?_; rintro e w2 ⟨rfl, hb2⟩
      have HB2 := h_ hb2
      have Hb02 := h_ (Hb1.trans (hb2.mono Hb1.size))
      obtain ⟨a0, a1, a2, a3, a4⟩ := u_ HC w2 hb2
      have HR2 : Hid (Row w2 (w2.alloc (.cells #[] 5)) (.slice (some ⟨w2.heap.size, 0, none⟩) 0 0) []) := ⟨ownb_empty _, (Below.refl _ _).alloc (Nat.le_refl _) _⟩
      have HY2 : Hid (BytesAt (w2.alloc (.cells #[] 5)) (.slice spa 0 cpa) bs) := (HXA.below hb2).below ((Below.refl _ _).alloc (Nat.le_refl _) _)
      have o3 := (u_ HC (w2.alloc (.cells #[] 5)) (hb2.alloc hb2.size _)).2.2.2.1
      clear hb2)
   | (at_builtin; refine wpList_append_row rfl _ _ rfl (.slice (some ⟨w2.heap.size, 0, none⟩) 0 0) (.slice spa 0 cpa) [] bs rfl (u_ HR2) rfl (u_ HY2) (u_ Hl0) ?_
      intro v3 w3 hR3
      rw [List.nil_append] at hR3
      obtain ⟨s3, c3, rfl⟩ := hR3.own.form
      rw [u_ HL] at hR3
      have eL := u_ HL
      rw [eL]
      have HR3 := h_ hR3
      clear hR3 eL))
  have HW3 : Hid (WAt f ks bs w2 w3 s3 0 c3 (.slice none 0 0) [] false [] 0) := ⟨by rw [List.flatten_nil, List.append_nil]; exact u_ HR3, by rw [List.flatten_nil, List.append_nil]; exact u_ HL, ownb_nil _ _, fun k _ h => (by cases h), Or.inl ⟨rfl, rfl⟩, rfl, rfl, (prepA_nil _).symm, by rw [List.take_zero, all_end]⟩
  clear HR2 HY2 HR3 o3 a0 a1 a2 a3 a4 hw1
  go_loopw [7, 8, 9, 10] (fun bb ll ff ii wr => ∃ (i nB : Nat) (sB : Option Addr) (cB : Nat) (lx : Bs) (fl : Bool) (dn : List Bs) (lv : Value), i ≤ K ∧ bb = .slice sB nB cB ∧ ll = lv ∧ ff = .bool fl ∧ ii = .int .i64 (i : Int) ∧ Hid (WAt f ks bs w2 wr sB nB cB lv lx fl dn i)) (fun _ _ _ ii _ => K - (intOf ii).toNat)
  case atStart => exact ⟨0, 0, s3, c3, [], false, [], _, Nat.zero_le _, rfl, rfl, rfl, rfl, HW3⟩
  case round =>
   obtain ⟨i, nB, sB, cB, lx, fl, dn, lv, hi, rfl, hll, rfl, rfl, HW⟩ := hrel
   obtain rfl := hll.symm
   clear HW3
   have hBr : Below w1.heap.size w1 wr := HB2.trans (HW.row.b.mono HB2.size)
   obtain ⟨a0, a1, a2, a3, a4⟩ := u_ HC wr hBr
   have HBr := h_ hBr
   have HB0 := h_ (Hb1.trans (hBr.mono Hb1.size))
   have hnB : nB ≤ 9200000 := by
    have h1 := HW.nb
    have h2 := some_le f ks i dn (by have := u_ Hkws; omega) HW.took
    have h3 := u_ HL
    rw [List.length_append] at h1
    omega
   have nBb : (nB : Int) ≤ 9200000 := by omega
   clear hBr
   by_cases hlt : i < K
   ·obtain ⟨k, ba, oa, ds, rfl, hik, hkw, g1, v1⟩ := u_ Hkn i wr hlt (Hb1.trans (HBr.mono Hb1.size))
    obtain ⟨p1, q1, p2, q2, rfl⟩ := v1.form
    obtain ⟨x0, x1, x2, x3, x4⟩ := g1.five
    obtain ⟨d2, hd2⟩ := exq (d + 1)
    have ed2 : (d : Int) + 1 = (d2 : Int) := by omega
    have Hc := h_ (u_ Hih n S k wr _ d2 (by have := u_ Hd; omega) v1 hkw)
    have Hik := h_ hik
    have i0 : (0 : Int) ≤ (i : Int) := by omega
    have i1 : (i : Int) < (K : Int) := by omega
    have ib : (i : Int) ≤ 100000 := by omega
    obtain ⟨g3, g3n⟩ := ltVV i K
    unfold dcells at Hc
    clear g1 v1 hkw hik hd2
    obtain ⟨kc, kt, km, kl, kk, hkc, hkt, hkm, hkl3, hkk⟩ := ex5 k
    simp only [hkc, hkt, hkm, hkl3, hkk] at x0 x1 x2 x3 x4 Hc
    clear hkc hkt hkm hkl3 hkk
    go_wp2_with fail
    refine Hc.mono ?_
    rintro e w5 ⟨x5, rfl, hown5, hb5⟩
    have HB5 := h_ (HB0.trans (hb5.mono HB0.size))
    cases hk5 : writeP formD f k with
    | no x =>
     rw [hk5] at hown5
     simp only [errOf]
     have hx0 := write_pos formD f k x hk5
     have HT : Hid (writeP formD (f + 1) (.mk (cN : Int) (tN : Int) true bs ks) = .no x) := by show _ = _; rw [u_ HU3, HW.told, all_no dn (u_ Hik) hk5]
     have g4 : ((x : Int) == 0) = false := by simp; omega
     have g4' : ((x : Int) != 0) = true := by simp; omega
     obtain ⟨s5, c5, rfl⟩ := OwnB.form hown5
     clear hk5 hown5 hb5 Hc x0 x1 x2 x3 x4
     go_wp2
     refine bodyPost_ret (v := .tuple #[.slice none 0 0, .int .i64 (x : Int)]) (by simp [results, Tryz.results106, go_sem]) rfl ?_
     rw [u_ HT]
     exact ⟨_, rfl, ownb_nil _ _, u_ HB5⟩
    | yes y =>
     rw [hk5] at hown5
     simp only [errOf]
     simp only [bytesOf] at hown5
     obtain ⟨s5, c5, rfl⟩ := OwnB.form hown5
     obtain ⟨Y, hY⟩ := exq y.length
     rw [hY] at hown5 ⊢
     have HY := h_ hY
     have hYb : Y ≤ 900000 := by
      have h1 := out_le f k y (by have := u_ Hkw i k (u_ Hik); omega) hk5
      have h2 := u_ Hkw i k (u_ Hik)
      omega
     have Ho5 := h_ hown5
     have Hyes := h_ hk5
     have HR5 := h_ (HW.row.call hb5)
     have Hla5 := h_ (HW.last.below hb5)
     have Hapl := h_ HW.ap
     have Hap5 : Hid (Apart (.slice sB nB cB) (.slice s5 Y c5)) := fun g hg hg5 => by
      have h1 := (World.ownsRow.lt HW.row.own g hg).2
      have h2 := OwnV.fresh hown5 g hg5
      omega
     have HBy5 : Hid (Below wr.heap.size wr w5) := hb5
     clear hk5 hown5 hb5 hY Hc x0 x1 x2 x3 x4
     have Hlen5 : Hid ((bs ++ dn.flatten).length + y.length ≤ 1073741824) := by show _ ≤ _; rw [HW.nb, u_ HY]; omega
     cases fl with
     | true =>
      have hfl : fallsP (dn ++ [y]) = true := by rw [falls_snoc, ← HW.fl]; rfl
      have Hfl := h_ hfl
      clear hfl
      go_wp2_with (first
       | (at_builtin; refine wpList_append_grew rfl _ _ rfl (.slice sB nB cB) (.slice s5 Y c5) (bs ++ dn.flatten) y rfl (u_ HR5) rfl (OwnB.bytes (u_ Ho5)) (u_ Hlen5) ?_
          intro v7 w7 hR7 hG7
          obtain ⟨hol, hap⟩ := hG7.kept (u_ Hap5) (u_ Ho5)
          obtain ⟨s7, c7, rfl⟩ := hR7.own.form
          have e7 : (bs ++ dn.flatten ++ y).length = nB + Y := by { rw [List.length_append, HW.nb, u_ HY] }
          rw [e7] at hR7 hap
          rw [e7]
          have HR7 := h_ hR7
          have Hol7 := h_ hol
          have Hap7 := h_ hap
          clear hR7 hG7 hol hap e7))
      have HW7 : Hid (WAt f ks bs w2 w7 s7 (nB + Y) c7 (.slice s5 Y c5) y true (dn ++ [y]) (i + 1)) := HW.add (u_ Hik) (u_ Hyes) (u_ HR7) (u_ HY) (Hol7.mono (Nat.le_trans HW.row.b.size (Nat.le_refl _))) (u_ Hap7) Hfl.symm
      go_roundw
      case rel =>
       first
        | exact ⟨i + 1, nB + Y, s7, c7, y, true, dn ++ [y], .slice s5 Y c5, by omega, rfl, rfl, rfl, by go_num, HW7⟩
        | ((repeat apply Exists.intro); exact ⟨⟨i + 1, nB + Y, s7, c7, y, true, dn ++ [y], .slice s5 Y c5, by omega, rfl, rfl, rfl, by go_num, HW7⟩, rfl⟩)
      case measure => simp [intOf]; omega
     | false =>
      by_cases hi0 : i = 0
      ·subst hi0
       have hdn : dn = [] := List.eq_nil_of_length_eq_zero HW.len
       have hfl : fallsP (dn ++ [y]) = false := by rw [hdn]; rfl
       have Hfl := h_ hfl
       clear hfl hdn
       go_wp2_with (first
        | (at_builtin; refine wpList_append_grew rfl _ _ rfl (.slice sB nB cB) (.slice s5 Y c5) (bs ++ dn.flatten) y rfl (u_ HR5) rfl (OwnB.bytes (u_ Ho5)) (u_ Hlen5) ?_
           intro v7 w7 hR7 hG7
           obtain ⟨hol, hap⟩ := hG7.kept (u_ Hap5) (u_ Ho5)
           obtain ⟨s7, c7, rfl⟩ := hR7.own.form
           have e7 : (bs ++ dn.flatten ++ y).length = nB + Y := by { rw [List.length_append, HW.nb, u_ HY] }
           rw [e7] at hR7 hap
           rw [e7]
           have HR7 := h_ hR7
           have Hol7 := h_ hol
           have Hap7 := h_ hap
           clear hR7 hG7 hol hap e7))
       have HW7 : Hid (WAt f ks bs w2 w7 s7 (nB + Y) c7 (.slice s5 Y c5) y false (dn ++ [y]) (0 + 1)) := HW.add (u_ Hik) (u_ Hyes) (u_ HR7) (u_ HY) (Hol7.mono (Nat.le_trans HW.row.b.size (Nat.le_refl _))) (u_ Hap7) Hfl.symm
       go_roundw
       case rel =>
        first
         | exact ⟨0 + 1, nB + Y, s7, c7, y, false, dn ++ [y], .slice s5 Y c5, by omega, rfl, rfl, rfl, by go_num, HW7⟩
         | ((repeat apply Exists.intro); exact ⟨⟨0 + 1, nB + Y, s7, c7, y, false, dn ++ [y], .slice s5 Y c5, by omega, rfl, rfl, rfl, by go_num, HW7⟩, rfl⟩)
       case measure => simp [intOf]; omega
      ·obtain ⟨gi, gin⟩ := ltLV 0 0 i
       have hfl : fallsP (dn ++ [y]) = lessP y lx := by
        rcases HW.lst with ⟨h1, _⟩ | ⟨d0, h1⟩
        ·have := HW.len; rw [h1] at this; simp at this; omega
        ·have h2 := HW.fl
         rw [h1] at h2 ⊢
         rw [falls_next, ← h2]
         rfl
       have hlx : lx.length ≤ 9000000 := by
        rcases HW.lst with ⟨_, h1⟩ | ⟨d0, h1⟩
        ·rw [h1]; simp
        ·have h2 := some_le f ks i dn (by have := u_ Hkws; omega) HW.took
         rw [h1] at h2
         simp only [List.flatten_append, List.length_append, List.flatten_cons, List.flatten_nil, List.append_nil] at h2
         omega
       have Hless := h_ (less_any w5 (.slice s5 Y c5) lv y lx (OwnB.bytes (u_ Ho5)) (OwnB.bytes (u_ Hla5)) (by rw [u_ HY]; omega) (by omega))
       obtain ⟨le, hle⟩ := exq (lessP y lx)
       rw [hle] at hfl Hless
       have Hfl := h_ hfl
       clear hfl hle hlx
       go_upto_region 20 with (first
        | (go_at_call 132; refine Hless.mono ?_; rintro e w6 ⟨rfl, hb6⟩
           have HR6 := h_ (HR5.call hb6)
           have Ho6 := h_ (Ho5.below hb6)
           clear hb6))
       go_wp2_with (first
        | (at_builtin; refine wpList_append_grew rfl _ _ rfl (.slice sB nB cB) (.slice s5 Y c5) (bs ++ dn.flatten) y rfl (u_ HR6) rfl (OwnB.bytes (u_ Ho6)) (u_ Hlen5) ?_
           intro v7 w7 hR7 hG7
           obtain ⟨hol, hap⟩ := hG7.kept (u_ Hap5) (u_ Ho6)
           obtain ⟨s7, c7, rfl⟩ := hR7.own.form
           have e7 : (bs ++ dn.flatten ++ y).length = nB + Y := by { rw [List.length_append, HW.nb, u_ HY] }
           rw [e7] at hR7 hap
           rw [e7]
           have HR7 := h_ hR7
           have Hol7 := h_ hol
           have Hap7 := h_ hap
           clear hR7 hG7 hol hap e7))
       have HW7 : Hid (WAt f ks bs w2 w7 s7 (nB + Y) c7 (.slice s5 Y c5) y le (dn ++ [y]) (i + 1)) := HW.add (u_ Hik) (u_ Hyes) (u_ HR7) (u_ HY) (Hol7.mono (Nat.le_trans HW.row.b.size (Nat.le_refl _))) (u_ Hap7) Hfl.symm
       go_roundw
       case rel =>
        first
         | exact ⟨i + 1, nB + Y, s7, c7, y, le, dn ++ [y], .slice s5 Y c5, by omega, rfl, rfl, rfl, by go_num, HW7⟩
         | ((repeat apply Exists.intro); exact ⟨⟨i + 1, nB + Y, s7, c7, y, le, dn ++ [y], .slice s5 Y c5, by omega, rfl, rfl, rfl, by go_num, HW7⟩, rfl⟩)
       case measure => simp [intOf]; omega
   ·obtain rfl : i = K := by omega
    have hal : allP (writeP formD f) ks = .yes dn := by rw [HW.told]; have h1 := all_done (g := writeP formD f) (ks := ks) dn; rw [u_ HK] at h1; exact h1
    have hU4 := u_ HU3
    rw [hal] at hU4
    simp only [] at hU4
    rw [HW.nb, ← HW.fl] at hU4
    have HU4 := h_ hU4
    have g3 : decide ((i : Int) < (i : Int)) = false := by simp
    have HRAr : Hid (wr.heap[A]? = some (.cells #[.int .i64 (cN : Int), .int .i64 (tN : Int), .bool true, .slice spa 0 cpa, .slice sa i na] 33 (0, 0))) := by show _ = _; rw [HBr.block A (Array.getElem?_eq_some_iff.1 (u_ HRA)).1]; exact u_ HRA
    clear hal hU4 HU3
    by_cases hff : (fl && decide ((cN : Int) = 0) && decide ((tN : Int) = 17)) = true
    case pos =>
     have HT : Hid (writeP formD (f + 1) (.mk (cN : Int) (tN : Int) true bs ks) = .no 25) := by show _ = _; rw [u_ HU4, if_pos hff]
     simp only [Bool.and_eq_true, decide_eq_true_eq] at hff
     obtain ⟨⟨rfl, hc0⟩, ht17⟩ := hff
     have m0 : ((cN : Int) == 0) = true := by simp; omega
     have m1 : ((tN : Int) == 17) = true := by simp; omega
     clear hc0 ht17
     go_wp2
     refine bodyPost_ret (v := .tuple #[.slice none 0 0, .int .i64 25]) (by simp [results, Tryz.results106, go_sem]) rfl ?_
     rw [u_ HT]
     exact ⟨_, rfl, ownb_nil _ _, by first | exact u_ HB0 | (rw [← u_ HA]; exact u_ HB0)⟩
    have HT : Hid (writeP formD (f + 1) (.mk (cN : Int) (tN : Int) true bs ks) = .yes (tagB cN tN true ++ lenB nB ++ (bs ++ dn.flatten))) := by show _ = _; rw [u_ HU4, if_neg hff]
    have Hhead := h_ (head_any wr cN tN nB true HcN.1 HcN.2 (by omega) spa 0 cpa sa i na)
    have Hlt : Hid ((tagB cN tN true ++ lenB nB).length + (bs ++ dn.flatten).length ≤ 1073741824) := by
     show _ ≤ _
     rw [List.length_append, HW.nb]
     have h1 := len_tagB_le cN tN true
     have h2 := lenB_le (n := nB) (by omega)
     omega
    obtain ⟨TH, hTH⟩ := exq (tagB cN tN true ++ lenB nB : Bs)
    rw [hTH] at HT Hlt Hhead
    obtain ⟨TN, hTN⟩ := exq TH.length
    have HTN := h_ hTN
    clear HU4 hTH hTN
    rcases (by cases fl <;> simp at hff ⊢ <;> omega : fl = false ∨ (fl = true ∧ cN ≠ 0) ∨ (fl = true ∧ cN = 0 ∧ tN ≠ 17)) with rfl | ⟨rfl, hc0⟩ | ⟨rfl, hc0, ht17⟩
    ·clear hff
     go_upto_region 24 with fail
     go_wp2_with (first | (refine wpList_load_row rfl 33 _ rfl A rfl 33 _ (0, 0) _ (u_ HRAr) Tryz.underlying33 rfl hsz5 ?_) | fail)
     refine Hhead.mono ?_
     rintro e w7 ⟨v7, rfl, hR7⟩
     obtain ⟨s7, c7, rfl⟩ := hR7.own.form
     rw [u_ HTN] at hR7
     have eTN := u_ HTN
     rw [eTN]
     have HR7 := h_ hR7
     have HBy := h_ (HW.row.bytes.below hR7.b)
     clear hR7 eTN Hhead
     go_wp2_with (first
      | (at_builtin; refine wpList_append_row rfl _ _ rfl (.slice s7 TN c7) (.slice sB nB cB) TH (bs ++ dn.flatten) rfl (u_ HR7) rfl (u_ HBy) (u_ Hlt) ?_
         intro v8 w8 hR8
         have HR8 := h_ hR8
         clear hR8))
     have hR9 := HR8.up (u_ HB0)
     refine bodyPost_ret (v := .tuple #[v8, .int .i64 0]) (by simp [results, Tryz.results106, go_sem]) rfl ?_
     rw [u_ HT]
     exact ⟨v8, rfl, hR9.own, hR9.b⟩
    ·have m0 : ((cN : Int) == 0) = false := by simp; omega
     clear hff hc0
     go_upto_region 24 with fail
     go_wp2_with (first | (refine wpList_load_row rfl 33 _ rfl A rfl 33 _ (0, 0) _ (u_ HRAr) Tryz.underlying33 rfl hsz5 ?_) | fail)
     refine Hhead.mono ?_
     rintro e w7 ⟨v7, rfl, hR7⟩
     obtain ⟨s7, c7, rfl⟩ := hR7.own.form
     rw [u_ HTN] at hR7
     have eTN := u_ HTN
     rw [eTN]
     have HR7 := h_ hR7
     have HBy := h_ (HW.row.bytes.below hR7.b)
     clear hR7 eTN Hhead
     go_wp2_with (first
      | (at_builtin; refine wpList_append_row rfl _ _ rfl (.slice s7 TN c7) (.slice sB nB cB) TH (bs ++ dn.flatten) rfl (u_ HR7) rfl (u_ HBy) (u_ Hlt) ?_
         intro v8 w8 hR8
         have HR8 := h_ hR8
         clear hR8))
     have hR9 := HR8.up (u_ HB0)
     refine bodyPost_ret (v := .tuple #[v8, .int .i64 0]) (by simp [results, Tryz.results106, go_sem]) rfl ?_
     rw [u_ HT]
     exact ⟨v8, rfl, hR9.own, hR9.b⟩
    ·have m0 : ((cN : Int) == 0) = true := by simp; omega
     have m1 : ((tN : Int) == 17) = false := by simp; omega
     clear hff hc0 ht17
     go_upto_region 24 with fail
     go_wp2_with (first | (refine wpList_load_row rfl 33 _ rfl A rfl 33 _ (0, 0) _ (u_ HRAr) Tryz.underlying33 rfl hsz5 ?_) | fail)
     refine Hhead.mono ?_
     rintro e w7 ⟨v7, rfl, hR7⟩
     obtain ⟨s7, c7, rfl⟩ := hR7.own.form
     rw [u_ HTN] at hR7
     have eTN := u_ HTN
     rw [eTN]
     have HR7 := h_ hR7
     have HBy := h_ (HW.row.bytes.below hR7.b)
     clear hR7 eTN Hhead
     go_wp2_with (first
      | (at_builtin; refine wpList_append_row rfl _ _ rfl (.slice s7 TN c7) (.slice sB nB cB) TH (bs ++ dn.flatten) rfl (u_ HR7) rfl (u_ HBy) (u_ Hlt) ?_
         intro v8 w8 hR8
         have HR8 := h_ hR8
         clear hR8))
     have hR9 := HR8.up (u_ HB0)
     refine bodyPost_ret (v := .tuple #[v8, .int .i64 0]) (by simp [results, Tryz.results106, go_sem]) rfl ?_
     rw [u_ HT]
     exact ⟨v8, rfl, hR9.own, hR9.b⟩
 ·go_wp2_with (first
   | (refine wpList_load_row rfl 33 _ rfl A rfl 33 _ (0, 0) _ (u_ HRA) Tryz.underlying33 rfl hsz5 ?_)
   | (go_at_call 131; refine Hform.mono ?_; rintro e w2 ⟨rfl, hb2⟩
      have HB2 := h_ hb2
      have Hb02 := h_ (Hb1.trans (hb2.mono Hb1.size))
      obtain ⟨a0, a1, a2, a3, a4⟩ := u_ HC w2 hb2
      have HR2 : Hid (Row w2 (w2.alloc (.cells #[] 5)) (.slice (some ⟨w2.heap.size, 0, none⟩) 0 0) []) := ⟨ownb_empty _, (Below.refl _ _).alloc (Nat.le_refl _) _⟩
      have HY2 : Hid (BytesAt (w2.alloc (.cells #[] 5)) (.slice spa L cpa) bs) := (HXA.below hb2).below ((Below.refl _ _).alloc (Nat.le_refl _) _)
      have o3 := (u_ HC (w2.alloc (.cells #[] 5)) (hb2.alloc hb2.size _)).2.2.2.1
      clear hb2)
   | (at_builtin; refine wpList_append_row rfl _ _ rfl (.slice (some ⟨w2.heap.size, 0, none⟩) 0 0) (.slice spa L cpa) [] bs rfl (u_ HR2) rfl (u_ HY2) (u_ Hl0) ?_
      intro v3 w3 hR3
      rw [List.nil_append] at hR3
      obtain ⟨s3, c3, rfl⟩ := hR3.own.form
      rw [u_ HL] at hR3
      have eL := u_ HL
      rw [eL]
      have HR3 := h_ hR3
      clear hR3 eL))
  have HW3 : Hid (WAt f ks bs w2 w3 s3 L c3 (.slice none 0 0) [] false [] 0) := ⟨by rw [List.flatten_nil, List.append_nil]; exact u_ HR3, by rw [List.flatten_nil, List.append_nil]; exact u_ HL, ownb_nil _ _, fun k _ h => (by cases h), Or.inl ⟨rfl, rfl⟩, rfl, rfl, (prepA_nil _).symm, by rw [List.take_zero, all_end]⟩
  clear HR2 HY2 HR3 o3 a0 a1 a2 a3 a4 hw1
  go_loopw [7, 8, 9, 10] (fun bb ll ff ii wr => ∃ (i nB : Nat) (sB : Option Addr) (cB : Nat) (lx : Bs) (fl : Bool) (dn : List Bs) (lv : Value), i ≤ 0 ∧ bb = .slice sB nB cB ∧ ll = lv ∧ ff = .bool fl ∧ ii = .int .i64 (i : Int) ∧ Hid (WAt f ks bs w2 wr sB nB cB lv lx fl dn i)) (fun _ _ _ ii _ => 0 - (intOf ii).toNat)
  case atStart => exact ⟨0, L, s3, c3, [], false, [], _, Nat.zero_le _, rfl, rfl, rfl, rfl, HW3⟩
  case round =>
   obtain ⟨i, nB, sB, cB, lx, fl, dn, lv, hi, rfl, hll, rfl, rfl, HW⟩ := hrel
   obtain rfl := hll.symm
   clear HW3
   have hBr : Below w1.heap.size w1 wr := HB2.trans (HW.row.b.mono HB2.size)
   obtain ⟨a0, a1, a2, a3, a4⟩ := u_ HC wr hBr
   have HBr := h_ hBr
   have HB0 := h_ (Hb1.trans (hBr.mono Hb1.size))
   have hnB : nB ≤ 9200000 := by
    have h1 := HW.nb
    have h2 := some_le f ks i dn (by have := u_ Hkws; omega) HW.took
    have h3 := u_ HL
    rw [List.length_append] at h1
    omega
   have nBb : (nB : Int) ≤ 9200000 := by omega
   clear hBr
   by_cases hlt : i < 0
   ·omega
   ·obtain rfl : i = 0 := by omega
    have hal : allP (writeP formD f) ks = .yes dn := by rw [HW.told]; have h1 := all_done (g := writeP formD f) (ks := ks) dn; rw [u_ HK] at h1; exact h1
    have hU4 := u_ HU3
    rw [hal] at hU4
    simp only [] at hU4
    rw [HW.nb, ← HW.fl] at hU4
    have HU4 := h_ hU4
    have g3 : decide ((0 : Int) < (0 : Int)) = false := by simp
    have HRAr : Hid (wr.heap[A]? = some (.cells #[.int .i64 (cN : Int), .int .i64 (tN : Int), .bool false, .slice spa L cpa, .slice sa 0 na] 33 (0, 0))) := by show _ = _; rw [HBr.block A (Array.getElem?_eq_some_iff.1 (u_ HRA)).1]; exact u_ HRA
    clear hal hU4 HU3
    by_cases hff : (fl && decide ((cN : Int) = 0) && decide ((tN : Int) = 17)) = true
    case pos =>
     have HT : Hid (writeP formD (f + 1) (.mk (cN : Int) (tN : Int) false bs ks) = .no 25) := by show _ = _; rw [u_ HU4, if_pos hff]
     simp only [Bool.and_eq_true, decide_eq_true_eq] at hff
     obtain ⟨⟨rfl, hc0⟩, ht17⟩ := hff
     have m0 : ((cN : Int) == 0) = true := by simp; omega
     have m1 : ((tN : Int) == 17) = true := by simp; omega
     clear hc0 ht17
     go_wp2
     refine bodyPost_ret (v := .tuple #[.slice none 0 0, .int .i64 25]) (by simp [results, Tryz.results106, go_sem]) rfl ?_
     rw [u_ HT]
     exact ⟨_, rfl, ownb_nil _ _, by first | exact u_ HB0 | (rw [← u_ HA]; exact u_ HB0)⟩
    have HT : Hid (writeP formD (f + 1) (.mk (cN : Int) (tN : Int) false bs ks) = .yes (tagB cN tN false ++ lenB nB ++ (bs ++ dn.flatten))) := by show _ = _; rw [u_ HU4, if_neg hff]
    have Hhead := h_ (head_any wr cN tN nB false HcN.1 HcN.2 (by omega) spa L cpa sa 0 na)
    have Hlt : Hid ((tagB cN tN false ++ lenB nB).length + (bs ++ dn.flatten).length ≤ 1073741824) := by
     show _ ≤ _
     rw [List.length_append, HW.nb]
     have h1 := len_tagB_le cN tN false
     have h2 := lenB_le (n := nB) (by omega)
     omega
    obtain ⟨TH, hTH⟩ := exq (tagB cN tN false ++ lenB nB : Bs)
    rw [hTH] at HT Hlt Hhead
    obtain ⟨TN, hTN⟩ := exq TH.length
    have HTN := h_ hTN
    clear HU4 hTH hTN
    rcases (by cases fl <;> simp at hff ⊢ <;> omega : fl = false ∨ (fl = true ∧ cN ≠ 0) ∨ (fl = true ∧ cN = 0 ∧ tN ≠ 17)) with rfl | ⟨rfl, hc0⟩ | ⟨rfl, hc0, ht17⟩
    ·clear hff
     go_upto_region 24 with fail
     go_wp2_with (first | (refine wpList_load_row rfl 33 _ rfl A rfl 33 _ (0, 0) _ (u_ HRAr) Tryz.underlying33 rfl hsz5 ?_) | fail)
     refine Hhead.mono ?_
     rintro e w7 ⟨v7, rfl, hR7⟩
     obtain ⟨s7, c7, rfl⟩ := hR7.own.form
     rw [u_ HTN] at hR7
     have eTN := u_ HTN
     rw [eTN]
     have HR7 := h_ hR7
     have HBy := h_ (HW.row.bytes.below hR7.b)
     clear hR7 eTN Hhead
     go_wp2_with (first
      | (at_builtin; refine wpList_append_row rfl _ _ rfl (.slice s7 TN c7) (.slice sB nB cB) TH (bs ++ dn.flatten) rfl (u_ HR7) rfl (u_ HBy) (u_ Hlt) ?_
         intro v8 w8 hR8
         have HR8 := h_ hR8
         clear hR8))
     have hR9 := HR8.up (u_ HB0)
     refine bodyPost_ret (v := .tuple #[v8, .int .i64 0]) (by simp [results, Tryz.results106, go_sem]) rfl ?_
     rw [u_ HT]
     exact ⟨v8, rfl, hR9.own, hR9.b⟩
    ·have m0 : ((cN : Int) == 0) = false := by simp; omega
     clear hff hc0
     go_upto_region 24 with fail
     go_wp2_with (first | (refine wpList_load_row rfl 33 _ rfl A rfl 33 _ (0, 0) _ (u_ HRAr) Tryz.underlying33 rfl hsz5 ?_) | fail)
     refine Hhead.mono ?_
     rintro e w7 ⟨v7, rfl, hR7⟩
     obtain ⟨s7, c7, rfl⟩ := hR7.own.form
     rw [u_ HTN] at hR7
     have eTN := u_ HTN
     rw [eTN]
     have HR7 := h_ hR7
     have HBy := h_ (HW.row.bytes.below hR7.b)
     clear hR7 eTN Hhead
     go_wp2_with (first
      | (at_builtin; refine wpList_append_row rfl _ _ rfl (.slice s7 TN c7) (.slice sB nB cB) TH (bs ++ dn.flatten) rfl (u_ HR7) rfl (u_ HBy) (u_ Hlt) ?_
         intro v8 w8 hR8
         have HR8 := h_ hR8
         clear hR8))
     have hR9 := HR8.up (u_ HB0)
     refine bodyPost_ret (v := .tuple #[v8, .int .i64 0]) (by simp [results, Tryz.results106, go_sem]) rfl ?_
     rw [u_ HT]
     exact ⟨v8, rfl, hR9.own, hR9.b⟩
    ·have m0 : ((cN : Int) == 0) = true := by simp; omega
     have m1 : ((tN : Int) == 17) = false := by simp; omega
     clear hff hc0 ht17
     go_upto_region 24 with fail
     go_wp2_with (first | (refine wpList_load_row rfl 33 _ rfl A rfl 33 _ (0, 0) _ (u_ HRAr) Tryz.underlying33 rfl hsz5 ?_) | fail)
     refine Hhead.mono ?_
     rintro e w7 ⟨v7, rfl, hR7⟩
     obtain ⟨s7, c7, rfl⟩ := hR7.own.form
     rw [u_ HTN] at hR7
     have eTN := u_ HTN
     rw [eTN]
     have HR7 := h_ hR7
     have HBy := h_ (HW.row.bytes.below hR7.b)
     clear hR7 eTN Hhead
     go_wp2_with (first
      | (at_builtin; refine wpList_append_row rfl _ _ rfl (.slice s7 TN c7) (.slice sB nB cB) TH (bs ++ dn.flatten) rfl (u_ HR7) rfl (u_ HBy) (u_ Hlt) ?_
         intro v8 w8 hR8
         have HR8 := h_ hR8
         clear hR8))
     have hR9 := HR8.up (u_ HB0)
     refine bodyPost_ret (v := .tuple #[v8, .int .i64 0]) (by simp [results, Tryz.results106, go_sem]) rfl ?_
     rw [u_ HT]
     exact ⟨v8, rfl, hR9.own, hR9.b⟩
theorem writes_all : ∀ f, Writes f
 | 0 => writes_zero
 | f + 1 => writes_succ f (writes_all f)
theorem write_ref (n : Nat) (S : Nat → Prop) (v : DV) (w : World) (cs : List Value) (hv : VAt n S w cs v) (hw : weight v ≤ 100000) :
  Calls Tryz.prog 82 #[.agg cs.toArray] w fun e w' => ∃ x, e = .returned (.tuple #[x, .int .i64 (errOf (writeTop formD v) : Int)]) ∧ OwnB w' w.heap.size x (bytesOf (writeTop formD v)) ∧ Below w.heap.size w w' := by
 obtain ⟨p1, q1, p2, q2, rfl⟩ := hv.form
 have HV := h_ hv
 unfold dcells at HV ⊢
 obtain ⟨kc, kt, km, kl, kk, hkc, hkt, hkm, hkl, hkk⟩ := ex5 v
 simp only [hkc, hkt, hkm, hkl, hkk] at HV ⊢
 clear hkc hkt hkm hkl hkk hv
 obtain ⟨w1, hw1⟩ := exq (w.alloc (.cells #[.int .i64 kc, .int .i64 kt, .bool km, .slice p1 kl q1, .slice p2 kk q2] 33))
 have hb1 := allocB hw1
 have HRA : Hid (w1.heap[w.heap.size]? = some (.cells #[.int .i64 kc, .int .i64 kt, .bool km, .slice p1 kl q1, .slice p2 kk q2] 33 (0, 0))) := by show _ = _; rw [← hw1]; exact heap_alloc_new w _
 have Hb1 := h_ hb1
 have Hc := h_ (writes_all 17 n S v w1 _ 0 rfl (HV.below hb1) hw)
 obtain ⟨A, hA⟩ := exq w.heap.size
 have HA := h_ hA
 rw [hA] at HRA
 have hsz5 : (Tryz.prog.info? 33).map (·.size) = some 5 := by kernel_rfl
 have HU : Hid (writeTop formD v = match writeP formD 17 v with | .no e => .no e | .yes b => if 65536 < b.length then .no 54 else .yes b) := rfl
 have Hout : Hid (∀ b, writeP formD 17 v = .yes b → b.length ≤ 900000) := fun b hb => by have := out_le 17 v b (by omega) hb; omega
 obtain ⟨T, hT⟩ := exq (writeTop formD v)
 rw [hT] at HU ⊢
 clear hb1 HV hw hT
 go_enter Tryz.func82, Tryz.ntmps82
 go_wp2_with (first | (refine wpList_load_row rfl 33 _ rfl A rfl 33 _ (0, 0) _ (u_ HRA) Tryz.underlying33 rfl hsz5 ?_) | fail)
 refine Hc.mono ?_
 rintro e w2 ⟨x, rfl, hown, hb2⟩
 have hB := Hb1.trans (hb2.mono Hb1.size)
 have HB := h_ hB
 have hown1 : OwnB w2 w.heap.size x (bytesOf (writeP formD 17 v)) := OwnB.mono hown Hb1.size
 clear hb2 hown hB Hc hw1
 cases hk : writeP formD 17 v with
 | no e =>
  rw [hk] at hown1
  have he0 := write_pos formD 17 v e hk
  have HT : Hid (T = .no e) := by show _ = _; rw [u_ HU, hk]
  simp only [errOf]
  have g1 : ((e : Int) == 0) = false := by simp; omega
  obtain ⟨s5, c5, rfl⟩ := OwnB.form hown1
  simp only [bytesOf, List.length_nil] at hown1 ⊢
  have Ho := h_ hown1
  clear hk hown1 HU
  go_wp2
  refine bodyPost_ret (v := .tuple #[.slice s5 0 c5, .int .i64 (e : Int)]) (by simp [results, Tryz.results82, go_sem]) rfl ?_
  rw [u_ HT]
  exact ⟨_, rfl, by first | exact u_ Ho | (rw [← u_ HA]; exact u_ Ho), by first | exact u_ HB | (rw [← u_ HA]; exact u_ HB)⟩
 | yes b =>
  rw [hk] at hown1
  have hbl := u_ Hout b hk
  have HU2 : Hid (T = if 65536 < b.length then .no 54 else .yes b) := by show _ = _; rw [u_ HU, hk]
  simp only [errOf]
  obtain ⟨s5, c5, rfl⟩ := OwnB.form hown1
  simp only [bytesOf] at hown1 ⊢
  have Ho := h_ hown1
  obtain ⟨L, hL⟩ := exq b.length
  rw [hL] at Ho HU2 hbl ⊢
  clear hk hown1 HU hL
  by_cases hbig : 65536 < L
  ·obtain ⟨g1, g1n⟩ := ltLV 65536 65536 L
   have HT : Hid (T = .no 54) := by show _ = _; rw [u_ HU2, if_pos hbig]
   clear HU2
   go_wp2
   refine bodyPost_ret (v := .tuple #[.slice none 0 0, .int .i64 54]) (by simp [results, Tryz.results82, go_sem]) rfl ?_
   rw [u_ HT]
   exact ⟨_, rfl, ownb_nil _ _, by first | exact u_ HB | (rw [← u_ HA]; exact u_ HB)⟩
  ·obtain ⟨g1, g1n⟩ := ltLVf 65536 65536 L
   have HT : Hid (T = .yes b) := by show _ = _; rw [u_ HU2, if_neg hbig]
   clear HU2
   go_wp2
   refine bodyPost_ret (v := .tuple #[.slice s5 L c5, .int .i64 0]) (by simp [results, Tryz.results82, go_sem]) rfl ?_
   rw [u_ HT]
   exact ⟨_, rfl, by first | exact u_ Ho | (rw [← u_ HA]; exact u_ Ho), by first | exact u_ HB | (rw [← u_ HA]; exact u_ HB)⟩
end Go.Proofs.YtcofnockikninaaGreatDoor
