/-
  The walks of the landed Printable, isPrintable, isASCII (with slices.ContainsFunc, IndexFunc).
-/
import Derived.Test.YtcofnockikninabGreatDoorKp
namespace Go.Proofs.YtcofnockikninabGreatDoor
open Go.RowKit
namespace K
theorem print_cases : ∀ c : Fin 256, printP (UInt8.ofNat c.val) = ((decide (65 ≤ c.val) && decide (c.val ≤ 90)) || (decide (97 ≤ c.val) && decide (c.val ≤ 122)) || (decide (48 ≤ c.val) && decide (c.val ≤ 57)) || [32, 39, 40, 41, 43, 44, 45, 46, 47, 58, 61, 63].contains c.val) := by decide +kernel
theorem print_eq (c : UInt8) : printP c = ((decide (65 ≤ c.toNat) && decide (c.toNat ≤ 90)) || (decide (97 ≤ c.toNat) && decide (c.toNat ≤ 122)) || (decide (48 ≤ c.toNat) && decide (c.toNat ≤ 57)) || [32, 39, 40, 41, 43, 44, 45, 46, 47, 58, 61, 63].contains c.toNat) := by
  have h := print_cases ⟨c.toNat, c.toNat_lt⟩
  rw [UInt8.ofNat_toNat] at h
  exact h
set_option maxRecDepth 100000 in
set_option maxHeartbeats 16000000 in
theorem print_c (c : UInt8) (w : World) : Calls Tryz.prog 86 #[.int .u8 (c.toNat : Int)] w fun e w' => e = .returned (.bool (printP c)) ∧ w' = w := by
  rw [print_eq]
  have hlt := c.toNat_lt
  obtain ⟨p, hp⟩ : ∃ p, c.toNat = p := ⟨_, rfl⟩
  rw [hp] at hlt ⊢
  clear hp
  by_cases hA : 65 ≤ p ∧ p ≤ 90
  · have HT : Hid ((decide (65 ≤ p) && decide (p ≤ 90) || decide (97 ≤ p) && decide (p ≤ 122) || decide (48 ≤ p) && decide (p ≤ 57) || [32, 39, 40, 41, 43, 44, 45, 46, 47, 58, 61, 63].contains p) = true) := by show _ = _; simp [hA.1, hA.2]
    have d1 : decide ((65 : Int) ≤ (p : Int)) = true := by simp; omega
    have d1n : decide (65 ≤ p) = true := by simp; omega
    have d2 : decide ((p : Int) ≤ 90) = true := by simp; omega
    have d2n : decide (p ≤ 90) = true := by simp; omega
    clear hA
    go_enter Tryz.func86, Tryz.ntmps86
    go_wp2
    go_ret
    exact ⟨by rw [unhide HT]; rfl, rfl⟩
  by_cases ha : 97 ≤ p ∧ p ≤ 122
  · have HT : Hid ((decide (65 ≤ p) && decide (p ≤ 90) || decide (97 ≤ p) && decide (p ≤ 122) || decide (48 ≤ p) && decide (p ≤ 57) || [32, 39, 40, 41, 43, 44, 45, 46, 47, 58, 61, 63].contains p) = true) := by show _ = _; simp [ha.1, ha.2]
    have d1 : decide ((65 : Int) ≤ (p : Int)) = true := by simp; omega
    have d1n : decide (65 ≤ p) = true := by simp; omega
    have d2 : decide ((p : Int) ≤ 90) = false := by simp; omega
    have d2n : decide (p ≤ 90) = false := by simp; omega
    have d3 : decide ((97 : Int) ≤ (p : Int)) = true := by simp; omega
    have d3n : decide (97 ≤ p) = true := by simp; omega
    have d4 : decide ((p : Int) ≤ 122) = true := by simp; omega
    have d4n : decide (p ≤ 122) = true := by simp; omega
    clear hA ha
    go_enter Tryz.func86, Tryz.ntmps86
    go_wp2
    go_ret
    exact ⟨by rw [unhide HT]; rfl, rfl⟩
  by_cases h0 : 48 ≤ p ∧ p ≤ 57
  · have HT : Hid ((decide (65 ≤ p) && decide (p ≤ 90) || decide (97 ≤ p) && decide (p ≤ 122) || decide (48 ≤ p) && decide (p ≤ 57) || [32, 39, 40, 41, 43, 44, 45, 46, 47, 58, 61, 63].contains p) = true) := by show _ = _; simp [h0.1, h0.2]
    have d1 : decide ((65 : Int) ≤ (p : Int)) = false := by simp; omega
    have d1n : decide (65 ≤ p) = false := by simp; omega
    have d3 : decide ((97 : Int) ≤ (p : Int)) = false := by simp; omega
    have d3n : decide (97 ≤ p) = false := by simp; omega
    have d5 : decide ((48 : Int) ≤ (p : Int)) = true := by simp; omega
    have d5n : decide (48 ≤ p) = true := by simp; omega
    have d6 : decide ((p : Int) ≤ 57) = true := by simp; omega
    have d6n : decide (p ≤ 57) = true := by simp; omega
    clear hA ha h0
    go_enter Tryz.func86, Tryz.ntmps86
    go_wp2
    go_ret
    exact ⟨by rw [unhide HT]; rfl, rfl⟩
  by_cases hs : p = 32 ∨ p = 39 ∨ p = 40 ∨ p = 41 ∨ p = 43 ∨ p = 44 ∨ p = 45 ∨ p = 46 ∨ p = 47 ∨ p = 58 ∨ p = 61 ∨ p = 63
  · clear hA ha h0
    rcases hs with rfl | rfl | rfl | rfl | rfl | rfl | rfl | rfl | rfl | rfl | rfl | rfl <;>
    · go_enter Tryz.func86, Tryz.ntmps86
      go_wp2
      go_ret
      exact ⟨rfl, rfl⟩
  · have HT : Hid ((decide (65 ≤ p) && decide (p ≤ 90) || decide (97 ≤ p) && decide (p ≤ 122) || decide (48 ≤ p) && decide (p ≤ 57) || [32, 39, 40, 41, 43, 44, 45, 46, 47, 58, 61, 63].contains p) = false) := by
      show _ = _
      have e1 : (decide (65 ≤ p) && decide (p ≤ 90)) = false := by simp; omega
      have e2 : (decide (97 ≤ p) && decide (p ≤ 122)) = false := by simp; omega
      have e3 : (decide (48 ≤ p) && decide (p ≤ 57)) = false := by simp; omega
      rw [e1, e2, e3]
      simp
      omega
    have e32 : ((p : Int) == 32) = false := by simp; omega
    have e39 : ((p : Int) == 39) = false := by simp; omega
    have e40 : ((p : Int) == 40) = false := by simp; omega
    have e41 : ((p : Int) == 41) = false := by simp; omega
    have e43 : ((p : Int) == 43) = false := by simp; omega
    have e44 : ((p : Int) == 44) = false := by simp; omega
    have e45 : ((p : Int) == 45) = false := by simp; omega
    have e46 : ((p : Int) == 46) = false := by simp; omega
    have e47 : ((p : Int) == 47) = false := by simp; omega
    have e58 : ((p : Int) == 58) = false := by simp; omega
    have e61 : ((p : Int) == 61) = false := by simp; omega
    have e63 : ((p : Int) == 63) = false := by simp; omega
    obtain ⟨u1, hu1⟩ : ∃ u, decide ((65 : Int) ≤ (p : Int)) = u := ⟨_, rfl⟩
    rcases (by omega : p < 48 ∨ (57 < p ∧ p < 65) ∨ (90 < p ∧ p < 97) ∨ 122 < p) with h | h | h | h
    · have d1 : decide ((65 : Int) ≤ (p : Int)) = false := by simp; omega
      have d1n : decide (65 ≤ p) = false := by simp; omega
      have d3 : decide ((97 : Int) ≤ (p : Int)) = false := by simp; omega
      have d3n : decide (97 ≤ p) = false := by simp; omega
      have d5 : decide ((48 : Int) ≤ (p : Int)) = false := by simp; omega
      have d5n : decide (48 ≤ p) = false := by simp; omega
      clear hA ha h0 h hs hu1 u1
      go_enter Tryz.func86, Tryz.ntmps86
      go_wp2
      go_ret
      exact ⟨by rw [unhide HT]; rfl, rfl⟩
    · have d1 : decide ((65 : Int) ≤ (p : Int)) = false := by simp; omega
      have d1n : decide (65 ≤ p) = false := by simp; omega
      have d3 : decide ((97 : Int) ≤ (p : Int)) = false := by simp; omega
      have d3n : decide (97 ≤ p) = false := by simp; omega
      have d5 : decide ((48 : Int) ≤ (p : Int)) = true := by simp; omega
      have d5n : decide (48 ≤ p) = true := by simp; omega
      have d6 : decide ((p : Int) ≤ 57) = false := by simp; omega
      have d6n : decide (p ≤ 57) = false := by simp; omega
      clear hA ha h0 h hs hu1 u1
      go_enter Tryz.func86, Tryz.ntmps86
      go_wp2
      go_ret
      exact ⟨by rw [unhide HT]; rfl, rfl⟩
    · have d1 : decide ((65 : Int) ≤ (p : Int)) = true := by simp; omega
      have d1n : decide (65 ≤ p) = true := by simp; omega
      have d2 : decide ((p : Int) ≤ 90) = false := by simp; omega
      have d2n : decide (p ≤ 90) = false := by simp; omega
      have d3 : decide ((97 : Int) ≤ (p : Int)) = false := by simp; omega
      have d3n : decide (97 ≤ p) = false := by simp; omega
      have d5 : decide ((48 : Int) ≤ (p : Int)) = true := by simp; omega
      have d5n : decide (48 ≤ p) = true := by simp; omega
      have d6 : decide ((p : Int) ≤ 57) = false := by simp; omega
      have d6n : decide (p ≤ 57) = false := by simp; omega
      clear hA ha h0 h hs hu1 u1
      go_enter Tryz.func86, Tryz.ntmps86
      go_wp2
      go_ret
      exact ⟨by rw [unhide HT]; rfl, rfl⟩
    · have d1 : decide ((65 : Int) ≤ (p : Int)) = true := by simp; omega
      have d1n : decide (65 ≤ p) = true := by simp; omega
      have d2 : decide ((p : Int) ≤ 90) = false := by simp; omega
      have d2n : decide (p ≤ 90) = false := by simp; omega
      have d3 : decide ((97 : Int) ≤ (p : Int)) = true := by simp; omega
      have d3n : decide (97 ≤ p) = true := by simp; omega
      have d4 : decide ((p : Int) ≤ 122) = false := by simp; omega
      have d4n : decide (p ≤ 122) = false := by simp; omega
      have d5 : decide ((48 : Int) ≤ (p : Int)) = true := by simp; omega
      have d5n : decide (48 ≤ p) = true := by simp; omega
      have d6 : decide ((p : Int) ≤ 57) = false := by simp; omega
      have d6n : decide (p ≤ 57) = false := by simp; omega
      clear hA ha h0 h hs hu1 u1
      go_enter Tryz.func86, Tryz.ntmps86
      go_wp2
      go_ret
      exact ⟨by rw [unhide HT]; rfl, rfl⟩
theorem notprint_c (c : UInt8) (w : World) : Calls Tryz.prog 139 #[.int .u8 (c.toNat : Int)] w fun e w' => e = .returned (.bool (!printP c)) ∧ w' = w := by
  have H := hide (print_c c w)
  obtain ⟨p, hp⟩ : ∃ p, c.toNat = p := ⟨_, rfl⟩
  obtain ⟨u, hu⟩ : ∃ u, printP c = u := ⟨_, rfl⟩
  rw [hp, hu] at H
  rw [hp, hu]
  clear hp hu
  go_enter Tryz.func139, Tryz.ntmps139
  go_wp2_with fail
  refine (unhide H).mono ?_
  rintro e w1 ⟨rfl, rfl⟩
  go_wp2
  go_ret
  exact ⟨rfl, rfl⟩
theorem notascii_c (c : UInt8) (w : World) : Calls Tryz.prog 140 #[.int .u8 (c.toNat : Int)] w fun e w' => e = .returned (.bool (!decide (c.toNat < 128))) ∧ w' = w := by
  obtain ⟨p, hp⟩ : ∃ p, c.toNat = p := ⟨_, rfl⟩
  rw [hp]
  clear hp
  by_cases h : p < 128
  · have d1 : decide ((128 : Int) ≤ (p : Int)) = false := by simp; omega
    have d1n : decide (128 ≤ p) = false := by simp; omega
    have HT : Hid (decide (p < 128) = true) := by show _ = _; simp; omega
    go_enter Tryz.func140, Tryz.ntmps140
    go_wp2
    go_ret
    exact ⟨by rw [unhide HT]; rfl, rfl⟩
  · have d1 : decide ((128 : Int) ≤ (p : Int)) = true := by simp; omega
    have d1n : decide (128 ≤ p) = true := by simp; omega
    have HT : Hid (decide (p < 128) = false) := by show _ = _; simp; omega
    go_enter Tryz.func140, Tryz.ntmps140
    go_wp2
    go_ret
    exact ⟨by rw [unhide HT]; rfl, rfl⟩
set_option maxRecDepth 100000 in
set_option maxHeartbeats 4000000 in
/-- slices.IndexFunc: whether there is one. -/
theorem index_c (f : Nat) (g : UInt8 → Bool) (hen : ∀ args w, (callFunc f args).run Tryz.prog w = .ok (.enter f args) w) (hf : ∀ (c : UInt8) (w : World), Calls Tryz.prog f #[.int .u8 (c.toNat : Int)] w fun e w' => e = .returned (.bool (!g c)) ∧ w' = w)
    (w : World) (x : Value) (b : Bs) (hx : BytesAt w x b) (hl : b.length ≤ 1000000) :
    Calls Tryz.prog 146 #[x, .func (.func f) #[] #[]] w fun e w' => ∃ k : Int, e = .returned (.int .i64 k) ∧ decide (0 ≤ k) = !b.all g ∧ w' = w := by
  obtain ⟨sp, c, rfl, _, _, _⟩ := bytes_open hx
  obtain ⟨N, hN⟩ : ∃ N, b.length = N := ⟨_, rfl⟩
  have HN := hide hN
  rw [hN] at hx hl ⊢
  have HX := hide hx
  have HF := hide hf
  clear hx hN hf
  go_enter Tryz.func146, Tryz.ntmps146
  go_wp2
  go_loopw [8] (fun ii wr => ∃ k : Nat, k ≤ N ∧ ii = .int .i64 (k : Int) ∧ wr = w ∧ Hid (∀ j, j < k → g (b.getD j 0) = true)) (fun ii _ => N - (intOf ii).toNat)
  case atStart => exact ⟨0, by omega, rfl, rfl, fun j hj => by omega⟩
  case round =>
    obtain ⟨k, hk, rfl, hwr, HE⟩ := hrel
    have := hwr.symm
    subst this
    by_cases hlt : k < N
    · obtain ⟨ba, oa, p, rfl, hp, hpb, hc⟩ := byte_at (unhide HX) (unhide HN) k hlt
      have Hpr := hide (unhide HF (b.getD k 0) w)
      rw [hp] at Hpr
      have d1 : decide ((k : Int) < (N : Int)) = true := by simp; omega
      have d1n : decide (k < N) = true := by simp; omega
      have k0 : (0 : Int) ≤ (k : Int) := by omega
      have k1 : (k : Int) < (N : Int) := by omega
      obtain ⟨u, hu⟩ : ∃ u, g (b.getD k 0) = u := ⟨_, rfl⟩
      have Hu := hide hu
      rw [hu] at Hpr
      clear hp hu
      go_wp2_with fail
      refine (unhide Hpr).mono ?_
      rintro e w1 ⟨rfl, rfl⟩
      cases u with
      | false =>
        have HT : Hid (decide ((0 : Int) ≤ (k : Int)) = !b.all g) := by
          show _ = _
          rw [all_not (by rw [unhide HN]; exact hlt) (unhide Hu)]
          simp
        clear HE Hpr
        go_wp2
        go_ret
        exact ⟨_, rfl, unhide HT, rfl⟩
      | true =>
        have HE2 : Hid (∀ j, j < k + 1 → g (b.getD j 0) = true) := fun j hj => by
          by_cases e : j = k
          · rw [e]; exact unhide Hu
          · exact unhide HE j (by omega)
        clear HE Hpr
        go_wp2
        go_roundw
        case rel =>
          first
            | exact ⟨k + 1, by omega, by go_num, rfl, HE2⟩
            | exact ⟨k + 1, by omega, by go_num, trivial, HE2⟩
            | ((repeat apply Exists.intro); exact ⟨⟨k + 1, by omega, by go_num, rfl, HE2⟩, rfl⟩)
            | ((repeat apply Exists.intro); exact ⟨⟨k + 1, by omega, by go_num, trivial, HE2⟩, rfl⟩)
        case measure => simp [intOf]; omega
    · obtain rfl : k = N := by omega
      have d1 : decide ((k : Int) < (k : Int)) = false := by simp
      have HT : Hid (b.all g = true) := all_all (fun j hj => unhide HE j (by rw [← unhide HN]; exact hj))
      clear HE
      go_wp2
      go_ret
      exact ⟨_, rfl, by rw [unhide HT]; decide, rfl⟩
set_option maxRecDepth 100000 in
theorem contains_c (f : Nat) (g : UInt8 → Bool) (hen : ∀ args w, (callFunc f args).run Tryz.prog w = .ok (.enter f args) w) (hf : ∀ (c : UInt8) (w : World), Calls Tryz.prog f #[.int .u8 (c.toNat : Int)] w fun e w' => e = .returned (.bool (!g c)) ∧ w' = w)
    (w : World) (x : Value) (b : Bs) (hx : BytesAt w x b) (hl : b.length ≤ 1000000) :
    Calls Tryz.prog 138 #[x, .func (.func f) #[] #[]] w fun e w' => e = .returned (.bool (!b.all g)) ∧ w' = w := by
  have H := hide (index_c f g hen hf w x b hx hl)
  obtain ⟨sp, c, rfl, _, _, _⟩ := bytes_open hx
  obtain ⟨N, hN⟩ : ∃ N, b.length = N := ⟨_, rfl⟩
  rw [hN] at H ⊢
  clear hx hN hf hen
  go_enter Tryz.func138, Tryz.ntmps138
  go_wp2_with fail
  refine (unhide H).mono ?_
  rintro e w1 ⟨k, rfl, hk, rfl⟩
  have Hk := hide hk
  clear hk
  go_wp2
  go_ret
  exact ⟨by rw [← unhide Hk]; rfl, rfl⟩
set_option maxRecDepth 100000 in
theorem isprint_c (R : World → Prop) : BFn R 128 (rightP 19) := fun w x b _ hx hl => by
  have H := hide (contains_c 139 printP (enters_of Tryz.func139 (by kernel_rfl) rfl) notprint_c w x b hx hl)
  have Hb := hide (Below.refl w.heap.size w)
  rw [right19]
  obtain ⟨sp, c, rfl, _, _, _⟩ := bytes_open hx
  obtain ⟨N, hN⟩ : ∃ N, b.length = N := ⟨_, rfl⟩
  obtain ⟨u, hu⟩ : ∃ u, b.all printP = u := ⟨_, rfl⟩
  rw [hN, hu] at H
  rw [hN, hu]
  clear hx hN hu
  go_enter Tryz.func128, Tryz.ntmps128
  go_wp2_with fail
  refine (unhide H).mono ?_
  rintro e w1 ⟨rfl, rfl⟩
  go_wp2
  go_ret
  exact ⟨by cases u <;> rfl, unhide Hb⟩
set_option maxRecDepth 100000 in
theorem isascii_c (R : World → Prop) : BFn R 129 (rightP 22) := fun w x b _ hx hl => by
  have H := hide (contains_c 140 (fun c => decide (c.toNat < 128)) (enters_of Tryz.func140 (by kernel_rfl) rfl) notascii_c w x b hx hl)
  have Hb := hide (Below.refl w.heap.size w)
  rw [right22]
  obtain ⟨sp, c, rfl, _, _, _⟩ := bytes_open hx
  obtain ⟨N, hN⟩ : ∃ N, b.length = N := ⟨_, rfl⟩
  obtain ⟨u, hu⟩ : ∃ u, (b.all fun c => decide (c.toNat < 128)) = u := ⟨_, rfl⟩
  rw [hN, hu] at H
  rw [hN, hu]
  clear hx hN hu
  go_enter Tryz.func129, Tryz.ntmps129
  go_wp2_with fail
  refine (unhide H).mono ?_
  rintro e w1 ⟨rfl, rfl⟩
  go_wp2
  go_ret
  exact ⟨by cases u <;> rfl, unhide Hb⟩
end K
end Go.Proofs.YtcofnockikninabGreatDoor
