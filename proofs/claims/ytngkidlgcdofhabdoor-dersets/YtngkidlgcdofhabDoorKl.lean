/-
  The walks of bits.Len, and of the landed putLength and putTag.
-/
import Derived.Test.YtngkidlgcdofhabDoorKi
import Derived.Test.YtngkidlgcdofhabDoorKq
import Derived.Lib.BitFns
namespace Go.Proofs.YtngkidlgcdofhabDoor
open Go.RowKit
namespace K
/-- How many bytes a number has. -/
theorem low_len {n k : Nat} (h1 : 256 ^ k ≤ n) (h2 : n < 256 ^ (k + 1)) : (lowB n n).length = k + 1 := by
  have hp : 0 < 256 ^ k := Nat.pow_pos (by omega)
  have a := lowV_lt (lowB n n)
  rw [lowV_low n n (Nat.le_refl _)] at a
  have hne : lowB n n ≠ [] := fun e => by rw [e] at a; simp at a; omega
  have b := lowB_big n n (Nat.le_refl _) hne
  have hl : 0 < (lowB n n).length := List.length_pos_iff.2 hne
  have c1 : k < (lowB n n).length := by
    rcases Nat.lt_or_ge k (lowB n n).length with h | h
    · exact h
    · have := Nat.pow_le_pow_right (show 0 < 256 by omega) h
      omega
  have c2 : (lowB n n).length - 1 < k + 1 := by
    rcases Nat.lt_or_ge ((lowB n n).length - 1) (k + 1) with h | h
    · exact h
    · have := Nat.pow_le_pow_right (show 0 < 256 by omega) h
      omega
  omega
theorem len8_fin : ∀ k : Fin 256, ∃ z : Fin 9, Lib.len8 ((k.val : Nat) : Int) = ((z.val : Nat) : Int) ∧ (k.val ≠ 0 → z.val ≠ 0) := by decide +kernel
theorem len8_let (k : Nat) (h : k < 256) (h1 : 1 ≤ k) : ∃ z : Nat, Lib.len8 (k : Int) = (z : Int) ∧ 1 ≤ z ∧ z ≤ 8 := by
  obtain ⟨z, h2, h3⟩ := len8_fin ⟨k, h⟩
  have := h3 (by show k ≠ 0; omega)
  exact ⟨z.val, h2, by omega, by omega⟩
set_option maxRecDepth 100000 in
set_option maxHeartbeats 8000000 in
theorem blens_c (n : Nat) (h1 : 128 ≤ n) (h2 : n < 16777216) (w : World) : Calls Tryd.prog 53 #[.int .u64 (n : Int)] w fun e w' => ∃ L : Nat, e = .returned (.int .i64 (L : Int)) ∧ L ≤ 24 ∧ (L + 7) / 8 = (lowB n n).length ∧ w' = w := by
  have d32 : decide ((4294967296 : Int) ≤ (n : Int)) = false := by simp; omega
  have d32n : decide (4294967296 ≤ n) = false := by simp; omega
  rcases (by omega : n < 256 ∨ (256 ≤ n ∧ n < 65536) ∨ 65536 ≤ n) with h | ⟨h, h'⟩ | h
  · have d16 : decide ((65536 : Int) ≤ (n : Int)) = false := by simp; omega
    have d16n : decide (65536 ≤ n) = false := by simp; omega
    have d8 : decide ((256 : Int) ≤ (n : Int)) = false := by simp; omega
    have d8n : decide (256 ≤ n) = false := by simp; omega
    have hl := low_len (n := n) (k := 0) (by omega) (by omega)
    obtain ⟨z, hz, z1, z8⟩ := len8_let n (by omega) (by omega)
    have u8 : IntKind.u8.wrap (n : Int) = (n : Int) := by rw [IntKind.wrap_u8']; omega
    have uz : IntKind.i64.wrap (z : Int) = (z : Int) := IntWalk.i64_in _ (by omega)
    have n0 : (0 : Int) ≤ (n : Int) := by omega
    have n255 : (n : Int) ≤ 255 := by omega
    have HL := hide hl
    clear h h1 h2 hl
    go_enter Tryd.func53, Tryd.ntmps53
    go_wp2
    go_ret
    exact ⟨z, by first | rfl | simp, by omega, by rw [unhide HL]; omega, rfl⟩
  · obtain ⟨q, hq⟩ : ∃ q, n / 256 = q := ⟨_, rfl⟩
    have d16 : decide ((65536 : Int) ≤ (n : Int)) = false := by simp; omega
    have d16n : decide (65536 ≤ n) = false := by simp; omega
    have d8 : decide ((256 : Int) ≤ (n : Int)) = true := by simp; omega
    have d8n : decide (256 ≤ n) = true := by simp; omega
    have hl := low_len (n := n) (k := 1) (by omega) (by omega)
    obtain ⟨z, hz, z1, z8⟩ := len8_let q (by omega) (by omega)
    have eq : (n : Int) / 256 = (q : Int) := by omega
    have uq64 : IntKind.u64.wrap (q : Int) = (q : Int) := by show (q : Int) % 18446744073709551616 = _; omega
    have u8 : IntKind.u8.wrap (q : Int) = (q : Int) := by rw [IntKind.wrap_u8']; omega
    obtain ⟨z2, hz2⟩ : ∃ z2, 8 + z = z2 := ⟨_, rfl⟩
    have ez : (8 : Int) + (z : Int) = (z2 : Int) := by omega
    have uz : IntKind.i64.wrap (z : Int) = (z : Int) := IntWalk.i64_in _ (by omega)
    have uz2 : IntKind.i64.wrap (z2 : Int) = (z2 : Int) := IntWalk.i64_in _ (by omega)
    have n0 : (0 : Int) ≤ (q : Int) := by omega
    have n255 : (q : Int) ≤ 255 := by omega
    have HL := hide hl
    have Hz2 : Hid (z2 ≤ 16 ∧ (z2 + 7) / 8 = 2) := ⟨by omega, by omega⟩
    clear h h' h1 h2 hl hq hz2
    go_enter Tryd.func53, Tryd.ntmps53
    go_wp2
    go_ret
    exact ⟨z2, by first | rfl | simp, by have := (unhide Hz2).1; omega, by rw [unhide HL]; exact (unhide Hz2).2, rfl⟩
  · obtain ⟨q, hq⟩ : ∃ q, n / 65536 = q := ⟨_, rfl⟩
    have d16 : decide ((65536 : Int) ≤ (n : Int)) = true := by simp; omega
    have d16n : decide (65536 ≤ n) = true := by simp; omega
    have d8 : decide ((256 : Int) ≤ (q : Int)) = false := by simp; omega
    have d8n : decide (256 ≤ q) = false := by simp; omega
    have hl := low_len (n := n) (k := 2) (by omega) (by omega)
    obtain ⟨z, hz, z1, z8⟩ := len8_let q (by omega) (by omega)
    have eq : (n : Int) / 65536 = (q : Int) := by omega
    have uq64 : IntKind.u64.wrap (q : Int) = (q : Int) := by show (q : Int) % 18446744073709551616 = _; omega
    have u8 : IntKind.u8.wrap (q : Int) = (q : Int) := by rw [IntKind.wrap_u8']; omega
    obtain ⟨z2, hz2⟩ : ∃ z2, 16 + z = z2 := ⟨_, rfl⟩
    have ez : (16 : Int) + (z : Int) = (z2 : Int) := by omega
    have uz : IntKind.i64.wrap (z : Int) = (z : Int) := IntWalk.i64_in _ (by omega)
    have uz2 : IntKind.i64.wrap (z2 : Int) = (z2 : Int) := IntWalk.i64_in _ (by omega)
    have n0 : (0 : Int) ≤ (q : Int) := by omega
    have n255 : (q : Int) ≤ 255 := by omega
    have HL := hide hl
    have Hz2 : Hid (z2 ≤ 24 ∧ (z2 + 7) / 8 = 3) := ⟨by omega, by omega⟩
    clear h h1 h2 hl hq hz2
    go_enter Tryd.func53, Tryd.ntmps53
    go_wp2
    go_ret
    exact ⟨z2, by first | rfl | simp, (unhide Hz2).1, by rw [unhide HL]; exact (unhide Hz2).2, rfl⟩
set_option maxRecDepth 100000 in
theorem blen_c (n : Nat) (h1 : 128 ≤ n) (h2 : n < 16777216) (w : World) : Calls Tryd.prog 43 #[.int .u64 (n : Int)] w fun e w' => ∃ L : Nat, e = .returned (.int .i64 (L : Int)) ∧ L ≤ 24 ∧ (L + 7) / 8 = (lowB n n).length ∧ w' = w := by
  have H := hide (blens_c n h1 h2 w)
  clear h1 h2
  go_enter Tryd.func43, Tryd.ntmps43
  go_wp2_with fail
  refine (unhide H).mono ?_
  rintro e w1 ⟨L, rfl, h24, hL, rfl⟩
  have HL := hide hL
  clear hL H
  go_wp2
  go_ret
  exact ⟨L, rfl, h24, unhide HL, rfl⟩
end K
end Go.Proofs.YtngkidlgcdofhabDoor
