/- Parts of the walk. -/
import Derived.Test.YtcofnockikninaaGreatDoorZgNum9
import Derived.BigQuiet
namespace Go.Proofs.YtcofnockikninaaGreatDoor
open Go.RowKit
theorem under_b : Tryz.prog.underlying 22 = some (.slice (Tryz.prog.elem 22)) := by kernel_rfl
theorem elem_b : Tryz.prog.elem 22 = 5 := by kernel_rfl
theorem size5 (w : World) : (Go.sizeOf 5).run Tryz.prog w = .ok 1 w := by
 obtain ⟨_, ⟨i, hi, _, hsz, _⟩, _, _⟩ := Eb
 simp [Go.sizeOf, typeInfo, hi, hsz]
theorem slice_front (sp : Option Addr) (n c k : Nat) (hk : k ≤ c) (w : World) : (Instr.sliceAt 22 (.slice sp n c) none (some (.int .i64 (k : Int))) none).run Tryz.prog w = .ok (.slice sp k c) w := by
 rw [run_sliceAt_slice w 22 _ _ _ _ under_b, run_slice_h w 22 sp n c under_b .i64 (k : Int) (by omega) (by omega), elem_b, size5, Result.andThen_ok]
 simp only [sliced, Int.toNat_natCast, Nat.sub_zero, Nat.zero_mul]
 split
 ·rfl
 ·cases sp <;> simp [Addr.add]
def cutAt (sp : Option Addr) (c f : Nat) : Option Addr := if c = f then sp else sp.map (·.add f)
theorem slice_mid (sp : Option Addr) (K c f e : Nat) (hf : f ≤ e) (he : e ≤ c) (w : World) : (Instr.sliceAt 22 (.slice sp K c) (some (.int .i64 (f : Int))) (some (.int .i64 (e : Int))) none).run Tryz.prog w = .ok (.slice (cutAt sp c f) (e - f) (c - f)) w := by
 rw [run_sliceAt_slice w 22 _ _ _ _ under_b, run_slice_lh w 22 sp K c under_b .i64 .i64 (f : Int) (e : Int) (by omega) (by omega) (by omega), elem_b, size5, Result.andThen_ok]
 simp only [sliced, Int.toNat_natCast, Nat.mul_one]
 rfl
theorem slice_rest (sp : Option Addr) (K c f : Nat) (hf : f ≤ K) (w : World) : (Instr.sliceAt 22 (.slice sp K c) (some (.int .i64 (f : Int))) none none).run Tryz.prog w = .ok (.slice (cutAt sp c f) (K - f) (c - f)) w := by
 rw [run_sliceAt_slice w 22 _ _ _ _ under_b, run_slice_l w 22 sp K c under_b .i64 (f : Int) (by omega) (by omega), elem_b, size5, Result.andThen_ok]
 simp only [sliced, Int.toNat_natCast, Nat.mul_one]
 rfl
theorem bytes_part {w : World} {sp : Option Addr} {c : Nat} {b : Bs} (h : BytesAt w (.slice sp b.length c) b) (f e : Nat) (hf : f ≤ e) (he : e ≤ b.length) : BytesAt w (.slice (cutAt sp c f) (e - f) (c - f)) ((b.drop f).take (e - f)) := by
 obtain ⟨sp', c', ex, h1, h2, h3⟩ := h
 simp only [Value.slice.injEq] at ex
 obtain ⟨rfl, _, rfl⟩ := ex
 rw [List.length_map] at h1
 have hl : (((b.drop f).take (e - f)).map bv).length = e - f := by rw [List.length_map, List.length_take, List.length_drop]; omega
 refine ⟨_, _, by rw [hl], by omega, fun h => ?_, fun hne => ?_⟩
 ·unfold cutAt at h
  split at h
  ·omega
  ·have : sp = none := by cases sp with
    | none => rfl
    | some a => simp at h
   rw [h2 this]; omega
 ·have hpos : 0 < e - f := by
   rcases Nat.eq_zero_or_pos (e - f) with h0 | h0
   ·exact absurd (List.eq_nil_of_length_eq_zero (hl.trans h0)) hne
   ·exact h0
  obtain ⟨bb, o, rfl, hr⟩ := h3 (by intro e0; have := congrArg List.length e0; rw [List.length_map] at this; simp at this; rw [this] at he; simp at he; omega)
  unfold cutAt
  rw [if_neg (by omega)]
  refine ⟨bb, o + f, by simp [Addr.add_mid], fun j v hv => ?_⟩
  have hj : j < e - f := by have := (List.getElem?_eq_some_iff.1 hv).1; omega
  have := hr (f + j) v (by
   rw [← hv]
   rw [List.getElem?_map, List.getElem?_map, List.getElem?_take, if_pos hj, List.getElem?_drop])
  rwa [← Nat.add_assoc] at this
theorem bytes_rest {w : World} {sp : Option Addr} {c : Nat} {b : Bs} (h : BytesAt w (.slice sp b.length c) b) (f : Nat) (hf : f ≤ b.length) : BytesAt w (.slice (cutAt sp c f) (b.length - f) (c - f)) (b.drop f) := by
 have := bytes_part h f b.length hf (Nat.le_refl _)
 rwa [List.take_of_length_le (by rw [List.length_drop]; omega)] at this
theorem bytes_front {w : World} {sp : Option Addr} {c : Nat} {b : Bs} (h : BytesAt w (.slice sp b.length c) b) (e : Nat) (he : e ≤ b.length) : BytesAt w (.slice sp e c) (b.take e) := by
 obtain ⟨sp', c', ex, h1, h2, h3⟩ := h
 simp only [Value.slice.injEq] at ex
 obtain ⟨rfl, _, rfl⟩ := ex
 rw [List.length_map] at h1
 have hl : ((b.take e).map bv).length = e := by rw [List.length_map, List.length_take]; omega
 refine ⟨sp, c, by rw [hl], by omega, h2, fun hne => ?_⟩
 obtain ⟨bb, o, e2, hr⟩ := h3 (by intro e0; exact hne (by have : b = [] := by simpa using e0
                                                          rw [this]; simp))
 refine ⟨bb, o, e2, fun j v hv => hr j v ?_⟩
 have hj : j < e := by have := (List.getElem?_eq_some_iff.1 hv).1; omega
 rw [← hv, List.getElem?_map, List.getElem?_map, List.getElem?_take, if_pos hj]
namespace K
theorem or_add (a q n : Nat) (h : q < 2 ^ n) : (a * 2 ^ n) ||| q = a * 2 ^ n + q := by
 rw [Nat.mul_comm]
 exact (Nat.two_pow_add_eq_or_of_lt h a).symm
theorem or_i64 (a b : Nat) (ha : a < 9223372036854775808) (hb : b < 9223372036854775808) : bits .or .i64 (a : Int) (b : Int) = ((a ||| b : Nat) : Int) := by
 have hx : a ||| b < 2 ^ 63 := Nat.or_lt_two_pow (by omega) (by omega)
 have e : ∀ n : Nat, n < 9223372036854775808 → (BitVec.ofInt 64 (n : Int)).toNat = n := fun n hn => by rw [BitVec.toNat_ofInt]; omega
 show IntKind.i64.wrap ((BitVec.ofInt 64 (a : Int) ||| BitVec.ofInt 64 (b : Int)).toNat : Int) = _
 rw [BitVec.toNat_or, e a ha, e b hb]
 exact IntWalk.i64_in _ (by omega)
theorem low7 : ∀ p : Fin 256, bits .andNot .u8 ((p.val : Nat) : Int) 128 = ((p.val % 128 : Nat) : Int) := by decide +kernel
end K
namespace K
end K
end Go.Proofs.YtcofnockikninaaGreatDoor
