/-
  The statements' fillWith and alike (layer 14), walked.
-/
import Derived.Test.YtfpndphfibfdiaaQ2
namespace Go.Proofs.Ytfpndphfibfdiaa
open Go.RowKit
set_option maxRecDepth 100000 in
set_option maxHeartbeats 1000000 in
theorem fillwith_c (w : World) (c : UInt8) (n : Nat) (hn : n ≤ 1000) : Calls Try.prog 23 #[.int .u8 (c.toNat : Int), .int .i64 (n : Int)] w fun e w' => ∃ O, e = .returned (.slice (some ⟨O, 0, none⟩) n n) ∧ OwnB w' w.heap.size (.slice (some ⟨O, 0, none⟩) n n) (List.replicate n c) ∧ Below w.heap.size w w' := by
  obtain ⟨W, hm, hrow, hb⟩ := made_vals Eb rfl w .i64 .i64 n n n rfl rfl (by omega)
  obtain ⟨C, hC⟩ : ∃ x, c.toNat = x := ⟨_, rfl⟩
  obtain ⟨O, hO⟩ : ∃ x, w.heap.size = x := ⟨_, rfl⟩
  have HC := hide hC
  have HO := hide hO
  rw [hO] at hm hrow
  rw [hC, hO]
  have hz : List.replicate n (Value.int .u8 0) = (List.replicate 0 c ++ List.replicate (n - 0) 0).map bv := by simp [bv]
  rw [hz] at hrow
  have HR := hide hrow
  have HB := hide hb
  clear hrow hb hC hO hz
  go_enter Try.func23, Try.ntmps23
  go_wp2
  go_loopw [11] (fun ii wr => ∃ i : Nat, i ≤ n ∧ ii = .int .i64 (i : Int) ∧ Hid (RowAt 5 wr O [] ((List.replicate i c ++ List.replicate (n - i) 0).map bv)) ∧ Hid (Below w.heap.size w wr)) (fun ii _ => n - (intOf ii).toNat)
  case atStart => exact ⟨0, by omega, rfl, unhide HR, unhide HB⟩
  case round =>
    obtain ⟨i, hi, rfl, Hr, Hb⟩ := hrel
    by_cases hlt : i < n
    · have f1 : decide ((i : Int) < (n : Int)) = true := by simp; omega
      have f1n : decide (i < n) = true := by simp; omega
      have j0 : (0 : Int) ≤ (i : Int) := by omega
      have j1 : (i : Int) < (n : Int) := by omega
      have hlen : i < ((List.replicate i c ++ List.replicate (n - i) 0).map bv).length := by simp; omega
      have c1 := (unhide Hr).cell i hlen
      have z1 := (unhide Hr).frozen i
      have hs := (unhide Hr).set i hlen (.int .u8 (C : Int))
      have he : ((List.replicate i c ++ List.replicate (n - i) 0).map bv).set i (.int .u8 (C : Int)) = (List.replicate (i + 1) c ++ List.replicate (n - (i + 1)) 0).map bv := by
        rw [show n - i = (n - (i + 1)) + 1 by omega, List.replicate_succ, List.map_append, List.map_append, List.set_append_right i _ (by simp), List.replicate_succ', List.map_append]
        simp [bv, unhide HC]
      rw [he] at hs
      have Hs := hide hs
      have Hb2 : Hid (Below w.heap.size w (wr.setCell ⟨O, i, none⟩ (.int .u8 (C : Int)))) := (unhide Hb).setCell (by have := unhide HO; simp only; omega) _
      obtain ⟨w2, hw2⟩ : ∃ x, wr.setCell ⟨O, i, none⟩ (.int .u8 (C : Int)) = x := ⟨_, rfl⟩
      rw [hw2] at Hs Hb2
      obtain ⟨old, hold⟩ : ∃ x, ((List.replicate i c ++ List.replicate (n - i) 0).map bv).getD i undef = x := ⟨_, rfl⟩
      rw [hold] at c1
      clear hs he hlen Hr Hb hold
      go_wp2
      refine ⟨⟨i + 1, by omega, ?_, Hs, Hb2⟩, ?_⟩
      · simp
      · simp [intOf]; omega
    · obtain rfl : i = n := by omega
      have f1 : decide ((i : Int) < (i : Int)) = false := by simp
      have HF : Hid (OwnB wr O (.slice (some ⟨O, 0, none⟩) i i) (List.replicate i c)) := by
        have h := unhide Hr
        rw [Nat.sub_self, List.replicate_zero, List.append_nil] at h
        unfold RowAt at h
        rw [List.append_nil] at h
        refine ⟨by simp, Or.inr ⟨O, i, ((List.replicate i c).map bv).toArray, by simp, Nat.le_refl _, h, by simp, by simp [maxLen]; omega, by simp, ?_⟩⟩
        rw [List.toList_toArray, List.length_map, List.length_replicate, Nat.mul_one, List.take_of_length_le (by simp)]
      clear Hr
      go_wp2
      go_ret
      exact ⟨O, rfl, unhide HF, by rw [← unhide HO]; exact unhide Hb⟩
set_option maxRecDepth 100000 in
theorem alike_c (w : World) (x : Value) (n : Nat) (c : UInt8) (hx : BytesAt w x (List.replicate n c)) (hn : n ≤ 1000000) : Calls Try.prog 22 #[x] w fun e w' => e = .returned (.bool true) ∧ Below w.heap.size w w' := by
  obtain ⟨sp, cx, rfl, _, _, hc⟩ := bytes_open hx
  rw [List.length_replicate] at hc ⊢
  have HC : Hid (∀ i, i < n → ∃ g o, sp = some ⟨g, o, none⟩ ∧ w.cell? ⟨g, o + i, none⟩ = some (.int .u8 (c.toNat : Int)) ∧ w.cell? ⟨g, o, none⟩ = some (.int .u8 (c.toNat : Int))) := fun i hi => by
    obtain ⟨g, o, e, _, h⟩ := hc (by intro e; have := congrArg List.length e; simp at this; omega)
    have h1 := h i hi
    have h0 := h 0 (by omega)
    rw [Nat.add_zero] at h0
    rw [List.getD_eq_getElem?_getD, List.getElem?_replicate, if_pos (by omega), Option.getD_some] at h0
    rw [List.getD_eq_getElem?_getD, List.getElem?_replicate, if_pos hi, Option.getD_some] at h1
    exact ⟨g, o, e, h1, h0⟩
  obtain ⟨C, hC⟩ : ∃ C, c.toNat = C := ⟨_, rfl⟩
  rw [hC] at HC
  clear hx hc hC
  go_enter Try.func22, Try.ntmps22
  go_wp2
  go_loopw [7] (fun ii wr => ∃ i : Nat, i ≤ n ∧ ii = .int .i64 (i : Int) ∧ wr = w) (fun ii _ => n - (intOf ii).toNat)
  case atStart => exact ⟨0, by omega, rfl, rfl⟩
  case round =>
    obtain ⟨i, hi, rfl, hw⟩ := hrel
    have := hw.symm
    subst this
    by_cases hlt : i < n
    · have f1 : decide ((i : Int) < (n : Int)) = true := by simp; omega
      have f1n : decide (i < n) = true := by simp; omega
      have j0 : (0 : Int) ≤ (i : Int) := by omega
      have j1 : (i : Int) < (n : Int) := by omega
      have j2 : (0 : Int) < (n : Int) := by omega
      have j3 : 0 < n := by omega
      obtain ⟨g, o, rfl, c1, c0⟩ := unhide HC i hlt
      go_wp2
      refine ⟨⟨i + 1, by omega, ?_, ?_⟩, ?_⟩
      · simp
      · trivial
      · simp [intOf]; omega
    · obtain rfl : i = n := by omega
      have f1 : decide ((i : Int) < (i : Int)) = false := by simp
      go_wp2
      go_ret
      exact ⟨rfl, Below.refl _ _⟩
end Go.Proofs.Ytfpndphfibfdiaa
