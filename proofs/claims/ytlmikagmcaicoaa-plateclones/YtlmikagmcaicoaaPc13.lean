/-
  The landed plate's New and Read, walked.
-/
import Derived.Test.YtlmikagmcaicoaaPb13
import Derived.Laws.CopyOwn
namespace Go.Proofs.Ytlmikagmcaicoaa
open Go.RowKit
set_option maxRecDepth 100000 in
theorem new_no (w : World) (n : Int) (h : n < 8 ∨ 16384 < n) : Calls Try.prog 9 #[.int .i64 n] w fun e w' => e = .returned (.pointer none) ∧ Below w.heap.size w w' := by
  by_cases h1 : n < 8
  · have d1 : decide (n < 8) = true := decide_eq_true h1
    go_enter Try.func9, Try.ntmps9
    go_wp2
    go_ret
    exact ⟨rfl, Below.refl _ _⟩
  · have d1 : decide (n < 8) = false := decide_eq_false h1
    have h2 : 16384 < n := by omega
    have d2 : decide (16384 < n) = true := decide_eq_true h2
    go_enter Try.func9, Try.ntmps9
    go_wp2
    go_ret
    exact ⟨rfl, Below.refl _ _⟩
theorem getD_zeros (n k : Nat) : (List.replicate n zeros).getD k zeros = zeros := by
  rw [List.getD_eq_getElem?_getD, List.getElem?_replicate]
  split <;> rfl
set_option maxRecDepth 100000 in
set_option maxHeartbeats 4000000 in
theorem new_yes (w : World) (n : Nat) (h1 : 8 ≤ n) (h2 : n ≤ 16384) : Calls Try.prog 9 #[.int .i64 (n : Int)] w fun e w' => ∃ p, e = .returned p ∧ ∃ S R, PAt S R w' p (newS n) ∧ (∀ k, S k ∨ R k → w.heap.size ≤ k) ∧ Below w.heap.size w w' := by
  have d1 : decide ((n : Int) < 8) = false := decide_eq_false (by omega)
  have d2 : decide (16384 < (n : Int)) = false := decide_eq_false (by omega)
  have e1 : ¬ (n : Int) < 8 := by omega
  have e2 : ¬ 16384 < (n : Int) := by omega
  have hmm := @run_makeMap Try.prog
  have m1 := MAt.made w
  have s1 : (w.alloc (.map #[] 0)).heap.size = w.heap.size + 1 := by simp
  have b1 : Below w.heap.size w (w.alloc (.map #[] 0)) := (Below.refl _ _).alloc (Nat.le_refl _) _
  obtain ⟨w1, hw1⟩ : ∃ x, w.alloc (.map #[] 0) = x := ⟨_, rfl⟩
  rw [hw1] at m1 s1 b1
  have m2 := MAt.made w1
  have b2 : Below w1.heap.size w1 (w1.alloc (.map #[] 0)) := (Below.refl _ _).alloc (Nat.le_refl _) _
  have s2 : (w1.alloc (.map #[] 0)).heap.size = w.heap.size + 1 + 1 := by simp [s1]
  obtain ⟨w2, hw2⟩ : ∃ x, w1.alloc (.map #[] 0) = x := ⟨_, rfl⟩
  rw [hw2] at m2 s2 b2
  have hA := heap_alloc_new w2 (.cells [.int .i64 (n : Int), .map (some w.heap.size), .map (some (w.heap.size + 1)), .slice none 0 0, .int .i64 (-1), .bool false].toArray 61)
  have b3 : Below w2.heap.size w2 (w2.alloc (.cells [.int .i64 (n : Int), .map (some w.heap.size), .map (some (w.heap.size + 1)), .slice none 0 0, .int .i64 (-1), .bool false].toArray 61)) := (Below.refl _ _).alloc (Nat.le_refl _) _
  obtain ⟨w3, hw3⟩ : ∃ x, w2.alloc (.cells [.int .i64 (n : Int), .map (some w.heap.size), .map (some (w.heap.size + 1)), .slice none 0 0, .int .i64 (-1), .bool false].toArray 61) = x := ⟨_, rfl⟩
  rw [hw3] at hA b3
  have HW : Hid (∃ S R, PAt S R w3 (.pointer (some ⟨w2.heap.size, 0, none⟩)) (newS n) ∧ (∀ k, S k ∨ R k → w.heap.size ≤ k) ∧ Below w.heap.size w w3) := by
    rw [s1] at m2
    have hlen : (List.replicate n zeros).length = n := List.length_replicate
    refine ⟨fun k => k = w2.heap.size ∨ k = w.heap.size ∨ k = w.heap.size + 1 ∨ (Value.slice none 0 0).ownBlock = some k, none_, ⟨w2.heap.size, w.heap.size, w.heap.size + 1, .slice none 0 0, rfl, ⟨?_, ?_, ?_, ownn_nil _ _ _ _, by omega, by omega, by omega, by simp [Value.ownBlock], by simp [Value.ownBlock], by simp [Value.ownBlock], ok_new h2⟩, fun k => Iff.rfl, fun k h => h⟩, ?_, ?_⟩
    · show w3.heap[w2.heap.size]? = some (Obj.cells [.int .i64 ((List.replicate n zeros).length : Int), _, _, _, _, _].toArray _ _)
      rw [hlen]; exact hA
    · exact ((m1.below b2).below b3).congr fun k => (getD_zeros n k).symm
    · exact (m2.below b3).congr fun k => (getD_zeros n k).symm
    · rintro k ((h | h | h | h) | h)
      · omega
      · omega
      · omega
      · simp [Value.ownBlock] at h
      · exact h.elim
    · exact (b1.trans (b2.mono (by omega))).trans (b3.mono (by omega))
  rw [s2] at HW
  clear m1 m2 b1 b2 b3 hA h1
  go_enter Try.func9, Try.ntmps9
  go_wp2
  go_ret
  exact ⟨_, rfl, unhide HW⟩
theorem own_any {w : World} {O base : Nat} {b : Bs} {T : TypeId} (h : w.heap[O]? = some (.cells (b.map bv).toArray T (0, 0))) (hO : base ≤ O) (hb : b.length = 64) : OwnA w base (.slice (some ⟨O, 0, none⟩) 64 64) b :=
  ⟨T, by simp, Or.inr ⟨O, 64, (b.map bv).toArray, by simp [hb], hO, h, by simp [hb], by simp [maxLen], by simp [hb], by simp [hb, List.take_of_length_le]⟩⟩
set_option maxRecDepth 100000 in
set_option maxHeartbeats 4000000 in
theorem read_c {S R : Set_} {w : World} {p : Value} {s : PS} (a : Int) (h : PAt S R w p s) :
    Calls Try.prog 18 #[p, .int .i64 a] w fun e w' => ∃ v, e = .returned (.tuple #[v, .int .i64 (readE s a)]) ∧ OwnA w' w.heap.size v (readB s a) ∧ Below w.heap.size w w' := by
  obtain ⟨B, T, M, lv, rfl, hf, _, _⟩ := h
  obtain ⟨k0, k1, _, _, _, k5⟩ := six_row hf.str
  obtain ⟨N, hN⟩ : ∃ x, s.safe.length = x := ⟨_, rfl⟩
  rw [hN] at k0
  cases hd : s.down with
  | true =>
    rw [hd] at k5
    have e1 : readE s a = 50 := by unfold readE; rw [hd]; rfl
    have e2 : readB s a = [] := by unfold readB; rw [hd]; rfl
    rw [e1, e2]
    clear hf hd e1 e2 hN
    go_enter Try.func18, Try.ntmps18
    go_wp2
    go_ret2
    exact ⟨_, rfl, (ownb_nil _ _).any, Below.refl _ _⟩
  | false =>
    rw [hd] at k5
    have Hh := hide (has_c w B N a k0)
    have hra : rightAt s a = (decide (0 ≤ a) && decide (a < (N : Int))) := by unfold rightAt; rw [hN]
    cases hr : (decide (0 ≤ a) && decide (a < (N : Int))) with
    | false =>
      have e1 : readE s a = 51 := by unfold readE; rw [hd, hra, hr]; rfl
      have e2 : readB s a = [] := by unfold readB; rw [hd, hra, hr]; rfl
      rw [e1, e2]
      rw [hr] at Hh
      clear hf hd e1 e2 hN hra hr
      go_enter Try.func18, Try.ntmps18
      go_wp2_with fail
      refine (unhide Hh).mono ?_
      rintro e w1 ⟨rfl, rfl⟩
      go_wp2
      go_ret2
      exact ⟨_, rfl, (ownb_nil _ _).any, Below.refl _ _⟩
    | true =>
      have e1 : readE s a = 0 := by unfold readE; rw [hd, hra, hr]; rfl
      have e2 : readB s a = (applyL s.safe s.loose).getD a.toNat zeros := by
        unfold readB; rw [hd, hra, hr]
        simp only [Bool.false_eq_true, if_false, Bool.not_true]
        have hlt : a.toNat < (applyL s.safe s.loose).length := by
          rw [apply_len, hN]
          simp only [Bool.and_eq_true, decide_eq_true_eq] at hr
          omega
        rw [List.getD_eq_getElem?_getD, List.getD_eq_getElem?_getD, List.getElem?_eq_getElem hlt, Option.getD_some, Option.getD_some]
      obtain ⟨n, hn⟩ : ∃ n : Nat, a = (n : Int) := ⟨a.toNat, by simp only [Bool.and_eq_true, decide_eq_true_eq] at hr; omega⟩
      subst hn
      rw [Int.toNat_natCast] at e2
      have hlk := hf.there.look n
      have hbl := hf.there.len n
      rw [e1, e2]
      rw [hr] at Hh
      obtain ⟨b, hb⟩ : ∃ x, (applyL s.safe s.loose).getD n zeros = x := ⟨_, rfl⟩
      rw [hb] at hlk hbl ⊢
      unfold sv at hlk
      have hX : (b.map bv).toArray.size = 64 := by simp [hbl]
      have h1 := all_oneCell_toArray (one_bytes b)
      have Hend : Hid (∀ Z : Array Value, OwnA ((w.alloc (.cells Z 64)).setRow w.heap.size (b.map bv).toArray) w.heap.size (.slice (some ⟨w.heap.size, 0, none⟩) 64 64) b ∧ Below w.heap.size w ((w.alloc (.cells Z 64)).setRow w.heap.size (b.map bv).toArray)) := fun Z =>
        ⟨own_any (setRow_heap _ _ _ _ _ _ (heap_alloc_new w (.cells Z 64))) (Nat.le_refl _) hbl, below_setRow ((Below.refl _ _).alloc (Nat.le_refl _) _) (Nat.le_refl _) _⟩
      obtain ⟨X, hXX⟩ : ∃ x, (b.map bv).toArray = x := ⟨_, rfl⟩
      rw [hXX] at hlk hX h1 Hend
      clear hf hd e1 e2 hN hra hr hb hbl hXX
      go_enter Try.func18, Try.ntmps18
      go_wp2_with fail
      refine (unhide Hh).mono ?_
      rintro e w1 ⟨rfl, hw⟩
      have := hw.symm
      subst this
      clear Hh
      go_wp2_with (refine wpList_store_row rfl 64 _ _ rfl w.heap.size X rfl rfl 64 _ (heap_alloc_new _ _) (by rw [hX]; exact size_sector) (by rw [hX]; rfl) h1 ?_)
      go_ret2
      exact ⟨_, rfl, unhide Hend _⟩
end Go.Proofs.Ytlmikagmcaicoaa
