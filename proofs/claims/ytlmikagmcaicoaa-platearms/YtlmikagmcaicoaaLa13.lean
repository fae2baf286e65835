/-
  The statements' fill; a plate and the reference's side by side.
-/
import Derived.Test.YtlmikagmcaicoaaRd13
import Derived.Test.YtlmikagmcaicoaaSame9
namespace Go.Proofs.Ytlmikagmcaicoaa
open Go.RowKit
theorem OwnB.at {w : World} {B : Nat} {v : Value} {l : Bs} (h : OwnB w B v l) (hl : l ≠ []) : ∃ g c, v = .slice (some ⟨g, 0, none⟩) l.length c ∧ B ≤ g ∧ g < w.heap.size ∧ ∀ i, i < l.length → w.cell? ⟨g, i, none⟩ = some (.int .u8 ((l.getD i 0).toNat : Int)) ∧ w.frozen? ⟨g, i, none⟩ = false := by
  have hcell := OwnV.cellAt h (by simpa using hl)
  obtain ⟨_, h2⟩ := h
  rcases h2 with ⟨_, hn⟩ | ⟨g, cap, cur, rfl, hb, hg, _⟩
  · rw [List.length_map] at hn; exact absurd (List.eq_nil_of_length_eq_zero hn) hl
  · obtain ⟨b, c, e, _, hlt, hc⟩ := hcell
    simp only [Value.slice.injEq, Option.some.injEq, Addr.mk.injEq, and_true, true_and] at e
    obtain ⟨rfl, rfl⟩ := e
    refine ⟨g, cap, by rw [List.length_map], hb, hlt, fun i hi => ⟨?_, frozen_of_row w g i _ 5 hg⟩⟩
    rw [hc i (by rw [List.length_map]; exact hi)]
    simp [bv, List.getD_eq_getElem?_getD, hi]
/-- One byte of a row of the call's own, written over. -/
theorem OwnB.poke {w : World} {B g n c : Nat} {l : Bs} (h : OwnB w B (.slice (some ⟨g, 0, none⟩) n c) l) (i : Nat) (hi : i < l.length) (y : UInt8) : OwnB (w.setCell ⟨g, i, none⟩ (.int .u8 (y.toNat : Int))) B (.slice (some ⟨g, 0, none⟩) n c) (l.set i y) := by
  obtain ⟨h1, h2⟩ := h
  refine ⟨by rw [List.map_set, List.length_set]; exact h1, ?_⟩
  rcases h2 with ⟨e, _⟩ | ⟨g', cap, cur, e, hb, hg, hn, hm, hs, ht⟩
  · cases e
  · simp only [Value.slice.injEq, Option.some.injEq, Addr.mk.injEq, and_true] at e
    obtain ⟨rfl, en, rfl⟩ := e
    have hil : i < (l.map bv).length := by rw [List.length_map]; exact hi
    refine Or.inr ⟨g, c, (cur.toList.set i (.int .u8 (y.toNat : Int))).toArray, by rw [List.map_set, List.length_set, en], hb, ?_, by rw [List.map_set, List.length_set]; exact hn, hm, by simp [hs], ?_⟩
    · have := row_put (cs := cur.toList) (by simpa using hg) i (by simp only [Array.length_toList]; omega) (.int .u8 (y.toNat : Int))
      exact this
    · rw [List.toList_toArray, List.map_set, List.length_set, List.take_set, ht]
      rfl
theorem OwnA.at {w : World} {B : Nat} {v : Value} {l : Bs} (h : OwnA w B v l) (hl : l ≠ []) : ∃ g c, v = .slice (some ⟨g, 0, none⟩) l.length c ∧ B ≤ g ∧ g < w.heap.size ∧ ∀ i, i < l.length → w.cell? ⟨g, i, none⟩ = some (.int .u8 ((l.getD i 0).toNat : Int)) ∧ w.frozen? ⟨g, i, none⟩ = false := by
  obtain ⟨et, h⟩ := h
  have hcell := OwnV.cellAt h (by simpa using hl)
  obtain ⟨_, h2⟩ := h
  rcases h2 with ⟨_, hn⟩ | ⟨g, cap, cur, rfl, hb, hg, _⟩
  · rw [List.length_map] at hn; exact absurd (List.eq_nil_of_length_eq_zero hn) hl
  · obtain ⟨b, c, e, _, hlt, hc⟩ := hcell
    simp only [Value.slice.injEq, Option.some.injEq, Addr.mk.injEq, and_true, true_and] at e
    obtain ⟨rfl, rfl⟩ := e
    refine ⟨g, cap, by rw [List.length_map], hb, hlt, fun i hi => ⟨?_, frozen_of_row w g i _ et hg⟩⟩
    rw [hc i (by rw [List.length_map]; exact hi)]
    simp [bv, List.getD_eq_getElem?_getD, hi]
theorem OwnA.poke {w : World} {B g n c : Nat} {l : Bs} (h : OwnA w B (.slice (some ⟨g, 0, none⟩) n c) l) (i : Nat) (hi : i < l.length) (y : UInt8) : OwnA (w.setCell ⟨g, i, none⟩ (.int .u8 (y.toNat : Int))) B (.slice (some ⟨g, 0, none⟩) n c) (l.set i y) := by
  obtain ⟨et, h1, h2⟩ := h
  refine ⟨et, by rw [List.map_set, List.length_set]; exact h1, ?_⟩
  rcases h2 with ⟨e, _⟩ | ⟨g', cap, cur, e, hb, hg, hn, hm, hs, ht⟩
  · cases e
  · simp only [Value.slice.injEq, Option.some.injEq, Addr.mk.injEq, and_true] at e
    obtain ⟨rfl, en, rfl⟩ := e
    have hil : i < (l.map bv).length := by rw [List.length_map]; exact hi
    refine Or.inr ⟨g, c, (cur.toList.set i (.int .u8 (y.toNat : Int))).toArray, by rw [List.map_set, List.length_set, en], hb, ?_, by rw [List.map_set, List.length_set]; exact hn, hm, by simp [hs], ?_⟩
    · have := row_put (cs := cur.toList) (by simpa using hg) i (by simp only [Array.length_toList]; omega) (.int .u8 (y.toNat : Int))
      exact this
    · rw [List.toList_toArray, List.map_set, List.length_set, List.take_set, ht]
      rfl
set_option maxRecDepth 100000 in
set_option maxHeartbeats 1000000 in
theorem fill_c (w : World) (c : UInt8) (n : Nat) (hn : n ≤ 1000) : Calls Try.prog 23 #[.int .u8 (c.toNat : Int), .int .i64 (n : Int)] w fun e w' => ∃ O, e = .returned (.slice (some ⟨O, 0, none⟩) n n) ∧ OwnB w' w.heap.size (.slice (some ⟨O, 0, none⟩) n n) (List.replicate n c) ∧ Below w.heap.size w w' := by
  obtain ⟨W, hm, hrow, hb⟩ := made_vals Eb rfl w .i64 .i64 n n n rfl rfl (by omega)
  obtain ⟨C, hC⟩ : ∃ x, c.toNat = x := ⟨_, rfl⟩
  obtain ⟨O, hO⟩ : ∃ x, w.heap.size = x := ⟨_, rfl⟩
  have HC := hide hC
  have HO := hide hO
  rw [hO] at hm hrow
  rw [hC, hO]
  have hz : List.replicate n (Value.int .u8 0) = (List.replicate 0 c ++ List.replicate (n - 0) 0).map bv := by simp [bv]
  rw [hz] at hrow
  have HR := hide hrow
  have HB := hide hb
  clear hrow hb hC hO hz
  go_enter Try.func23, Try.ntmps23
  go_wp2
  go_loopw [11] (fun ii wr => ∃ i : Nat, i ≤ n ∧ ii = .int .i64 (i : Int) ∧ Hid (RowAt 5 wr O [] ((List.replicate i c ++ List.replicate (n - i) 0).map bv)) ∧ Hid (Below w.heap.size w wr)) (fun ii _ => n - (intOf ii).toNat)
  case atStart => exact ⟨0, by omega, rfl, unhide HR, unhide HB⟩
  case round =>
    obtain ⟨i, hi, rfl, Hr, Hb⟩ := hrel
    by_cases hlt : i < n
    · have f1 : decide ((i : Int) < (n : Int)) = true := by simp; omega
      have f1n : decide (i < n) = true := by simp; omega
      have j0 : (0 : Int) ≤ (i : Int) := by omega
      have j1 : (i : Int) < (n : Int) := by omega
      have hlen : i < ((List.replicate i c ++ List.replicate (n - i) 0).map bv).length := by simp; omega
      have c1 := (unhide Hr).cell i hlen
      have z1 := (unhide Hr).frozen i
      have hs := (unhide Hr).set i hlen (.int .u8 (C : Int))
      have he : ((List.replicate i c ++ List.replicate (n - i) 0).map bv).set i (.int .u8 (C : Int)) = (List.replicate (i + 1) c ++ List.replicate (n - (i + 1)) 0).map bv := by
        rw [show n - i = (n - (i + 1)) + 1 by omega, List.replicate_succ, List.map_append, List.map_append, List.set_append_right i _ (by simp), List.replicate_succ', List.map_append]
        simp [bv, unhide HC]
      rw [he] at hs
      have Hs := hide hs
      have Hb2 : Hid (Below w.heap.size w (wr.setCell ⟨O, i, none⟩ (.int .u8 (C : Int)))) := (unhide Hb).setCell (by have := unhide HO; simp only; omega) _
      obtain ⟨w2, hw2⟩ : ∃ x, wr.setCell ⟨O, i, none⟩ (.int .u8 (C : Int)) = x := ⟨_, rfl⟩
      rw [hw2] at Hs Hb2
      obtain ⟨old, hold⟩ : ∃ x, ((List.replicate i c ++ List.replicate (n - i) 0).map bv).getD i undef = x := ⟨_, rfl⟩
      rw [hold] at c1
      clear hs he hlen Hr Hb hold
      go_wp2
      refine ⟨⟨i + 1, by omega, ?_, Hs, Hb2⟩, ?_⟩
      · simp
      · simp [intOf]; omega
    · obtain rfl : i = n := by omega
      have f1 : decide ((i : Int) < (i : Int)) = false := by simp
      have HF : Hid (OwnB wr O (.slice (some ⟨O, 0, none⟩) i i) (List.replicate i c)) := by
        have h := unhide Hr
        rw [Nat.sub_self, List.replicate_zero, List.append_nil] at h
        unfold RowAt at h
        rw [List.append_nil] at h
        refine ⟨by simp, Or.inr ⟨O, i, ((List.replicate i c).map bv).toArray, by simp, Nat.le_refl _, h, by simp, by simp [maxLen]; omega, by simp, ?_⟩⟩
        rw [List.toList_toArray, List.length_map, List.length_replicate, Nat.mul_one, List.take_of_length_le (by simp)]
      clear Hr
      go_wp2
      go_ret
      exact ⟨O, rfl, unhide HF, by rw [← unhide HO]; exact unhide Hb⟩
/-- A plate and the reference's, side by side, from block B on. -/
structure Both (PAt : Set_ → Set_ → World → Value → PS → Prop) (B : Nat) (w : World) (p r : Value) (S R Q : Set_) (s t : PS) : Prop where
  p : PAt S R w p s
  r : RAt Q w r t
  sep : ∀ k, Q k → ¬ S k ∧ ¬ R k
  ge : ∀ k, S k ∨ R k ∨ Q k → B ≤ k
  le : B ≤ w.heap.size
section
variable {PAt : Set_ → Set_ → World → Value → PS → Prop} {B : Nat} {w w' : World} {p r : Value} {S R Q : Set_} {s t : PS}
theorem Both.kept (HP : Plate PAt) (h : Both PAt B w p r S R Q s t) {T : Set_} (ha : Aside T w w') (hT : ∀ k, T k → ¬ S k ∧ ¬ R k ∧ ¬ Q k) : Both PAt B w' p r S R Q s t :=
  ⟨HP.kept h.p ha fun k hk => ⟨(hT k hk).1, (hT k hk).2.1⟩, h.r.kept ha fun k hk => (hT k hk).2.2, h.sep, h.ge, Nat.le_trans h.le ha.size⟩
theorem Both.below (HP : Plate PAt) (h : Both PAt B w p r S R Q s t) (hb : Below w.heap.size w w') : Both PAt B w' p r S R Q s t := h.kept HP (T := none_) (Aside.of_below hb) fun _ hk => hk.elim
theorem Both.old (HP : Plate PAt) (h : Both PAt B w p r S R Q s t) : ∀ k, S k ∨ R k ∨ Q k → k < w.heap.size := by
  rintro k (hk | hk | hk)
  · exact HP.old h.p k (Or.inl hk)
  · exact HP.old h.p k (Or.inr hk)
  · exact h.r.old k hk
/-- Behind a call on the plate. -/
theorem Both.setP (h : Both PAt B w p r S R Q s t) {S' R' : Set_} {s' : PS} (hp : PAt S' R' w' p s') (hS : ∀ k, S' k → S k ∨ w.heap.size ≤ k) (hR : ∀ k, R' k → R k ∨ w.heap.size ≤ k) (ha : Aside S w w') : Both PAt B w' p r S' R' Q s' t := by
  have hq := h.r.old
  refine ⟨hp, h.r.kept ha fun k hk hQ => (h.sep k hQ).1 hk, fun k hQ => ⟨fun hk => ?_, fun hk => ?_⟩, ?_, Nat.le_trans h.le ha.size⟩
  · rcases hS k hk with h1 | h1
    · exact (h.sep k hQ).1 h1
    · have := hq k hQ; omega
  · rcases hR k hk with h1 | h1
    · exact (h.sep k hQ).2 h1
    · have := hq k hQ; omega
  · have hle := h.le
    rintro k (hk | hk | hk)
    · rcases hS k hk with h1 | h1
      · exact h.ge k (Or.inl h1)
      · omega
    · rcases hR k hk with h1 | h1
      · exact h.ge k (Or.inr (Or.inl h1))
      · omega
    · exact h.ge k (Or.inr (Or.inr hk))
/-- Behind a call on the reference's. -/
theorem Both.setR (HP : Plate PAt) (h : Both PAt B w p r S R Q s t) {Q' : Set_} {t' : PS} (hr : RAt Q' w' r t') (hQ : ∀ k, Q' k → Q k ∨ w.heap.size ≤ k) (ha : Aside Q w w') : Both PAt B w' p r S R Q' s t' := by
  have ho := HP.old h.p
  refine ⟨HP.kept h.p ha fun k hk => h.sep k hk, hr, fun k hk => ?_, ?_, Nat.le_trans h.le ha.size⟩
  · rcases hQ k hk with h1 | h1
    · exact h.sep k h1
    · exact ⟨fun h2 => by have := ho k (Or.inl h2); omega, fun h2 => by have := ho k (Or.inr h2); omega⟩
  · have hle := h.le
    rintro k (hk | hk | hk)
    · exact h.ge k (Or.inl hk)
    · exact h.ge k (Or.inr (Or.inl hk))
    · rcases hQ k hk with h1 | h1
      · exact h.ge k (Or.inr (Or.inr h1))
      · omega
end
end Go.Proofs.Ytlmikagmcaicoaa
