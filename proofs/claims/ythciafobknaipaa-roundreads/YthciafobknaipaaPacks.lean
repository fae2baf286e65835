/-
  The walks of the statements RoundPacks and RoundReads: they return true; nothing that was there has turned.
-/
import Derived.Test.YthciafobknaipaaSmall
namespace Go.Proofs.Ythciafobknaipaa
open Go.RowKit
theorem size3 (w : World) : (Go.sizeOf 3).run Try.prog w = .ok 1 w := by
  obtain ⟨i, hi, _, hsz, _⟩ := Ei.info
  simp [Go.sizeOf, typeInfo, hi, hsz]
theorem under_i : Try.prog.underlying 33 = some (.slice (Try.prog.elem 33)) := by kernel_rfl
theorem elem_i : Try.prog.elem 33 = 3 := by kernel_rfl
/-- The first k of a slice of numbers. -/
theorem slice_pre (sp : Option Addr) (n c k : Nat) (hk : k ≤ c) (w : World) : (Instr.sliceAt 33 (.slice sp n c) none (some (.int .i64 (k : Int))) none).run Try.prog w = .ok (.slice sp k c) w := by
  rw [run_sliceAt_slice w 33 _ _ _ _ under_i, run_slice_h w 33 sp n c under_i .i64 (k : Int) (by omega) (by omega), elem_i, size3, Result.andThen_ok]
  simp only [sliced, Int.toNat_natCast, Nat.sub_zero, Nat.zero_mul]
  cases sp with
  | none => simp
  | some a => simp [Addr.add]
/-- What is left behind the first k. -/
theorem slice_post (sp : Option Addr) (n c k : Nat) (hk : k ≤ n) (w : World) : (Instr.sliceAt 33 (.slice sp n c) (some (.int .i64 (k : Int))) none none).run Try.prog w = .ok (.slice (if c = k then sp else sp.map (·.add k)) (n - k) (c - k)) w := by
  rw [run_sliceAt_slice w 33 _ _ _ _ under_i, run_slice_l w 33 sp n c under_i .i64 (k : Int) (by omega) (by omega), elem_i, size3, Result.andThen_ok]
  simp only [sliced, Int.toNat_natCast, Nat.mul_one]
theorem ValsAt.pre {w : World} {sp : Option Addr} {c : Nat} {cs ds : List Value} (h : ValsAt w (.slice sp (cs ++ ds).length c) (cs ++ ds)) : ValsAt w (.slice sp cs.length c) cs := by
  obtain ⟨sp', c', e, h1, h2, h3⟩ := h
  simp only [Value.slice.injEq] at e
  obtain ⟨rfl, _, rfl⟩ := e
  rw [List.length_append] at h1
  refine ⟨sp, c, rfl, by omega, h2, fun hne => ?_⟩
  obtain ⟨b, o, rfl, hr⟩ := h3 (by simp [hne])
  refine ⟨b, o, rfl, fun j v hv => hr j v ?_⟩
  have hj := (List.getElem?_eq_some_iff.1 hv).1
  rw [List.getElem?_append_left hj]; exact hv
theorem ValsAt.post {w : World} {sp : Option Addr} {c : Nat} {cs ds : List Value} (h : ValsAt w (.slice sp (cs ++ ds).length c) (cs ++ ds)) : ValsAt w (.slice (if c = cs.length then sp else sp.map (·.add cs.length)) ((cs ++ ds).length - cs.length) (c - cs.length)) ds := by
  obtain ⟨sp', c', e, h1, h2, h3⟩ := h
  simp only [Value.slice.injEq] at e
  obtain ⟨rfl, _, rfl⟩ := e
  have hl : (cs ++ ds).length - cs.length = ds.length := by rw [List.length_append]; omega
  rw [hl]
  rw [List.length_append] at h1
  refine ⟨_, _, rfl, by omega, fun hn => ?_, fun hne => ?_⟩
  · split at hn
    · omega
    · cases sp with
      | none => rw [h2 rfl]; omega
      | some a => simp at hn
  · obtain ⟨b, o, rfl, hr⟩ := h3 (by simp [hne])
    have hpos : 0 < ds.length := Nat.pos_of_ne_zero fun e => hne (List.eq_nil_of_length_eq_zero e)
    rw [if_neg (by omega)]
    refine ⟨b, o + cs.length, by simp [Addr.add], fun j v hv => ?_⟩
    have := hr (cs.length + j) v (by rw [List.getElem?_append_right (by omega), Nat.add_sub_cancel_left]; exact hv)
    rw [← Nat.add_assoc] at this
    exact this
theorem nats_back {l : List Int} {n : Nat} (hf : Fits n l) : (nats l).map Int.ofNat = l := by
  unfold nats
  rw [List.map_map]
  conv => rhs; rw [← List.map_id l]
  apply List.map_congr_left
  intro x hx
  have := (hf x hx).1
  simp only [Function.comp_apply, id_eq]
  exact Int.toNat_of_nonneg this
theorem ints_empty {w : World} {v : Value} (h : ValsAt w v []) : ∃ sp c, v = .slice sp 0 c := h.form
set_option maxRecDepth 100000 in
set_option maxHeartbeats 2000000 in
theorem roundReads_any {R : World → Prop} (C : Round R) (w : World) (hR : R w) (x : Value) (bs : List Nat) (hx : ValsAt w x (bvals bs)) (h8 : ∀ c ∈ bs, c < 256) (n : Int) :
    Calls Try.prog 6 #[x, .int .i64 n] w fun e w' => e = .returned (.bool true) ∧ Below w.heap.size w w' := by
  have HC := hide C
  have HR := hide hR
  have HX := hide hx
  have H8 := hide h8
  obtain ⟨sp, c, rfl, _⟩ := bytes_open hx
  clear C hR hx h8
  by_cases hl : bs.length ≤ 1000
  · have dl : decide (1000 < (bs.length : Int)) = false := by simp; omega
    have dl2 : decide (1000 < bs.length) = false := by simp; omega
    by_cases hn : 1 ≤ n ∧ n ≤ 24
    · obtain ⟨N, rfl⟩ : ∃ N : Nat, n = (N : Int) := ⟨n.toNat, by omega⟩
      have hn1 : 1 ≤ N := by omega
      have hn2 : N ≤ 24 := by omega
      have Hl : Hid (((unpackN N bs).map Int.ofNat).length ≤ 1099511627776) := by
        show _ ≤ _
        unfold unpackN
        rw [List.length_map, length_digs]
        exact Nat.le_trans (Nat.div_le_self _ _) (by omega)
      clear hn
      go_enter Try.func6, Try.ntmps6
      go_wp2_with fail
      refine (anchor_any (unhide HC) w (unhide HR)).mono ?_
      rintro e w1 ⟨rfl, hb1⟩
      have HR1 := hide ((unhide HC).below _ _ (unhide HR) hb1)
      have HX1 := hide ((unhide HX).below hb1)
      have HB1 := hide hb1
      clear hb1 HR HX
      go_wp2_with fail
      refine ((unhide HC).unpack w1 _ bs N (unhide HR1) (unhide HX1) (unhide H8) (by omega) hn1 hn2).mono ?_
      rintro e w2 ⟨v2, rfl, hO2, hb2⟩
      have HX2 := hide ((unhide HX1).below hb2)
      have HB2 := hide ((unhide HB1).trans (hb2.mono (unhide HB1).size))
      have HO2 := hide hO2
      clear hO2 hb2 HR1 HX1 HB1
      go_wp2_with fail
      refine (refUnpack_any w2 _ bs N (unhide HX2) (unhide H8) (by omega) hn1 hn2).mono ?_
      rintro e w3 ⟨v3, rfl, hO3, hb3⟩
      have HO2' := hide ((unhide HO2).below hb3)
      have HB3 := hide ((unhide HB2).trans (hb3.mono (unhide HB2).size))
      have HO3 := hide hO3
      clear hO3 hb3 HX2 HB2 HO2
      go_wp2_with fail
      refine (isame_eq w3 _ _ _ (unhide HO2').vals (unhide HO3).vals (unhide Hl)).mono ?_
      rintro e w4 ⟨rfl, hb4⟩
      have HB4 := hide ((unhide HB3).trans (hb4.mono (unhide HB3).size))
      clear hb4
      go_wp2
      go_ret
      exact ⟨rfl, unhide HB4⟩
    · have Hn := hide hn
      clear hn
      go_enter Try.func6, Try.ntmps6
      go_wp2_with fail
      refine (anchor_any (unhide HC) w (unhide HR)).mono ?_
      rintro e w1 ⟨rfl, hb1⟩
      have HR1 := hide ((unhide HC).below _ _ (unhide HR) hb1)
      have HX1 := hide ((unhide HX).below hb1)
      have HB1 := hide hb1
      clear hb1 HR HX
      go_wp2_with fail
      refine ((unhide HC).noUnpack w1 _ bs n (unhide HR1) (unhide HX1) (unhide H8) (by omega) (unhide Hn)).mono ?_
      rintro e w2 ⟨v2, rfl, hO2, hb2⟩
      have HX2 := hide ((unhide HX1).below hb2)
      have HB2 := hide ((unhide HB1).trans (hb2.mono (unhide HB1).size))
      have HO2 := hide hO2
      clear hO2 hb2 HR1 HX1 HB1
      go_wp2_with fail
      refine (refUnpack_no w2 _ bs n (unhide HX2) (unhide Hn)).mono ?_
      rintro e w3 ⟨v3, rfl, hO3, hb3⟩
      have HO2' := hide ((unhide HO2).below hb3)
      have HB3 := hide ((unhide HB2).trans (hb3.mono (unhide HB2).size))
      have HO3 := hide hO3
      clear hO3 hb3 HX2 HB2 HO2
      go_wp2_with fail
      refine (isame_eq w3 _ _ [] (unhide HO2') (unhide HO3) (by simp)).mono ?_
      rintro e w4 ⟨rfl, hb4⟩
      have HB4 := hide ((unhide HB3).trans (hb4.mono (unhide HB3).size))
      clear hb4
      go_wp2
      go_ret
      exact ⟨rfl, unhide HB4⟩
  · have dl : decide (1000 < (bs.length : Int)) = true := by simp; omega
    have dl2 : decide (1000 < bs.length) = true := by simp; omega
    go_enter Try.func6, Try.ntmps6
    go_wp2_with fail
    refine (anchor_any (unhide HC) w (unhide HR)).mono ?_
    rintro e w1 ⟨rfl, hb1⟩
    have HB1 := hide hb1
    clear hb1
    go_wp2
    go_ret
    exact ⟨rfl, unhide HB1⟩
end Go.Proofs.Ythciafobknaipaa
