/-
  The walk of the statement RoundPacks: it returns true; nothing that was there has turned.
-/
import Derived.Test.YthciafobknaipaaPacks
namespace Go.Proofs.Ythciafobknaipaa
open Go.RowKit
theorem len_pack (n : Nat) (l : List Nat) : (packN n l).length = (l.length * n + 7) / 8 := length_digs _ _ _
theorem pack_bytes (n : Nat) (l : List Nat) : ∀ c ∈ packN n l, c < 256 := fun _ h => mem_digs (by omega) h
set_option maxRecDepth 100000 in
set_option maxHeartbeats 4000000 in
theorem packs_main {R : World → Prop} (C : Round R) (w : World) (hR : R w) (x : Value) (l : List Int) (hx : ValsAt w x (ivals l)) (hl : l.length ≤ 500) (N : Nat) (hn1 : 1 ≤ N) (hn2 : N ≤ 24) (hf : Fits N l) :
    Calls Try.prog 5 #[x, .int .i64 (N : Int)] w fun e w' => e = .returned (.bool true) ∧ Below w.heap.size w w' := by
  have HC := hide C
  have HR := hide hR
  have HX := hide hx
  have HF := hide hf
  obtain ⟨sp, c, rfl, _⟩ := ints_open hx
  have dl : decide (500 < (l.length : Int)) = false := by simp; omega
  have dl2 : decide (500 < l.length) = false := by simp; omega
  have hlp : (packN N (nats l)).length ≤ 1501 := by
    rw [len_pack, show (nats l).length = l.length by simp [nats]]
    have := Nat.mul_le_mul hl hn2
    omega
  have HLP := hide hlp
  obtain ⟨z, hz⟩ := unpack_pack (show 0 < N by omega) (nats_lt hf)
  have hzl : l.length + z ≤ 12008 := by
    have e := congrArg List.length hz
    unfold unpackN at e
    rw [length_digs, List.length_append, List.length_replicate, show (nats l).length = l.length by simp [nats]] at e
    have : (packN N (nats l)).length * 8 / N ≤ (packN N (nats l)).length * 8 := Nat.div_le_self _ _
    omega
  have hback : (unpackN N (packN N (nats l))).map Int.ofNat = l ++ List.replicate z 0 := by
    rw [hz, List.map_append, nats_back hf]
    simp
  have HBK := hide hback
  have zb : (z : Int) ≤ 12008 := by omega
  have lb : (l.length : Int) ≤ 500 := by omega
  clear C hR hx hf hback hlp hz
  go_enter Try.func5, Try.ntmps5
  go_wp2_with fail
  refine (anchor_any (unhide HC) w (unhide HR)).mono ?_
  rintro e w1 ⟨rfl, hb1⟩
  have HR1 := hide ((unhide HC).below _ _ (unhide HR) hb1)
  have HX1 := hide ((unhide HX).below hb1)
  have HB1 := hide hb1
  clear hb1 HR HX
  go_wp2_with fail
  refine ((unhide HC).pack w1 _ l N (unhide HR1) (unhide HX1) (by omega) hn1 hn2 (unhide HF)).mono ?_
  rintro e w2 ⟨v2, rfl, hO2, hb2⟩
  have HR2 := hide ((unhide HC).below _ _ (unhide HR1) hb2)
  have HX2 := hide ((unhide HX1).below hb2)
  have HB2 := hide ((unhide HB1).trans (hb2.mono (unhide HB1).size))
  have HO2 := hide hO2
  clear hO2 hb2 HR1 HX1 HB1
  go_wp2_with fail
  refine (refPack_any w2 _ l N (unhide HX2) (by omega) hn1 hn2 (unhide HF)).mono ?_
  rintro e w3 ⟨v3, rfl, hO3, hb3⟩
  have HR3 := hide ((unhide HC).below _ _ (unhide HR2) hb3)
  have HX3 := hide ((unhide HX2).below hb3)
  have HO2' := hide ((unhide HO2).below hb3)
  have HB3 := hide ((unhide HB2).trans (hb3.mono (unhide HB2).size))
  have HO3 := hide hO3
  clear hO3 hb3 HX2 HB2 HO2 HR2
  go_wp2_with fail
  refine (bsame_eq w3 _ _ _ (unhide HO2').vals (unhide HO3).vals (by have := unhide HLP; omega)).mono ?_
  rintro e w4 ⟨rfl, hb4⟩
  have HR4 := hide ((unhide HC).below _ _ (unhide HR3) hb4)
  have HX4 := hide ((unhide HX3).below hb4)
  have HO4 := hide ((unhide HO2').below hb4)
  have HB4 := hide ((unhide HB3).trans (hb4.mono (unhide HB3).size))
  clear hb4 HX3 HB3 HO2' HO3 HR3
  go_wp2_with fail
  refine ((unhide HC).unpack w4 _ _ N (unhide HR4) (unhide HO4).vals (pack_bytes _ _) (by have := unhide HLP; omega) hn1 hn2).mono ?_
  rintro e w5 ⟨v5, rfl, hO5, hb5⟩
  rw [unhide HBK] at hO5
  have HX5 := hide ((unhide HX4).below hb5)
  have HB5 := hide ((unhide HB4).trans (hb5.mono (unhide HB4).size))
  have hv5 := hO5.vals
  rw [show ivals (l ++ List.replicate z 0) = ivals l ++ ivals (List.replicate z 0) by simp [ivals]] at hv5
  obtain ⟨sp5, c5, rfl⟩ := hv5.form
  have HPRE := hide hv5.pre
  have HPOST := hide hv5.post
  have hc5 : l.length + z ≤ c5 := by
    obtain ⟨_, _, e, h1, _⟩ := hv5
    simp only [Value.slice.injEq] at e
    obtain ⟨_, _, rfl⟩ := e
    rw [List.length_append, len_ivals, len_ivals, List.length_replicate] at h1
    exact h1
  rw [len_ivals] at HPRE HPOST
  have hlen : (ivals l ++ ivals (List.replicate z 0)).length = l.length + z := by rw [List.length_append, len_ivals, len_ivals, List.length_replicate]
  rw [hlen] at HPOST ⊢
  rw [Nat.add_sub_cancel_left] at HPOST
  have s1 := slice_pre sp5 (l.length + z) c5 l.length (by omega)
  have s2 := slice_post sp5 (l.length + z) c5 l.length (by omega)
  rw [Nat.add_sub_cancel_left] at s2
  have dn : decide (((l.length + z : Nat) : Int) < (l.length : Int)) = false := by simp; omega
  generalize (if c5 = l.length then sp5 else sp5.map (·.add l.length)) = sp6 at HPOST s2
  clear hO5 hb5 hv5 hlen HX4 HB4 HO4 HR4
  go_wp2_with fail
  refine (isame_eq w5 _ _ l (unhide HPRE) (unhide HX5) (by omega)).mono ?_
  rintro e w6 ⟨rfl, hb6⟩
  have HB6 := hide ((unhide HB5).trans (hb6.mono (unhide HB5).size))
  have HP6 := hide ((unhide HPOST).below hb6)
  clear hb6 HPOST HPRE HX5 HB5
  obtain ⟨sp7, c7, e7, _, _, hopen⟩ := ints_open (unhide HP6)
  simp only [Value.slice.injEq] at e7
  obtain ⟨rfl, e8, e9⟩ := e7
  have HOP := hide hopen
  clear hopen e8 e9 HP6 s1
  go_wp2
  go_loopw [70] (fun i wr => ∃ k : Nat, k ≤ z ∧ i = .int .i64 (k : Int) ∧ Hid (w6 = wr)) (fun i _ => z - (intOf i).toNat)
  case atStart => exact ⟨0, by omega, rfl, rfl⟩
  case round =>
    obtain ⟨k, hk, rfl, hw⟩ := hrel
    have hw' := unhide hw
    clear hw
    subst hw'
    by_cases hlt : k < z
    · obtain ⟨b, o, rfl, _, hcell⟩ := unhide HOP (by intro e; have := congrArg List.length e; simp at this; omega)
      have c1 := hcell k (by simpa using hlt)
      have hzero : (List.replicate z (0 : Int)).getD k 0 = 0 := by simp [List.getD_eq_getElem?_getD, hlt]
      rw [hzero] at c1
      have k0 : (0 : Int) ≤ (k : Int) := by omega
      have k1 : (k : Int) < (z : Int) := by omega
      clear hcell hzero
      go_wp2
      go_roundw
      case rel =>
        first
          | exact ⟨k + 1, by omega, by go_num, trivial⟩
          | exact ⟨k + 1, by omega, by go_num, rfl⟩
          | ((repeat apply Exists.intro); exact ⟨⟨k + 1, by omega, by go_num, trivial⟩, rfl⟩)
          | ((repeat apply Exists.intro); exact ⟨⟨k + 1, by omega, by go_num, rfl⟩, rfl⟩)
      case measure => simp [intOf]; omega
    · go_wp2
      go_ret
      exact ⟨rfl, unhide HB6⟩
set_option maxRecDepth 100000 in
set_option maxHeartbeats 2000000 in
theorem roundPacks_any {R : World → Prop} (C : Round R) (w : World) (hR : R w) (x : Value) (l : List Int) (hx : ValsAt w x (ivals l)) (n : Int) :
    Calls Try.prog 5 #[x, .int .i64 n] w fun e w' => e = .returned (.bool true) ∧ Below w.heap.size w w' := by
  by_cases hl : l.length ≤ 500
  · by_cases hn : 1 ≤ n ∧ n ≤ 24 ∧ Fits n.toNat l
    · obtain ⟨N, rfl⟩ : ∃ N : Nat, n = (N : Int) := ⟨n.toNat, by omega⟩
      exact packs_main C w hR x l hx hl N (by omega) (by omega) hn.2.2
    · have HC := hide C
      have HR := hide hR
      have HX := hide hx
      have Hn := hide hn
      obtain ⟨sp, c, rfl, _⟩ := ints_open hx
      have dl : decide (500 < (l.length : Int)) = false := by simp; omega
      have dl2 : decide (500 < l.length) = false := by simp; omega
      clear C hR hx hn
      go_enter Try.func5, Try.ntmps5
      go_wp2_with fail
      refine (anchor_any (unhide HC) w (unhide HR)).mono ?_
      rintro e w1 ⟨rfl, hb1⟩
      have HR1 := hide ((unhide HC).below _ _ (unhide HR) hb1)
      have HX1 := hide ((unhide HX).below hb1)
      have HB1 := hide hb1
      clear hb1 HR HX
      go_wp2_with fail
      refine ((unhide HC).noPack w1 _ l n (unhide HR1) (unhide HX1) (by omega) (unhide Hn)).mono ?_
      rintro e w2 ⟨v2, rfl, hO2, hb2⟩
      have HX2 := hide ((unhide HX1).below hb2)
      have HB2 := hide ((unhide HB1).trans (hb2.mono (unhide HB1).size))
      have HO2 := hide hO2
      clear hO2 hb2 HR1 HX1 HB1
      go_wp2_with fail
      refine (refPack_no w2 _ l n (unhide HX2) (by omega) (unhide Hn)).mono ?_
      rintro e w3 ⟨v3, rfl, hO3, hb3⟩
      have HO2' := hide ((unhide HO2).below hb3)
      have HB3 := hide ((unhide HB2).trans (hb3.mono (unhide HB2).size))
      have HO3 := hide hO3
      clear hO3 hb3 HX2 HB2 HO2
      go_wp2_with fail
      refine (bsame_eq w3 _ _ [] (unhide HO2') (unhide HO3) (by simp)).mono ?_
      rintro e w4 ⟨rfl, hb4⟩
      have HB4 := hide ((unhide HB3).trans (hb4.mono (unhide HB3).size))
      clear hb4
      go_wp2
      go_ret
      exact ⟨rfl, unhide HB4⟩
  · have HC := hide C
    have HR := hide hR
    obtain ⟨sp, c, rfl, _⟩ := ints_open hx
    have dl : decide (500 < (l.length : Int)) = true := by simp; omega
    have dl2 : decide (500 < l.length) = true := by simp; omega
    clear C hR hx
    go_enter Try.func5, Try.ntmps5
    go_wp2_with fail
    refine (anchor_any (unhide HC) w (unhide HR)).mono ?_
    rintro e w1 ⟨rfl, hb1⟩
    have HB1 := hide hb1
    clear hb1
    go_wp2
    go_ret
    exact ⟨rfl, unhide HB1⟩
end Go.Proofs.Ythciafobknaipaa
