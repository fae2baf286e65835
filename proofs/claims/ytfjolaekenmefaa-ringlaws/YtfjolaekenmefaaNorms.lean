/-
  The walk of the statement RingNorms: it returns true; nothing that was there has turned.
-/
import Derived.Test.YtfjolaekenmefaaThere
namespace Go.Proofs.Ytfjolaekenmefaa
open Go.RowKit
theorem center_diff (n : Int) : (n.tmod 8380417 - center n).tmod 8380417 = 0 := by
  unfold center
  generalize n.tmod 8380417 = m
  split
  · rw [show m - (m - 8380417) = 8380417 by omega]; rfl
  · split
    · rw [show m - (m + 8380417) = -8380417 by omega]; rfl
    · rw [Int.sub_self]; rfl
set_option maxRecDepth 100000 in
set_option maxHeartbeats 1000000 in
theorem ringNorms_any {R : World → Prop} (C : Ring R) (w : World) (hR : R w) (sp : Option Addr) (cap : Nat) (a : List Int) (hx : IntsAt w (.slice sp a.length cap) a) (n : Int) :
    Calls Try.prog 6 #[.slice sp a.length cap, .int .i64 n] w fun e w' => e = .returned (.bool true) ∧ Below w.heap.size w w' := by
  have HC := hide C
  have HR := hide hR
  have HX := hide hx
  clear C hR hx
  by_cases hf : (a.length : Int) ≤ 1000
  · have hf' : decide ((a.length : Int) ≤ 1000) = true := by simp; omega
    have Hf := hide hf
    clear hf
    go_enter Try.func6, Try.ntmps6
    go_wp2_with fail
    refine (anchor_any (unhide HC) w (unhide HR)).mono ?_
    rintro e w1 ⟨rfl, hb1⟩
    have HR1 := hide ((unhide HC).below _ _ (unhide HR) hb1)
    have HX1 := hide ((unhide HX).below hb1)
    have HB1 := hide hb1
    clear hb1
    go_wp2_with fail
    refine (few_any w1 _ a (unhide HX1)).mono ?_
    rw [hf']
    rintro e w1 ⟨rfl, rfl⟩
    go_wp2_with fail
    refine ((unhide HC).center w1 n (unhide HR1)).mono ?_
    rintro e w2 ⟨rfl, hb2⟩
    have HR2 := hide ((unhide HC).below _ _ (unhide HR1) hb2)
    have HX2 := hide ((unhide HX1).below hb2)
    have HB2 := hide ((unhide HB1).trans (hb2.mono (unhide HB1).size))
    have hd := center_diff n
    have cb := center_bound n
    have tb := tmod_bound n
    obtain ⟨cc, hcc⟩ : ∃ c, center n = c := ⟨_, rfl⟩
    rw [hcc] at hd cb ⊢
    have d1 : decide (cc < -4190208) = false := by simp; omega
    have d2 : decide (4190208 < cc) = false := by simp; omega
    obtain ⟨tb0, tb1⟩ := tb
    obtain ⟨cb0, cb1⟩ := cb
    have Hcc := hide hcc
    clear hb2 HR1 HX1 HB1 hcc
    go_wp2_with fail
    refine (center_any n w2).mono ?_
    rw [unhide Hcc]
    rintro e w2 ⟨rfl, rfl⟩
    go_wp2_with fail
    refine ((unhide HC).norm w2 _ a (unhide HR2) (unhide HX2) (by have := unhide Hf; omega)).mono ?_
    rintro e w3 ⟨rfl, hb3⟩
    have HX3 := hide ((unhide HX2).below hb3)
    have HB3 := hide ((unhide HB2).trans (hb3.mono (unhide HB2).size))
    clear hb3 HR2 HX2 HB2
    go_wp2_with fail
    refine (norm_any w3 _ a (unhide HX3) (by have := unhide Hf; omega)).mono ?_
    rintro e w3 ⟨rfl, rfl⟩
    go_wp2
    go_ret
    exact ⟨rfl, unhide HB3⟩
  · have hf' : decide ((a.length : Int) ≤ 1000) = false := by simp; omega
    go_enter Try.func6, Try.ntmps6
    go_wp2_with fail
    refine (anchor_any (unhide HC) w (unhide HR)).mono ?_
    rintro e w1 ⟨rfl, hb1⟩
    have HX1 := hide ((unhide HX).below hb1)
    have HB1 := hide hb1
    clear hb1
    go_wp2_with fail
    refine (few_any w1 _ a (unhide HX1)).mono ?_
    rw [hf']
    rintro e w1 ⟨rfl, rfl⟩
    go_wp2
    go_ret
    exact ⟨rfl, unhide HB1⟩
end Go.Proofs.Ytfjolaekenmefaa
