/-
  The walk of the statement RingThere: it returns true; nothing that was there has turned.
-/
import Derived.Test.YtfjolaekenmefaaTold
namespace Go.Proofs.Ytfjolaekenmefaa
open Go.RowKit
theorem validB_true {l : List Int} (h : Poly l) : validB l = true := (validB_iff l).2 h
theorem validB_false {l : List Int} (h : ¬ Poly l) : validB l = false := by
  rw [Bool.eq_false_iff]; exact fun e => h ((validB_iff l).1 e)
theorem ints_empty {w : World} {v : Value} (h : IntsAt w v []) : ∃ sp c, v = .slice sp 0 c := by
  obtain ⟨sp, c, rfl, _⟩ := h
  exact ⟨sp, c, rfl⟩
set_option maxRecDepth 100000 in
set_option maxHeartbeats 2000000 in
theorem there_main {R : World → Prop} (C : Ring R) (w : World) (hR : R w) (sp : Option Addr) (cap : Nat) (a : List Int) (hx : IntsAt w (.slice sp a.length cap) a) (hp : Poly a) :
    Calls Try.prog 4 #[.slice sp a.length cap] w fun e w' => e = .returned (.bool true) ∧ Below w.heap.size w w' := by
  have HC := hide C
  have HR := hide hR
  have HX := hide hx
  have HP := hide hp
  have hv := validB_true hp
  have hf : decide ((a.length : Int) ≤ 1000) = true := by have := hp.1; simp; omega
  clear C hR hx hp
  go_enter Try.func4, Try.ntmps4
  go_wp2_with fail
  refine (anchor_any (unhide HC) w (unhide HR)).mono ?_
  rintro e w1 ⟨rfl, hb1⟩
  have HR1 := hide ((unhide HC).below _ _ (unhide HR) hb1)
  have HX1 := hide ((unhide HX).below hb1)
  have HB1 := hide hb1
  clear hb1
  go_wp2_with fail
  refine (few_any w1 _ a (unhide HX1)).mono ?_
  rw [hf]
  rintro e w1 ⟨rfl, rfl⟩
  go_wp2_with fail
  refine ((unhide HC).there_ w1 _ a (unhide HR1) (unhide HX1) (unhide HP)).mono ?_
  rintro e w2 ⟨v2, t, rfl, hO2, hT2, hb2⟩
  have HR2 := hide ((unhide HC).below _ _ (unhide HR1) hb2)
  have HX2 := hide ((unhide HX1).below hb2)
  have HB2 := hide ((unhide HB1).trans (hb2.mono (unhide HB1).size))
  have HO2 := hide hO2
  have HT2 := hide hT2
  clear hb2 hO2 hT2 HR1 HX1 HB1
  go_wp2_with fail
  refine ((unhide HC).back w2 _ a (unhide HR2) (unhide HX2) (unhide HP)).mono ?_
  rintro e w3 ⟨v3, b, rfl, hO3, hT3, hb3⟩
  have HR3 := hide ((unhide HC).below _ _ (unhide HR2) hb3)
  have HX3 := hide ((unhide HX2).below hb3)
  have HB3 := hide ((unhide HB2).trans (hb3.mono (unhide HB2).size))
  have HO2' := hide ((unhide HO2).below hb3)
  have HO3 := hide hO3
  have HT3 := hide hT3
  clear hb3 hO3 hT3 HR2 HX2 HB2 HO2
  go_wp2_with fail
  refine (valid_any w3 _ a (unhide HX3) (by have := (unhide HP).1; omega)).mono ?_
  rw [hv]
  rintro e w3 ⟨rfl, rfl⟩
  go_wp2_with fail
  refine ((unhide HC).back w3 _ t (unhide HR3) (unhide HO2').bytes (unhide HT2).1).mono ?_
  rintro e w4 ⟨v4, u, rfl, hO4, hT4, hb4⟩
  obtain rfl := isThere_inj (unhide HP) hT4.1 (unhide HT2) hT4.2
  have HR4 := hide ((unhide HC).below _ _ (unhide HR3) hb4)
  have HX4 := hide ((unhide HX3).below hb4)
  have HB4 := hide ((unhide HB3).trans (hb4.mono (unhide HB3).size))
  have HO2'' := hide ((unhide HO2').below hb4)
  have HO3' := hide ((unhide HO3).below hb4)
  have HO4 := hide hO4
  clear hb4 hO4 hT4 HR3 HX3 HB3 HO2' HO3
  go_wp2_with fail
  refine ((unhide HC).there_ w4 _ b (unhide HR4) (unhide HO3').bytes (unhide HT3).1).mono ?_
  rintro e w5 ⟨v5, v, rfl, hO5, hT5, hb5⟩
  obtain rfl := isThere_unique (unhide HT3).2 hT5
  have HX5 := hide ((unhide HX4).below hb5)
  have HB5 := hide ((unhide HB4).trans (hb5.mono (unhide HB4).size))
  have HT' := hide ((unhide HO2'').below hb5)
  have HU' := hide ((unhide HO4).below hb5)
  have HV' := hide hO5
  clear hb5 hO5 hT5 HR4 HX4 HB4 HO2'' HO4 HO3'
  go_wp2_with fail
  refine (refThere_any w5 _ _ (unhide HX5) (unhide HP)).mono ?_
  rintro e w6 ⟨v6, t6, rfl, hO6, hT6, hb6⟩
  obtain rfl := isThere_unique (unhide HT2) hT6
  have HX6 := hide ((unhide HX5).below hb6)
  have HB6 := hide ((unhide HB5).trans (hb6.mono (unhide HB5).size))
  have HT6 := hide ((unhide HT').below hb6)
  have HU6 := hide ((unhide HU').below hb6)
  have HV6 := hide ((unhide HV').below hb6)
  have HO6 := hide hO6
  clear hb6 hO6 hT6 HX5 HB5 HT' HU' HV'
  go_wp2_with fail
  refine (same_eq w6 _ _ _ (unhide HT6).bytes (unhide HO6).bytes (by have := (unhide HT2).1.1; omega)).mono ?_
  rintro e w7 ⟨rfl, hb7⟩
  have HX7 := hide ((unhide HX6).below hb7)
  have HB7 := hide ((unhide HB6).trans (hb7.mono (unhide HB6).size))
  have HU7 := hide ((unhide HU6).below hb7)
  have HV7 := hide ((unhide HV6).below hb7)
  clear hb7 HX6 HB6 HT6 HU6 HV6 HO6
  go_wp2_with fail
  refine (same_eq w7 _ _ _ (unhide HU7).bytes (unhide HX7) (by have := (unhide HP).1; omega)).mono ?_
  rintro e w8 ⟨rfl, hb8⟩
  have HX8 := hide ((unhide HX7).below hb8)
  have HB8 := hide ((unhide HB7).trans (hb8.mono (unhide HB7).size))
  have HV8 := hide ((unhide HV7).below hb8)
  clear hb8 HX7 HB7 HU7 HV7
  go_wp2_with fail
  refine (same_eq w8 _ _ _ (unhide HV8).bytes (unhide HX8) (by have := (unhide HP).1; omega)).mono ?_
  rintro e w9 ⟨rfl, hb9⟩
  have HB9 := hide ((unhide HB8).trans (hb9.mono (unhide HB8).size))
  clear hb9
  go_wp2
  go_ret
  exact ⟨rfl, unhide HB9⟩
set_option maxRecDepth 100000 in
set_option maxHeartbeats 2000000 in
theorem ringThere_any {R : World → Prop} (C : Ring R) (w : World) (hR : R w) (sp : Option Addr) (cap : Nat) (a : List Int) (hx : IntsAt w (.slice sp a.length cap) a) :
    Calls Try.prog 4 #[.slice sp a.length cap] w fun e w' => e = .returned (.bool true) ∧ Below w.heap.size w w' := by
  by_cases hp : Poly a
  · exact there_main C w hR sp cap a hx hp
  have HC := hide C
  have HR := hide hR
  have HX := hide hx
  have HP := hide hp
  have hv := validB_false hp
  clear C hR hx hp
  by_cases hf : (a.length : Int) ≤ 1000
  · have hf' : decide ((a.length : Int) ≤ 1000) = true := by simp; omega
    go_enter Try.func4, Try.ntmps4
    go_wp2_with fail
    refine (anchor_any (unhide HC) w (unhide HR)).mono ?_
    rintro e w1 ⟨rfl, hb1⟩
    have HR1 := hide ((unhide HC).below _ _ (unhide HR) hb1)
    have HX1 := hide ((unhide HX).below hb1)
    have HB1 := hide hb1
    clear hb1
    go_wp2_with fail
    refine (few_any w1 _ a (unhide HX1)).mono ?_
    rw [hf']
    rintro e w1 ⟨rfl, rfl⟩
    go_wp2_with fail
    refine ((unhide HC).noThere w1 _ a (unhide HR1) (unhide HX1) (by omega) (unhide HP)).mono ?_
    rintro e w2 ⟨v2, rfl, hO2, hb2⟩
    obtain ⟨sp2, c2, rfl⟩ := ints_empty hO2
    have HR2 := hide ((unhide HC).below _ _ (unhide HR1) hb2)
    have HX2 := hide ((unhide HX1).below hb2)
    have HB2 := hide ((unhide HB1).trans (hb2.mono (unhide HB1).size))
    clear hb2 hO2 HR1 HX1 HB1
    go_wp2_with fail
    refine ((unhide HC).noBack w2 _ a (unhide HR2) (unhide HX2) (by omega) (unhide HP)).mono ?_
    rintro e w3 ⟨v3, rfl, hO3, hb3⟩
    obtain ⟨sp3, c3, rfl⟩ := ints_empty hO3
    have HX3 := hide ((unhide HX2).below hb3)
    have HB3 := hide ((unhide HB2).trans (hb3.mono (unhide HB2).size))
    clear hb3 hO3 HR2 HX2 HB2
    go_wp2_with fail
    refine (valid_any w3 _ a (unhide HX3) (by omega)).mono ?_
    rw [hv]
    rintro e w3 ⟨rfl, rfl⟩
    go_wp2
    go_ret
    exact ⟨rfl, unhide HB3⟩
  · have hf' : decide ((a.length : Int) ≤ 1000) = false := by simp; omega
    go_enter Try.func4, Try.ntmps4
    go_wp2_with fail
    refine (anchor_any (unhide HC) w (unhide HR)).mono ?_
    rintro e w1 ⟨rfl, hb1⟩
    have HX1 := hide ((unhide HX).below hb1)
    have HB1 := hide hb1
    clear hb1
    go_wp2_with fail
    refine (few_any w1 _ a (unhide HX1)).mono ?_
    rw [hf']
    rintro e w1 ⟨rfl, rfl⟩
    go_wp2
    go_ret
    exact ⟨rfl, unhide HB1⟩
end Go.Proofs.Ytfjolaekenmefaa
