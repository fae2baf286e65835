/-
  The walks of the statements RoundCuts and RoundHints: they return true; nothing that was there has turned.
-/
import Derived.Test.YthciafobknaipaaTold
import Derived.Test.YthciafobknaipaaRefCut
namespace Go.Proofs.Ythciafobknaipaa
open Go.RowKit
set_option maxRecDepth 100000 in
set_option maxHeartbeats 2000000 in
theorem cutstrue {R : World → Prop} (C : Round R) (w : World) (hR : R w) (r : Int) (h0 : 0 ≤ r) (h1 : r < 8380417) :
    Calls Try.prog 3 #[.int .i64 r, .bool true] w fun e w' => e = .returned (.bool true) ∧ Below w.heap.size w w' := by
  have HC := hide C
  have HR := hide hR
  have hp := pow_back h0 h1
  have hd := dec_back (g := 95232) (Or.inl rfl) h0 h1
  have HP := hide (fun w hw => C.power w r hw h0 h1)
  have HD := hide (fun w hw => C.dec w r 95232 hw (Or.inl rfl) h0 h1)
  have HP' := hide (refPower_any r h0 h1)
  have HD' := hide (refDec_any 95232 (Or.inl rfl) r h0 h1)
  clear C hR
  generalize pow1 r = a at hp HP HP'
  generalize pow0 r = b at hp HP HP'
  generalize dec1 r 95232 = c at hd HD HD'
  generalize dec0 r 95232 = f at hd HD HD'
  obtain ⟨p1, p2, p3, p4, p5⟩ := hp
  obtain ⟨d1, d2, d3, d4, d5⟩ := hd
  have n0 : decide (r < 0) = false := by simp; omega
  have n1 : decide (8380417 ≤ r) = false := by simp; omega
  have w1 : IntKind.i64.wrap (a * 8192) = a * 8192 := IntWalk.i64_in _ (by omega)
  have w2 : IntKind.i64.wrap (a * 8192 + b) = a * 8192 + b := IntWalk.i64_in _ (by omega)
  have q1 : (a * 8192 + b == r) = true := by simp [p1]
  have w3 : IntKind.i64.wrap (c * 2) = c * 2 := IntWalk.i64_in _ (by omega)
  have w4 : IntKind.i64.wrap (c * 2 * 95232) = c * 2 * 95232 := IntWalk.i64_in _ (by omega)
  have w5 : IntKind.i64.wrap (c * 2 * 95232 + f) = c * 2 * 95232 + f := IntWalk.i64_in _ (by omega)
  have w6 : IntKind.i64.wrap (c * 2 * 95232 + f - r) = c * 2 * 95232 + f - r := IntWalk.i64_in _ (by omega)
  have q2 : (c * 2 * 95232 + f - r).tmod 8380417 = 0 := Int.tmod_eq_zero_of_dvd (Int.dvd_of_emod_eq_zero d1)
  have q3 : decide (-4096 < b) = true := by simp; omega
  have q4 : decide (b ≤ 4096) = true := by simp; omega
  have q5 : decide (-95232 ≤ f) = true := by simp; omega
  have q6 : decide (f ≤ 95232) = true := by simp; omega
  clear d1 p1
  go_enter Try.func3, Try.ntmps3
  go_wp2_with fail
  refine (anchor_any (unhide HC) w (unhide HR)).mono ?_
  rintro e w1 ⟨rfl, hb1⟩
  have HR1 := hide ((unhide HC).below _ _ (unhide HR) hb1)
  have HB1 := hide hb1
  clear hb1 HR
  go_wp2_with fail
  refine (cut_any true w1).mono ?_
  rintro e w1 ⟨rfl, rfl⟩
  go_wp2_with fail
  refine (unhide HP w1 (unhide HR1)).mono ?_
  rintro e w2 ⟨rfl, hb2⟩
  have HR2 := hide ((unhide HC).below _ _ (unhide HR1) hb2)
  have HB2 := hide ((unhide HB1).trans (hb2.mono (unhide HB1).size))
  clear hb2 HR1 HB1
  go_wp2_with fail
  refine (unhide HP' w2).mono ?_
  rintro e w2 ⟨rfl, rfl⟩
  go_wp2_with fail
  refine (unhide HD w2 (unhide HR2)).mono ?_
  rintro e w3 ⟨rfl, hb3⟩
  have HB3 := hide ((unhide HB2).trans (hb3.mono (unhide HB2).size))
  clear hb3 HR2 HB2
  go_wp2_with fail
  refine (unhide HD' w3).mono ?_
  rintro e w3 ⟨rfl, rfl⟩
  go_wp2
  go_ret
  exact ⟨rfl, unhide HB3⟩
set_option maxRecDepth 100000 in
set_option maxHeartbeats 2000000 in
theorem cutsfalse {R : World → Prop} (C : Round R) (w : World) (hR : R w) (r : Int) (h0 : 0 ≤ r) (h1 : r < 8380417) :
    Calls Try.prog 3 #[.int .i64 r, .bool false] w fun e w' => e = .returned (.bool true) ∧ Below w.heap.size w w' := by
  have HC := hide C
  have HR := hide hR
  have hp := pow_back h0 h1
  have hd := dec_back (g := 261888) (Or.inr rfl) h0 h1
  have HP := hide (fun w hw => C.power w r hw h0 h1)
  have HD := hide (fun w hw => C.dec w r 261888 hw (Or.inr rfl) h0 h1)
  have HP' := hide (refPower_any r h0 h1)
  have HD' := hide (refDec_any 261888 (Or.inr rfl) r h0 h1)
  clear C hR
  generalize pow1 r = a at hp HP HP'
  generalize pow0 r = b at hp HP HP'
  generalize dec1 r 261888 = c at hd HD HD'
  generalize dec0 r 261888 = f at hd HD HD'
  obtain ⟨p1, p2, p3, p4, p5⟩ := hp
  obtain ⟨d1, d2, d3, d4, d5⟩ := hd
  have n0 : decide (r < 0) = false := by simp; omega
  have n1 : decide (8380417 ≤ r) = false := by simp; omega
  have w1 : IntKind.i64.wrap (a * 8192) = a * 8192 := IntWalk.i64_in _ (by omega)
  have w2 : IntKind.i64.wrap (a * 8192 + b) = a * 8192 + b := IntWalk.i64_in _ (by omega)
  have q1 : (a * 8192 + b == r) = true := by simp [p1]
  have w3 : IntKind.i64.wrap (c * 2) = c * 2 := IntWalk.i64_in _ (by omega)
  have w4 : IntKind.i64.wrap (c * 2 * 261888) = c * 2 * 261888 := IntWalk.i64_in _ (by omega)
  have w5 : IntKind.i64.wrap (c * 2 * 261888 + f) = c * 2 * 261888 + f := IntWalk.i64_in _ (by omega)
  have w6 : IntKind.i64.wrap (c * 2 * 261888 + f - r) = c * 2 * 261888 + f - r := IntWalk.i64_in _ (by omega)
  have q2 : (c * 2 * 261888 + f - r).tmod 8380417 = 0 := Int.tmod_eq_zero_of_dvd (Int.dvd_of_emod_eq_zero d1)
  have q3 : decide (-4096 < b) = true := by simp; omega
  have q4 : decide (b ≤ 4096) = true := by simp; omega
  have q5 : decide (-261888 ≤ f) = true := by simp; omega
  have q6 : decide (f ≤ 261888) = true := by simp; omega
  clear d1 p1
  go_enter Try.func3, Try.ntmps3
  go_wp2_with fail
  refine (anchor_any (unhide HC) w (unhide HR)).mono ?_
  rintro e w1 ⟨rfl, hb1⟩
  have HR1 := hide ((unhide HC).below _ _ (unhide HR) hb1)
  have HB1 := hide hb1
  clear hb1 HR
  go_wp2_with fail
  refine (cut_any false w1).mono ?_
  rintro e w1 ⟨rfl, rfl⟩
  go_wp2_with fail
  refine (unhide HP w1 (unhide HR1)).mono ?_
  rintro e w2 ⟨rfl, hb2⟩
  have HR2 := hide ((unhide HC).below _ _ (unhide HR1) hb2)
  have HB2 := hide ((unhide HB1).trans (hb2.mono (unhide HB1).size))
  clear hb2 HR1 HB1
  go_wp2_with fail
  refine (unhide HP' w2).mono ?_
  rintro e w2 ⟨rfl, rfl⟩
  go_wp2_with fail
  refine (unhide HD w2 (unhide HR2)).mono ?_
  rintro e w3 ⟨rfl, hb3⟩
  have HB3 := hide ((unhide HB2).trans (hb3.mono (unhide HB2).size))
  clear hb3 HR2 HB2
  go_wp2_with fail
  refine (unhide HD' w3).mono ?_
  rintro e w3 ⟨rfl, rfl⟩
  go_wp2
  go_ret
  exact ⟨rfl, unhide HB3⟩
set_option maxRecDepth 100000 in
set_option maxHeartbeats 2000000 in
theorem roundCuts_any {R : World → Prop} (C : Round R) (w : World) (hR : R w) (r : Int) (s : Bool) :
    Calls Try.prog 3 #[.int .i64 r, .bool s] w fun e w' => e = .returned (.bool true) ∧ Below w.heap.size w w' := by
  by_cases hin : 0 ≤ r ∧ r < 8380417
  · cases s
    · exact cutsfalse C w hR r hin.1 hin.2
    · exact cutstrue C w hR r hin.1 hin.2
  have HC := hide C
  have HR := hide hR
  clear C hR
  by_cases h0 : r < 0
  · go_enter Try.func3, Try.ntmps3
    go_wp2_with fail
    refine (anchor_any (unhide HC) w (unhide HR)).mono ?_
    rintro e w1 ⟨rfl, hb1⟩
    have HB1 := hide hb1
    clear hb1
    go_wp2
    go_ret
    exact ⟨rfl, unhide HB1⟩
  · have n0 : decide (r < 0) = false := by simp; omega
    have n1 : 8380417 ≤ r := by omega
    go_enter Try.func3, Try.ntmps3
    go_wp2_with fail
    refine (anchor_any (unhide HC) w (unhide HR)).mono ?_
    rintro e w1 ⟨rfl, hb1⟩
    have HB1 := hide hb1
    clear hb1
    go_wp2
    go_ret
    exact ⟨rfl, unhide HB1⟩
set_option maxRecDepth 100000 in
set_option maxHeartbeats 2000000 in
theorem hintstrue {R : World → Prop} (C : Round R) (w : World) (hR : R w) (r z : Int) (h : Bool) (h0 : 0 ≤ r) (h1 : r < 8380417) (z0 : 0 ≤ z) (z1 : z < 8380417) :
    Calls Try.prog 4 #[.int .i64 r, .int .i64 z, .bool true, .bool h] w fun e w' => e = .returned (.bool true) ∧ Below w.heap.size w w' := by
  have HC := hide C
  have HR := hide hR
  have HH := hide (fun w hw => C.hint w z r 95232 hw (Or.inl rfl) z0 z1 h0 h1)
  have HU := hide (fun h w hw => C.use w h r 95232 hw (Or.inl rfl) h0 h1)
  have HH' := hide (refHint_any 95232 (Or.inl rfl) z r z0 z1 h0 h1)
  have HU' := hide (refUse_any 95232 (Or.inl rfl) h r h0 h1)
  have HD := hide (fun w hw => C.dec w ((r + z) % 8380417) 95232 hw (Or.inl rfl) (by omega) (by omega))
  have hcz := center_of z0 z1
  have n0 : decide (r < 0) = false := by simp; omega
  have n1 : decide (8380417 ≤ r) = false := by simp; omega
  have n2 : decide (z < 0) = false := by simp; omega
  have n3 : decide (8380417 ≤ z) = false := by simp; omega
  have t1 : (r + z).tmod 8380417 = (r + z) % 8380417 := Int.tmod_eq_emod_of_nonneg (by omega)
  have hne : ∀ b : Bool, (b != b) = false := fun b => by cases b <;> rfl
  have HM : Hid (-95232 ≤ center z → center z ≤ 95232 → useOf (hintB z r 95232) r 95232 = dec1 ((r + z) % 8380417) 95232) := fun c0 c1 => hint_means (Or.inl rfl) h0 h1 z0 z1 hcz c0 c1
  have HZ := hide (center_any z)
  generalize center z = c at HM HZ
  generalize hintB z r 95232 = hb at HH HH' HM
  generalize (r + z) % 8380417 = s at t1 HD HM
  have hbb := hne hb
  clear hcz C hR hne
  obtain ⟨u, hu⟩ : ∃ u, useOf h r 95232 = u := ⟨_, rfl⟩
  rw [hu] at HU'
  have HUh := hide (unhide HU h)
  rw [hu] at HUh
  clear hu
  by_cases c1 : 95232 < c
  · go_enter Try.func4, Try.ntmps4
    go_wp2_with fail
    refine (anchor_any (unhide HC) w (unhide HR)).mono ?_
    rintro e w1 ⟨rfl, hb1⟩
    have HR1 := hide ((unhide HC).below _ _ (unhide HR) hb1)
    have HB1 := hide hb1
    clear hb1 HR
    go_wp2_with fail
    refine (cut_any true w1).mono ?_
    rintro e w1 ⟨rfl, rfl⟩
    go_wp2_with fail
    refine (unhide HH w1 (unhide HR1)).mono ?_
    rintro e w2 ⟨rfl, hb2⟩
    have HR2 := hide ((unhide HC).below _ _ (unhide HR1) hb2)
    have HB2 := hide ((unhide HB1).trans (hb2.mono (unhide HB1).size))
    clear hb2 HR1 HB1
    go_wp2_with fail
    refine (unhide HH' w2).mono ?_
    rintro e w2 ⟨rfl, rfl⟩
    go_wp2_with fail
    refine (unhide HUh w2 (unhide HR2)).mono ?_
    rintro e w3 ⟨rfl, hb3⟩
    have HR3 := hide ((unhide HC).below _ _ (unhide HR2) hb3)
    have HB3 := hide ((unhide HB2).trans (hb3.mono (unhide HB2).size))
    clear hb3 HR2 HB2
    go_wp2_with fail
    refine (unhide HU' w3).mono ?_
    rintro e w3 ⟨rfl, rfl⟩
    go_wp2_with fail
    refine (unhide HZ w3).mono ?_
    rintro e w3 ⟨rfl, rfl⟩
    go_wp2
    go_ret
    exact ⟨rfl, unhide HB3⟩
  · have e1 : decide (95232 < c) = false := by simp; omega
    by_cases c0 : c < -95232
    · go_enter Try.func4, Try.ntmps4
      go_wp2_with fail
      refine (anchor_any (unhide HC) w (unhide HR)).mono ?_
      rintro e w1 ⟨rfl, hb1⟩
      have HR1 := hide ((unhide HC).below _ _ (unhide HR) hb1)
      have HB1 := hide hb1
      clear hb1 HR
      go_wp2_with fail
      refine (cut_any true w1).mono ?_
      rintro e w1 ⟨rfl, rfl⟩
      go_wp2_with fail
      refine (unhide HH w1 (unhide HR1)).mono ?_
      rintro e w2 ⟨rfl, hb2⟩
      have HR2 := hide ((unhide HC).below _ _ (unhide HR1) hb2)
      have HB2 := hide ((unhide HB1).trans (hb2.mono (unhide HB1).size))
      clear hb2 HR1 HB1
      go_wp2_with fail
      refine (unhide HH' w2).mono ?_
      rintro e w2 ⟨rfl, rfl⟩
      go_wp2_with fail
      refine (unhide HUh w2 (unhide HR2)).mono ?_
      rintro e w3 ⟨rfl, hb3⟩
      have HR3 := hide ((unhide HC).below _ _ (unhide HR2) hb3)
      have HB3 := hide ((unhide HB2).trans (hb3.mono (unhide HB2).size))
      clear hb3 HR2 HB2
      go_wp2_with fail
      refine (unhide HU' w3).mono ?_
      rintro e w3 ⟨rfl, rfl⟩
      go_wp2_with fail
      refine (unhide HZ w3).mono ?_
      rintro e w3 ⟨rfl, rfl⟩
      go_wp2
      go_ret
      exact ⟨rfl, unhide HB3⟩
    · have e0 : decide (c < -95232) = false := by simp; omega
      have hm := unhide HM (by omega) (by omega)
      have HUb := hide (unhide HU hb)
      rw [hm] at HUb
      clear hm HM
      generalize dec1 s 95232 = d at HD HUb
      generalize dec0 s 95232 = d0 at HD
      go_enter Try.func4, Try.ntmps4
      go_wp2_with fail
      refine (anchor_any (unhide HC) w (unhide HR)).mono ?_
      rintro e w1 ⟨rfl, hb1⟩
      have HR1 := hide ((unhide HC).below _ _ (unhide HR) hb1)
      have HB1 := hide hb1
      clear hb1 HR
      go_wp2_with fail
      refine (cut_any true w1).mono ?_
      rintro e w1 ⟨rfl, rfl⟩
      go_wp2_with fail
      refine (unhide HH w1 (unhide HR1)).mono ?_
      rintro e w2 ⟨rfl, hb2⟩
      have HR2 := hide ((unhide HC).below _ _ (unhide HR1) hb2)
      have HB2 := hide ((unhide HB1).trans (hb2.mono (unhide HB1).size))
      clear hb2 HR1 HB1
      go_wp2_with fail
      refine (unhide HH' w2).mono ?_
      rintro e w2 ⟨rfl, rfl⟩
      go_wp2_with fail
      refine (unhide HUh w2 (unhide HR2)).mono ?_
      rintro e w3 ⟨rfl, hb3⟩
      have HR3 := hide ((unhide HC).below _ _ (unhide HR2) hb3)
      have HB3 := hide ((unhide HB2).trans (hb3.mono (unhide HB2).size))
      clear hb3 HR2 HB2
      go_wp2_with fail
      refine (unhide HU' w3).mono ?_
      rintro e w3 ⟨rfl, rfl⟩
      go_wp2_with fail
      refine (unhide HZ w3).mono ?_
      rintro e w3 ⟨rfl, rfl⟩
      go_wp2_with fail
      refine (unhide HD w3 (unhide HR3)).mono ?_
      rintro e w4 ⟨rfl, hb4⟩
      have HR4 := hide ((unhide HC).below _ _ (unhide HR3) hb4)
      have HB4 := hide ((unhide HB3).trans (hb4.mono (unhide HB3).size))
      clear hb4 HR3 HB3
      go_wp2_with fail
      refine (unhide HH w4 (unhide HR4)).mono ?_
      rintro e w5 ⟨rfl, hb5⟩
      have HR5 := hide ((unhide HC).below _ _ (unhide HR4) hb5)
      have HB5 := hide ((unhide HB4).trans (hb5.mono (unhide HB4).size))
      clear hb5 HR4 HB4
      go_wp2_with fail
      refine (unhide HUb w5 (unhide HR5)).mono ?_
      rintro e w6 ⟨rfl, hb6⟩
      have HB6 := hide ((unhide HB5).trans (hb6.mono (unhide HB5).size))
      clear hb6 HR5 HB5
      go_wp2
      go_ret
      exact ⟨rfl, unhide HB6⟩
set_option maxRecDepth 100000 in
set_option maxHeartbeats 2000000 in
theorem hintsfalse {R : World → Prop} (C : Round R) (w : World) (hR : R w) (r z : Int) (h : Bool) (h0 : 0 ≤ r) (h1 : r < 8380417) (z0 : 0 ≤ z) (z1 : z < 8380417) :
    Calls Try.prog 4 #[.int .i64 r, .int .i64 z, .bool false, .bool h] w fun e w' => e = .returned (.bool true) ∧ Below w.heap.size w w' := by
  have HC := hide C
  have HR := hide hR
  have HH := hide (fun w hw => C.hint w z r 261888 hw (Or.inr rfl) z0 z1 h0 h1)
  have HU := hide (fun h w hw => C.use w h r 261888 hw (Or.inr rfl) h0 h1)
  have HH' := hide (refHint_any 261888 (Or.inr rfl) z r z0 z1 h0 h1)
  have HU' := hide (refUse_any 261888 (Or.inr rfl) h r h0 h1)
  have HD := hide (fun w hw => C.dec w ((r + z) % 8380417) 261888 hw (Or.inr rfl) (by omega) (by omega))
  have hcz := center_of z0 z1
  have n0 : decide (r < 0) = false := by simp; omega
  have n1 : decide (8380417 ≤ r) = false := by simp; omega
  have n2 : decide (z < 0) = false := by simp; omega
  have n3 : decide (8380417 ≤ z) = false := by simp; omega
  have t1 : (r + z).tmod 8380417 = (r + z) % 8380417 := Int.tmod_eq_emod_of_nonneg (by omega)
  have hne : ∀ b : Bool, (b != b) = false := fun b => by cases b <;> rfl
  have HM : Hid (-261888 ≤ center z → center z ≤ 261888 → useOf (hintB z r 261888) r 261888 = dec1 ((r + z) % 8380417) 261888) := fun c0 c1 => hint_means (Or.inr rfl) h0 h1 z0 z1 hcz c0 c1
  have HZ := hide (center_any z)
  generalize center z = c at HM HZ
  generalize hintB z r 261888 = hb at HH HH' HM
  generalize (r + z) % 8380417 = s at t1 HD HM
  have hbb := hne hb
  clear hcz C hR hne
  obtain ⟨u, hu⟩ : ∃ u, useOf h r 261888 = u := ⟨_, rfl⟩
  rw [hu] at HU'
  have HUh := hide (unhide HU h)
  rw [hu] at HUh
  clear hu
  by_cases c1 : 261888 < c
  · go_enter Try.func4, Try.ntmps4
    go_wp2_with fail
    refine (anchor_any (unhide HC) w (unhide HR)).mono ?_
    rintro e w1 ⟨rfl, hb1⟩
    have HR1 := hide ((unhide HC).below _ _ (unhide HR) hb1)
    have HB1 := hide hb1
    clear hb1 HR
    go_wp2_with fail
    refine (cut_any false w1).mono ?_
    rintro e w1 ⟨rfl, rfl⟩
    go_wp2_with fail
    refine (unhide HH w1 (unhide HR1)).mono ?_
    rintro e w2 ⟨rfl, hb2⟩
    have HR2 := hide ((unhide HC).below _ _ (unhide HR1) hb2)
    have HB2 := hide ((unhide HB1).trans (hb2.mono (unhide HB1).size))
    clear hb2 HR1 HB1
    go_wp2_with fail
    refine (unhide HH' w2).mono ?_
    rintro e w2 ⟨rfl, rfl⟩
    go_wp2_with fail
    refine (unhide HUh w2 (unhide HR2)).mono ?_
    rintro e w3 ⟨rfl, hb3⟩
    have HR3 := hide ((unhide HC).below _ _ (unhide HR2) hb3)
    have HB3 := hide ((unhide HB2).trans (hb3.mono (unhide HB2).size))
    clear hb3 HR2 HB2
    go_wp2_with fail
    refine (unhide HU' w3).mono ?_
    rintro e w3 ⟨rfl, rfl⟩
    go_wp2_with fail
    refine (unhide HZ w3).mono ?_
    rintro e w3 ⟨rfl, rfl⟩
    go_wp2
    go_ret
    exact ⟨rfl, unhide HB3⟩
  · have e1 : decide (261888 < c) = false := by simp; omega
    by_cases c0 : c < -261888
    · go_enter Try.func4, Try.ntmps4
      go_wp2_with fail
      refine (anchor_any (unhide HC) w (unhide HR)).mono ?_
      rintro e w1 ⟨rfl, hb1⟩
      have HR1 := hide ((unhide HC).below _ _ (unhide HR) hb1)
      have HB1 := hide hb1
      clear hb1 HR
      go_wp2_with fail
      refine (cut_any false w1).mono ?_
      rintro e w1 ⟨rfl, rfl⟩
      go_wp2_with fail
      refine (unhide HH w1 (unhide HR1)).mono ?_
      rintro e w2 ⟨rfl, hb2⟩
      have HR2 := hide ((unhide HC).below _ _ (unhide HR1) hb2)
      have HB2 := hide ((unhide HB1).trans (hb2.mono (unhide HB1).size))
      clear hb2 HR1 HB1
      go_wp2_with fail
      refine (unhide HH' w2).mono ?_
      rintro e w2 ⟨rfl, rfl⟩
      go_wp2_with fail
      refine (unhide HUh w2 (unhide HR2)).mono ?_
      rintro e w3 ⟨rfl, hb3⟩
      have HR3 := hide ((unhide HC).below _ _ (unhide HR2) hb3)
      have HB3 := hide ((unhide HB2).trans (hb3.mono (unhide HB2).size))
      clear hb3 HR2 HB2
      go_wp2_with fail
      refine (unhide HU' w3).mono ?_
      rintro e w3 ⟨rfl, rfl⟩
      go_wp2_with fail
      refine (unhide HZ w3).mono ?_
      rintro e w3 ⟨rfl, rfl⟩
      go_wp2
      go_ret
      exact ⟨rfl, unhide HB3⟩
    · have e0 : decide (c < -261888) = false := by simp; omega
      have hm := unhide HM (by omega) (by omega)
      have HUb := hide (unhide HU hb)
      rw [hm] at HUb
      clear hm HM
      generalize dec1 s 261888 = d at HD HUb
      generalize dec0 s 261888 = d0 at HD
      go_enter Try.func4, Try.ntmps4
      go_wp2_with fail
      refine (anchor_any (unhide HC) w (unhide HR)).mono ?_
      rintro e w1 ⟨rfl, hb1⟩
      have HR1 := hide ((unhide HC).below _ _ (unhide HR) hb1)
      have HB1 := hide hb1
      clear hb1 HR
      go_wp2_with fail
      refine (cut_any false w1).mono ?_
      rintro e w1 ⟨rfl, rfl⟩
      go_wp2_with fail
      refine (unhide HH w1 (unhide HR1)).mono ?_
      rintro e w2 ⟨rfl, hb2⟩
      have HR2 := hide ((unhide HC).below _ _ (unhide HR1) hb2)
      have HB2 := hide ((unhide HB1).trans (hb2.mono (unhide HB1).size))
      clear hb2 HR1 HB1
      go_wp2_with fail
      refine (unhide HH' w2).mono ?_
      rintro e w2 ⟨rfl, rfl⟩
      go_wp2_with fail
      refine (unhide HUh w2 (unhide HR2)).mono ?_
      rintro e w3 ⟨rfl, hb3⟩
      have HR3 := hide ((unhide HC).below _ _ (unhide HR2) hb3)
      have HB3 := hide ((unhide HB2).trans (hb3.mono (unhide HB2).size))
      clear hb3 HR2 HB2
      go_wp2_with fail
      refine (unhide HU' w3).mono ?_
      rintro e w3 ⟨rfl, rfl⟩
      go_wp2_with fail
      refine (unhide HZ w3).mono ?_
      rintro e w3 ⟨rfl, rfl⟩
      go_wp2_with fail
      refine (unhide HD w3 (unhide HR3)).mono ?_
      rintro e w4 ⟨rfl, hb4⟩
      have HR4 := hide ((unhide HC).below _ _ (unhide HR3) hb4)
      have HB4 := hide ((unhide HB3).trans (hb4.mono (unhide HB3).size))
      clear hb4 HR3 HB3
      go_wp2_with fail
      refine (unhide HH w4 (unhide HR4)).mono ?_
      rintro e w5 ⟨rfl, hb5⟩
      have HR5 := hide ((unhide HC).below _ _ (unhide HR4) hb5)
      have HB5 := hide ((unhide HB4).trans (hb5.mono (unhide HB4).size))
      clear hb5 HR4 HB4
      go_wp2_with fail
      refine (unhide HUb w5 (unhide HR5)).mono ?_
      rintro e w6 ⟨rfl, hb6⟩
      have HB6 := hide ((unhide HB5).trans (hb6.mono (unhide HB5).size))
      clear hb6 HR5 HB5
      go_wp2
      go_ret
      exact ⟨rfl, unhide HB6⟩
set_option maxRecDepth 100000 in
set_option maxHeartbeats 2000000 in
theorem roundHints_any {R : World → Prop} (C : Round R) (w : World) (hR : R w) (r z : Int) (s h : Bool) :
    Calls Try.prog 4 #[.int .i64 r, .int .i64 z, .bool s, .bool h] w fun e w' => e = .returned (.bool true) ∧ Below w.heap.size w w' := by
  by_cases hin : (0 ≤ r ∧ r < 8380417) ∧ (0 ≤ z ∧ z < 8380417)
  · cases s
    · exact hintsfalse C w hR r z h hin.1.1 hin.1.2 hin.2.1 hin.2.2
    · exact hintstrue C w hR r z h hin.1.1 hin.1.2 hin.2.1 hin.2.2
  have HC := hide C
  have HR := hide hR
  clear C hR
  by_cases h0 : r < 0
  · go_enter Try.func4, Try.ntmps4
    go_wp2_with fail
    refine (anchor_any (unhide HC) w (unhide HR)).mono ?_
    rintro e w1 ⟨rfl, hb1⟩
    have HB1 := hide hb1
    clear hb1
    go_wp2
    go_ret
    exact ⟨rfl, unhide HB1⟩
  · have n0 : decide (r < 0) = false := by simp; omega
    by_cases h1 : 8380417 ≤ r
    · go_enter Try.func4, Try.ntmps4
      go_wp2_with fail
      refine (anchor_any (unhide HC) w (unhide HR)).mono ?_
      rintro e w1 ⟨rfl, hb1⟩
      have HB1 := hide hb1
      clear hb1
      go_wp2
      go_ret
      exact ⟨rfl, unhide HB1⟩
    · have n1 : decide (8380417 ≤ r) = false := by simp; omega
      by_cases h2 : z < 0
      · go_enter Try.func4, Try.ntmps4
        go_wp2_with fail
        refine (anchor_any (unhide HC) w (unhide HR)).mono ?_
        rintro e w1 ⟨rfl, hb1⟩
        have HB1 := hide hb1
        clear hb1
        go_wp2
        go_ret
        exact ⟨rfl, unhide HB1⟩
      · have n2 : decide (z < 0) = false := by simp; omega
        have n3 : 8380417 ≤ z := by omega
        go_enter Try.func4, Try.ntmps4
        go_wp2_with fail
        refine (anchor_any (unhide HC) w (unhide HR)).mono ?_
        rintro e w1 ⟨rfl, hb1⟩
        have HB1 := hide hb1
        clear hb1
        go_wp2
        go_ret
        exact ⟨rfl, unhide HB1⟩
end Go.Proofs.Ythciafobknaipaa
