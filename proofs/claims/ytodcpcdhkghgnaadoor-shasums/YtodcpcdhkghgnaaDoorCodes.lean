/-
  The walk of the statement ShaCodes: it returns true; nothing that was there has turned.
-/
import Derived.Test.YtodcpcdhkghgnaaDoorJoin
namespace Go.Proofs.YtodcpcdhkghgnaaDoor
open Go.RowKit
/-- What holds of the world while codes are made: the tables, two messages; nothing that was there at first has turned. -/
structure Two (w : World) (x : Value) (k : List UInt8) (y : Value) (l : List UInt8) (wk : World) : Prop where
  r : Ready wk
  x : BytesAt wk x k
  y : BytesAt wk y l
  bel : Below w.heap.size w wk
theorem Two.below {w : World} {x : Value} {k : List UInt8} {y : Value} {l : List UInt8} {a b : World} (i : Two w x k y l a) (hb : Below a.heap.size a b) : Two w x k y l b :=
  ⟨i.r.below hb, i.x.below hb, i.y.below hb, i.bel.trans (hb.mono i.bel.size)⟩
set_option maxRecDepth 100000 in
set_option maxHeartbeats 2000000 in
theorem codes_out (w : World) (hr : Ready w) (spk : Option Addr) (ck : Nat) (k : List UInt8) (sp : Option Addr) (c : Nat) (l : List UInt8) (more : Int)
    (h : (1000 : Int) < (k.length : Int) ∨ (¬ (1000 : Int) < (k.length : Int) ∧ (1000 : Int) < (l.length : Int)) ∨ (¬ (1000 : Int) < (k.length : Int) ∧ ¬ (1000 : Int) < (l.length : Int) ∧ more < 0) ∨ (¬ (1000 : Int) < (k.length : Int) ∧ ¬ (1000 : Int) < (l.length : Int) ∧ ¬ more < 0 ∧ 64 < more)) :
    Calls Tryd.prog 6 #[.slice spk k.length ck, .slice sp l.length c, .int .i64 more] w fun e w' => e = .returned (.bool true) ∧ Below w.heap.size w w' := by
  have Hr := hide hr
  clear hr
  rcases h with h | ⟨h1, h⟩ | ⟨h1, h2, h⟩ | ⟨h1, h2, h3, h⟩
  · go_enter Tryd.func6, Tryd.ntmps6
    go_wp2_with fail
    refine (anchor_any w (unhide Hr)).mono ?_
    rintro e w1 ⟨rfl, hb1⟩
    go_wp2_with fail
    go_ret
    exact ⟨rfl, hb1⟩
  · have d1 : decide ((1000 : Int) < (k.length : Int)) = false := by simpa using h1
    go_enter Tryd.func6, Tryd.ntmps6
    go_wp2_with fail
    refine (anchor_any w (unhide Hr)).mono ?_
    rintro e w1 ⟨rfl, hb1⟩
    go_wp2_with fail
    go_ret
    exact ⟨rfl, hb1⟩
  · have d1 : decide ((1000 : Int) < (k.length : Int)) = false := by simpa using h1
    have d2 : decide ((1000 : Int) < (l.length : Int)) = false := by simpa using h2
    go_enter Tryd.func6, Tryd.ntmps6
    go_wp2_with fail
    refine (anchor_any w (unhide Hr)).mono ?_
    rintro e w1 ⟨rfl, hb1⟩
    go_wp2_with fail
    go_ret
    exact ⟨rfl, hb1⟩
  · have d1 : decide ((1000 : Int) < (k.length : Int)) = false := by simpa using h1
    have d2 : decide ((1000 : Int) < (l.length : Int)) = false := by simpa using h2
    have d3 : decide (more < 0) = false := by simpa using h3
    go_enter Tryd.func6, Tryd.ntmps6
    go_wp2_with fail
    refine (anchor_any w (unhide Hr)).mono ?_
    rintro e w1 ⟨rfl, hb1⟩
    go_wp2_with fail
    go_ret
    exact ⟨rfl, hb1⟩
set_option maxRecDepth 100000 in
set_option maxHeartbeats 2000000 in
theorem codes_any (w : World) (hr : Ready w) (spk : Option Addr) (ck : Nat) (k : List UInt8) (hx : BytesAt w (.slice spk k.length ck) k) (sp : Option Addr) (c : Nat) (l : List UInt8) (hy : BytesAt w (.slice sp l.length c) l) (more : Int) :
    Calls Tryd.prog 6 #[.slice spk k.length ck, .slice sp l.length c, .int .i64 more] w fun e w' => e = .returned (.bool true) ∧ Below w.heap.size w w' := by
  by_cases h1 : (1000 : Int) < (k.length : Int)
  · exact codes_out w hr spk ck k sp c l more (.inl h1)
  by_cases h2 : (1000 : Int) < (l.length : Int)
  · exact codes_out w hr spk ck k sp c l more (.inr (.inl ⟨h1, h2⟩))
  by_cases h3 : more < 0
  · exact codes_out w hr spk ck k sp c l more (.inr (.inr (.inl ⟨h1, h2, h3⟩)))
  by_cases h4 : 64 < more
  · exact codes_out w hr spk ck k sp c l more (.inr (.inr (.inr ⟨h1, h2, h3, h4⟩)))
  have d1 : decide ((1000 : Int) < (k.length : Int)) = false := by simpa using h1
  have d2 : decide ((1000 : Int) < (l.length : Int)) = false := by simpa using h2
  have d3 : decide (more < 0) = false := by simpa using h3
  have d4 : decide (64 < more) = false := by simpa using h4
  obtain ⟨n, rfl⟩ := Int.eq_ofNat_of_zero_le (show 0 ≤ more by omega)
  have hn : n ≤ 64 := by omega
  have hk : k.length ≤ 1000 := by omega
  have hl : l.length ≤ 1000 := by omega
  have I0 := hide (show Two w (.slice spk k.length ck) k (.slice sp l.length c) l w from ⟨hr, hx, hy, Below.refl _ _⟩)
  clear hr hx hy
  by_cases hlong : (64 : Int) < (k.length : Int)
  · go_enter Tryd.func6, Tryd.ntmps6
    go_wp2_with fail
    refine (anchor_any w (unhide I0).r).mono ?_
    rintro e w1 ⟨rfl, hb1⟩
    have I1 := hide ((unhide I0).below hb1)
    clear hb1 I0
    go_wp2_with fail
    refine (mac_any w1 (unhide I1).r _ k (unhide I1).x (by omega) _ l (unhide I1).y (by omega)).mono ?_
    rintro e w2 ⟨v2, rfl, hO2, hb2⟩
    have I2 := hide ((unhide I1).below hb2)
    have B2 := hide hO2.bytes
    clear hb2 I1 hO2
    go_wp2_with fail
    refine (sum_any w2 (unhide I2).r _ k (unhide I2).x (by omega)).mono ?_
    rintro e w3 ⟨v3, rfl, hO3, hb3⟩
    have I3 := hide ((unhide I2).below hb3)
    have B3 := hide ((unhide B2).below hb3)
    have C3 := hide hO3.bytes
    clear hb3 I2 hO3 B2
    go_wp2_with fail
    refine (mac_any w3 (unhide I3).r v3 (shaOf k) (unhide C3) (by rw [length_shaOf]; omega) _ l (unhide I3).y (by omega)).mono ?_
    rintro e w4 ⟨v4, rfl, hO4, hb4⟩
    have I4 := hide ((unhide I3).below hb4)
    have B4 := hide ((unhide B3).below hb4)
    have C4 := hide (show BytesAt w4 v4 (macOf k l) by rw [← mac_sum k l (by omega)]; exact hO4.bytes)
    clear hb4 I3 hO4 B3 C3
    go_wp2_with fail
    refine (same_eq w4 v2 v4 (macOf k l) (unhide B4) (unhide C4) (by rw [length_macOf]; omega)).mono ?_
    rintro e w5 ⟨rfl, hb5⟩
    have HB5 := hide ((unhide I4).below hb5).bel
    clear hb5
    go_wp2_with fail
    go_ret
    exact ⟨rfl, unhide HB5⟩
  · by_cases hsum : (64 : Int) < (k.length : Int) + (n : Int)
    · go_enter Tryd.func6, Tryd.ntmps6
      go_wp2_with fail
      refine (anchor_any w (unhide I0).r).mono ?_
      rintro e w1 ⟨rfl, hb1⟩
      have I1 := hide ((unhide I0).below hb1)
      clear hb1 I0
      go_wp2_with fail
      refine (mac_any w1 (unhide I1).r _ k (unhide I1).x (by omega) _ l (unhide I1).y (by omega)).mono ?_
      rintro e w2 ⟨v2, rfl, hO2, hb2⟩
      have HB2 := hide ((unhide I1).below hb2).bel
      clear hb2 I1 hO2
      go_wp2_with fail
      go_ret
      exact ⟨rfl, unhide HB2⟩
    · have hkn : k.length + n ≤ 64 := by omega
      go_enter Tryd.func6, Tryd.ntmps6
      go_wp2_with fail
      refine (anchor_any w (unhide I0).r).mono ?_
      rintro e w1 ⟨rfl, hb1⟩
      have I1 := hide ((unhide I0).below hb1)
      clear hb1 I0
      go_wp2_with fail
      refine (mac_any w1 (unhide I1).r _ k (unhide I1).x (by omega) _ l (unhide I1).y (by omega)).mono ?_
      rintro e w2 ⟨v2, rfl, hO2, hb2⟩
      obtain ⟨w3, hmk, hz3, hb3⟩ := make_zeros w2 n hn
      have I3 := hide (((unhide I1).below hb2).below hb3)
      have B3 := hide (hO2.bytes.below hb3)
      have Z3 := hide hz3
      clear hb2 I1 hO2 hz3 hb3
      go_wp2_with fail
      refine (join_any w3 _ _ k (List.replicate n 0) (unhide I3).x (unhide Z3) (by rw [List.length_replicate]; omega)).mono ?_
      rintro e w4 ⟨v4, rfl, hO4, hb4⟩
      have I4 := hide ((unhide I3).below hb4)
      have B4 := hide ((unhide B3).below hb4)
      have C4 := hide hO4.bytes
      clear hb4 I3 hO4 B3 Z3
      go_wp2_with fail
      refine (mac_any w4 (unhide I4).r v4 (k ++ List.replicate n 0) (unhide C4) (by rw [List.length_append, List.length_replicate]; omega) _ l (unhide I4).y (by omega)).mono ?_
      rintro e w5 ⟨v5, rfl, hO5, hb5⟩
      have I5 := hide ((unhide I4).below hb5)
      have B5 := hide ((unhide B4).below hb5)
      have C5 := hide (show BytesAt w5 v5 (macOf k l) by rw [← mac_zeros k l n hkn]; exact hO5.bytes)
      clear hb5 I4 hO5 B4 C4
      go_wp2_with fail
      refine (same_eq w5 v2 v5 (macOf k l) (unhide B5) (unhide C5) (by rw [length_macOf]; omega)).mono ?_
      rintro e w6 ⟨rfl, hb6⟩
      have HB6 := hide ((unhide I5).below hb6).bel
      clear hb6
      go_wp2_with fail
      go_ret
      exact ⟨rfl, unhide HB6⟩
end Go.Proofs.YtodcpcdhkghgnaaDoor
