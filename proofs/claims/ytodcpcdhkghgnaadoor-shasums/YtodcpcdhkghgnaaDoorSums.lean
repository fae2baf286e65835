/-
  The walk of the statement ShaSums: it returns true; nothing that was there has turned.
-/
import Derived.Test.YtodcpcdhkghgnaaDoorRefMac
import Derived.Test.YtodcpcdhkghgnaaDoorCodes
namespace Go.Proofs.YtodcpcdhkghgnaaDoor
open Go.RowKit
set_option maxRecDepth 100000 in
set_option maxHeartbeats 2000000 in
theorem sums_any (w : World) (hr : Ready w) (sp : Option Addr) (c : Nat) (l : List UInt8) (hx : BytesAt w (.slice sp l.length c) l) (spk : Option Addr) (ck : Nat) (k : List UInt8) (hy : BytesAt w (.slice spk k.length ck) k) :
    Calls Tryd.prog 3 #[.slice sp l.length c, .slice spk k.length ck] w fun e w' => e = .returned (.bool true) ∧ Below w.heap.size w w' := by
  by_cases h1 : (5000 : Int) < (l.length : Int)
  · have Hr := hide hr
    clear hr
    go_enter Tryd.func3, Tryd.ntmps3
    go_wp2_with fail
    refine (anchor_any w (unhide Hr)).mono ?_
    rintro e w1 ⟨rfl, hb1⟩
    go_wp2_with fail
    go_ret
    exact ⟨rfl, hb1⟩
  have d1 : decide ((5000 : Int) < (l.length : Int)) = false := by simpa using h1
  by_cases h2 : (5000 : Int) < (k.length : Int)
  · have Hr := hide hr
    clear hr
    go_enter Tryd.func3, Tryd.ntmps3
    go_wp2_with fail
    refine (anchor_any w (unhide Hr)).mono ?_
    rintro e w1 ⟨rfl, hb1⟩
    go_wp2_with fail
    go_ret
    exact ⟨rfl, hb1⟩
  have d2 : decide ((5000 : Int) < (k.length : Int)) = false := by simpa using h2
  have hl : l.length ≤ 5000 := by omega
  have hk : k.length ≤ 5000 := by omega
  have I0 := hide (show Two w (.slice spk k.length ck) k (.slice sp l.length c) l w from ⟨hr, hy, hx, Below.refl _ _⟩)
  clear hr hx hy
  go_enter Tryd.func3, Tryd.ntmps3
  go_wp2_with fail
  refine (anchor_any w (unhide I0).r).mono ?_
  rintro e w1 ⟨rfl, hb1⟩
  have I1 := hide ((unhide I0).below hb1)
  clear hb1 I0
  go_wp2_with fail
  refine (sum_any w1 (unhide I1).r _ l (unhide I1).y (by omega)).mono ?_
  rintro e w2 ⟨v2, rfl, hO2, hb2⟩
  have I2 := hide ((unhide I1).below hb2)
  have B2 := hide hO2.bytes
  clear hb2 I1 hO2
  go_wp2_with fail
  refine (refSum_any w2 sp c l (unhide I2).y (by omega)).mono ?_
  rintro e w3 ⟨v3, rfl, hO3, hb3⟩
  have I3 := hide ((unhide I2).below hb3)
  have B3 := hide ((unhide B2).below hb3)
  have C3 := hide hO3.bytes
  clear hb3 I2 hO3 B2
  go_wp2_with fail
  refine (same_eq w3 v2 v3 (shaOf l) (unhide B3) (unhide C3) (by rw [length_shaOf]; omega)).mono ?_
  rintro e w4 ⟨rfl, hb4⟩
  have I4 := hide ((unhide I3).below hb4)
  clear hb4 I3 B3 C3
  go_wp2_with fail
  refine (mac_any w4 (unhide I4).r _ k (unhide I4).x (by omega) _ l (unhide I4).y (by omega)).mono ?_
  rintro e w5 ⟨v5, rfl, hO5, hb5⟩
  have I5 := hide ((unhide I4).below hb5)
  have B5 := hide hO5.bytes
  clear hb5 I4 hO5
  go_wp2_with fail
  refine (refMac_any w5 spk ck k (unhide I5).x (by omega) _ l (unhide I5).y (by omega)).mono ?_
  rintro e w6 ⟨v6, rfl, hO6, hb6⟩
  have I6 := hide ((unhide I5).below hb6)
  have B6 := hide ((unhide B5).below hb6)
  have C6 := hide hO6.bytes
  clear hb6 I5 hO6 B5
  go_wp2_with fail
  refine (same_eq w6 v5 v6 (macOf k l) (unhide B6) (unhide C6) (by rw [length_macOf]; omega)).mono ?_
  rintro e w7 ⟨rfl, hb7⟩
  have HB7 := hide ((unhide I6).below hb7).bel
  clear hb7
  go_wp2_with fail
  go_ret
  exact ⟨rfl, unhide HB7⟩
end Go.Proofs.YtodcpcdhkghgnaaDoor
