/-
  The walk of the anchor: the bytes that the document tells, reckoned by the kernel.
-/
import Derived.Test.YthddgmnppolajaaDoorSum
import Derived.Test.YthddgmnppolajaaDoorSame
namespace Go.Proofs.YthddgmnppolajaaDoor
open Go.RowKit
set_option maxRecDepth 100000 in
theorem nil128 : (shakeOf 168 [] 4).getD 0 0 = 127 ∧ (shakeOf 168 [] 4).getD 3 0 = 164 := by decide +kernel
set_option maxRecDepth 100000 in
theorem nil256 : (shakeOf 136 [] 4).getD 0 0 = 70 ∧ (shakeOf 136 [] 4).getD 3 0 = 43 := by decide +kernel
set_option maxRecDepth 100000 in
set_option maxHeartbeats 1000000 in
theorem anchor_any (w : World) (hT : NumAt w) :
    Calls Tryd.prog 8 #[] w fun e w' => e = .returned (.bool true) ∧ Below w.heap.size w w' := by
  have HT := hide hT
  clear hT
  go_enter Tryd.func8, Tryd.ntmps8
  go_wp2_with fail
  refine (sum128_any w (unhide HT) _ [] (bytes_nil w) (by simp) 4 (by omega)).mono ?_
  rintro e w1 ⟨v1, rfl, hO1, hb1⟩
  have HT1 := hide ((unhide HT).below hb1)
  have HO1 := hide hO1
  have Hb1 := hide hb1
  clear hO1 hb1
  go_wp2_with fail
  refine (sum256_any w1 (unhide HT1) _ [] (bytes_nil w1) (by simp) 4 (by omega)).mono ?_
  rintro e w2 ⟨v2, rfl, hO2, hb2⟩
  have x1 := ((unhide HO1).bytes.below hb2).cell (by intro e; have := length_shakeOf 168 [] 4; rw [e] at this; cases this)
  have x2 := hO2.bytes.cell (by intro e; have := length_shakeOf 136 [] 4; rw [e] at this; cases this)
  have HB := hide ((unhide Hb1).trans (hb2.mono (unhide Hb1).size))
  clear hO2 hb2 HO1 Hb1 HT1
  rw [length_shakeOf] at x1 x2
  obtain ⟨b1, o1, c1, rfl, hc1, h1⟩ := x1
  obtain ⟨b2, o2, c2, rfl, hc2, h2⟩ := x2
  have a0 : w2.cell? ⟨b1, o1, none⟩ = some (.int .u8 127) := by have := h1 0 (by omega); rw [nil128.1] at this; exact this
  have a1 : w2.cell? ⟨b1, o1 + 3, none⟩ = some (.int .u8 164) := by have := h1 3 (by omega); rw [nil128.2] at this; exact this
  have a2 : w2.cell? ⟨b2, o2, none⟩ = some (.int .u8 70) := by have := h2 0 (by omega); rw [nil256.1] at this; exact this
  have a3 : w2.cell? ⟨b2, o2 + 3, none⟩ = some (.int .u8 43) := by have := h2 3 (by omega); rw [nil256.2] at this; exact this
  clear h1 h2
  go_wp2_with fail
  refine (new129 w2).mono ?_
  rintro e w3 ⟨rfl, rfl⟩
  go_wp2
  go_ret
  exact ⟨rfl, unhide HB⟩
end Go.Proofs.YthddgmnppolajaaDoor
