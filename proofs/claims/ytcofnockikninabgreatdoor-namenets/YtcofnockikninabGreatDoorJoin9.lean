/-
  The walk of Join.
-/
import Derived.Test.YtcofnockikninabGreatDoorByt
namespace Go.Proofs.YtcofnockikninabGreatDoor
open Go.RowKit
/-- An empty literal. -/
theorem ownb_empty (w : World) : OwnB (w.alloc (.cells #[] 5)) w.heap.size (.slice (some ⟨w.heap.size, 0, none⟩) 0 0) [] := ⟨rfl, Or.inr ⟨w.heap.size, 0, #[], rfl, Nat.le_refl _, heap_alloc_new w _, Nat.le_refl _, Nat.zero_le _, rfl, rfl⟩⟩
set_option maxRecDepth 100000 in
set_option maxHeartbeats 1000000 in
theorem join_any (w : World) (x y : Value) (a b : Bs) (hx : BytesAt w x a) (hy : BytesAt w y b) (hl : a.length + b.length ≤ 1073741824) : GivesB w 6 #[x, y] (a ++ b) := by
  have hbA : Below w.heap.size w (w.alloc (.cells #[] 5)) := (Below.refl _ _).alloc (Nat.le_refl _) _
  have HOA := hide (ownb_empty w)
  have HXA := hide (hx.below hbA)
  have HY := hide hy
  have HbA := hide hbA
  have Hs := hide hbA.size
  have Hl1 := hide (show ([] : Bs).length + a.length ≤ 1073741824 by simp; omega)
  have Hl2 := hide hl
  clear hx hy hbA hl
  go_enter Tryz.func6, Tryz.ntmps6
  go_wp2_with (first
    | (at_builtin; refine wpList_append_bytes rfl _ _ rfl w.heap.size (.slice (some ⟨w.heap.size, 0, none⟩) 0 0) x [] a rfl (unhide HOA) rfl (unhide HXA) (unhide Hs) (unhide Hl1) ?_
       intro v2 w2 hO2 hg2 _
       rw [List.nil_append] at hO2
       have hb2 := ownb_below (unhide HOA) hg2 (unhide HbA) (unhide Hs)
       have HO2 := hide hO2
       have HB2 := hide hb2
       have HY2 := hide ((unhide HY).below hb2)
       have Hs2 := hide hb2.size
       clear hO2 hg2 hb2)
    | (at_builtin; refine wpList_append_bytes rfl _ _ rfl w.heap.size v2 y a b rfl (unhide HO2) rfl (unhide HY2) (unhide Hs2) (unhide Hl2) ?_
       intro v3 w3 hO3 hg3 _
       have HO3 := hide hO3
       have HB3 := hide (ownb_below (unhide HO2) hg3 (unhide HB2) (unhide Hs2))
       clear hO3 hg3))
  go_ret
  exact ⟨_, rfl, unhide HO3, unhide HB3⟩

end Go.Proofs.YtcofnockikninabGreatDoor
