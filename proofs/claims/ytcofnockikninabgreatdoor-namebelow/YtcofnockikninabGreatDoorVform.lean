/-
  A value's five cells.
-/
import Derived.Test.YtcofnockikninabGreatDoorVrep9
namespace Go.Proofs.YtcofnockikninabGreatDoor
open Go.RowKit
theorem ValAt.form {S : Nat → Prop} {w : World} {cs : List Value} {v : DV} (h : ValAt S w cs v) : ∃ s1 c1 s2 c2, cs = dcells v.cls v.tag v.made (.slice s1 v.bytes.length c1) (.slice s2 v.kids.length c2) := by
  obtain ⟨n, h⟩ := h
  exact h.form
end Go.Proofs.YtcofnockikninabGreatDoor
