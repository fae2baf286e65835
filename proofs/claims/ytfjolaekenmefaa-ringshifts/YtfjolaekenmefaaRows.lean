/-
  No cell of these rows narrows 'for every input' (looked for: loops, veiled, ifaces, maps, wideKeys, modest, calm, conditions, laid).
  DERIVED. THE GIVEN ROWS OF THIS SEAT. 6 by the template 'for every input the law returns true; each argument reads behind the call as it read before'; 0 by the template 'total and deterministic' (their statements: YtfjolaekenmefaaTotals.lean).
  GIVEN WITH THE SEED: the statements are not yours to turn. If you find one false, say at which input.
  Laid BY PROGRAM, IN A SANDBOX (cutbox-rows.mjs): the forced cells as the released guide's own fill.sh prints them over the translation 9724f73e672cb65a… (all of the seat's roots in one cut). By AI agents, Wed Nov 11 2026. No macro, syntax, notation, axiom, sorry.
-/
import Derived.Test.YtfjolaekenmefaaChecked
import GoSem.Claim
import GoSem.ClaimJoined
import GoSem.ClaimMapViews
import Derived.JoinedTies
import Derived.KernelRfl
namespace Go.Proofs.Ytfjolaekenmefaa
/- THE CELL 'sum', in the pinned program and in every row, IS THE sha256 OF THE DUMP (.gsa) THAT YtfjolaekenmefaaProg.lean LOADS. Nothing in Lean hashes anything: it is a label: what it is worth is what the hold of that sum in a sandbox is worth. -/
noncomputable def Try.pinned : Pinned := { name := "ytfjolaekenmefaa", sum := "9724f73e672cb65a840266608138dcb3916540053c398448245d64b712b69366", checked := Try.checked }
namespace Rows
def none {H : Type} : Left H := { results := [], args := [] }

/-- 'chancerylaw03.RingSums': WHATEVER THE INPUT: true; the input reads as it did. -/
def ringSumsSpec : ChangeSpec := { name := "ringSums", fn := fun _ => fun
  | [d1, d2] => { results := [.lit (.bool true)], args := [d1, d2] }
  | _ => none }
def ringSumsRow : OpenClaim := { program := "ytfjolaekenmefaa", sum := "9724f73e672cb65a840266608138dcb3916540053c398448245d64b712b69366", func := "chancery/chancerylaw03.RingSums", spec := "ringSums", unfollowed := true, recurses := true, apart := false }
def RingSumsSaid : Prop := ringSumsRow.holds Try.pinned (OpenSpec.ofChange ringSumsSpec)

/-- ITS FALSE NEIGHBOUR: 'it returns false'. Refute it at one input. -/
def ringSumsWrong : ChangeSpec := { name := "ringSums", fn := fun _ => fun
  | [d1, d2] => { results := [.lit (.bool false)], args := [d1, d2] }
  | _ => none }
def RingSumsWrongFalsely : Prop := ringSumsRow.holds Try.pinned (OpenSpec.ofChange ringSumsWrong)

/-- 'chancerylaw03.RingThere': WHATEVER THE INPUT: true; the input reads as it did. -/
def ringThereSpec : ChangeSpec := { name := "ringThere", fn := fun _ => fun
  | [d] => { results := [.lit (.bool true)], args := [d] }
  | _ => none }
def ringThereRow : OpenClaim := { program := "ytfjolaekenmefaa", sum := "9724f73e672cb65a840266608138dcb3916540053c398448245d64b712b69366", func := "chancery/chancerylaw03.RingThere", spec := "ringThere", unfollowed := true, recurses := true, apart := false }
def RingThereSaid : Prop := ringThereRow.holds Try.pinned (OpenSpec.ofChange ringThereSpec)

/-- ITS FALSE NEIGHBOUR: 'it returns false'. Refute it at one input. -/
def ringThereWrong : ChangeSpec := { name := "ringThere", fn := fun _ => fun
  | [d] => { results := [.lit (.bool false)], args := [d] }
  | _ => none }
def RingThereWrongFalsely : Prop := ringThereRow.holds Try.pinned (OpenSpec.ofChange ringThereWrong)

/-- 'chancerylaw03.RingLaws': WHATEVER THE INPUT: true; the input reads as it did. -/
def ringLawsSpec : ChangeSpec := { name := "ringLaws", fn := fun _ => fun
  | [d1, d2, d3] => { results := [.lit (.bool true)], args := [d1, d2, d3] }
  | _ => none }
def ringLawsRow : OpenClaim := { program := "ytfjolaekenmefaa", sum := "9724f73e672cb65a840266608138dcb3916540053c398448245d64b712b69366", func := "chancery/chancerylaw03.RingLaws", spec := "ringLaws", unfollowed := true, recurses := true, apart := false }
def RingLawsSaid : Prop := ringLawsRow.holds Try.pinned (OpenSpec.ofChange ringLawsSpec)

/-- ITS FALSE NEIGHBOUR: 'it returns false'. Refute it at one input. -/
def ringLawsWrong : ChangeSpec := { name := "ringLaws", fn := fun _ => fun
  | [d1, d2, d3] => { results := [.lit (.bool false)], args := [d1, d2, d3] }
  | _ => none }
def RingLawsWrongFalsely : Prop := ringLawsRow.holds Try.pinned (OpenSpec.ofChange ringLawsWrong)

/-- 'chancerylaw03.RingNorms': WHATEVER THE INPUT: true; the input reads as it did. -/
def ringNormsSpec : ChangeSpec := { name := "ringNorms", fn := fun _ => fun
  | [d1, d2] => { results := [.lit (.bool true)], args := [d1, d2] }
  | _ => none }
def ringNormsRow : OpenClaim := { program := "ytfjolaekenmefaa", sum := "9724f73e672cb65a840266608138dcb3916540053c398448245d64b712b69366", func := "chancery/chancerylaw03.RingNorms", spec := "ringNorms", unfollowed := true, recurses := true, apart := false }
def RingNormsSaid : Prop := ringNormsRow.holds Try.pinned (OpenSpec.ofChange ringNormsSpec)

/-- ITS FALSE NEIGHBOUR: 'it returns false'. Refute it at one input. -/
def ringNormsWrong : ChangeSpec := { name := "ringNorms", fn := fun _ => fun
  | [d1, d2] => { results := [.lit (.bool false)], args := [d1, d2] }
  | _ => none }
def RingNormsWrongFalsely : Prop := ringNormsRow.holds Try.pinned (OpenSpec.ofChange ringNormsWrong)

/-- 'chancerylaw03.RingShifts': WHATEVER THE INPUT: true; the input reads as it did. -/
def ringShiftsSpec : ChangeSpec := { name := "ringShifts", fn := fun _ => fun
  | [d1, d2] => { results := [.lit (.bool true)], args := [d1, d2] }
  | _ => none }
def ringShiftsRow : OpenClaim := { program := "ytfjolaekenmefaa", sum := "9724f73e672cb65a840266608138dcb3916540053c398448245d64b712b69366", func := "chancery/chancerylaw03.RingShifts", spec := "ringShifts", unfollowed := true, recurses := true, apart := false }
def RingShiftsSaid : Prop := ringShiftsRow.holds Try.pinned (OpenSpec.ofChange ringShiftsSpec)

/-- ITS FALSE NEIGHBOUR: 'it returns false'. Refute it at one input. -/
def ringShiftsWrong : ChangeSpec := { name := "ringShifts", fn := fun _ => fun
  | [d1, d2] => { results := [.lit (.bool false)], args := [d1, d2] }
  | _ => none }
def RingShiftsWrongFalsely : Prop := ringShiftsRow.holds Try.pinned (OpenSpec.ofChange ringShiftsWrong)

/-- 'chancerylaw03.RingUnits': WHATEVER THE INPUT: true; the input reads as it did. -/
def ringUnitsSpec : ChangeSpec := { name := "ringUnits", fn := fun _ => fun
  | [d1, d2] => { results := [.lit (.bool true)], args := [d1, d2] }
  | _ => none }
def ringUnitsRow : OpenClaim := { program := "ytfjolaekenmefaa", sum := "9724f73e672cb65a840266608138dcb3916540053c398448245d64b712b69366", func := "chancery/chancerylaw03.RingUnits", spec := "ringUnits", unfollowed := true, recurses := true, apart := false }
def RingUnitsSaid : Prop := ringUnitsRow.holds Try.pinned (OpenSpec.ofChange ringUnitsSpec)

/-- ITS FALSE NEIGHBOUR: 'it returns false'. Refute it at one input. -/
def ringUnitsWrong : ChangeSpec := { name := "ringUnits", fn := fun _ => fun
  | [d1, d2] => { results := [.lit (.bool false)], args := [d1, d2] }
  | _ => none }
def RingUnitsWrongFalsely : Prop := ringUnitsRow.holds Try.pinned (OpenSpec.ofChange ringUnitsWrong)

/- THE SECOND FORM. 'bulk': how many values and letters a reading holds, each counted each time it is reached (what is shared counts as often as it is met; a slice's spare places count too). A statement '..UptoSaid' is the law's where the arguments, and the package variables that the reading takes, are together of bulk at most 1048576: NARROWER than '..Said'. Prove '..Said' where nothing that the law and all that it calls make is longer than what came in: it says more and counts as full. Else prove '..UptoSaid'. A law counts once. -/
mutual
def uptoBulk {H : Type} : DataW H → Nat
  | .lit (.string bytes) => bytes.length + 1
  | .lit _ => 1
  | .nil => 1
  | .ptr d => uptoBulk d + 1
  | .slice elems spare => uptoBulkAll elems + uptoBulkAll spare + 1
  | .agg parts => uptoBulkAll parts + 1
  | .iface _ d => uptoBulk d + 1
  | .map entries => uptoBulkEntries entries + 1
  | .held _ => 1
def uptoBulkAll {H : Type} : List (DataW H) → Nat
  | [] => 0
  | d :: r => uptoBulk d + uptoBulkAll r
def uptoBulkEntries {H : Type} : List (Lit × DataW H) → Nat
  | [] => 0
  | x :: r => uptoBulkEntry x + uptoBulkEntries r
def uptoBulkEntry {H : Type} : Lit × DataW H → Nat
  | (.string bytes, d) => bytes.length + uptoBulk d + 1
  | (_, d) => uptoBulk d + 1
 end
def uptoSmall : (H : Type) → List (DataW H) → Bool := fun _ ds => decide (uptoBulkAll ds ≤ 1048576)
def OpenSpec.upto (s : _root_.Go.ChangeSpec) : _root_.Go.OpenSpec := { _root_.Go.OpenSpec.ofChange s with cond := some uptoSmall }

/-- 'chancerylaw03.RingSums', WHERE WHAT IT READS IS OF BULK AT MOST 1048576: true; the input reads as it did. -/
def ringSumsUptoRow : OpenClaim := { program := "ytfjolaekenmefaa", sum := "9724f73e672cb65a840266608138dcb3916540053c398448245d64b712b69366", func := "chancery/chancerylaw03.RingSums", spec := "ringSums", unfollowed := true, recurses := true, apart := false, narrowed := true }
def RingSumsUptoSaid : Prop := ringSumsUptoRow.holds Try.pinned (OpenSpec.upto ringSumsSpec)

/-- 'chancerylaw03.RingThere', WHERE WHAT IT READS IS OF BULK AT MOST 1048576: true; the input reads as it did. -/
def ringThereUptoRow : OpenClaim := { program := "ytfjolaekenmefaa", sum := "9724f73e672cb65a840266608138dcb3916540053c398448245d64b712b69366", func := "chancery/chancerylaw03.RingThere", spec := "ringThere", unfollowed := true, recurses := true, apart := false, narrowed := true }
def RingThereUptoSaid : Prop := ringThereUptoRow.holds Try.pinned (OpenSpec.upto ringThereSpec)

/-- 'chancerylaw03.RingLaws', WHERE WHAT IT READS IS OF BULK AT MOST 1048576: true; the input reads as it did. -/
def ringLawsUptoRow : OpenClaim := { program := "ytfjolaekenmefaa", sum := "9724f73e672cb65a840266608138dcb3916540053c398448245d64b712b69366", func := "chancery/chancerylaw03.RingLaws", spec := "ringLaws", unfollowed := true, recurses := true, apart := false, narrowed := true }
def RingLawsUptoSaid : Prop := ringLawsUptoRow.holds Try.pinned (OpenSpec.upto ringLawsSpec)

/-- 'chancerylaw03.RingNorms', WHERE WHAT IT READS IS OF BULK AT MOST 1048576: true; the input reads as it did. -/
def ringNormsUptoRow : OpenClaim := { program := "ytfjolaekenmefaa", sum := "9724f73e672cb65a840266608138dcb3916540053c398448245d64b712b69366", func := "chancery/chancerylaw03.RingNorms", spec := "ringNorms", unfollowed := true, recurses := true, apart := false, narrowed := true }
def RingNormsUptoSaid : Prop := ringNormsUptoRow.holds Try.pinned (OpenSpec.upto ringNormsSpec)

/-- 'chancerylaw03.RingShifts', WHERE WHAT IT READS IS OF BULK AT MOST 1048576: true; the input reads as it did. -/
def ringShiftsUptoRow : OpenClaim := { program := "ytfjolaekenmefaa", sum := "9724f73e672cb65a840266608138dcb3916540053c398448245d64b712b69366", func := "chancery/chancerylaw03.RingShifts", spec := "ringShifts", unfollowed := true, recurses := true, apart := false, narrowed := true }
def RingShiftsUptoSaid : Prop := ringShiftsUptoRow.holds Try.pinned (OpenSpec.upto ringShiftsSpec)

/-- 'chancerylaw03.RingUnits', WHERE WHAT IT READS IS OF BULK AT MOST 1048576: true; the input reads as it did. -/
def ringUnitsUptoRow : OpenClaim := { program := "ytfjolaekenmefaa", sum := "9724f73e672cb65a840266608138dcb3916540053c398448245d64b712b69366", func := "chancery/chancerylaw03.RingUnits", spec := "ringUnits", unfollowed := true, recurses := true, apart := false, narrowed := true }
def RingUnitsUptoSaid : Prop := ringUnitsUptoRow.holds Try.pinned (OpenSpec.upto ringUnitsSpec)

end Rows
end Go.Proofs.Ytfjolaekenmefaa
