/-
  No cell of these rows narrows 'for every input' (looked for: loops, veiled, ifaces, maps, wideKeys, modest, calm, conditions, laid).
  DERIVED. THE GIVEN ROWS OF THIS SEAT. 5 by the template 'for every input the law returns true; each argument reads behind the call as it read before'; 0 by the template 'total and deterministic' (their statements: YtfpndphfibfdiaaTotals.lean).
  GIVEN WITH THE SEED: the statements are not yours to turn. If you find one false, say at which input.
  Laid BY PROGRAM, IN A SANDBOX (cutbox-rows.mjs): the forced cells as the released guide's own fill.sh prints them over the translation a14e8d193b94f78a… (all of the seat's roots in one cut). By AI agents, Wed Nov 11 2026. No macro, syntax, notation, axiom, sorry.
-/
import Derived.Test.YtfpndphfibfdiaaChecked
import GoSem.Claim
import GoSem.ClaimJoined
import GoSem.ClaimMapViews
import Derived.JoinedTies
import Derived.KernelRfl
namespace Go.Proofs.Ytfpndphfibfdiaa
/- THE CELL 'sum', in the pinned program and in every row, IS THE sha256 OF THE DUMP (.gsa) THAT YtfpndphfibfdiaaProg.lean LOADS. Nothing in Lean hashes anything: it is a label: what it is worth is what the hold of that sum in a sandbox is worth. -/
noncomputable def Try.pinned : Pinned := { name := "ytfpndphfibfdiaa", sum := "a14e8d193b94f78a7354bdb65080d277380b6256ee6362fa3ef4a81cff5a8066", checked := Try.checked }
namespace Rows
def none {H : Type} : Left H := { results := [], args := [] }

/-- 'chancerylaw14.WalWrites': WHATEVER THE INPUT: true; the input reads as it did. -/
def walWritesSpec : ChangeSpec := { name := "walWrites", fn := fun _ => fun
  | [d1, d2, d3] => { results := [.lit (.bool true)], args := [d1, d2, d3] }
  | _ => none }
def walWritesRow : OpenClaim := { program := "ytfpndphfibfdiaa", sum := "a14e8d193b94f78a7354bdb65080d277380b6256ee6362fa3ef4a81cff5a8066", func := "chancery/chancerylaw14.WalWrites", spec := "walWrites", unfollowed := true, recurses := true, apart := false }
def WalWritesSaid : Prop := walWritesRow.holds Try.pinned (OpenSpec.ofChange walWritesSpec)

/-- ITS FALSE NEIGHBOUR: 'it returns false'. Refute it at one input. -/
def walWritesWrong : ChangeSpec := { name := "walWrites", fn := fun _ => fun
  | [d1, d2, d3] => { results := [.lit (.bool false)], args := [d1, d2, d3] }
  | _ => none }
def WalWritesWrongFalsely : Prop := walWritesRow.holds Try.pinned (OpenSpec.ofChange walWritesWrong)

/-- 'chancerylaw14.WalKeeps': WHATEVER THE INPUT: true; the input reads as it did. -/
def walKeepsSpec : ChangeSpec := { name := "walKeeps", fn := fun _ => fun
  | [d1, d2] => { results := [.lit (.bool true)], args := [d1, d2] }
  | _ => none }
def walKeepsRow : OpenClaim := { program := "ytfpndphfibfdiaa", sum := "a14e8d193b94f78a7354bdb65080d277380b6256ee6362fa3ef4a81cff5a8066", func := "chancery/chancerylaw14.WalKeeps", spec := "walKeeps", unfollowed := true, recurses := true, apart := false }
def WalKeepsSaid : Prop := walKeepsRow.holds Try.pinned (OpenSpec.ofChange walKeepsSpec)

/-- ITS FALSE NEIGHBOUR: 'it returns false'. Refute it at one input. -/
def walKeepsWrong : ChangeSpec := { name := "walKeeps", fn := fun _ => fun
  | [d1, d2] => { results := [.lit (.bool false)], args := [d1, d2] }
  | _ => none }
def WalKeepsWrongFalsely : Prop := walKeepsRow.holds Try.pinned (OpenSpec.ofChange walKeepsWrong)

/-- 'chancerylaw14.WalGenerations': WHATEVER THE INPUT: true; the input reads as it did. -/
def walGenerationsSpec : ChangeSpec := { name := "walGenerations", fn := fun _ => fun
  | [d1, d2] => { results := [.lit (.bool true)], args := [d1, d2] }
  | _ => none }
def walGenerationsRow : OpenClaim := { program := "ytfpndphfibfdiaa", sum := "a14e8d193b94f78a7354bdb65080d277380b6256ee6362fa3ef4a81cff5a8066", func := "chancery/chancerylaw14.WalGenerations", spec := "walGenerations", unfollowed := true, recurses := true, apart := false }
def WalGenerationsSaid : Prop := walGenerationsRow.holds Try.pinned (OpenSpec.ofChange walGenerationsSpec)

/-- ITS FALSE NEIGHBOUR: 'it returns false'. Refute it at one input. -/
def walGenerationsWrong : ChangeSpec := { name := "walGenerations", fn := fun _ => fun
  | [d1, d2] => { results := [.lit (.bool false)], args := [d1, d2] }
  | _ => none }
def WalGenerationsWrongFalsely : Prop := walGenerationsRow.holds Try.pinned (OpenSpec.ofChange walGenerationsWrong)

/-- 'chancerylaw14.WalOwn': WHATEVER THE INPUT: true; the input reads as it did. -/
def walOwnSpec : ChangeSpec := { name := "walOwn", fn := fun _ => fun
  | [d] => { results := [.lit (.bool true)], args := [d] }
  | _ => none }
def walOwnRow : OpenClaim := { program := "ytfpndphfibfdiaa", sum := "a14e8d193b94f78a7354bdb65080d277380b6256ee6362fa3ef4a81cff5a8066", func := "chancery/chancerylaw14.WalOwn", spec := "walOwn", unfollowed := true, recurses := true, apart := false }
def WalOwnSaid : Prop := walOwnRow.holds Try.pinned (OpenSpec.ofChange walOwnSpec)

/-- ITS FALSE NEIGHBOUR: 'it returns false'. Refute it at one input. -/
def walOwnWrong : ChangeSpec := { name := "walOwn", fn := fun _ => fun
  | [d] => { results := [.lit (.bool false)], args := [d] }
  | _ => none }
def WalOwnWrongFalsely : Prop := walOwnRow.holds Try.pinned (OpenSpec.ofChange walOwnWrong)

/-- 'chancerylaw14.WalMixed': WHATEVER THE INPUT: true; the input reads as it did. -/
def walMixedSpec : ChangeSpec := { name := "walMixed", fn := fun _ => fun
  | [d1, d2] => { results := [.lit (.bool true)], args := [d1, d2] }
  | _ => none }
def walMixedRow : OpenClaim := { program := "ytfpndphfibfdiaa", sum := "a14e8d193b94f78a7354bdb65080d277380b6256ee6362fa3ef4a81cff5a8066", func := "chancery/chancerylaw14.WalMixed", spec := "walMixed", unfollowed := true, recurses := true, apart := false }
def WalMixedSaid : Prop := walMixedRow.holds Try.pinned (OpenSpec.ofChange walMixedSpec)

/-- ITS FALSE NEIGHBOUR: 'it returns false'. Refute it at one input. -/
def walMixedWrong : ChangeSpec := { name := "walMixed", fn := fun _ => fun
  | [d1, d2] => { results := [.lit (.bool false)], args := [d1, d2] }
  | _ => none }
def WalMixedWrongFalsely : Prop := walMixedRow.holds Try.pinned (OpenSpec.ofChange walMixedWrong)

/- THE SECOND FORM. 'bulk': how many values and letters a reading holds, each counted each time it is reached (what is shared counts as often as it is met; a slice's spare places count too). A statement '..UptoSaid' is the law's where the arguments, and the package variables that the reading takes, are together of bulk at most 1048576: NARROWER than '..Said'. Prove '..Said' where nothing that the law and all that it calls make is longer than what came in: it says more and counts as full. Else prove '..UptoSaid'. A law counts once. -/
mutual
def uptoBulk {H : Type} : DataW H → Nat
  | .lit (.string bytes) => bytes.length + 1
  | .lit _ => 1
  | .nil => 1
  | .ptr d => uptoBulk d + 1
  | .slice elems spare => uptoBulkAll elems + uptoBulkAll spare + 1
  | .agg parts => uptoBulkAll parts + 1
  | .iface _ d => uptoBulk d + 1
  | .map entries => uptoBulkEntries entries + 1
  | .held _ => 1
def uptoBulkAll {H : Type} : List (DataW H) → Nat
  | [] => 0
  | d :: r => uptoBulk d + uptoBulkAll r
def uptoBulkEntries {H : Type} : List (Lit × DataW H) → Nat
  | [] => 0
  | x :: r => uptoBulkEntry x + uptoBulkEntries r
def uptoBulkEntry {H : Type} : Lit × DataW H → Nat
  | (.string bytes, d) => bytes.length + uptoBulk d + 1
  | (_, d) => uptoBulk d + 1
 end
def uptoSmall : (H : Type) → List (DataW H) → Bool := fun _ ds => decide (uptoBulkAll ds ≤ 1048576)
def OpenSpec.upto (s : _root_.Go.ChangeSpec) : _root_.Go.OpenSpec := { _root_.Go.OpenSpec.ofChange s with cond := some uptoSmall }

/-- 'chancerylaw14.WalWrites', WHERE WHAT IT READS IS OF BULK AT MOST 1048576: true; the input reads as it did. -/
def walWritesUptoRow : OpenClaim := { program := "ytfpndphfibfdiaa", sum := "a14e8d193b94f78a7354bdb65080d277380b6256ee6362fa3ef4a81cff5a8066", func := "chancery/chancerylaw14.WalWrites", spec := "walWrites", unfollowed := true, recurses := true, apart := false, narrowed := true }
def WalWritesUptoSaid : Prop := walWritesUptoRow.holds Try.pinned (OpenSpec.upto walWritesSpec)

/-- 'chancerylaw14.WalKeeps', WHERE WHAT IT READS IS OF BULK AT MOST 1048576: true; the input reads as it did. -/
def walKeepsUptoRow : OpenClaim := { program := "ytfpndphfibfdiaa", sum := "a14e8d193b94f78a7354bdb65080d277380b6256ee6362fa3ef4a81cff5a8066", func := "chancery/chancerylaw14.WalKeeps", spec := "walKeeps", unfollowed := true, recurses := true, apart := false, narrowed := true }
def WalKeepsUptoSaid : Prop := walKeepsUptoRow.holds Try.pinned (OpenSpec.upto walKeepsSpec)

/-- 'chancerylaw14.WalGenerations', WHERE WHAT IT READS IS OF BULK AT MOST 1048576: true; the input reads as it did. -/
def walGenerationsUptoRow : OpenClaim := { program := "ytfpndphfibfdiaa", sum := "a14e8d193b94f78a7354bdb65080d277380b6256ee6362fa3ef4a81cff5a8066", func := "chancery/chancerylaw14.WalGenerations", spec := "walGenerations", unfollowed := true, recurses := true, apart := false, narrowed := true }
def WalGenerationsUptoSaid : Prop := walGenerationsUptoRow.holds Try.pinned (OpenSpec.upto walGenerationsSpec)

/-- 'chancerylaw14.WalOwn', WHERE WHAT IT READS IS OF BULK AT MOST 1048576: true; the input reads as it did. -/
def walOwnUptoRow : OpenClaim := { program := "ytfpndphfibfdiaa", sum := "a14e8d193b94f78a7354bdb65080d277380b6256ee6362fa3ef4a81cff5a8066", func := "chancery/chancerylaw14.WalOwn", spec := "walOwn", unfollowed := true, recurses := true, apart := false, narrowed := true }
def WalOwnUptoSaid : Prop := walOwnUptoRow.holds Try.pinned (OpenSpec.upto walOwnSpec)

/-- 'chancerylaw14.WalMixed', WHERE WHAT IT READS IS OF BULK AT MOST 1048576: true; the input reads as it did. -/
def walMixedUptoRow : OpenClaim := { program := "ytfpndphfibfdiaa", sum := "a14e8d193b94f78a7354bdb65080d277380b6256ee6362fa3ef4a81cff5a8066", func := "chancery/chancerylaw14.WalMixed", spec := "walMixed", unfollowed := true, recurses := true, apart := false, narrowed := true }
def WalMixedUptoSaid : Prop := walMixedUptoRow.holds Try.pinned (OpenSpec.upto walMixedSpec)

end Rows
end Go.Proofs.Ytfpndphfibfdiaa
