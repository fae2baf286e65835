/-
  No cell of these rows narrows 'for every input' (looked for: loops, veiled, ifaces, maps, wideKeys, modest, calm, conditions, laid).
  DERIVED. THE GIVEN ROWS OF THIS SEAT. 2 by the template 'for every input the law returns true; each argument reads behind the call as it read before'; 0 by the template 'total and deterministic' (their statements: YthciafobknaipabTotals.lean).
  GIVEN WITH THE SEED: the statements are not yours to turn. If you find one false, say at which input.
  Laid BY PROGRAM, IN A SANDBOX (cutbox-rows.mjs): the forced cells as the released guide's own fill.sh prints them over the translation 9407d7e45f5f2ae8… (all of the seat's roots in one cut). By AI agents, Wed Nov 11 2026. No macro, syntax, notation, axiom, sorry.
-/
import Derived.Test.YthciafobknaipabChecked
import GoSem.Claim
import GoSem.ClaimJoined
import GoSem.ClaimMapViews
import Derived.JoinedTies
import Derived.KernelRfl
namespace Go.Proofs.Ythciafobknaipab
/- THE CELL 'sum', in the pinned program and in every row, IS THE sha256 OF THE DUMP (.gsa) THAT YthciafobknaipabProg.lean LOADS. Nothing in Lean hashes anything: it is a label: what it is worth is what the hold of that sum in a sandbox is worth. -/
noncomputable def Try.pinned : Pinned := { name := "ythciafobknaipab", sum := "9407d7e45f5f2ae879d82b91ad506f24cf7bc50b26a81b74f108ab2c9c40173d", checked := Try.checked }
namespace Rows
def none {H : Type} : Left H := { results := [], args := [] }

/-- 'chancerylaw04.RoundShort': WHATEVER THE INPUT: true; the input reads as it did. -/
def roundShortSpec : ChangeSpec := { name := "roundShort", fn := fun _ => fun
  | [d1, d2] => { results := [.lit (.bool true)], args := [d1, d2] }
  | _ => none }
def roundShortRow : OpenClaim := { program := "ythciafobknaipab", sum := "9407d7e45f5f2ae879d82b91ad506f24cf7bc50b26a81b74f108ab2c9c40173d", func := "chancery/chancerylaw04.RoundShort", spec := "roundShort", apart := false }
def RoundShortSaid : Prop := roundShortRow.holds Try.pinned (OpenSpec.ofChange roundShortSpec)

/-- ITS FALSE NEIGHBOUR: 'it returns false'. Refute it at one input. -/
def roundShortWrong : ChangeSpec := { name := "roundShort", fn := fun _ => fun
  | [d1, d2] => { results := [.lit (.bool false)], args := [d1, d2] }
  | _ => none }
def RoundShortWrongFalsely : Prop := roundShortRow.holds Try.pinned (OpenSpec.ofChange roundShortWrong)

/-- 'chancerylaw04.RoundJoins': WHATEVER THE INPUT: true; the input reads as it did. -/
def roundJoinsSpec : ChangeSpec := { name := "roundJoins", fn := fun _ => fun
  | [d1, d2, d3] => { results := [.lit (.bool true)], args := [d1, d2, d3] }
  | _ => none }
def roundJoinsRow : OpenClaim := { program := "ythciafobknaipab", sum := "9407d7e45f5f2ae879d82b91ad506f24cf7bc50b26a81b74f108ab2c9c40173d", func := "chancery/chancerylaw04.RoundJoins", spec := "roundJoins", apart := false }
def RoundJoinsSaid : Prop := roundJoinsRow.holds Try.pinned (OpenSpec.ofChange roundJoinsSpec)

/-- ITS FALSE NEIGHBOUR: 'it returns false'. Refute it at one input. -/
def roundJoinsWrong : ChangeSpec := { name := "roundJoins", fn := fun _ => fun
  | [d1, d2, d3] => { results := [.lit (.bool false)], args := [d1, d2, d3] }
  | _ => none }
def RoundJoinsWrongFalsely : Prop := roundJoinsRow.holds Try.pinned (OpenSpec.ofChange roundJoinsWrong)

/- THE SECOND FORM. 'bulk': how many values and letters a reading holds, each counted each time it is reached (what is shared counts as often as it is met; a slice's spare places count too). A statement '..UptoSaid' is the law's where the arguments, and the package variables that the reading takes, are together of bulk at most 1048576: NARROWER than '..Said'. Prove '..Said' where nothing that the law and all that it calls make is longer than what came in: it says more and counts as full. Else prove '..UptoSaid'. A law counts once. -/
mutual
def uptoBulk {H : Type} : DataW H → Nat
  | .lit (.string bytes) => bytes.length + 1
  | .lit _ => 1
  | .nil => 1
  | .ptr d => uptoBulk d + 1
  | .slice elems spare => uptoBulkAll elems + uptoBulkAll spare + 1
  | .agg parts => uptoBulkAll parts + 1
  | .iface _ d => uptoBulk d + 1
  | .map entries => uptoBulkEntries entries + 1
  | .held _ => 1
def uptoBulkAll {H : Type} : List (DataW H) → Nat
  | [] => 0
  | d :: r => uptoBulk d + uptoBulkAll r
def uptoBulkEntries {H : Type} : List (Lit × DataW H) → Nat
  | [] => 0
  | x :: r => uptoBulkEntry x + uptoBulkEntries r
def uptoBulkEntry {H : Type} : Lit × DataW H → Nat
  | (.string bytes, d) => bytes.length + uptoBulk d + 1
  | (_, d) => uptoBulk d + 1
 end
def uptoSmall : (H : Type) → List (DataW H) → Bool := fun _ ds => decide (uptoBulkAll ds ≤ 1048576)
def OpenSpec.upto (s : _root_.Go.ChangeSpec) : _root_.Go.OpenSpec := { _root_.Go.OpenSpec.ofChange s with cond := some uptoSmall }

/-- 'chancerylaw04.RoundShort', WHERE WHAT IT READS IS OF BULK AT MOST 1048576: true; the input reads as it did. -/
def roundShortUptoRow : OpenClaim := { program := "ythciafobknaipab", sum := "9407d7e45f5f2ae879d82b91ad506f24cf7bc50b26a81b74f108ab2c9c40173d", func := "chancery/chancerylaw04.RoundShort", spec := "roundShort", apart := false, narrowed := true }
def RoundShortUptoSaid : Prop := roundShortUptoRow.holds Try.pinned (OpenSpec.upto roundShortSpec)

/-- 'chancerylaw04.RoundJoins', WHERE WHAT IT READS IS OF BULK AT MOST 1048576: true; the input reads as it did. -/
def roundJoinsUptoRow : OpenClaim := { program := "ythciafobknaipab", sum := "9407d7e45f5f2ae879d82b91ad506f24cf7bc50b26a81b74f108ab2c9c40173d", func := "chancery/chancerylaw04.RoundJoins", spec := "roundJoins", apart := false, narrowed := true }
def RoundJoinsUptoSaid : Prop := roundJoinsUptoRow.holds Try.pinned (OpenSpec.upto roundJoinsSpec)

end Rows
end Go.Proofs.Ythciafobknaipab
