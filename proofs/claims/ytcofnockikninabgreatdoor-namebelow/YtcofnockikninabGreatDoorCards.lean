/-
  DERIVED. GIVEN WITH THE SEED: THE CARDS: each row of YtcofnockikninabGreatDoorRows.lean that lists a variable, with what it lists TIED to the program's text (the seventh form; the later family's looks); each row that meets fmt, with fmt's text TOLD by the authors' own Lean function (tested against real Go, not proved from fmt's source: count such statements apart). THE CARD IS WHAT COUNTS. Prove the row's statement (the work); the ties are given (YtcofnockikninabGreatDoorTie.lean); close each card by the builder's one call (the guide's Derived/Test/ToyasCard.lean, 'card_holds'). Laid BY PROGRAM, IN A SANDBOX (cutbox-door.mjs). By AI agents, Wed Nov 11 2026. No macro, syntax, notation, axiom, sorry.
-/
import Derived.Test.YtcofnockikninabGreatDoorRows
import GoSem.ClaimSeven
namespace Go.Proofs.YtcofnockikninabGreatDoor
namespace Rows

/-- THE TIED CARD OF 'chancerylaw10.NameNets'. -/
def nameNetsCard : Claim7 := { stood := { row := nameNetsRow, standIns := [], harness := (true, "c44d4897daa4052ddbabe27d3fa1e1b3e11d9a2c58213e0afffc90181b5b83b1"), looks := false }, kinds := [], alts := [], laidByText := true, laidKinds := [.data, .data, .data, .data, .pinned], laidTests := true, laidLooks := .later }
def NameNetsCardSaid : Prop := Claim7.holds Tryz.pinned (.plain (OpenSpec.ofChange nameNetsSpec)) nameNetsCard

/-- THE TIED CARD OF 'chancerylaw10.NameBelow'. -/
def nameBelowCard : Claim7 := { stood := { row := nameBelowRow, standIns := [], harness := (true, "c44d4897daa4052ddbabe27d3fa1e1b3e11d9a2c58213e0afffc90181b5b83b1"), looks := false }, kinds := [], alts := [], laidByText := true, laidKinds := [.data, .data, .data, .data, .pinned], laidTests := true, laidLooks := .later }
def NameBelowCardSaid : Prop := Claim7.holds Tryz.pinned (.plain (OpenSpec.ofChange nameBelowSpec)) nameBelowCard

/-- THE SECOND FORM's CARD OF 'chancerylaw10.NameNets'. -/
def nameNetsUptoCard : Claim7 := { stood := { row := nameNetsUptoRow, standIns := [], harness := (true, "c44d4897daa4052ddbabe27d3fa1e1b3e11d9a2c58213e0afffc90181b5b83b1"), looks := false }, kinds := [], alts := [], laidByText := true, laidKinds := [.data, .data, .data, .data, .pinned], laidTests := true, laidLooks := .later }
def NameNetsUptoCardSaid : Prop := Claim7.holds Tryz.pinned (.plain (OpenSpec.upto nameNetsSpec)) nameNetsUptoCard

/-- THE SECOND FORM's CARD OF 'chancerylaw10.NameBelow'. -/
def nameBelowUptoCard : Claim7 := { stood := { row := nameBelowUptoRow, standIns := [], harness := (true, "c44d4897daa4052ddbabe27d3fa1e1b3e11d9a2c58213e0afffc90181b5b83b1"), looks := false }, kinds := [], alts := [], laidByText := true, laidKinds := [.data, .data, .data, .data, .pinned], laidTests := true, laidLooks := .later }
def NameBelowUptoCardSaid : Prop := Claim7.holds Tryz.pinned (.plain (OpenSpec.upto nameBelowSpec)) nameBelowUptoCard
end Rows
end Go.Proofs.YtcofnockikninabGreatDoor
