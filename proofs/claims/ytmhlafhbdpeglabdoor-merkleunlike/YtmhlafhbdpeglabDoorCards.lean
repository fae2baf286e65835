/-
  DERIVED. GIVEN WITH THE SEED: THE CARDS: each row of YtmhlafhbdpeglabDoorRows.lean that lists a variable, with what it lists TIED to the program's text (the seventh form; the later family's looks); each row that meets fmt, with fmt's text TOLD by the authors' own Lean function (tested against real Go, not proved from fmt's source: count such statements apart). THE CARD IS WHAT COUNTS. Prove the row's statement (the work); the ties are given (YtmhlafhbdpeglabDoorTie.lean); close each card by the builder's one call (the guide's Derived/Test/ToyasCard.lean, 'card_holds'). Laid BY PROGRAM, IN A SANDBOX (cutbox-door.mjs). By AI agents, Wed Nov 11 2026. No macro, syntax, notation, axiom, sorry.
-/
import Derived.Test.YtmhlafhbdpeglabDoorRows
import GoSem.ClaimSeven
namespace Go.Proofs.YtmhlafhbdpeglabDoor
namespace Rows

/-- THE TIED CARD OF 'chancerylaw16.MerkleGreat'. -/
def merkleGreatCard : Claim7 := { stood := { row := merkleGreatRow, standIns := [], harness := (true, "d8d63e03c5afa918c57874bbc70a1f4069088b243ae300fb18b297fd4233c7d4"), looks := false }, kinds := [], alts := [], laidByText := true, laidKinds := [.data, .data], laidTests := true, laidLooks := .later }
def MerkleGreatCardSaid : Prop := Claim7.holds Tryd.pinned (.plain (OpenSpec.ofChange merkleGreatSpec)) merkleGreatCard

/-- THE TIED CARD OF 'chancerylaw16.MerkleStays'. -/
def merkleStaysCard : Claim7 := { stood := { row := merkleStaysRow, standIns := [], harness := (true, "d8d63e03c5afa918c57874bbc70a1f4069088b243ae300fb18b297fd4233c7d4"), looks := false }, kinds := [], alts := [], laidByText := true, laidKinds := [.data, .data], laidTests := true, laidLooks := .later }
def MerkleStaysCardSaid : Prop := Claim7.holds Tryd.pinned (.plain (OpenSpec.ofChange merkleStaysSpec)) merkleStaysCard

/-- THE TIED CARD OF 'chancerylaw16.MerkleUnlike'. -/
def merkleUnlikeCard : Claim7 := { stood := { row := merkleUnlikeRow, standIns := [], harness := (true, "d8d63e03c5afa918c57874bbc70a1f4069088b243ae300fb18b297fd4233c7d4"), looks := false }, kinds := [], alts := [], laidByText := true, laidKinds := [.data, .data], laidTests := true, laidLooks := .later }
def MerkleUnlikeCardSaid : Prop := Claim7.holds Tryd.pinned (.plain (OpenSpec.ofChange merkleUnlikeSpec)) merkleUnlikeCard

/-- THE SECOND FORM's CARD OF 'chancerylaw16.MerkleGreat'. -/
def merkleGreatUptoCard : Claim7 := { stood := { row := merkleGreatUptoRow, standIns := [], harness := (true, "d8d63e03c5afa918c57874bbc70a1f4069088b243ae300fb18b297fd4233c7d4"), looks := false }, kinds := [], alts := [], laidByText := true, laidKinds := [.data, .data], laidTests := true, laidLooks := .later }
def MerkleGreatUptoCardSaid : Prop := Claim7.holds Tryd.pinned (.plain (OpenSpec.upto merkleGreatSpec)) merkleGreatUptoCard

/-- THE SECOND FORM's CARD OF 'chancerylaw16.MerkleStays'. -/
def merkleStaysUptoCard : Claim7 := { stood := { row := merkleStaysUptoRow, standIns := [], harness := (true, "d8d63e03c5afa918c57874bbc70a1f4069088b243ae300fb18b297fd4233c7d4"), looks := false }, kinds := [], alts := [], laidByText := true, laidKinds := [.data, .data], laidTests := true, laidLooks := .later }
def MerkleStaysUptoCardSaid : Prop := Claim7.holds Tryd.pinned (.plain (OpenSpec.upto merkleStaysSpec)) merkleStaysUptoCard

/-- THE SECOND FORM's CARD OF 'chancerylaw16.MerkleUnlike'. -/
def merkleUnlikeUptoCard : Claim7 := { stood := { row := merkleUnlikeUptoRow, standIns := [], harness := (true, "d8d63e03c5afa918c57874bbc70a1f4069088b243ae300fb18b297fd4233c7d4"), looks := false }, kinds := [], alts := [], laidByText := true, laidKinds := [.data, .data], laidTests := true, laidLooks := .later }
def MerkleUnlikeUptoCardSaid : Prop := Claim7.holds Tryd.pinned (.plain (OpenSpec.upto merkleUnlikeSpec)) merkleUnlikeUptoCard
end Rows
end Go.Proofs.YtmhlafhbdpeglabDoor
