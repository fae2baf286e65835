/-
  DERIVED. GIVEN WITH THE SEED: THE CARDS: each row of YtmhlafhbdpeglaaDoorRows.lean that lists a variable, with what it lists TIED to the program's text (the seventh form; the later family's looks); each row that meets fmt, with fmt's text TOLD by the authors' own Lean function (tested against real Go, not proved from fmt's source: count such statements apart). THE CARD IS WHAT COUNTS. Prove the row's statement (the work); the ties are given (YtmhlafhbdpeglaaDoorTie.lean); close each card by the builder's one call (the guide's Derived/Test/ToyasCard.lean, 'card_holds'). Laid BY PROGRAM, IN A SANDBOX (cutbox-door.mjs). By AI agents, Wed Nov 11 2026. No macro, syntax, notation, axiom, sorry.
-/
import Derived.Test.YtmhlafhbdpeglaaDoorRows
import GoSem.ClaimSeven
namespace Go.Proofs.YtmhlafhbdpeglaaDoor
namespace Rows

/-- THE TIED CARD OF 'chancerylaw16.MerkleRoots'. -/
def merkleRootsCard : Claim7 := { stood := { row := merkleRootsRow, standIns := [], harness := (true, "c7aa8a13eb49525dd3d1959756d2e6e2822977efd7bb4519fbee722a3241e009"), looks := false }, kinds := [], alts := [], laidByText := true, laidKinds := [.data, .data], laidTests := true, laidLooks := .later }
def MerkleRootsCardSaid : Prop := Claim7.holds Tryd.pinned (.plain (OpenSpec.ofChange merkleRootsSpec)) merkleRootsCard

/-- THE TIED CARD OF 'chancerylaw16.MerklePaths'. -/
def merklePathsCard : Claim7 := { stood := { row := merklePathsRow, standIns := [], harness := (true, "c7aa8a13eb49525dd3d1959756d2e6e2822977efd7bb4519fbee722a3241e009"), looks := false }, kinds := [], alts := [], laidByText := true, laidKinds := [.data, .data], laidTests := true, laidLooks := .later }
def MerklePathsCardSaid : Prop := Claim7.holds Tryd.pinned (.plain (OpenSpec.ofChange merklePathsSpec)) merklePathsCard

/-- THE TIED CARD OF 'chancerylaw16.MerkleBridges'. -/
def merkleBridgesCard : Claim7 := { stood := { row := merkleBridgesRow, standIns := [], harness := (true, "c7aa8a13eb49525dd3d1959756d2e6e2822977efd7bb4519fbee722a3241e009"), looks := false }, kinds := [], alts := [], laidByText := true, laidKinds := [.data, .data], laidTests := true, laidLooks := .later }
def MerkleBridgesCardSaid : Prop := Claim7.holds Tryd.pinned (.plain (OpenSpec.ofChange merkleBridgesSpec)) merkleBridgesCard

/-- THE TIED CARD OF 'chancerylaw16.MerkleProves'. -/
def merkleProvesCard : Claim7 := { stood := { row := merkleProvesRow, standIns := [], harness := (true, "c7aa8a13eb49525dd3d1959756d2e6e2822977efd7bb4519fbee722a3241e009"), looks := false }, kinds := [], alts := [], laidByText := true, laidKinds := [.data, .data], laidTests := true, laidLooks := .later }
def MerkleProvesCardSaid : Prop := Claim7.holds Tryd.pinned (.plain (OpenSpec.ofChange merkleProvesSpec)) merkleProvesCard

/-- THE TIED CARD OF 'chancerylaw16.MerkleIncludes'. -/
def merkleIncludesCard : Claim7 := { stood := { row := merkleIncludesRow, standIns := [], harness := (true, "c7aa8a13eb49525dd3d1959756d2e6e2822977efd7bb4519fbee722a3241e009"), looks := false }, kinds := [], alts := [], laidByText := true, laidKinds := [.data, .data], laidTests := true, laidLooks := .later }
def MerkleIncludesCardSaid : Prop := Claim7.holds Tryd.pinned (.plain (OpenSpec.ofChange merkleIncludesSpec)) merkleIncludesCard

/-- THE TIED CARD OF 'chancerylaw16.MerkleGrows'. -/
def merkleGrowsCard : Claim7 := { stood := { row := merkleGrowsRow, standIns := [], harness := (true, "c7aa8a13eb49525dd3d1959756d2e6e2822977efd7bb4519fbee722a3241e009"), looks := false }, kinds := [], alts := [], laidByText := true, laidKinds := [.data, .data], laidTests := true, laidLooks := .later }
def MerkleGrowsCardSaid : Prop := Claim7.holds Tryd.pinned (.plain (OpenSpec.ofChange merkleGrowsSpec)) merkleGrowsCard

/-- THE SECOND FORM's CARD OF 'chancerylaw16.MerkleRoots'. -/
def merkleRootsUptoCard : Claim7 := { stood := { row := merkleRootsUptoRow, standIns := [], harness := (true, "c7aa8a13eb49525dd3d1959756d2e6e2822977efd7bb4519fbee722a3241e009"), looks := false }, kinds := [], alts := [], laidByText := true, laidKinds := [.data, .data], laidTests := true, laidLooks := .later }
def MerkleRootsUptoCardSaid : Prop := Claim7.holds Tryd.pinned (.plain (OpenSpec.upto merkleRootsSpec)) merkleRootsUptoCard

/-- THE SECOND FORM's CARD OF 'chancerylaw16.MerklePaths'. -/
def merklePathsUptoCard : Claim7 := { stood := { row := merklePathsUptoRow, standIns := [], harness := (true, "c7aa8a13eb49525dd3d1959756d2e6e2822977efd7bb4519fbee722a3241e009"), looks := false }, kinds := [], alts := [], laidByText := true, laidKinds := [.data, .data], laidTests := true, laidLooks := .later }
def MerklePathsUptoCardSaid : Prop := Claim7.holds Tryd.pinned (.plain (OpenSpec.upto merklePathsSpec)) merklePathsUptoCard

/-- THE SECOND FORM's CARD OF 'chancerylaw16.MerkleBridges'. -/
def merkleBridgesUptoCard : Claim7 := { stood := { row := merkleBridgesUptoRow, standIns := [], harness := (true, "c7aa8a13eb49525dd3d1959756d2e6e2822977efd7bb4519fbee722a3241e009"), looks := false }, kinds := [], alts := [], laidByText := true, laidKinds := [.data, .data], laidTests := true, laidLooks := .later }
def MerkleBridgesUptoCardSaid : Prop := Claim7.holds Tryd.pinned (.plain (OpenSpec.upto merkleBridgesSpec)) merkleBridgesUptoCard

/-- THE SECOND FORM's CARD OF 'chancerylaw16.MerkleProves'. -/
def merkleProvesUptoCard : Claim7 := { stood := { row := merkleProvesUptoRow, standIns := [], harness := (true, "c7aa8a13eb49525dd3d1959756d2e6e2822977efd7bb4519fbee722a3241e009"), looks := false }, kinds := [], alts := [], laidByText := true, laidKinds := [.data, .data], laidTests := true, laidLooks := .later }
def MerkleProvesUptoCardSaid : Prop := Claim7.holds Tryd.pinned (.plain (OpenSpec.upto merkleProvesSpec)) merkleProvesUptoCard

/-- THE SECOND FORM's CARD OF 'chancerylaw16.MerkleIncludes'. -/
def merkleIncludesUptoCard : Claim7 := { stood := { row := merkleIncludesUptoRow, standIns := [], harness := (true, "c7aa8a13eb49525dd3d1959756d2e6e2822977efd7bb4519fbee722a3241e009"), looks := false }, kinds := [], alts := [], laidByText := true, laidKinds := [.data, .data], laidTests := true, laidLooks := .later }
def MerkleIncludesUptoCardSaid : Prop := Claim7.holds Tryd.pinned (.plain (OpenSpec.upto merkleIncludesSpec)) merkleIncludesUptoCard

/-- THE SECOND FORM's CARD OF 'chancerylaw16.MerkleGrows'. -/
def merkleGrowsUptoCard : Claim7 := { stood := { row := merkleGrowsUptoRow, standIns := [], harness := (true, "c7aa8a13eb49525dd3d1959756d2e6e2822977efd7bb4519fbee722a3241e009"), looks := false }, kinds := [], alts := [], laidByText := true, laidKinds := [.data, .data], laidTests := true, laidLooks := .later }
def MerkleGrowsUptoCardSaid : Prop := Claim7.holds Tryd.pinned (.plain (OpenSpec.upto merkleGrowsSpec)) merkleGrowsUptoCard
end Rows
end Go.Proofs.YtmhlafhbdpeglaaDoor
