/-
  DERIVED. GIVEN WITH THE SEED: THE CARDS: each row of YtngkidlgcdofhaaDoorRows.lean that lists a variable, with what it lists TIED to the program's text (the seventh form; the later family's looks); each row that meets fmt, with fmt's text TOLD by the authors' own Lean function (tested against real Go, not proved from fmt's source: count such statements apart). THE CARD IS WHAT COUNTS. Prove the row's statement (the work); the ties are given (YtngkidlgcdofhaaDoorTie.lean); close each card by the builder's one call (the guide's Derived/Test/ToyasCard.lean, 'card_holds'). Laid BY PROGRAM, IN A SANDBOX (cutbox-door.mjs). By AI agents, Wed Nov 11 2026. No macro, syntax, notation, axiom, sorry.
-/
import Derived.Test.YtngkidlgcdofhaaDoorRows
import GoSem.ClaimSeven
namespace Go.Proofs.YtngkidlgcdofhaaDoor
namespace Rows

/-- THE TIED CARD OF 'chancerylaw09.DerReads'. -/
def derReadsCard : Claim7 := { stood := { row := derReadsRow, standIns := [], harness := (true, "aa43d46f3c08372bad35c7d71cab1a2b2b95187de304e056e57a81c0933eef5f"), looks := false }, kinds := [], alts := [], laidByText := true, laidKinds := [.data, .pinned], laidTests := true, laidLooks := .later }
def DerReadsCardSaid : Prop := Claim7.holds Tryd.pinned (.plain (OpenSpec.ofChange derReadsSpec)) derReadsCard

/-- THE TIED CARD OF 'chancerylaw09.DerWrites'. -/
def derWritesCard : Claim7 := { stood := { row := derWritesRow, standIns := [], harness := (true, "aa43d46f3c08372bad35c7d71cab1a2b2b95187de304e056e57a81c0933eef5f"), looks := false }, kinds := [], alts := [], laidByText := true, laidKinds := [.data, .pinned], laidTests := true, laidLooks := .later }
def DerWritesCardSaid : Prop := Claim7.holds Tryd.pinned (.plain (OpenSpec.ofChange derWritesSpec)) derWritesCard

/-- THE TIED CARD OF 'chancerylaw09.DerBack'. -/
def derBackCard : Claim7 := { stood := { row := derBackRow, standIns := [], harness := (true, "aa43d46f3c08372bad35c7d71cab1a2b2b95187de304e056e57a81c0933eef5f"), looks := false }, kinds := [], alts := [], laidByText := true, laidKinds := [.data, .pinned], laidTests := true, laidLooks := .later }
def DerBackCardSaid : Prop := Claim7.holds Tryd.pinned (.plain (OpenSpec.ofChange derBackSpec)) derBackCard

/-- THE TIED CARD OF 'chancerylaw09.DerThere'. -/
def derThereCard : Claim7 := { stood := { row := derThereRow, standIns := [], harness := (true, "aa43d46f3c08372bad35c7d71cab1a2b2b95187de304e056e57a81c0933eef5f"), looks := false }, kinds := [], alts := [], laidByText := true, laidKinds := [.data, .pinned], laidTests := true, laidLooks := .later }
def DerThereCardSaid : Prop := Claim7.holds Tryd.pinned (.plain (OpenSpec.ofChange derThereSpec)) derThereCard

/-- THE TIED CARD OF 'chancerylaw09.DerCuts'. -/
def derCutsCard : Claim7 := { stood := { row := derCutsRow, standIns := [], harness := (true, "aa43d46f3c08372bad35c7d71cab1a2b2b95187de304e056e57a81c0933eef5f"), looks := false }, kinds := [], alts := [], laidByText := true, laidKinds := [.data, .pinned], laidTests := true, laidLooks := .later }
def DerCutsCardSaid : Prop := Claim7.holds Tryd.pinned (.plain (OpenSpec.ofChange derCutsSpec)) derCutsCard

/-- THE TIED CARD OF 'chancerylaw09.DerSizes'. -/
def derSizesCard : Claim7 := { stood := { row := derSizesRow, standIns := [], harness := (true, "aa43d46f3c08372bad35c7d71cab1a2b2b95187de304e056e57a81c0933eef5f"), looks := false }, kinds := [], alts := [], laidByText := true, laidKinds := [.data, .pinned], laidTests := true, laidLooks := .later }
def DerSizesCardSaid : Prop := Claim7.holds Tryd.pinned (.plain (OpenSpec.ofChange derSizesSpec)) derSizesCard

/-- THE SECOND FORM's CARD OF 'chancerylaw09.DerReads'. -/
def derReadsUptoCard : Claim7 := { stood := { row := derReadsUptoRow, standIns := [], harness := (true, "aa43d46f3c08372bad35c7d71cab1a2b2b95187de304e056e57a81c0933eef5f"), looks := false }, kinds := [], alts := [], laidByText := true, laidKinds := [.data, .pinned], laidTests := true, laidLooks := .later }
def DerReadsUptoCardSaid : Prop := Claim7.holds Tryd.pinned (.plain (OpenSpec.upto derReadsSpec)) derReadsUptoCard

/-- THE SECOND FORM's CARD OF 'chancerylaw09.DerWrites'. -/
def derWritesUptoCard : Claim7 := { stood := { row := derWritesUptoRow, standIns := [], harness := (true, "aa43d46f3c08372bad35c7d71cab1a2b2b95187de304e056e57a81c0933eef5f"), looks := false }, kinds := [], alts := [], laidByText := true, laidKinds := [.data, .pinned], laidTests := true, laidLooks := .later }
def DerWritesUptoCardSaid : Prop := Claim7.holds Tryd.pinned (.plain (OpenSpec.upto derWritesSpec)) derWritesUptoCard

/-- THE SECOND FORM's CARD OF 'chancerylaw09.DerBack'. -/
def derBackUptoCard : Claim7 := { stood := { row := derBackUptoRow, standIns := [], harness := (true, "aa43d46f3c08372bad35c7d71cab1a2b2b95187de304e056e57a81c0933eef5f"), looks := false }, kinds := [], alts := [], laidByText := true, laidKinds := [.data, .pinned], laidTests := true, laidLooks := .later }
def DerBackUptoCardSaid : Prop := Claim7.holds Tryd.pinned (.plain (OpenSpec.upto derBackSpec)) derBackUptoCard

/-- THE SECOND FORM's CARD OF 'chancerylaw09.DerThere'. -/
def derThereUptoCard : Claim7 := { stood := { row := derThereUptoRow, standIns := [], harness := (true, "aa43d46f3c08372bad35c7d71cab1a2b2b95187de304e056e57a81c0933eef5f"), looks := false }, kinds := [], alts := [], laidByText := true, laidKinds := [.data, .pinned], laidTests := true, laidLooks := .later }
def DerThereUptoCardSaid : Prop := Claim7.holds Tryd.pinned (.plain (OpenSpec.upto derThereSpec)) derThereUptoCard

/-- THE SECOND FORM's CARD OF 'chancerylaw09.DerCuts'. -/
def derCutsUptoCard : Claim7 := { stood := { row := derCutsUptoRow, standIns := [], harness := (true, "aa43d46f3c08372bad35c7d71cab1a2b2b95187de304e056e57a81c0933eef5f"), looks := false }, kinds := [], alts := [], laidByText := true, laidKinds := [.data, .pinned], laidTests := true, laidLooks := .later }
def DerCutsUptoCardSaid : Prop := Claim7.holds Tryd.pinned (.plain (OpenSpec.upto derCutsSpec)) derCutsUptoCard

/-- THE SECOND FORM's CARD OF 'chancerylaw09.DerSizes'. -/
def derSizesUptoCard : Claim7 := { stood := { row := derSizesUptoRow, standIns := [], harness := (true, "aa43d46f3c08372bad35c7d71cab1a2b2b95187de304e056e57a81c0933eef5f"), looks := false }, kinds := [], alts := [], laidByText := true, laidKinds := [.data, .pinned], laidTests := true, laidLooks := .later }
def DerSizesUptoCardSaid : Prop := Claim7.holds Tryd.pinned (.plain (OpenSpec.upto derSizesSpec)) derSizesUptoCard
end Rows
end Go.Proofs.YtngkidlgcdofhaaDoor
