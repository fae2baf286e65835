/-
  DERIVED. GIVEN WITH THE SEED: THE CARDS: each row of YtcofnockikninaaGreatDoorRows.lean that lists a variable, with what it lists TIED to the program's text (the seventh form; the later family's looks); each row that meets fmt, with fmt's text TOLD by the authors' own Lean function (tested against real Go, not proved from fmt's source: count such statements apart). THE CARD IS WHAT COUNTS. Prove the row's statement (the work); the ties are given (YtcofnockikninaaGreatDoorTie.lean); close each card by the builder's one call (the guide's Derived/Test/ToyasCard.lean, 'card_holds'). Laid BY PROGRAM, IN A SANDBOX (cutbox-door.mjs). By AI agents, Wed Nov 11 2026. No macro, syntax, notation, axiom, sorry.
-/
import Derived.Test.YtcofnockikninaaGreatDoorRows
import GoSem.ClaimSeven
namespace Go.Proofs.YtcofnockikninaaGreatDoor
namespace Rows

/-- THE TIED CARD OF 'chancerylaw10.NameOids'. -/
def nameOidsCard : Claim7 := { stood := { row := nameOidsRow, standIns := [], harness := (true, "e5c41f64e5c8fce676aa0814ffcf376aff7e0c5a9298b8a78ae79fe5ea7296f0"), looks := false }, kinds := [], alts := [], laidByText := true, laidKinds := [.data, .data, .data, .data, .pinned], laidTests := true, laidLooks := .later }
def NameOidsCardSaid : Prop := Claim7.holds Tryz.pinned (.plain (OpenSpec.ofChange nameOidsSpec)) nameOidsCard

/-- THE TIED CARD OF 'chancerylaw10.NameTimes'. -/
def nameTimesCard : Claim7 := { stood := { row := nameTimesRow, standIns := [], harness := (true, "e5c41f64e5c8fce676aa0814ffcf376aff7e0c5a9298b8a78ae79fe5ea7296f0"), looks := false }, kinds := [], alts := [], laidByText := true, laidKinds := [.data, .data, .data, .data, .pinned], laidTests := true, laidLooks := .later }
def NameTimesCardSaid : Prop := Claim7.holds Tryz.pinned (.plain (OpenSpec.ofChange nameTimesSpec)) nameTimesCard

/-- THE TIED CARD OF 'chancerylaw10.NameClock'. -/
def nameClockCard : Claim7 := { stood := { row := nameClockRow, standIns := [], harness := (true, "e5c41f64e5c8fce676aa0814ffcf376aff7e0c5a9298b8a78ae79fe5ea7296f0"), looks := false }, kinds := [], alts := [], laidByText := true, laidKinds := [.data, .data, .data, .data, .pinned], laidTests := true, laidLooks := .later }
def NameClockCardSaid : Prop := Claim7.holds Tryz.pinned (.plain (OpenSpec.ofChange nameClockSpec)) nameClockCard

/-- THE TIED CARD OF 'chancerylaw10.NameParses'. -/
def nameParsesCard : Claim7 := { stood := { row := nameParsesRow, standIns := [], harness := (true, "e5c41f64e5c8fce676aa0814ffcf376aff7e0c5a9298b8a78ae79fe5ea7296f0"), looks := false }, kinds := [], alts := [], laidByText := true, laidKinds := [.data, .data, .data, .data, .pinned], laidTests := true, laidLooks := .later }
def NameParsesCardSaid : Prop := Claim7.holds Tryz.pinned (.plain (OpenSpec.ofChange nameParsesSpec)) nameParsesCard

/-- THE TIED CARD OF 'chancerylaw10.NameGenerals'. -/
def nameGeneralsCard : Claim7 := { stood := { row := nameGeneralsRow, standIns := [], harness := (true, "e5c41f64e5c8fce676aa0814ffcf376aff7e0c5a9298b8a78ae79fe5ea7296f0"), looks := false }, kinds := [], alts := [], laidByText := true, laidKinds := [.data, .data, .data, .data, .pinned], laidTests := true, laidLooks := .later }
def NameGeneralsCardSaid : Prop := Claim7.holds Tryz.pinned (.plain (OpenSpec.ofChange nameGeneralsSpec)) nameGeneralsCard

/-- THE TIED CARD OF 'chancerylaw10.NameWithin'. -/
def nameWithinCard : Claim7 := { stood := { row := nameWithinRow, standIns := [], harness := (true, "e5c41f64e5c8fce676aa0814ffcf376aff7e0c5a9298b8a78ae79fe5ea7296f0"), looks := false }, kinds := [], alts := [], laidByText := true, laidKinds := [.data, .data, .data, .data, .pinned], laidTests := true, laidLooks := .later }
def NameWithinCardSaid : Prop := Claim7.holds Tryz.pinned (.plain (OpenSpec.ofChange nameWithinSpec)) nameWithinCard

/-- THE SECOND FORM's CARD OF 'chancerylaw10.NameOids'. -/
def nameOidsUptoCard : Claim7 := { stood := { row := nameOidsUptoRow, standIns := [], harness := (true, "e5c41f64e5c8fce676aa0814ffcf376aff7e0c5a9298b8a78ae79fe5ea7296f0"), looks := false }, kinds := [], alts := [], laidByText := true, laidKinds := [.data, .data, .data, .data, .pinned], laidTests := true, laidLooks := .later }
def NameOidsUptoCardSaid : Prop := Claim7.holds Tryz.pinned (.plain (OpenSpec.upto nameOidsSpec)) nameOidsUptoCard

/-- THE SECOND FORM's CARD OF 'chancerylaw10.NameTimes'. -/
def nameTimesUptoCard : Claim7 := { stood := { row := nameTimesUptoRow, standIns := [], harness := (true, "e5c41f64e5c8fce676aa0814ffcf376aff7e0c5a9298b8a78ae79fe5ea7296f0"), looks := false }, kinds := [], alts := [], laidByText := true, laidKinds := [.data, .data, .data, .data, .pinned], laidTests := true, laidLooks := .later }
def NameTimesUptoCardSaid : Prop := Claim7.holds Tryz.pinned (.plain (OpenSpec.upto nameTimesSpec)) nameTimesUptoCard

/-- THE SECOND FORM's CARD OF 'chancerylaw10.NameClock'. -/
def nameClockUptoCard : Claim7 := { stood := { row := nameClockUptoRow, standIns := [], harness := (true, "e5c41f64e5c8fce676aa0814ffcf376aff7e0c5a9298b8a78ae79fe5ea7296f0"), looks := false }, kinds := [], alts := [], laidByText := true, laidKinds := [.data, .data, .data, .data, .pinned], laidTests := true, laidLooks := .later }
def NameClockUptoCardSaid : Prop := Claim7.holds Tryz.pinned (.plain (OpenSpec.upto nameClockSpec)) nameClockUptoCard

/-- THE SECOND FORM's CARD OF 'chancerylaw10.NameParses'. -/
def nameParsesUptoCard : Claim7 := { stood := { row := nameParsesUptoRow, standIns := [], harness := (true, "e5c41f64e5c8fce676aa0814ffcf376aff7e0c5a9298b8a78ae79fe5ea7296f0"), looks := false }, kinds := [], alts := [], laidByText := true, laidKinds := [.data, .data, .data, .data, .pinned], laidTests := true, laidLooks := .later }
def NameParsesUptoCardSaid : Prop := Claim7.holds Tryz.pinned (.plain (OpenSpec.upto nameParsesSpec)) nameParsesUptoCard

/-- THE SECOND FORM's CARD OF 'chancerylaw10.NameGenerals'. -/
def nameGeneralsUptoCard : Claim7 := { stood := { row := nameGeneralsUptoRow, standIns := [], harness := (true, "e5c41f64e5c8fce676aa0814ffcf376aff7e0c5a9298b8a78ae79fe5ea7296f0"), looks := false }, kinds := [], alts := [], laidByText := true, laidKinds := [.data, .data, .data, .data, .pinned], laidTests := true, laidLooks := .later }
def NameGeneralsUptoCardSaid : Prop := Claim7.holds Tryz.pinned (.plain (OpenSpec.upto nameGeneralsSpec)) nameGeneralsUptoCard

/-- THE SECOND FORM's CARD OF 'chancerylaw10.NameWithin'. -/
def nameWithinUptoCard : Claim7 := { stood := { row := nameWithinUptoRow, standIns := [], harness := (true, "e5c41f64e5c8fce676aa0814ffcf376aff7e0c5a9298b8a78ae79fe5ea7296f0"), looks := false }, kinds := [], alts := [], laidByText := true, laidKinds := [.data, .data, .data, .data, .pinned], laidTests := true, laidLooks := .later }
def NameWithinUptoCardSaid : Prop := Claim7.holds Tryz.pinned (.plain (OpenSpec.upto nameWithinSpec)) nameWithinUptoCard
end Rows
end Go.Proofs.YtcofnockikninaaGreatDoor
