/-
  DERIVED. GIVEN WITH THE SEED: THE CARDS: each row of YtngkidlgcdofhabDoorRows.lean that lists a variable, with what it lists TIED to the program's text (the seventh form; the later family's looks); each row that meets fmt, with fmt's text TOLD by the authors' own Lean function (tested against real Go, not proved from fmt's source: count such statements apart). THE CARD IS WHAT COUNTS. Prove the row's statement (the work); the ties are given (YtngkidlgcdofhabDoorTie.lean); close each card by the builder's one call (the guide's Derived/Test/ToyasCard.lean, 'card_holds'). Laid BY PROGRAM, IN A SANDBOX (cutbox-door.mjs). By AI agents, Wed Nov 11 2026. No macro, syntax, notation, axiom, sorry.
-/
import Derived.Test.YtngkidlgcdofhabDoorRows
import GoSem.ClaimSeven
namespace Go.Proofs.YtngkidlgcdofhabDoor
namespace Rows

/-- THE TIED CARD OF 'chancerylaw09.DerNests'. -/
def derNestsCard : Claim7 := { stood := { row := derNestsRow, standIns := [], harness := (true, "167116ef13fa116ac5406c5d9fb07c09503e5f7aad02b36f2d6eb7f02d7ea789"), looks := false }, kinds := [], alts := [], laidByText := true, laidKinds := [.data, .pinned], laidTests := true, laidLooks := .later }
def DerNestsCardSaid : Prop := Claim7.holds Tryd.pinned (.plain (OpenSpec.ofChange derNestsSpec)) derNestsCard

/-- THE TIED CARD OF 'chancerylaw09.DerTimes'. -/
def derTimesCard : Claim7 := { stood := { row := derTimesRow, standIns := [], harness := (true, "167116ef13fa116ac5406c5d9fb07c09503e5f7aad02b36f2d6eb7f02d7ea789"), looks := false }, kinds := [], alts := [], laidByText := true, laidKinds := [.data, .pinned], laidTests := true, laidLooks := .later }
def DerTimesCardSaid : Prop := Claim7.holds Tryd.pinned (.plain (OpenSpec.ofChange derTimesSpec)) derTimesCard

/-- THE TIED CARD OF 'chancerylaw09.DerNumbers'. -/
def derNumbersCard : Claim7 := { stood := { row := derNumbersRow, standIns := [], harness := (true, "167116ef13fa116ac5406c5d9fb07c09503e5f7aad02b36f2d6eb7f02d7ea789"), looks := false }, kinds := [], alts := [], laidByText := true, laidKinds := [.data, .pinned], laidTests := true, laidLooks := .later }
def DerNumbersCardSaid : Prop := Claim7.holds Tryd.pinned (.plain (OpenSpec.ofChange derNumbersSpec)) derNumbersCard

/-- THE TIED CARD OF 'chancerylaw09.DerSets'. -/
def derSetsCard : Claim7 := { stood := { row := derSetsRow, standIns := [], harness := (true, "167116ef13fa116ac5406c5d9fb07c09503e5f7aad02b36f2d6eb7f02d7ea789"), looks := false }, kinds := [], alts := [], laidByText := true, laidKinds := [.data, .pinned], laidTests := true, laidLooks := .later }
def DerSetsCardSaid : Prop := Claim7.holds Tryd.pinned (.plain (OpenSpec.ofChange derSetsSpec)) derSetsCard

/-- THE TIED CARD OF 'chancerylaw09.DerLetters'. -/
def derLettersCard : Claim7 := { stood := { row := derLettersRow, standIns := [], harness := (true, "167116ef13fa116ac5406c5d9fb07c09503e5f7aad02b36f2d6eb7f02d7ea789"), looks := false }, kinds := [], alts := [], laidByText := true, laidKinds := [.data, .pinned], laidTests := true, laidLooks := .later }
def DerLettersCardSaid : Prop := Claim7.holds Tryd.pinned (.plain (OpenSpec.ofChange derLettersSpec)) derLettersCard

/-- THE SECOND FORM's CARD OF 'chancerylaw09.DerNests'. -/
def derNestsUptoCard : Claim7 := { stood := { row := derNestsUptoRow, standIns := [], harness := (true, "167116ef13fa116ac5406c5d9fb07c09503e5f7aad02b36f2d6eb7f02d7ea789"), looks := false }, kinds := [], alts := [], laidByText := true, laidKinds := [.data, .pinned], laidTests := true, laidLooks := .later }
def DerNestsUptoCardSaid : Prop := Claim7.holds Tryd.pinned (.plain (OpenSpec.upto derNestsSpec)) derNestsUptoCard

/-- THE SECOND FORM's CARD OF 'chancerylaw09.DerTimes'. -/
def derTimesUptoCard : Claim7 := { stood := { row := derTimesUptoRow, standIns := [], harness := (true, "167116ef13fa116ac5406c5d9fb07c09503e5f7aad02b36f2d6eb7f02d7ea789"), looks := false }, kinds := [], alts := [], laidByText := true, laidKinds := [.data, .pinned], laidTests := true, laidLooks := .later }
def DerTimesUptoCardSaid : Prop := Claim7.holds Tryd.pinned (.plain (OpenSpec.upto derTimesSpec)) derTimesUptoCard

/-- THE SECOND FORM's CARD OF 'chancerylaw09.DerNumbers'. -/
def derNumbersUptoCard : Claim7 := { stood := { row := derNumbersUptoRow, standIns := [], harness := (true, "167116ef13fa116ac5406c5d9fb07c09503e5f7aad02b36f2d6eb7f02d7ea789"), looks := false }, kinds := [], alts := [], laidByText := true, laidKinds := [.data, .pinned], laidTests := true, laidLooks := .later }
def DerNumbersUptoCardSaid : Prop := Claim7.holds Tryd.pinned (.plain (OpenSpec.upto derNumbersSpec)) derNumbersUptoCard

/-- THE SECOND FORM's CARD OF 'chancerylaw09.DerSets'. -/
def derSetsUptoCard : Claim7 := { stood := { row := derSetsUptoRow, standIns := [], harness := (true, "167116ef13fa116ac5406c5d9fb07c09503e5f7aad02b36f2d6eb7f02d7ea789"), looks := false }, kinds := [], alts := [], laidByText := true, laidKinds := [.data, .pinned], laidTests := true, laidLooks := .later }
def DerSetsUptoCardSaid : Prop := Claim7.holds Tryd.pinned (.plain (OpenSpec.upto derSetsSpec)) derSetsUptoCard

/-- THE SECOND FORM's CARD OF 'chancerylaw09.DerLetters'. -/
def derLettersUptoCard : Claim7 := { stood := { row := derLettersUptoRow, standIns := [], harness := (true, "167116ef13fa116ac5406c5d9fb07c09503e5f7aad02b36f2d6eb7f02d7ea789"), looks := false }, kinds := [], alts := [], laidByText := true, laidKinds := [.data, .pinned], laidTests := true, laidLooks := .later }
def DerLettersUptoCardSaid : Prop := Claim7.holds Tryd.pinned (.plain (OpenSpec.upto derLettersSpec)) derLettersUptoCard
end Rows
end Go.Proofs.YtngkidlgcdofhabDoor
