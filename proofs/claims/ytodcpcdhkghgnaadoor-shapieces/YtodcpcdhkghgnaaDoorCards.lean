/-
  DERIVED. GIVEN WITH THE SEED: THE CARDS: each row of YtodcpcdhkghgnaaDoorRows.lean that lists a variable, with what it lists TIED to the program's text (the seventh form; the later family's looks); each row that meets fmt, with fmt's text TOLD by the authors' own Lean function (tested against real Go, not proved from fmt's source: count such statements apart). THE CARD IS WHAT COUNTS. Prove the row's statement (the work); the ties are given (YtodcpcdhkghgnaaDoorTie.lean); close each card by the builder's one call (the guide's Derived/Test/ToyasCard.lean, 'card_holds'). Laid BY PROGRAM, IN A SANDBOX (cutbox-door.mjs). By AI agents, Wed Nov 11 2026. No macro, syntax, notation, axiom, sorry.
-/
import Derived.Test.YtodcpcdhkghgnaaDoorRows
import GoSem.ClaimSeven
namespace Go.Proofs.YtodcpcdhkghgnaaDoor
namespace Rows

/-- THE TIED CARD OF 'chancerylaw01.ShaSums'. -/
def shaSumsCard : Claim7 := { stood := { row := shaSumsRow, standIns := [], harness := (true, "5c0ec4159e8b381e298512b66ec454a437c59bede57e5648cfeba65348b1fe82"), looks := false }, kinds := [], alts := [], laidByText := true, laidKinds := [.data, .data], laidTests := true, laidLooks := .later }
def ShaSumsCardSaid : Prop := Claim7.holds Tryd.pinned (.plain (OpenSpec.ofChange shaSumsSpec)) shaSumsCard

/-- THE TIED CARD OF 'chancerylaw01.ShaPieces'. -/
def shaPiecesCard : Claim7 := { stood := { row := shaPiecesRow, standIns := [], harness := (true, "5c0ec4159e8b381e298512b66ec454a437c59bede57e5648cfeba65348b1fe82"), looks := false }, kinds := [], alts := [], laidByText := true, laidKinds := [.data, .data], laidTests := true, laidLooks := .later }
def ShaPiecesCardSaid : Prop := Claim7.holds Tryd.pinned (.plain (OpenSpec.ofChange shaPiecesSpec)) shaPiecesCard

/-- THE TIED CARD OF 'chancerylaw01.ShaLong'. -/
def shaLongCard : Claim7 := { stood := { row := shaLongRow, standIns := [], harness := (true, "5c0ec4159e8b381e298512b66ec454a437c59bede57e5648cfeba65348b1fe82"), looks := false }, kinds := [], alts := [], laidByText := true, laidKinds := [.data, .data], laidTests := true, laidLooks := .later }
def ShaLongCardSaid : Prop := Claim7.holds Tryd.pinned (.plain (OpenSpec.ofChange shaLongSpec)) shaLongCard

/-- THE TIED CARD OF 'chancerylaw01.ShaCodes'. -/
def shaCodesCard : Claim7 := { stood := { row := shaCodesRow, standIns := [], harness := (true, "5c0ec4159e8b381e298512b66ec454a437c59bede57e5648cfeba65348b1fe82"), looks := false }, kinds := [], alts := [], laidByText := true, laidKinds := [.data, .data], laidTests := true, laidLooks := .later }
def ShaCodesCardSaid : Prop := Claim7.holds Tryd.pinned (.plain (OpenSpec.ofChange shaCodesSpec)) shaCodesCard

/-- THE TIED CARD OF 'chancerylaw01.ShaSplits'. -/
def shaSplitsCard : Claim7 := { stood := { row := shaSplitsRow, standIns := [], harness := (true, "5c0ec4159e8b381e298512b66ec454a437c59bede57e5648cfeba65348b1fe82"), looks := false }, kinds := [], alts := [], laidByText := true, laidKinds := [.data, .data], laidTests := true, laidLooks := .later }
def ShaSplitsCardSaid : Prop := Claim7.holds Tryd.pinned (.plain (OpenSpec.ofChange shaSplitsSpec)) shaSplitsCard

/-- THE SECOND FORM's CARD OF 'chancerylaw01.ShaSums'. -/
def shaSumsUptoCard : Claim7 := { stood := { row := shaSumsUptoRow, standIns := [], harness := (true, "5c0ec4159e8b381e298512b66ec454a437c59bede57e5648cfeba65348b1fe82"), looks := false }, kinds := [], alts := [], laidByText := true, laidKinds := [.data, .data], laidTests := true, laidLooks := .later }
def ShaSumsUptoCardSaid : Prop := Claim7.holds Tryd.pinned (.plain (OpenSpec.upto shaSumsSpec)) shaSumsUptoCard

/-- THE SECOND FORM's CARD OF 'chancerylaw01.ShaPieces'. -/
def shaPiecesUptoCard : Claim7 := { stood := { row := shaPiecesUptoRow, standIns := [], harness := (true, "5c0ec4159e8b381e298512b66ec454a437c59bede57e5648cfeba65348b1fe82"), looks := false }, kinds := [], alts := [], laidByText := true, laidKinds := [.data, .data], laidTests := true, laidLooks := .later }
def ShaPiecesUptoCardSaid : Prop := Claim7.holds Tryd.pinned (.plain (OpenSpec.upto shaPiecesSpec)) shaPiecesUptoCard

/-- THE SECOND FORM's CARD OF 'chancerylaw01.ShaLong'. -/
def shaLongUptoCard : Claim7 := { stood := { row := shaLongUptoRow, standIns := [], harness := (true, "5c0ec4159e8b381e298512b66ec454a437c59bede57e5648cfeba65348b1fe82"), looks := false }, kinds := [], alts := [], laidByText := true, laidKinds := [.data, .data], laidTests := true, laidLooks := .later }
def ShaLongUptoCardSaid : Prop := Claim7.holds Tryd.pinned (.plain (OpenSpec.upto shaLongSpec)) shaLongUptoCard

/-- THE SECOND FORM's CARD OF 'chancerylaw01.ShaCodes'. -/
def shaCodesUptoCard : Claim7 := { stood := { row := shaCodesUptoRow, standIns := [], harness := (true, "5c0ec4159e8b381e298512b66ec454a437c59bede57e5648cfeba65348b1fe82"), looks := false }, kinds := [], alts := [], laidByText := true, laidKinds := [.data, .data], laidTests := true, laidLooks := .later }
def ShaCodesUptoCardSaid : Prop := Claim7.holds Tryd.pinned (.plain (OpenSpec.upto shaCodesSpec)) shaCodesUptoCard

/-- THE SECOND FORM's CARD OF 'chancerylaw01.ShaSplits'. -/
def shaSplitsUptoCard : Claim7 := { stood := { row := shaSplitsUptoRow, standIns := [], harness := (true, "5c0ec4159e8b381e298512b66ec454a437c59bede57e5648cfeba65348b1fe82"), looks := false }, kinds := [], alts := [], laidByText := true, laidKinds := [.data, .data], laidTests := true, laidLooks := .later }
def ShaSplitsUptoCardSaid : Prop := Claim7.holds Tryd.pinned (.plain (OpenSpec.upto shaSplitsSpec)) shaSplitsUptoCard
end Rows
end Go.Proofs.YtodcpcdhkghgnaaDoor
