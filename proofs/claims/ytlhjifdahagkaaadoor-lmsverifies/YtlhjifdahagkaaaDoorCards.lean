/-
  DERIVED. GIVEN WITH THE SEED: THE CARDS: each row of YtlhjifdahagkaaaDoorRows.lean that lists a variable, with what it lists TIED to the program's text (the seventh form; the later family's looks); each row that meets fmt, with fmt's text TOLD by the authors' own Lean function (tested against real Go, not proved from fmt's source: count such statements apart). THE CARD IS WHAT COUNTS. Prove the row's statement (the work); the ties are given (YtlhjifdahagkaaaDoorTie.lean); close each card by the builder's one call (the guide's Derived/Test/ToyasCard.lean, 'card_holds'). Laid BY PROGRAM, IN A SANDBOX (cutbox-door.mjs). By AI agents, Wed Nov 11 2026. No macro, syntax, notation, axiom, sorry.
-/
import Derived.Test.YtlhjifdahagkaaaDoorRows
import GoSem.ClaimSeven
namespace Go.Proofs.YtlhjifdahagkaaaDoor
namespace Rows

/-- THE TIED CARD OF 'chancerylaw07.LmsKeys'. -/
def lmsKeysCard : Claim7 := { stood := { row := lmsKeysRow, standIns := [], harness := (true, "5f362900e91798683d5503498531fbe8537fd411ecfce5869c376c017c010fde"), looks := false }, kinds := [], alts := [], laidByText := true, laidKinds := [.data, .data, .data], laidTests := true, laidLooks := .later }
def LmsKeysCardSaid : Prop := Claim7.holds Tryd.pinned (.plain (OpenSpec.ofChange lmsKeysSpec)) lmsKeysCard

/-- THE TIED CARD OF 'chancerylaw07.LmsSigns'. -/
def lmsSignsCard : Claim7 := { stood := { row := lmsSignsRow, standIns := [], harness := (true, "5f362900e91798683d5503498531fbe8537fd411ecfce5869c376c017c010fde"), looks := false }, kinds := [], alts := [], laidByText := true, laidKinds := [.data, .data, .data], laidTests := true, laidLooks := .later }
def LmsSignsCardSaid : Prop := Claim7.holds Tryd.pinned (.plain (OpenSpec.ofChange lmsSignsSpec)) lmsSignsCard

/-- THE TIED CARD OF 'chancerylaw07.LmsOpens'. -/
def lmsOpensCard : Claim7 := { stood := { row := lmsOpensRow, standIns := [], harness := (true, "5f362900e91798683d5503498531fbe8537fd411ecfce5869c376c017c010fde"), looks := false }, kinds := [], alts := [], laidByText := true, laidKinds := [.data, .data, .data], laidTests := true, laidLooks := .later }
def LmsOpensCardSaid : Prop := Claim7.holds Tryd.pinned (.plain (OpenSpec.ofChange lmsOpensSpec)) lmsOpensCard

/-- THE TIED CARD OF 'chancerylaw07.LmsVerifies'. -/
def lmsVerifiesCard : Claim7 := { stood := { row := lmsVerifiesRow, standIns := [], harness := (true, "5f362900e91798683d5503498531fbe8537fd411ecfce5869c376c017c010fde"), looks := false }, kinds := [], alts := [], laidByText := true, laidKinds := [.data, .data, .data], laidTests := true, laidLooks := .later }
def LmsVerifiesCardSaid : Prop := Claim7.holds Tryd.pinned (.plain (OpenSpec.ofChange lmsVerifiesSpec)) lmsVerifiesCard

/-- THE TIED CARD OF 'chancerylaw07.LmsBytes'. -/
def lmsBytesCard : Claim7 := { stood := { row := lmsBytesRow, standIns := [], harness := (true, "5f362900e91798683d5503498531fbe8537fd411ecfce5869c376c017c010fde"), looks := false }, kinds := [], alts := [], laidByText := true, laidKinds := [.data, .data, .data], laidTests := true, laidLooks := .later }
def LmsBytesCardSaid : Prop := Claim7.holds Tryd.pinned (.plain (OpenSpec.ofChange lmsBytesSpec)) lmsBytesCard

/-- THE TIED CARD OF 'chancerylaw07.LmsApart'. -/
def lmsApartCard : Claim7 := { stood := { row := lmsApartRow, standIns := [], harness := (true, "5f362900e91798683d5503498531fbe8537fd411ecfce5869c376c017c010fde"), looks := false }, kinds := [], alts := [], laidByText := true, laidKinds := [.data, .data, .data], laidTests := true, laidLooks := .later }
def LmsApartCardSaid : Prop := Claim7.holds Tryd.pinned (.plain (OpenSpec.ofChange lmsApartSpec)) lmsApartCard

/-- THE SECOND FORM's CARD OF 'chancerylaw07.LmsKeys'. -/
def lmsKeysUptoCard : Claim7 := { stood := { row := lmsKeysUptoRow, standIns := [], harness := (true, "5f362900e91798683d5503498531fbe8537fd411ecfce5869c376c017c010fde"), looks := false }, kinds := [], alts := [], laidByText := true, laidKinds := [.data, .data, .data], laidTests := true, laidLooks := .later }
def LmsKeysUptoCardSaid : Prop := Claim7.holds Tryd.pinned (.plain (OpenSpec.upto lmsKeysSpec)) lmsKeysUptoCard

/-- THE SECOND FORM's CARD OF 'chancerylaw07.LmsSigns'. -/
def lmsSignsUptoCard : Claim7 := { stood := { row := lmsSignsUptoRow, standIns := [], harness := (true, "5f362900e91798683d5503498531fbe8537fd411ecfce5869c376c017c010fde"), looks := false }, kinds := [], alts := [], laidByText := true, laidKinds := [.data, .data, .data], laidTests := true, laidLooks := .later }
def LmsSignsUptoCardSaid : Prop := Claim7.holds Tryd.pinned (.plain (OpenSpec.upto lmsSignsSpec)) lmsSignsUptoCard

/-- THE SECOND FORM's CARD OF 'chancerylaw07.LmsOpens'. -/
def lmsOpensUptoCard : Claim7 := { stood := { row := lmsOpensUptoRow, standIns := [], harness := (true, "5f362900e91798683d5503498531fbe8537fd411ecfce5869c376c017c010fde"), looks := false }, kinds := [], alts := [], laidByText := true, laidKinds := [.data, .data, .data], laidTests := true, laidLooks := .later }
def LmsOpensUptoCardSaid : Prop := Claim7.holds Tryd.pinned (.plain (OpenSpec.upto lmsOpensSpec)) lmsOpensUptoCard

/-- THE SECOND FORM's CARD OF 'chancerylaw07.LmsVerifies'. -/
def lmsVerifiesUptoCard : Claim7 := { stood := { row := lmsVerifiesUptoRow, standIns := [], harness := (true, "5f362900e91798683d5503498531fbe8537fd411ecfce5869c376c017c010fde"), looks := false }, kinds := [], alts := [], laidByText := true, laidKinds := [.data, .data, .data], laidTests := true, laidLooks := .later }
def LmsVerifiesUptoCardSaid : Prop := Claim7.holds Tryd.pinned (.plain (OpenSpec.upto lmsVerifiesSpec)) lmsVerifiesUptoCard

/-- THE SECOND FORM's CARD OF 'chancerylaw07.LmsBytes'. -/
def lmsBytesUptoCard : Claim7 := { stood := { row := lmsBytesUptoRow, standIns := [], harness := (true, "5f362900e91798683d5503498531fbe8537fd411ecfce5869c376c017c010fde"), looks := false }, kinds := [], alts := [], laidByText := true, laidKinds := [.data, .data, .data], laidTests := true, laidLooks := .later }
def LmsBytesUptoCardSaid : Prop := Claim7.holds Tryd.pinned (.plain (OpenSpec.upto lmsBytesSpec)) lmsBytesUptoCard

/-- THE SECOND FORM's CARD OF 'chancerylaw07.LmsApart'. -/
def lmsApartUptoCard : Claim7 := { stood := { row := lmsApartUptoRow, standIns := [], harness := (true, "5f362900e91798683d5503498531fbe8537fd411ecfce5869c376c017c010fde"), looks := false }, kinds := [], alts := [], laidByText := true, laidKinds := [.data, .data, .data], laidTests := true, laidLooks := .later }
def LmsApartUptoCardSaid : Prop := Claim7.holds Tryd.pinned (.plain (OpenSpec.upto lmsApartSpec)) lmsApartUptoCard
end Rows
end Go.Proofs.YtlhjifdahagkaaaDoor
