/-
  DERIVED. GIVEN WITH THE SEED: THE CARDS: each row of YtcbaknnaacnaiaaDoorRows.lean that lists a variable, with what it lists TIED to the program's text (the seventh form; the later family's looks); each row that meets fmt, with fmt's text TOLD by the authors' own Lean function (tested against real Go, not proved from fmt's source: count such statements apart). THE CARD IS WHAT COUNTS. Prove the row's statement (the work); the ties are given (YtcbaknnaacnaiaaDoorTie.lean); close each card by the builder's one call (the guide's Derived/Test/ToyasCard.lean, 'card_holds'). Laid BY PROGRAM, IN A SANDBOX (cutbox-door.mjs). By AI agents, Wed Nov 11 2026. No macro, syntax, notation, axiom, sorry.
-/
import Derived.Test.YtcbaknnaacnaiaaDoorRows
import GoSem.ClaimSeven
namespace Go.Proofs.YtcbaknnaacnaiaaDoor
namespace Rows

/-- THE TIED CARD OF 'wholelaw.SquareSays'. -/
def squareSaysCard : Claim7 := { stood := { row := squareSaysRow, standIns := [], harness := (true, "38adeccae7cbf967959ee40a2cc640e1eafa8a8f3072e0ec4bb7afdfbdd471e2"), looks := false }, kinds := [], alts := [], laidByText := true, laidKinds := [.data, .data], laidTests := true, laidLooks := .later }
def SquareSaysCardSaid : Prop := Claim7.holds Tryd.pinned (.plain (OpenSpec.ofChange squareSaysSpec)) squareSaysCard

/-- THE TIED CARD OF 'wholekeep.SquareEuler'. -/
def squareEulerCard : Claim7 := { stood := { row := squareEulerRow, standIns := [], harness := (true, "38adeccae7cbf967959ee40a2cc640e1eafa8a8f3072e0ec4bb7afdfbdd471e2"), looks := false }, kinds := [], alts := [], laidByText := true, laidKinds := [.data, .data], laidTests := true, laidLooks := .later }
def SquareEulerCardSaid : Prop := Claim7.holds Tryd.pinned (.plain (OpenSpec.ofChange squareEulerSpec)) squareEulerCard

/-- THE TIED CARD OF 'wholekeep.SquareRecip'. -/
def squareRecipCard : Claim7 := { stood := { row := squareRecipRow, standIns := [], harness := (true, "38adeccae7cbf967959ee40a2cc640e1eafa8a8f3072e0ec4bb7afdfbdd471e2"), looks := false }, kinds := [], alts := [], laidByText := true, laidKinds := [.data, .data], laidTests := true, laidLooks := .later }
def SquareRecipCardSaid : Prop := Claim7.holds Tryd.pinned (.plain (OpenSpec.ofChange squareRecipSpec)) squareRecipCard

/-- THE TIED CARD OF 'wholekeep.SquareTimes'. -/
def squareTimesCard : Claim7 := { stood := { row := squareTimesRow, standIns := [], harness := (true, "38adeccae7cbf967959ee40a2cc640e1eafa8a8f3072e0ec4bb7afdfbdd471e2"), looks := false }, kinds := [], alts := [], laidByText := true, laidKinds := [.data, .data], laidTests := true, laidLooks := .later }
def SquareTimesCardSaid : Prop := Claim7.holds Tryd.pinned (.plain (OpenSpec.ofChange squareTimesSpec)) squareTimesCard

/-- THE TIED CARD OF 'wholekeep.SquareMinus'. -/
def squareMinusCard : Claim7 := { stood := { row := squareMinusRow, standIns := [], harness := (true, "38adeccae7cbf967959ee40a2cc640e1eafa8a8f3072e0ec4bb7afdfbdd471e2"), looks := false }, kinds := [], alts := [], laidByText := true, laidKinds := [.data, .data], laidTests := true, laidLooks := .later }
def SquareMinusCardSaid : Prop := Claim7.holds Tryd.pinned (.plain (OpenSpec.ofChange squareMinusSpec)) squareMinusCard

/-- THE TIED CARD OF 'wholekeep.SquareRoot'. -/
def squareRootCard : Claim7 := { stood := { row := squareRootRow, standIns := [], harness := (true, "38adeccae7cbf967959ee40a2cc640e1eafa8a8f3072e0ec4bb7afdfbdd471e2"), looks := false }, kinds := [], alts := [], laidByText := true, laidKinds := [.data, .data], laidTests := true, laidLooks := .later }
def SquareRootCardSaid : Prop := Claim7.holds Tryd.pinned (.plain (OpenSpec.ofChange squareRootSpec)) squareRootCard

/-- THE SECOND FORM's CARD OF 'wholelaw.SquareSays'. -/
def squareSaysUptoCard : Claim7 := { stood := { row := squareSaysUptoRow, standIns := [], harness := (true, "38adeccae7cbf967959ee40a2cc640e1eafa8a8f3072e0ec4bb7afdfbdd471e2"), looks := false }, kinds := [], alts := [], laidByText := true, laidKinds := [.data, .data], laidTests := true, laidLooks := .later }
def SquareSaysUptoCardSaid : Prop := Claim7.holds Tryd.pinned (.plain (OpenSpec.upto squareSaysSpec)) squareSaysUptoCard

/-- THE SECOND FORM's CARD OF 'wholekeep.SquareEuler'. -/
def squareEulerUptoCard : Claim7 := { stood := { row := squareEulerUptoRow, standIns := [], harness := (true, "38adeccae7cbf967959ee40a2cc640e1eafa8a8f3072e0ec4bb7afdfbdd471e2"), looks := false }, kinds := [], alts := [], laidByText := true, laidKinds := [.data, .data], laidTests := true, laidLooks := .later }
def SquareEulerUptoCardSaid : Prop := Claim7.holds Tryd.pinned (.plain (OpenSpec.upto squareEulerSpec)) squareEulerUptoCard

/-- THE SECOND FORM's CARD OF 'wholekeep.SquareRecip'. -/
def squareRecipUptoCard : Claim7 := { stood := { row := squareRecipUptoRow, standIns := [], harness := (true, "38adeccae7cbf967959ee40a2cc640e1eafa8a8f3072e0ec4bb7afdfbdd471e2"), looks := false }, kinds := [], alts := [], laidByText := true, laidKinds := [.data, .data], laidTests := true, laidLooks := .later }
def SquareRecipUptoCardSaid : Prop := Claim7.holds Tryd.pinned (.plain (OpenSpec.upto squareRecipSpec)) squareRecipUptoCard

/-- THE SECOND FORM's CARD OF 'wholekeep.SquareTimes'. -/
def squareTimesUptoCard : Claim7 := { stood := { row := squareTimesUptoRow, standIns := [], harness := (true, "38adeccae7cbf967959ee40a2cc640e1eafa8a8f3072e0ec4bb7afdfbdd471e2"), looks := false }, kinds := [], alts := [], laidByText := true, laidKinds := [.data, .data], laidTests := true, laidLooks := .later }
def SquareTimesUptoCardSaid : Prop := Claim7.holds Tryd.pinned (.plain (OpenSpec.upto squareTimesSpec)) squareTimesUptoCard

/-- THE SECOND FORM's CARD OF 'wholekeep.SquareMinus'. -/
def squareMinusUptoCard : Claim7 := { stood := { row := squareMinusUptoRow, standIns := [], harness := (true, "38adeccae7cbf967959ee40a2cc640e1eafa8a8f3072e0ec4bb7afdfbdd471e2"), looks := false }, kinds := [], alts := [], laidByText := true, laidKinds := [.data, .data], laidTests := true, laidLooks := .later }
def SquareMinusUptoCardSaid : Prop := Claim7.holds Tryd.pinned (.plain (OpenSpec.upto squareMinusSpec)) squareMinusUptoCard

/-- THE SECOND FORM's CARD OF 'wholekeep.SquareRoot'. -/
def squareRootUptoCard : Claim7 := { stood := { row := squareRootUptoRow, standIns := [], harness := (true, "38adeccae7cbf967959ee40a2cc640e1eafa8a8f3072e0ec4bb7afdfbdd471e2"), looks := false }, kinds := [], alts := [], laidByText := true, laidKinds := [.data, .data], laidTests := true, laidLooks := .later }
def SquareRootUptoCardSaid : Prop := Claim7.holds Tryd.pinned (.plain (OpenSpec.upto squareRootSpec)) squareRootUptoCard
end Rows
end Go.Proofs.YtcbaknnaacnaiaaDoor
