/-
  DERIVED. GIVEN WITH THE SEED: THE CARDS: each row of YtehonbailaomeaaDoorRows.lean that lists a variable, with what it lists TIED to the program's text (the seventh form; the later family's looks); each row that meets fmt, with fmt's text TOLD by the authors' own Lean function (tested against real Go, not proved from fmt's source: count such statements apart). THE CARD IS WHAT COUNTS. Prove the row's statement (the work); the ties are given (YtehonbailaomeaaDoorTie.lean); close each card by the builder's one call (the guide's Derived/Test/ToyasCard.lean, 'card_holds'). Laid BY PROGRAM, IN A SANDBOX (cutbox-door.mjs). By AI agents, Wed Nov 11 2026. No macro, syntax, notation, axiom, sorry.
-/
import Derived.Test.YtehonbailaomeaaDoorRows
import GoSem.ClaimSeven
namespace Go.Proofs.YtehonbailaomeaaDoor
namespace Rows

/-- THE TIED CARD OF 'wholelaw.HammingSays'. -/
def hammingSaysCard : Claim7 := { stood := { row := hammingSaysRow, standIns := [], harness := (true, "fad99f2eb52781d871c16d8bbbf5f797e270feb7e9b5611d50fa34cd0e61d5ec"), looks := false }, kinds := [], alts := [], laidByText := true, laidKinds := [.data, .data], laidTests := true, laidLooks := .later }
def HammingSaysCardSaid : Prop := Claim7.holds Tryd.pinned (.plain (OpenSpec.ofChange hammingSaysSpec)) hammingSaysCard

/-- THE TIED CARD OF 'wholekeep.HammingOne'. -/
def hammingOneCard : Claim7 := { stood := { row := hammingOneRow, standIns := [], harness := (true, "fad99f2eb52781d871c16d8bbbf5f797e270feb7e9b5611d50fa34cd0e61d5ec"), looks := false }, kinds := [], alts := [], laidByText := true, laidKinds := [.data, .data], laidTests := true, laidLooks := .later }
def HammingOneCardSaid : Prop := Claim7.holds Tryd.pinned (.plain (OpenSpec.ofChange hammingOneSpec)) hammingOneCard

/-- THE TIED CARD OF 'wholekeep.HammingFar'. -/
def hammingFarCard : Claim7 := { stood := { row := hammingFarRow, standIns := [], harness := (true, "fad99f2eb52781d871c16d8bbbf5f797e270feb7e9b5611d50fa34cd0e61d5ec"), looks := false }, kinds := [], alts := [], laidByText := true, laidKinds := [.data, .data], laidTests := true, laidLooks := .later }
def HammingFarCardSaid : Prop := Claim7.holds Tryd.pinned (.plain (OpenSpec.ofChange hammingFarSpec)) hammingFarCard

/-- THE TIED CARD OF 'wholekeep.HammingAll'. -/
def hammingAllCard : Claim7 := { stood := { row := hammingAllRow, standIns := [], harness := (true, "fad99f2eb52781d871c16d8bbbf5f797e270feb7e9b5611d50fa34cd0e61d5ec"), looks := false }, kinds := [], alts := [], laidByText := true, laidKinds := [.data, .data], laidTests := true, laidLooks := .later }
def HammingAllCardSaid : Prop := Claim7.holds Tryd.pinned (.plain (OpenSpec.ofChange hammingAllSpec)) hammingAllCard

/-- THE SECOND FORM's CARD OF 'wholelaw.HammingSays'. -/
def hammingSaysUptoCard : Claim7 := { stood := { row := hammingSaysUptoRow, standIns := [], harness := (true, "fad99f2eb52781d871c16d8bbbf5f797e270feb7e9b5611d50fa34cd0e61d5ec"), looks := false }, kinds := [], alts := [], laidByText := true, laidKinds := [.data, .data], laidTests := true, laidLooks := .later }
def HammingSaysUptoCardSaid : Prop := Claim7.holds Tryd.pinned (.plain (OpenSpec.upto hammingSaysSpec)) hammingSaysUptoCard

/-- THE SECOND FORM's CARD OF 'wholekeep.HammingOne'. -/
def hammingOneUptoCard : Claim7 := { stood := { row := hammingOneUptoRow, standIns := [], harness := (true, "fad99f2eb52781d871c16d8bbbf5f797e270feb7e9b5611d50fa34cd0e61d5ec"), looks := false }, kinds := [], alts := [], laidByText := true, laidKinds := [.data, .data], laidTests := true, laidLooks := .later }
def HammingOneUptoCardSaid : Prop := Claim7.holds Tryd.pinned (.plain (OpenSpec.upto hammingOneSpec)) hammingOneUptoCard

/-- THE SECOND FORM's CARD OF 'wholekeep.HammingFar'. -/
def hammingFarUptoCard : Claim7 := { stood := { row := hammingFarUptoRow, standIns := [], harness := (true, "fad99f2eb52781d871c16d8bbbf5f797e270feb7e9b5611d50fa34cd0e61d5ec"), looks := false }, kinds := [], alts := [], laidByText := true, laidKinds := [.data, .data], laidTests := true, laidLooks := .later }
def HammingFarUptoCardSaid : Prop := Claim7.holds Tryd.pinned (.plain (OpenSpec.upto hammingFarSpec)) hammingFarUptoCard

/-- THE SECOND FORM's CARD OF 'wholekeep.HammingAll'. -/
def hammingAllUptoCard : Claim7 := { stood := { row := hammingAllUptoRow, standIns := [], harness := (true, "fad99f2eb52781d871c16d8bbbf5f797e270feb7e9b5611d50fa34cd0e61d5ec"), looks := false }, kinds := [], alts := [], laidByText := true, laidKinds := [.data, .data], laidTests := true, laidLooks := .later }
def HammingAllUptoCardSaid : Prop := Claim7.holds Tryd.pinned (.plain (OpenSpec.upto hammingAllSpec)) hammingAllUptoCard
end Rows
end Go.Proofs.YtehonbailaomeaaDoor
