/-
  DERIVED. GIVEN WITH THE SEED: THE CARDS: each row of YthlnbomapfjphaaDoorRows.lean that lists a variable, with what it lists TIED to the program's text (the seventh form; the later family's looks); each row that meets fmt, with fmt's text TOLD by the authors' own Lean function (tested against real Go, not proved from fmt's source: count such statements apart). THE CARD IS WHAT COUNTS. Prove the row's statement (the work); the ties are given (YthlnbomapfjphaaDoorTie.lean); close each card by the builder's one call (the guide's Derived/Test/ToyasCard.lean, 'card_holds'). Laid BY PROGRAM, IN A SANDBOX (cutbox-door.mjs). By AI agents, Wed Nov 11 2026. No macro, syntax, notation, axiom, sorry.
-/
import Derived.Test.YthlnbomapfjphaaDoorRows
import GoSem.ClaimSeven
namespace Go.Proofs.YthlnbomapfjphaaDoor
namespace Rows

/-- THE TIED CARD OF 'wholetop.TopPrimes'. -/
def topPrimesCard : Claim7 := { stood := { row := topPrimesRow, standIns := [], harness := (true, "05dbac863762b2ebcaa7f2af6221ffdfed5e0ef0cb6fbfead883772d2a4c6a35"), looks := false }, kinds := [], alts := [], laidByText := true, laidKinds := [.data, .data], laidTests := true, laidLooks := .later }
def TopPrimesCardSaid : Prop := Claim7.holds Tryd.pinned (.plain (OpenSpec.ofChange topPrimesSpec)) topPrimesCard

/-- THE TIED CARD OF 'wholetop.TopHamming'. -/
def topHammingCard : Claim7 := { stood := { row := topHammingRow, standIns := [], harness := (true, "05dbac863762b2ebcaa7f2af6221ffdfed5e0ef0cb6fbfead883772d2a4c6a35"), looks := false }, kinds := [], alts := [], laidByText := true, laidKinds := [.data, .data], laidTests := true, laidLooks := .later }
def TopHammingCardSaid : Prop := Claim7.holds Tryd.pinned (.plain (OpenSpec.ofChange topHammingSpec)) topHammingCard

/-- THE SECOND FORM's CARD OF 'wholetop.TopPrimes'. -/
def topPrimesUptoCard : Claim7 := { stood := { row := topPrimesUptoRow, standIns := [], harness := (true, "05dbac863762b2ebcaa7f2af6221ffdfed5e0ef0cb6fbfead883772d2a4c6a35"), looks := false }, kinds := [], alts := [], laidByText := true, laidKinds := [.data, .data], laidTests := true, laidLooks := .later }
def TopPrimesUptoCardSaid : Prop := Claim7.holds Tryd.pinned (.plain (OpenSpec.upto topPrimesSpec)) topPrimesUptoCard

/-- THE SECOND FORM's CARD OF 'wholetop.TopHamming'. -/
def topHammingUptoCard : Claim7 := { stood := { row := topHammingUptoRow, standIns := [], harness := (true, "05dbac863762b2ebcaa7f2af6221ffdfed5e0ef0cb6fbfead883772d2a4c6a35"), looks := false }, kinds := [], alts := [], laidByText := true, laidKinds := [.data, .data], laidTests := true, laidLooks := .later }
def TopHammingUptoCardSaid : Prop := Claim7.holds Tryd.pinned (.plain (OpenSpec.upto topHammingSpec)) topHammingUptoCard
end Rows
end Go.Proofs.YthlnbomapfjphaaDoor
