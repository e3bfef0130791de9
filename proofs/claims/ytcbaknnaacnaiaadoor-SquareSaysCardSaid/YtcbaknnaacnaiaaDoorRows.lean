/-
  NARROWER THAN 'FOR EVERY INPUT', by the rows' own cells (each row's printed sentence says how): SquareSays: laid · SquareEuler: laid · SquareRecip: laid · SquareTimes: laid · SquareMinus: laid · SquareRoot: laid.
  DERIVED. THE GIVEN ROWS OF THIS SEAT. 6 by the template 'for every input the law returns true; each argument reads behind the call as it read before'; 0 by the template 'total and deterministic' (their statements: YtcbaknnaacnaiaaDoorTotals.lean).
  GIVEN WITH THE SEED: the statements are not yours to turn. If you find one false, say at which input.
  Laid BY PROGRAM, IN A SANDBOX (cutbox-rows.mjs): the forced cells as the released guide's own fill.sh prints them over the translation 7d97792feec60d71… (all of the seat's roots in one cut). By AI agents, Wed Nov 11 2026. No macro, syntax, notation, axiom, sorry.
-/
import Derived.Test.YtcbaknnaacnaiaaDoorChecked
import GoSem.Claim
import GoSem.ClaimJoined
import GoSem.ClaimMapViews
import Derived.JoinedTies
import Derived.KernelRfl
namespace Go.Proofs.YtcbaknnaacnaiaaDoor
/- THE CELL 'sum', in the pinned program and in every row, IS THE sha256 OF THE DUMP (.gsa) THAT YtcbaknnaacnaiaaDoorProg.lean LOADS. Nothing in Lean hashes anything: it is a label: what it is worth is what the hold of that sum in a sandbox is worth. -/
noncomputable def Tryd.pinned : Pinned := { name := "ytcbaknnaacnaiaadoor", sum := "7d97792feec60d710a38ed28905ebf33dff3297de6175034733d4d0e602697b1", checked := Tryd.checked }
namespace Rows
def none {H : Type} : Left H := { results := [], args := [] }

/- WHAT THE LISTED PACKAGE-LEVEL VARIABLES READ AS WHEN THE CALL BEGINS. Each datum BY PROGRAM (the guide's laid-datum.mjs) off the statement by which the dump's own 'gosem.cut.vars' lays the variable. In a bare row this is a premise. The card (YtcbaknnaacnaiaaDoorCards.lean) ties it to the program's text. -/
def laid_math_bits_deBruijn32tab {H : Type} : DataW H := .agg [.lit (.int .u8 0), .lit (.int .u8 1), .lit (.int .u8 28), .lit (.int .u8 2), .lit (.int .u8 29), .lit (.int .u8 14), .lit (.int .u8 24), .lit (.int .u8 3), .lit (.int .u8 30), .lit (.int .u8 22), .lit (.int .u8 20), .lit (.int .u8 15), .lit (.int .u8 25), .lit (.int .u8 17), .lit (.int .u8 4), .lit (.int .u8 8), .lit (.int .u8 31), .lit (.int .u8 27), .lit (.int .u8 13), .lit (.int .u8 23), .lit (.int .u8 21), .lit (.int .u8 19), .lit (.int .u8 16), .lit (.int .u8 7), .lit (.int .u8 26), .lit (.int .u8 12), .lit (.int .u8 18), .lit (.int .u8 6), .lit (.int .u8 11), .lit (.int .u8 5), .lit (.int .u8 10), .lit (.int .u8 9)]
def laid_math_bits_deBruijn64tab {H : Type} : DataW H := .agg [.lit (.int .u8 0), .lit (.int .u8 1), .lit (.int .u8 56), .lit (.int .u8 2), .lit (.int .u8 57), .lit (.int .u8 49), .lit (.int .u8 28), .lit (.int .u8 3), .lit (.int .u8 61), .lit (.int .u8 58), .lit (.int .u8 42), .lit (.int .u8 50), .lit (.int .u8 38), .lit (.int .u8 29), .lit (.int .u8 17), .lit (.int .u8 4), .lit (.int .u8 62), .lit (.int .u8 47), .lit (.int .u8 59), .lit (.int .u8 36), .lit (.int .u8 45), .lit (.int .u8 43), .lit (.int .u8 51), .lit (.int .u8 22), .lit (.int .u8 53), .lit (.int .u8 39), .lit (.int .u8 33), .lit (.int .u8 30), .lit (.int .u8 24), .lit (.int .u8 18), .lit (.int .u8 12), .lit (.int .u8 5), .lit (.int .u8 63), .lit (.int .u8 55), .lit (.int .u8 48), .lit (.int .u8 27), .lit (.int .u8 60), .lit (.int .u8 41), .lit (.int .u8 37), .lit (.int .u8 16), .lit (.int .u8 46), .lit (.int .u8 35), .lit (.int .u8 44), .lit (.int .u8 21), .lit (.int .u8 52), .lit (.int .u8 32), .lit (.int .u8 23), .lit (.int .u8 11), .lit (.int .u8 54), .lit (.int .u8 26), .lit (.int .u8 40), .lit (.int .u8 15), .lit (.int .u8 34), .lit (.int .u8 20), .lit (.int .u8 31), .lit (.int .u8 10), .lit (.int .u8 25), .lit (.int .u8 14), .lit (.int .u8 19), .lit (.int .u8 9), .lit (.int .u8 13), .lit (.int .u8 8), .lit (.int .u8 7), .lit (.int .u8 6)]

/-- 'wholelaw.SquareSays': WHATEVER THE INPUT: true; the input reads as it did. -/
def squareSaysSpec : ChangeSpec := { name := "squareSays", fn := fun _ => fun
  | [d1, d2, d3] => { results := [.lit (.bool true)], args := [d1, d2, d3] }
  | _ => none }
def squareSaysRow : OpenClaim := { program := "ytcbaknnaacnaiaadoor", sum := "7d97792feec60d710a38ed28905ebf33dff3297de6175034733d4d0e602697b1", func := "wholemend/wholelaw.SquareSays", spec := "squareSays", unfollowed := true, recurses := true, named := ["math/bits.deBruijn32tab", "math/bits.deBruijn64tab"], apart := false, laid := [("math/bits.deBruijn32tab", laid_math_bits_deBruijn32tab), ("math/bits.deBruijn64tab", laid_math_bits_deBruijn64tab)] }
def SquareSaysSaid : Prop := squareSaysRow.holds Tryd.pinned (OpenSpec.ofChange squareSaysSpec)

/-- ITS FALSE NEIGHBOUR: 'it returns false'. Refute it at one input. -/
def squareSaysWrong : ChangeSpec := { name := "squareSays", fn := fun _ => fun
  | [d1, d2, d3] => { results := [.lit (.bool false)], args := [d1, d2, d3] }
  | _ => none }
def SquareSaysWrongFalsely : Prop := squareSaysRow.holds Tryd.pinned (OpenSpec.ofChange squareSaysWrong)

/-- 'wholekeep.SquareEuler': WHATEVER THE INPUT: true; the input reads as it did. -/
def squareEulerSpec : ChangeSpec := { name := "squareEuler", fn := fun _ => fun
  | [d1, d2] => { results := [.lit (.bool true)], args := [d1, d2] }
  | _ => none }
def squareEulerRow : OpenClaim := { program := "ytcbaknnaacnaiaadoor", sum := "7d97792feec60d710a38ed28905ebf33dff3297de6175034733d4d0e602697b1", func := "wholemend/wholekeep.SquareEuler", spec := "squareEuler", unfollowed := true, recurses := true, named := ["math/bits.deBruijn32tab", "math/bits.deBruijn64tab"], apart := false, laid := [("math/bits.deBruijn32tab", laid_math_bits_deBruijn32tab), ("math/bits.deBruijn64tab", laid_math_bits_deBruijn64tab)] }
def SquareEulerSaid : Prop := squareEulerRow.holds Tryd.pinned (OpenSpec.ofChange squareEulerSpec)

/-- ITS FALSE NEIGHBOUR: 'it returns false'. Refute it at one input. -/
def squareEulerWrong : ChangeSpec := { name := "squareEuler", fn := fun _ => fun
  | [d1, d2] => { results := [.lit (.bool false)], args := [d1, d2] }
  | _ => none }
def SquareEulerWrongFalsely : Prop := squareEulerRow.holds Tryd.pinned (OpenSpec.ofChange squareEulerWrong)

/-- 'wholekeep.SquareRecip': WHATEVER THE INPUT: true; the input reads as it did. -/
def squareRecipSpec : ChangeSpec := { name := "squareRecip", fn := fun _ => fun
  | [d1, d2] => { results := [.lit (.bool true)], args := [d1, d2] }
  | _ => none }
def squareRecipRow : OpenClaim := { program := "ytcbaknnaacnaiaadoor", sum := "7d97792feec60d710a38ed28905ebf33dff3297de6175034733d4d0e602697b1", func := "wholemend/wholekeep.SquareRecip", spec := "squareRecip", unfollowed := true, recurses := true, named := ["math/bits.deBruijn32tab", "math/bits.deBruijn64tab"], apart := false, laid := [("math/bits.deBruijn32tab", laid_math_bits_deBruijn32tab), ("math/bits.deBruijn64tab", laid_math_bits_deBruijn64tab)] }
def SquareRecipSaid : Prop := squareRecipRow.holds Tryd.pinned (OpenSpec.ofChange squareRecipSpec)

/-- ITS FALSE NEIGHBOUR: 'it returns false'. Refute it at one input. -/
def squareRecipWrong : ChangeSpec := { name := "squareRecip", fn := fun _ => fun
  | [d1, d2] => { results := [.lit (.bool false)], args := [d1, d2] }
  | _ => none }
def SquareRecipWrongFalsely : Prop := squareRecipRow.holds Tryd.pinned (OpenSpec.ofChange squareRecipWrong)

/-- 'wholekeep.SquareTimes': WHATEVER THE INPUT: true; the input reads as it did. -/
def squareTimesSpec : ChangeSpec := { name := "squareTimes", fn := fun _ => fun
  | [d1, d2, d3, d4] => { results := [.lit (.bool true)], args := [d1, d2, d3, d4] }
  | _ => none }
def squareTimesRow : OpenClaim := { program := "ytcbaknnaacnaiaadoor", sum := "7d97792feec60d710a38ed28905ebf33dff3297de6175034733d4d0e602697b1", func := "wholemend/wholekeep.SquareTimes", spec := "squareTimes", unfollowed := true, recurses := true, named := ["math/bits.deBruijn32tab", "math/bits.deBruijn64tab"], apart := false, laid := [("math/bits.deBruijn32tab", laid_math_bits_deBruijn32tab), ("math/bits.deBruijn64tab", laid_math_bits_deBruijn64tab)] }
def SquareTimesSaid : Prop := squareTimesRow.holds Tryd.pinned (OpenSpec.ofChange squareTimesSpec)

/-- ITS FALSE NEIGHBOUR: 'it returns false'. Refute it at one input. -/
def squareTimesWrong : ChangeSpec := { name := "squareTimes", fn := fun _ => fun
  | [d1, d2, d3, d4] => { results := [.lit (.bool false)], args := [d1, d2, d3, d4] }
  | _ => none }
def SquareTimesWrongFalsely : Prop := squareTimesRow.holds Tryd.pinned (OpenSpec.ofChange squareTimesWrong)

/-- 'wholekeep.SquareMinus': WHATEVER THE INPUT: true; the input reads as it did. -/
def squareMinusSpec : ChangeSpec := { name := "squareMinus", fn := fun _ => fun
  | [d] => { results := [.lit (.bool true)], args := [d] }
  | _ => none }
def squareMinusRow : OpenClaim := { program := "ytcbaknnaacnaiaadoor", sum := "7d97792feec60d710a38ed28905ebf33dff3297de6175034733d4d0e602697b1", func := "wholemend/wholekeep.SquareMinus", spec := "squareMinus", unfollowed := true, recurses := true, named := ["math/bits.deBruijn32tab", "math/bits.deBruijn64tab"], apart := false, laid := [("math/bits.deBruijn32tab", laid_math_bits_deBruijn32tab), ("math/bits.deBruijn64tab", laid_math_bits_deBruijn64tab)] }
def SquareMinusSaid : Prop := squareMinusRow.holds Tryd.pinned (OpenSpec.ofChange squareMinusSpec)

/-- ITS FALSE NEIGHBOUR: 'it returns false'. Refute it at one input. -/
def squareMinusWrong : ChangeSpec := { name := "squareMinus", fn := fun _ => fun
  | [d] => { results := [.lit (.bool false)], args := [d] }
  | _ => none }
def SquareMinusWrongFalsely : Prop := squareMinusRow.holds Tryd.pinned (OpenSpec.ofChange squareMinusWrong)

/-- 'wholekeep.SquareRoot': WHATEVER THE INPUT: true; the input reads as it did. -/
def squareRootSpec : ChangeSpec := { name := "squareRoot", fn := fun _ => fun
  | [d1, d2] => { results := [.lit (.bool true)], args := [d1, d2] }
  | _ => none }
def squareRootRow : OpenClaim := { program := "ytcbaknnaacnaiaadoor", sum := "7d97792feec60d710a38ed28905ebf33dff3297de6175034733d4d0e602697b1", func := "wholemend/wholekeep.SquareRoot", spec := "squareRoot", unfollowed := true, recurses := true, named := ["math/bits.deBruijn32tab", "math/bits.deBruijn64tab"], apart := false, laid := [("math/bits.deBruijn32tab", laid_math_bits_deBruijn32tab), ("math/bits.deBruijn64tab", laid_math_bits_deBruijn64tab)] }
def SquareRootSaid : Prop := squareRootRow.holds Tryd.pinned (OpenSpec.ofChange squareRootSpec)

/-- ITS FALSE NEIGHBOUR: 'it returns false'. Refute it at one input. -/
def squareRootWrong : ChangeSpec := { name := "squareRoot", fn := fun _ => fun
  | [d1, d2] => { results := [.lit (.bool false)], args := [d1, d2] }
  | _ => none }
def SquareRootWrongFalsely : Prop := squareRootRow.holds Tryd.pinned (OpenSpec.ofChange squareRootWrong)

/- THE SECOND FORM. 'bulk': how many values and letters a reading holds, each counted each time it is reached (what is shared counts as often as it is met; a slice's spare places count too). A statement '..UptoSaid' is the law's where the arguments, and the package variables that the reading takes, are together of bulk at most 1048576: NARROWER than '..Said'. Prove '..Said' where nothing that the law and all that it calls make is longer than what came in: it says more and counts as full. Else prove '..UptoSaid'. A law counts once. -/
mutual
def uptoBulk {H : Type} : DataW H → Nat
  | .lit (.string bytes) => bytes.length + 1
  | .lit _ => 1
  | .nil => 1
  | .ptr d => uptoBulk d + 1
  | .slice elems spare => uptoBulkAll elems + uptoBulkAll spare + 1
  | .agg parts => uptoBulkAll parts + 1
  | .iface _ d => uptoBulk d + 1
  | .map entries => uptoBulkEntries entries + 1
  | .held _ => 1
def uptoBulkAll {H : Type} : List (DataW H) → Nat
  | [] => 0
  | d :: r => uptoBulk d + uptoBulkAll r
def uptoBulkEntries {H : Type} : List (Lit × DataW H) → Nat
  | [] => 0
  | x :: r => uptoBulkEntry x + uptoBulkEntries r
def uptoBulkEntry {H : Type} : Lit × DataW H → Nat
  | (.string bytes, d) => bytes.length + uptoBulk d + 1
  | (_, d) => uptoBulk d + 1
 end
def uptoSmall : (H : Type) → List (DataW H) → Bool := fun _ ds => decide (uptoBulkAll ds ≤ 1048576)
def OpenSpec.upto (s : _root_.Go.ChangeSpec) : _root_.Go.OpenSpec := { _root_.Go.OpenSpec.ofChange s with cond := some uptoSmall }

/-- 'wholelaw.SquareSays', WHERE WHAT IT READS IS OF BULK AT MOST 1048576: true; the input reads as it did. -/
def squareSaysUptoRow : OpenClaim := { program := "ytcbaknnaacnaiaadoor", sum := "7d97792feec60d710a38ed28905ebf33dff3297de6175034733d4d0e602697b1", func := "wholemend/wholelaw.SquareSays", spec := "squareSays", unfollowed := true, recurses := true, named := ["math/bits.deBruijn32tab", "math/bits.deBruijn64tab"], apart := false, laid := [("math/bits.deBruijn32tab", laid_math_bits_deBruijn32tab), ("math/bits.deBruijn64tab", laid_math_bits_deBruijn64tab)], narrowed := true }
def SquareSaysUptoSaid : Prop := squareSaysUptoRow.holds Tryd.pinned (OpenSpec.upto squareSaysSpec)

/-- 'wholekeep.SquareEuler', WHERE WHAT IT READS IS OF BULK AT MOST 1048576: true; the input reads as it did. -/
def squareEulerUptoRow : OpenClaim := { program := "ytcbaknnaacnaiaadoor", sum := "7d97792feec60d710a38ed28905ebf33dff3297de6175034733d4d0e602697b1", func := "wholemend/wholekeep.SquareEuler", spec := "squareEuler", unfollowed := true, recurses := true, named := ["math/bits.deBruijn32tab", "math/bits.deBruijn64tab"], apart := false, laid := [("math/bits.deBruijn32tab", laid_math_bits_deBruijn32tab), ("math/bits.deBruijn64tab", laid_math_bits_deBruijn64tab)], narrowed := true }
def SquareEulerUptoSaid : Prop := squareEulerUptoRow.holds Tryd.pinned (OpenSpec.upto squareEulerSpec)

/-- 'wholekeep.SquareRecip', WHERE WHAT IT READS IS OF BULK AT MOST 1048576: true; the input reads as it did. -/
def squareRecipUptoRow : OpenClaim := { program := "ytcbaknnaacnaiaadoor", sum := "7d97792feec60d710a38ed28905ebf33dff3297de6175034733d4d0e602697b1", func := "wholemend/wholekeep.SquareRecip", spec := "squareRecip", unfollowed := true, recurses := true, named := ["math/bits.deBruijn32tab", "math/bits.deBruijn64tab"], apart := false, laid := [("math/bits.deBruijn32tab", laid_math_bits_deBruijn32tab), ("math/bits.deBruijn64tab", laid_math_bits_deBruijn64tab)], narrowed := true }
def SquareRecipUptoSaid : Prop := squareRecipUptoRow.holds Tryd.pinned (OpenSpec.upto squareRecipSpec)

/-- 'wholekeep.SquareTimes', WHERE WHAT IT READS IS OF BULK AT MOST 1048576: true; the input reads as it did. -/
def squareTimesUptoRow : OpenClaim := { program := "ytcbaknnaacnaiaadoor", sum := "7d97792feec60d710a38ed28905ebf33dff3297de6175034733d4d0e602697b1", func := "wholemend/wholekeep.SquareTimes", spec := "squareTimes", unfollowed := true, recurses := true, named := ["math/bits.deBruijn32tab", "math/bits.deBruijn64tab"], apart := false, laid := [("math/bits.deBruijn32tab", laid_math_bits_deBruijn32tab), ("math/bits.deBruijn64tab", laid_math_bits_deBruijn64tab)], narrowed := true }
def SquareTimesUptoSaid : Prop := squareTimesUptoRow.holds Tryd.pinned (OpenSpec.upto squareTimesSpec)

/-- 'wholekeep.SquareMinus', WHERE WHAT IT READS IS OF BULK AT MOST 1048576: true; the input reads as it did. -/
def squareMinusUptoRow : OpenClaim := { program := "ytcbaknnaacnaiaadoor", sum := "7d97792feec60d710a38ed28905ebf33dff3297de6175034733d4d0e602697b1", func := "wholemend/wholekeep.SquareMinus", spec := "squareMinus", unfollowed := true, recurses := true, named := ["math/bits.deBruijn32tab", "math/bits.deBruijn64tab"], apart := false, laid := [("math/bits.deBruijn32tab", laid_math_bits_deBruijn32tab), ("math/bits.deBruijn64tab", laid_math_bits_deBruijn64tab)], narrowed := true }
def SquareMinusUptoSaid : Prop := squareMinusUptoRow.holds Tryd.pinned (OpenSpec.upto squareMinusSpec)

/-- 'wholekeep.SquareRoot', WHERE WHAT IT READS IS OF BULK AT MOST 1048576: true; the input reads as it did. -/
def squareRootUptoRow : OpenClaim := { program := "ytcbaknnaacnaiaadoor", sum := "7d97792feec60d710a38ed28905ebf33dff3297de6175034733d4d0e602697b1", func := "wholemend/wholekeep.SquareRoot", spec := "squareRoot", unfollowed := true, recurses := true, named := ["math/bits.deBruijn32tab", "math/bits.deBruijn64tab"], apart := false, laid := [("math/bits.deBruijn32tab", laid_math_bits_deBruijn32tab), ("math/bits.deBruijn64tab", laid_math_bits_deBruijn64tab)], narrowed := true }
def SquareRootUptoSaid : Prop := squareRootUptoRow.holds Tryd.pinned (OpenSpec.upto squareRootSpec)

end Rows
end Go.Proofs.YtcbaknnaacnaiaaDoor
