/-
  No cell of these rows narrows 'for every input' (looked for: loops, veiled, ifaces, maps, wideKeys, modest, calm, conditions, laid).
  DERIVED. THE GIVEN ROWS OF THIS SEAT. 9 by the template 'for every input the law returns true; each argument reads behind the call as it read before'; 0 by the template 'total and deterministic' (their statements: YtjjcollpfgafeaaTotals.lean).
  GIVEN WITH THE SEED: the statements are not yours to turn. If you find one false, say at which input.
  Laid BY PROGRAM, IN A SANDBOX (cutbox-rows.mjs): the forced cells as the released guide's own fill.sh prints them over the translation 578fdc4ce31373af… (all of the seat's roots in one cut). By AI agents, Wed Nov 11 2026. No macro, syntax, notation, axiom, sorry.
-/
import Derived.Test.YtjjcollpfgafeaaChecked
import GoSem.Claim
import GoSem.ClaimJoined
import GoSem.ClaimMapViews
import Derived.JoinedTies
import Derived.KernelRfl
namespace Go.Proofs.Ytjjcollpfgafeaa
/- THE CELL 'sum', in the pinned program and in every row, IS THE sha256 OF THE DUMP (.gsa) THAT YtjjcollpfgafeaaProg.lean LOADS. Nothing in Lean hashes anything: it is a label: what it is worth is what the hold of that sum in a sandbox is worth. -/
noncomputable def Try.pinned : Pinned := { name := "ytjjcollpfgafeaa", sum := "578fdc4ce31373af175b410532f78fe56975367e63a2d84a52437a80b5fee03d", checked := Try.checked }
namespace Rows
def none {H : Type} : Left H := { results := [], args := [] }

/-- 'wholelaw.DivideSays': WHATEVER THE INPUT: true; the input reads as it did. -/
def divideSaysSpec : ChangeSpec := { name := "divideSays", fn := fun _ => fun
  | [d] => { results := [.lit (.bool true)], args := [d] }
  | _ => none }
def divideSaysRow : OpenClaim := { program := "ytjjcollpfgafeaa", sum := "578fdc4ce31373af175b410532f78fe56975367e63a2d84a52437a80b5fee03d", func := "wholemend/wholelaw.DivideSays", spec := "divideSays", recurses := true, apart := false }
def DivideSaysSaid : Prop := divideSaysRow.holds Try.pinned (OpenSpec.ofChange divideSaysSpec)

/-- ITS FALSE NEIGHBOUR: 'it returns false'. Refute it at one input. -/
def divideSaysWrong : ChangeSpec := { name := "divideSays", fn := fun _ => fun
  | [d] => { results := [.lit (.bool false)], args := [d] }
  | _ => none }
def DivideSaysWrongFalsely : Prop := divideSaysRow.holds Try.pinned (OpenSpec.ofChange divideSaysWrong)

/-- 'wholelaw.DivideLifts': WHATEVER THE INPUT: true; the input reads as it did. -/
def divideLiftsSpec : ChangeSpec := { name := "divideLifts", fn := fun _ => fun
  | [d] => { results := [.lit (.bool true)], args := [d] }
  | _ => none }
def divideLiftsRow : OpenClaim := { program := "ytjjcollpfgafeaa", sum := "578fdc4ce31373af175b410532f78fe56975367e63a2d84a52437a80b5fee03d", func := "wholemend/wholelaw.DivideLifts", spec := "divideLifts", unfollowed := true, recurses := true, apart := false }
def DivideLiftsSaid : Prop := divideLiftsRow.holds Try.pinned (OpenSpec.ofChange divideLiftsSpec)

/-- ITS FALSE NEIGHBOUR: 'it returns false'. Refute it at one input. -/
def divideLiftsWrong : ChangeSpec := { name := "divideLifts", fn := fun _ => fun
  | [d] => { results := [.lit (.bool false)], args := [d] }
  | _ => none }
def DivideLiftsWrongFalsely : Prop := divideLiftsRow.holds Try.pinned (OpenSpec.ofChange divideLiftsWrong)

/-- 'wholekeep.RestEuler': WHATEVER THE INPUT: true; the input reads as it did. -/
def restEulerSpec : ChangeSpec := { name := "restEuler", fn := fun _ => fun
  | [d1, d2] => { results := [.lit (.bool true)], args := [d1, d2] }
  | _ => none }
def restEulerRow : OpenClaim := { program := "ytjjcollpfgafeaa", sum := "578fdc4ce31373af175b410532f78fe56975367e63a2d84a52437a80b5fee03d", func := "wholemend/wholekeep.RestEuler", spec := "restEuler", unfollowed := true, recurses := true, apart := false }
def RestEulerSaid : Prop := restEulerRow.holds Try.pinned (OpenSpec.ofChange restEulerSpec)

/-- ITS FALSE NEIGHBOUR: 'it returns false'. Refute it at one input. -/
def restEulerWrong : ChangeSpec := { name := "restEuler", fn := fun _ => fun
  | [d1, d2] => { results := [.lit (.bool false)], args := [d1, d2] }
  | _ => none }
def RestEulerWrongFalsely : Prop := restEulerRow.holds Try.pinned (OpenSpec.ofChange restEulerWrong)

/-- 'wholekeep.DivideGauss': WHATEVER THE INPUT: true; the input reads as it did. -/
def divideGaussSpec : ChangeSpec := { name := "divideGauss", fn := fun _ => fun
  | [d] => { results := [.lit (.bool true)], args := [d] }
  | _ => none }
def divideGaussRow : OpenClaim := { program := "ytjjcollpfgafeaa", sum := "578fdc4ce31373af175b410532f78fe56975367e63a2d84a52437a80b5fee03d", func := "wholemend/wholekeep.DivideGauss", spec := "divideGauss", recurses := true, apart := false }
def DivideGaussSaid : Prop := divideGaussRow.holds Try.pinned (OpenSpec.ofChange divideGaussSpec)

/-- ITS FALSE NEIGHBOUR: 'it returns false'. Refute it at one input. -/
def divideGaussWrong : ChangeSpec := { name := "divideGauss", fn := fun _ => fun
  | [d] => { results := [.lit (.bool false)], args := [d] }
  | _ => none }
def DivideGaussWrongFalsely : Prop := divideGaussRow.holds Try.pinned (OpenSpec.ofChange divideGaussWrong)

/-- 'wholekeep.DivideNone': WHATEVER THE INPUT: true; the input reads as it did. -/
def divideNoneSpec : ChangeSpec := { name := "divideNone", fn := fun _ => fun
  | [d] => { results := [.lit (.bool true)], args := [d] }
  | _ => none }
def divideNoneRow : OpenClaim := { program := "ytjjcollpfgafeaa", sum := "578fdc4ce31373af175b410532f78fe56975367e63a2d84a52437a80b5fee03d", func := "wholemend/wholekeep.DivideNone", spec := "divideNone", recurses := true, apart := false }
def DivideNoneSaid : Prop := divideNoneRow.holds Try.pinned (OpenSpec.ofChange divideNoneSpec)

/-- ITS FALSE NEIGHBOUR: 'it returns false'. Refute it at one input. -/
def divideNoneWrong : ChangeSpec := { name := "divideNone", fn := fun _ => fun
  | [d] => { results := [.lit (.bool false)], args := [d] }
  | _ => none }
def DivideNoneWrongFalsely : Prop := divideNoneRow.holds Try.pinned (OpenSpec.ofChange divideNoneWrong)

/-- 'wholekeep.DivideTimes': WHATEVER THE INPUT: true; the input reads as it did. -/
def divideTimesSpec : ChangeSpec := { name := "divideTimes", fn := fun _ => fun
  | [d1, d2] => { results := [.lit (.bool true)], args := [d1, d2] }
  | _ => none }
def divideTimesRow : OpenClaim := { program := "ytjjcollpfgafeaa", sum := "578fdc4ce31373af175b410532f78fe56975367e63a2d84a52437a80b5fee03d", func := "wholemend/wholekeep.DivideTimes", spec := "divideTimes", unfollowed := true, recurses := true, apart := false }
def DivideTimesSaid : Prop := divideTimesRow.holds Try.pinned (OpenSpec.ofChange divideTimesSpec)

/-- ITS FALSE NEIGHBOUR: 'it returns false'. Refute it at one input. -/
def divideTimesWrong : ChangeSpec := { name := "divideTimes", fn := fun _ => fun
  | [d1, d2] => { results := [.lit (.bool false)], args := [d1, d2] }
  | _ => none }
def DivideTimesWrongFalsely : Prop := divideTimesRow.holds Try.pinned (OpenSpec.ofChange divideTimesWrong)

/-- 'wholekeep.DivideBack': WHATEVER THE INPUT: true; the input reads as it did. -/
def divideBackSpec : ChangeSpec := { name := "divideBack", fn := fun _ => fun
  | [d] => { results := [.lit (.bool true)], args := [d] }
  | _ => none }
def divideBackRow : OpenClaim := { program := "ytjjcollpfgafeaa", sum := "578fdc4ce31373af175b410532f78fe56975367e63a2d84a52437a80b5fee03d", func := "wholemend/wholekeep.DivideBack", spec := "divideBack", apart := false }
def DivideBackSaid : Prop := divideBackRow.holds Try.pinned (OpenSpec.ofChange divideBackSpec)

/-- ITS FALSE NEIGHBOUR: 'it returns false'. Refute it at one input. -/
def divideBackWrong : ChangeSpec := { name := "divideBack", fn := fun _ => fun
  | [d] => { results := [.lit (.bool false)], args := [d] }
  | _ => none }
def DivideBackWrongFalsely : Prop := divideBackRow.holds Try.pinned (OpenSpec.ofChange divideBackWrong)

/-- 'wholekeep.DividePairs': WHATEVER THE INPUT: true; the input reads as it did. -/
def dividePairsSpec : ChangeSpec := { name := "dividePairs", fn := fun _ => fun
  | [d] => { results := [.lit (.bool true)], args := [d] }
  | _ => none }
def dividePairsRow : OpenClaim := { program := "ytjjcollpfgafeaa", sum := "578fdc4ce31373af175b410532f78fe56975367e63a2d84a52437a80b5fee03d", func := "wholemend/wholekeep.DividePairs", spec := "dividePairs", recurses := true, apart := false }
def DividePairsSaid : Prop := dividePairsRow.holds Try.pinned (OpenSpec.ofChange dividePairsSpec)

/-- ITS FALSE NEIGHBOUR: 'it returns false'. Refute it at one input. -/
def dividePairsWrong : ChangeSpec := { name := "dividePairs", fn := fun _ => fun
  | [d] => { results := [.lit (.bool false)], args := [d] }
  | _ => none }
def DividePairsWrongFalsely : Prop := dividePairsRow.holds Try.pinned (OpenSpec.ofChange dividePairsWrong)

/-- 'wholekeep.NumbersOwn': WHATEVER THE INPUT: true; the input reads as it did. -/
def numbersOwnSpec : ChangeSpec := { name := "numbersOwn", fn := fun _ => fun
  | [d1, d2] => { results := [.lit (.bool true)], args := [d1, d2] }
  | _ => none }
def numbersOwnRow : OpenClaim := { program := "ytjjcollpfgafeaa", sum := "578fdc4ce31373af175b410532f78fe56975367e63a2d84a52437a80b5fee03d", func := "wholemend/wholekeep.NumbersOwn", spec := "numbersOwn", recurses := true, apart := false }
def NumbersOwnSaid : Prop := numbersOwnRow.holds Try.pinned (OpenSpec.ofChange numbersOwnSpec)

/-- ITS FALSE NEIGHBOUR: 'it returns false'. Refute it at one input. -/
def numbersOwnWrong : ChangeSpec := { name := "numbersOwn", fn := fun _ => fun
  | [d1, d2] => { results := [.lit (.bool false)], args := [d1, d2] }
  | _ => none }
def NumbersOwnWrongFalsely : Prop := numbersOwnRow.holds Try.pinned (OpenSpec.ofChange numbersOwnWrong)

/- THE SECOND FORM. 'bulk': how many values and letters a reading holds, each counted each time it is reached (what is shared counts as often as it is met; a slice's spare places count too). A statement '..UptoSaid' is the law's where the arguments, and the package variables that the reading takes, are together of bulk at most 1048576: NARROWER than '..Said'. Prove '..Said' where nothing that the law and all that it calls make is longer than what came in: it says more and counts as full. Else prove '..UptoSaid'. A law counts once. -/
mutual
def uptoBulk {H : Type} : DataW H → Nat
  | .lit (.string bytes) => bytes.length + 1
  | .lit _ => 1
  | .nil => 1
  | .ptr d => uptoBulk d + 1
  | .slice elems spare => uptoBulkAll elems + uptoBulkAll spare + 1
  | .agg parts => uptoBulkAll parts + 1
  | .iface _ d => uptoBulk d + 1
  | .map entries => uptoBulkEntries entries + 1
  | .held _ => 1
def uptoBulkAll {H : Type} : List (DataW H) → Nat
  | [] => 0
  | d :: r => uptoBulk d + uptoBulkAll r
def uptoBulkEntries {H : Type} : List (Lit × DataW H) → Nat
  | [] => 0
  | x :: r => uptoBulkEntry x + uptoBulkEntries r
def uptoBulkEntry {H : Type} : Lit × DataW H → Nat
  | (.string bytes, d) => bytes.length + uptoBulk d + 1
  | (_, d) => uptoBulk d + 1
 end
def uptoSmall : (H : Type) → List (DataW H) → Bool := fun _ ds => decide (uptoBulkAll ds ≤ 1048576)
def OpenSpec.upto (s : _root_.Go.ChangeSpec) : _root_.Go.OpenSpec := { _root_.Go.OpenSpec.ofChange s with cond := some uptoSmall }

/-- 'wholelaw.DivideSays', WHERE WHAT IT READS IS OF BULK AT MOST 1048576: true; the input reads as it did. -/
def divideSaysUptoRow : OpenClaim := { program := "ytjjcollpfgafeaa", sum := "578fdc4ce31373af175b410532f78fe56975367e63a2d84a52437a80b5fee03d", func := "wholemend/wholelaw.DivideSays", spec := "divideSays", recurses := true, apart := false, narrowed := true }
def DivideSaysUptoSaid : Prop := divideSaysUptoRow.holds Try.pinned (OpenSpec.upto divideSaysSpec)

/-- 'wholelaw.DivideLifts', WHERE WHAT IT READS IS OF BULK AT MOST 1048576: true; the input reads as it did. -/
def divideLiftsUptoRow : OpenClaim := { program := "ytjjcollpfgafeaa", sum := "578fdc4ce31373af175b410532f78fe56975367e63a2d84a52437a80b5fee03d", func := "wholemend/wholelaw.DivideLifts", spec := "divideLifts", unfollowed := true, recurses := true, apart := false, narrowed := true }
def DivideLiftsUptoSaid : Prop := divideLiftsUptoRow.holds Try.pinned (OpenSpec.upto divideLiftsSpec)

/-- 'wholekeep.RestEuler', WHERE WHAT IT READS IS OF BULK AT MOST 1048576: true; the input reads as it did. -/
def restEulerUptoRow : OpenClaim := { program := "ytjjcollpfgafeaa", sum := "578fdc4ce31373af175b410532f78fe56975367e63a2d84a52437a80b5fee03d", func := "wholemend/wholekeep.RestEuler", spec := "restEuler", unfollowed := true, recurses := true, apart := false, narrowed := true }
def RestEulerUptoSaid : Prop := restEulerUptoRow.holds Try.pinned (OpenSpec.upto restEulerSpec)

/-- 'wholekeep.DivideGauss', WHERE WHAT IT READS IS OF BULK AT MOST 1048576: true; the input reads as it did. -/
def divideGaussUptoRow : OpenClaim := { program := "ytjjcollpfgafeaa", sum := "578fdc4ce31373af175b410532f78fe56975367e63a2d84a52437a80b5fee03d", func := "wholemend/wholekeep.DivideGauss", spec := "divideGauss", recurses := true, apart := false, narrowed := true }
def DivideGaussUptoSaid : Prop := divideGaussUptoRow.holds Try.pinned (OpenSpec.upto divideGaussSpec)

/-- 'wholekeep.DivideNone', WHERE WHAT IT READS IS OF BULK AT MOST 1048576: true; the input reads as it did. -/
def divideNoneUptoRow : OpenClaim := { program := "ytjjcollpfgafeaa", sum := "578fdc4ce31373af175b410532f78fe56975367e63a2d84a52437a80b5fee03d", func := "wholemend/wholekeep.DivideNone", spec := "divideNone", recurses := true, apart := false, narrowed := true }
def DivideNoneUptoSaid : Prop := divideNoneUptoRow.holds Try.pinned (OpenSpec.upto divideNoneSpec)

/-- 'wholekeep.DivideTimes', WHERE WHAT IT READS IS OF BULK AT MOST 1048576: true; the input reads as it did. -/
def divideTimesUptoRow : OpenClaim := { program := "ytjjcollpfgafeaa", sum := "578fdc4ce31373af175b410532f78fe56975367e63a2d84a52437a80b5fee03d", func := "wholemend/wholekeep.DivideTimes", spec := "divideTimes", unfollowed := true, recurses := true, apart := false, narrowed := true }
def DivideTimesUptoSaid : Prop := divideTimesUptoRow.holds Try.pinned (OpenSpec.upto divideTimesSpec)

/-- 'wholekeep.DivideBack', WHERE WHAT IT READS IS OF BULK AT MOST 1048576: true; the input reads as it did. -/
def divideBackUptoRow : OpenClaim := { program := "ytjjcollpfgafeaa", sum := "578fdc4ce31373af175b410532f78fe56975367e63a2d84a52437a80b5fee03d", func := "wholemend/wholekeep.DivideBack", spec := "divideBack", apart := false, narrowed := true }
def DivideBackUptoSaid : Prop := divideBackUptoRow.holds Try.pinned (OpenSpec.upto divideBackSpec)

/-- 'wholekeep.DividePairs', WHERE WHAT IT READS IS OF BULK AT MOST 1048576: true; the input reads as it did. -/
def dividePairsUptoRow : OpenClaim := { program := "ytjjcollpfgafeaa", sum := "578fdc4ce31373af175b410532f78fe56975367e63a2d84a52437a80b5fee03d", func := "wholemend/wholekeep.DividePairs", spec := "dividePairs", recurses := true, apart := false, narrowed := true }
def DividePairsUptoSaid : Prop := dividePairsUptoRow.holds Try.pinned (OpenSpec.upto dividePairsSpec)

/-- 'wholekeep.NumbersOwn', WHERE WHAT IT READS IS OF BULK AT MOST 1048576: true; the input reads as it did. -/
def numbersOwnUptoRow : OpenClaim := { program := "ytjjcollpfgafeaa", sum := "578fdc4ce31373af175b410532f78fe56975367e63a2d84a52437a80b5fee03d", func := "wholemend/wholekeep.NumbersOwn", spec := "numbersOwn", recurses := true, apart := false, narrowed := true }
def NumbersOwnUptoSaid : Prop := numbersOwnUptoRow.holds Try.pinned (OpenSpec.upto numbersOwnSpec)

end Rows
end Go.Proofs.Ytjjcollpfgafeaa
