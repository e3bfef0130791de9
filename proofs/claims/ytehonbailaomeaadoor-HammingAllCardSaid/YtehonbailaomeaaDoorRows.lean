/-
  NARROWER THAN 'FOR EVERY INPUT', by the rows' own cells (each row's printed sentence says how): HammingSays: laid · HammingOne: laid · HammingFar: laid · HammingAll: laid.
  DERIVED. THE GIVEN ROWS OF THIS SEAT. 4 by the template 'for every input the law returns true; each argument reads behind the call as it read before'; 0 by the template 'total and deterministic' (their statements: YtehonbailaomeaaDoorTotals.lean).
  GIVEN WITH THE SEED: the statements are not yours to turn. If you find one false, say at which input.
  Laid BY PROGRAM, IN A SANDBOX (cutbox-rows.mjs): the forced cells as the released guide's own fill.sh prints them over the translation 39cabb43f06855a8… (all of the seat's roots in one cut). By AI agents, Wed Nov 11 2026. No macro, syntax, notation, axiom, sorry.
-/
import Derived.Test.YtehonbailaomeaaDoorChecked
import GoSem.Claim
import GoSem.ClaimJoined
import GoSem.ClaimMapViews
import Derived.JoinedTies
import Derived.KernelRfl
namespace Go.Proofs.YtehonbailaomeaaDoor
/- THE CELL 'sum', in the pinned program and in every row, IS THE sha256 OF THE DUMP (.gsa) THAT YtehonbailaomeaaDoorProg.lean LOADS. Nothing in Lean hashes anything: it is a label: what it is worth is what the hold of that sum in a sandbox is worth. -/
noncomputable def Tryd.pinned : Pinned := { name := "ytehonbailaomeaadoor", sum := "39cabb43f06855a8a87caeafb4ef791b48a96e457b4ab66991c5b199566361ce", checked := Tryd.checked }
namespace Rows
def none {H : Type} : Left H := { results := [], args := [] }

/- WHAT THE LISTED PACKAGE-LEVEL VARIABLES READ AS WHEN THE CALL BEGINS. Each datum BY PROGRAM (the guide's laid-datum.mjs) off the statement by which the dump's own 'gosem.cut.vars' lays the variable. In a bare row this is a premise. The card (YtehonbailaomeaaDoorCards.lean) ties it to the program's text. -/
def laid_wholemend_hamming_parityPositions {H : Type} : DataW H := .agg [.lit (.int .i64 1), .lit (.int .i64 2), .lit (.int .i64 4), .lit (.int .i64 8)]
def laid_wholemend_hamming_dataPositions {H : Type} : DataW H := .agg [.lit (.int .i64 3), .lit (.int .i64 5), .lit (.int .i64 6), .lit (.int .i64 7), .lit (.int .i64 9), .lit (.int .i64 10), .lit (.int .i64 11), .lit (.int .i64 12), .lit (.int .i64 13), .lit (.int .i64 14), .lit (.int .i64 15)]

/-- 'wholelaw.HammingSays': WHATEVER THE INPUT: true; the input reads as it did. -/
def hammingSaysSpec : ChangeSpec := { name := "hammingSays", fn := fun _ => fun
  | [d1, d2] => { results := [.lit (.bool true)], args := [d1, d2] }
  | _ => none }
def hammingSaysRow : OpenClaim := { program := "ytehonbailaomeaadoor", sum := "39cabb43f06855a8a87caeafb4ef791b48a96e457b4ab66991c5b199566361ce", func := "wholemend/wholelaw.HammingSays", spec := "hammingSays", named := ["wholemend/hamming.parityPositions", "wholemend/hamming.dataPositions"], apart := false, laid := [("wholemend/hamming.parityPositions", laid_wholemend_hamming_parityPositions), ("wholemend/hamming.dataPositions", laid_wholemend_hamming_dataPositions)] }
def HammingSaysSaid : Prop := hammingSaysRow.holds Tryd.pinned (OpenSpec.ofChange hammingSaysSpec)

/-- ITS FALSE NEIGHBOUR: 'it returns false'. Refute it at one input. -/
def hammingSaysWrong : ChangeSpec := { name := "hammingSays", fn := fun _ => fun
  | [d1, d2] => { results := [.lit (.bool false)], args := [d1, d2] }
  | _ => none }
def HammingSaysWrongFalsely : Prop := hammingSaysRow.holds Tryd.pinned (OpenSpec.ofChange hammingSaysWrong)

/-- 'wholekeep.HammingOne': WHATEVER THE INPUT: true; the input reads as it did. -/
def hammingOneSpec : ChangeSpec := { name := "hammingOne", fn := fun _ => fun
  | [d1, d2] => { results := [.lit (.bool true)], args := [d1, d2] }
  | _ => none }
def hammingOneRow : OpenClaim := { program := "ytehonbailaomeaadoor", sum := "39cabb43f06855a8a87caeafb4ef791b48a96e457b4ab66991c5b199566361ce", func := "wholemend/wholekeep.HammingOne", spec := "hammingOne", unfollowed := true, recurses := true, named := ["wholemend/hamming.parityPositions", "wholemend/hamming.dataPositions"], apart := false, laid := [("wholemend/hamming.parityPositions", laid_wholemend_hamming_parityPositions), ("wholemend/hamming.dataPositions", laid_wholemend_hamming_dataPositions)] }
def HammingOneSaid : Prop := hammingOneRow.holds Tryd.pinned (OpenSpec.ofChange hammingOneSpec)

/-- ITS FALSE NEIGHBOUR: 'it returns false'. Refute it at one input. -/
def hammingOneWrong : ChangeSpec := { name := "hammingOne", fn := fun _ => fun
  | [d1, d2] => { results := [.lit (.bool false)], args := [d1, d2] }
  | _ => none }
def HammingOneWrongFalsely : Prop := hammingOneRow.holds Tryd.pinned (OpenSpec.ofChange hammingOneWrong)

/-- 'wholekeep.HammingFar': WHATEVER THE INPUT: true; the input reads as it did. -/
def hammingFarSpec : ChangeSpec := { name := "hammingFar", fn := fun _ => fun
  | [d1, d2] => { results := [.lit (.bool true)], args := [d1, d2] }
  | _ => none }
def hammingFarRow : OpenClaim := { program := "ytehonbailaomeaadoor", sum := "39cabb43f06855a8a87caeafb4ef791b48a96e457b4ab66991c5b199566361ce", func := "wholemend/wholekeep.HammingFar", spec := "hammingFar", unfollowed := true, recurses := true, named := ["wholemend/hamming.parityPositions", "wholemend/hamming.dataPositions"], apart := false, laid := [("wholemend/hamming.parityPositions", laid_wholemend_hamming_parityPositions), ("wholemend/hamming.dataPositions", laid_wholemend_hamming_dataPositions)] }
def HammingFarSaid : Prop := hammingFarRow.holds Tryd.pinned (OpenSpec.ofChange hammingFarSpec)

/-- ITS FALSE NEIGHBOUR: 'it returns false'. Refute it at one input. -/
def hammingFarWrong : ChangeSpec := { name := "hammingFar", fn := fun _ => fun
  | [d1, d2] => { results := [.lit (.bool false)], args := [d1, d2] }
  | _ => none }
def HammingFarWrongFalsely : Prop := hammingFarRow.holds Tryd.pinned (OpenSpec.ofChange hammingFarWrong)

/-- 'wholekeep.HammingAll': WHATEVER THE INPUT: true; the input reads as it did. -/
def hammingAllSpec : ChangeSpec := { name := "hammingAll", fn := fun _ => fun
  | [d] => { results := [.lit (.bool true)], args := [d] }
  | _ => none }
def hammingAllRow : OpenClaim := { program := "ytehonbailaomeaadoor", sum := "39cabb43f06855a8a87caeafb4ef791b48a96e457b4ab66991c5b199566361ce", func := "wholemend/wholekeep.HammingAll", spec := "hammingAll", unfollowed := true, recurses := true, named := ["wholemend/hamming.parityPositions", "wholemend/hamming.dataPositions"], apart := false, laid := [("wholemend/hamming.parityPositions", laid_wholemend_hamming_parityPositions), ("wholemend/hamming.dataPositions", laid_wholemend_hamming_dataPositions)] }
def HammingAllSaid : Prop := hammingAllRow.holds Tryd.pinned (OpenSpec.ofChange hammingAllSpec)

/-- ITS FALSE NEIGHBOUR: 'it returns false'. Refute it at one input. -/
def hammingAllWrong : ChangeSpec := { name := "hammingAll", fn := fun _ => fun
  | [d] => { results := [.lit (.bool false)], args := [d] }
  | _ => none }
def HammingAllWrongFalsely : Prop := hammingAllRow.holds Tryd.pinned (OpenSpec.ofChange hammingAllWrong)

/- THE SECOND FORM. 'bulk': how many values and letters a reading holds, each counted each time it is reached (what is shared counts as often as it is met; a slice's spare places count too). A statement '..UptoSaid' is the law's where the arguments, and the package variables that the reading takes, are together of bulk at most 1048576: NARROWER than '..Said'. Prove '..Said' where nothing that the law and all that it calls make is longer than what came in: it says more and counts as full. Else prove '..UptoSaid'. A law counts once. -/
mutual
def uptoBulk {H : Type} : DataW H → Nat
  | .lit (.string bytes) => bytes.length + 1
  | .lit _ => 1
  | .nil => 1
  | .ptr d => uptoBulk d + 1
  | .slice elems spare => uptoBulkAll elems + uptoBulkAll spare + 1
  | .agg parts => uptoBulkAll parts + 1
  | .iface _ d => uptoBulk d + 1
  | .map entries => uptoBulkEntries entries + 1
  | .held _ => 1
def uptoBulkAll {H : Type} : List (DataW H) → Nat
  | [] => 0
  | d :: r => uptoBulk d + uptoBulkAll r
def uptoBulkEntries {H : Type} : List (Lit × DataW H) → Nat
  | [] => 0
  | x :: r => uptoBulkEntry x + uptoBulkEntries r
def uptoBulkEntry {H : Type} : Lit × DataW H → Nat
  | (.string bytes, d) => bytes.length + uptoBulk d + 1
  | (_, d) => uptoBulk d + 1
 end
def uptoSmall : (H : Type) → List (DataW H) → Bool := fun _ ds => decide (uptoBulkAll ds ≤ 1048576)
def OpenSpec.upto (s : _root_.Go.ChangeSpec) : _root_.Go.OpenSpec := { _root_.Go.OpenSpec.ofChange s with cond := some uptoSmall }

/-- 'wholelaw.HammingSays', WHERE WHAT IT READS IS OF BULK AT MOST 1048576: true; the input reads as it did. -/
def hammingSaysUptoRow : OpenClaim := { program := "ytehonbailaomeaadoor", sum := "39cabb43f06855a8a87caeafb4ef791b48a96e457b4ab66991c5b199566361ce", func := "wholemend/wholelaw.HammingSays", spec := "hammingSays", named := ["wholemend/hamming.parityPositions", "wholemend/hamming.dataPositions"], apart := false, laid := [("wholemend/hamming.parityPositions", laid_wholemend_hamming_parityPositions), ("wholemend/hamming.dataPositions", laid_wholemend_hamming_dataPositions)], narrowed := true }
def HammingSaysUptoSaid : Prop := hammingSaysUptoRow.holds Tryd.pinned (OpenSpec.upto hammingSaysSpec)

/-- 'wholekeep.HammingOne', WHERE WHAT IT READS IS OF BULK AT MOST 1048576: true; the input reads as it did. -/
def hammingOneUptoRow : OpenClaim := { program := "ytehonbailaomeaadoor", sum := "39cabb43f06855a8a87caeafb4ef791b48a96e457b4ab66991c5b199566361ce", func := "wholemend/wholekeep.HammingOne", spec := "hammingOne", unfollowed := true, recurses := true, named := ["wholemend/hamming.parityPositions", "wholemend/hamming.dataPositions"], apart := false, laid := [("wholemend/hamming.parityPositions", laid_wholemend_hamming_parityPositions), ("wholemend/hamming.dataPositions", laid_wholemend_hamming_dataPositions)], narrowed := true }
def HammingOneUptoSaid : Prop := hammingOneUptoRow.holds Tryd.pinned (OpenSpec.upto hammingOneSpec)

/-- 'wholekeep.HammingFar', WHERE WHAT IT READS IS OF BULK AT MOST 1048576: true; the input reads as it did. -/
def hammingFarUptoRow : OpenClaim := { program := "ytehonbailaomeaadoor", sum := "39cabb43f06855a8a87caeafb4ef791b48a96e457b4ab66991c5b199566361ce", func := "wholemend/wholekeep.HammingFar", spec := "hammingFar", unfollowed := true, recurses := true, named := ["wholemend/hamming.parityPositions", "wholemend/hamming.dataPositions"], apart := false, laid := [("wholemend/hamming.parityPositions", laid_wholemend_hamming_parityPositions), ("wholemend/hamming.dataPositions", laid_wholemend_hamming_dataPositions)], narrowed := true }
def HammingFarUptoSaid : Prop := hammingFarUptoRow.holds Tryd.pinned (OpenSpec.upto hammingFarSpec)

/-- 'wholekeep.HammingAll', WHERE WHAT IT READS IS OF BULK AT MOST 1048576: true; the input reads as it did. -/
def hammingAllUptoRow : OpenClaim := { program := "ytehonbailaomeaadoor", sum := "39cabb43f06855a8a87caeafb4ef791b48a96e457b4ab66991c5b199566361ce", func := "wholemend/wholekeep.HammingAll", spec := "hammingAll", unfollowed := true, recurses := true, named := ["wholemend/hamming.parityPositions", "wholemend/hamming.dataPositions"], apart := false, laid := [("wholemend/hamming.parityPositions", laid_wholemend_hamming_parityPositions), ("wholemend/hamming.dataPositions", laid_wholemend_hamming_dataPositions)], narrowed := true }
def HammingAllUptoSaid : Prop := hammingAllUptoRow.holds Tryd.pinned (OpenSpec.upto hammingAllSpec)

end Rows
end Go.Proofs.YtehonbailaomeaaDoor
