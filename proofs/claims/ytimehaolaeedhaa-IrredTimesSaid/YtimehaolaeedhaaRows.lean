/-
  No cell of these rows narrows 'for every input' (looked for: loops, veiled, ifaces, maps, wideKeys, modest, calm, conditions, laid).
  DERIVED. THE GIVEN ROWS OF THIS SEAT. 4 by the template 'for every input the law returns true; each argument reads behind the call as it read before'; 0 by the template 'total and deterministic' (their statements: YtimehaolaeedhaaTotals.lean).
  GIVEN WITH THE SEED: the statements are not yours to turn. If you find one false, say at which input.
  Laid BY PROGRAM, IN A SANDBOX (cutbox-rows.mjs): the forced cells as the released guide's own fill.sh prints them over the translation 8f256716e03616a6… (all of the seat's roots in one cut). By AI agents, Wed Nov 11 2026. No macro, syntax, notation, axiom, sorry.
-/
import Derived.Test.YtimehaolaeedhaaChecked
import GoSem.Claim
import GoSem.ClaimJoined
import GoSem.ClaimMapViews
import Derived.JoinedTies
import Derived.KernelRfl
namespace Go.Proofs.Ytimehaolaeedhaa
/- THE CELL 'sum', in the pinned program and in every row, IS THE sha256 OF THE DUMP (.gsa) THAT YtimehaolaeedhaaProg.lean LOADS. Nothing in Lean hashes anything: it is a label: what it is worth is what the hold of that sum in a sandbox is worth. -/
noncomputable def Try.pinned : Pinned := { name := "ytimehaolaeedhaa", sum := "8f256716e03616a667d31bdb40df5c1da80eeb80fb4ed284f95233e47ebe815b", checked := Try.checked }
namespace Rows
def none {H : Type} : Left H := { results := [], args := [] }

/-- 'wholelaw.IrredSays': WHATEVER THE INPUT: true; the input reads as it did. -/
def irredSaysSpec : ChangeSpec := { name := "irredSays", fn := fun _ => fun
  | [d1, d2, d3] => { results := [.lit (.bool true)], args := [d1, d2, d3] }
  | _ => none }
def irredSaysRow : OpenClaim := { program := "ytimehaolaeedhaa", sum := "8f256716e03616a667d31bdb40df5c1da80eeb80fb4ed284f95233e47ebe815b", func := "wholemend/wholelaw.IrredSays", spec := "irredSays", unfollowed := true, recurses := true, apart := false }
def IrredSaysSaid : Prop := irredSaysRow.holds Try.pinned (OpenSpec.ofChange irredSaysSpec)

/-- ITS FALSE NEIGHBOUR: 'it returns false'. Refute it at one input. -/
def irredSaysWrong : ChangeSpec := { name := "irredSays", fn := fun _ => fun
  | [d1, d2, d3] => { results := [.lit (.bool false)], args := [d1, d2, d3] }
  | _ => none }
def IrredSaysWrongFalsely : Prop := irredSaysRow.holds Try.pinned (OpenSpec.ofChange irredSaysWrong)

/-- 'wholekeep.IrredTimes': WHATEVER THE INPUT: true; the input reads as it did. -/
def irredTimesSpec : ChangeSpec := { name := "irredTimes", fn := fun _ => fun
  | [d1, d2, d3] => { results := [.lit (.bool true)], args := [d1, d2, d3] }
  | _ => none }
def irredTimesRow : OpenClaim := { program := "ytimehaolaeedhaa", sum := "8f256716e03616a667d31bdb40df5c1da80eeb80fb4ed284f95233e47ebe815b", func := "wholemend/wholekeep.IrredTimes", spec := "irredTimes", unfollowed := true, recurses := true, apart := false }
def IrredTimesSaid : Prop := irredTimesRow.holds Try.pinned (OpenSpec.ofChange irredTimesSpec)

/-- ITS FALSE NEIGHBOUR: 'it returns false'. Refute it at one input. -/
def irredTimesWrong : ChangeSpec := { name := "irredTimes", fn := fun _ => fun
  | [d1, d2, d3] => { results := [.lit (.bool false)], args := [d1, d2, d3] }
  | _ => none }
def IrredTimesWrongFalsely : Prop := irredTimesRow.holds Try.pinned (OpenSpec.ofChange irredTimesWrong)

/-- 'wholekeep.IrredMany': WHATEVER THE INPUT: true; the input reads as it did. -/
def irredManySpec : ChangeSpec := { name := "irredMany", fn := fun _ => fun
  | [d1, d2] => { results := [.lit (.bool true)], args := [d1, d2] }
  | _ => none }
def irredManyRow : OpenClaim := { program := "ytimehaolaeedhaa", sum := "8f256716e03616a667d31bdb40df5c1da80eeb80fb4ed284f95233e47ebe815b", func := "wholemend/wholekeep.IrredMany", spec := "irredMany", apart := false }
def IrredManySaid : Prop := irredManyRow.holds Try.pinned (OpenSpec.ofChange irredManySpec)

/-- ITS FALSE NEIGHBOUR: 'it returns false'. Refute it at one input. -/
def irredManyWrong : ChangeSpec := { name := "irredMany", fn := fun _ => fun
  | [d1, d2] => { results := [.lit (.bool false)], args := [d1, d2] }
  | _ => none }
def IrredManyWrongFalsely : Prop := irredManyRow.holds Try.pinned (OpenSpec.ofChange irredManyWrong)

/-- 'wholekeep.IrredField': WHATEVER THE INPUT: true; the input reads as it did. -/
def irredFieldSpec : ChangeSpec := { name := "irredField", fn := fun _ => fun
  | [d1, d2, d3] => { results := [.lit (.bool true)], args := [d1, d2, d3] }
  | _ => none }
def irredFieldRow : OpenClaim := { program := "ytimehaolaeedhaa", sum := "8f256716e03616a667d31bdb40df5c1da80eeb80fb4ed284f95233e47ebe815b", func := "wholemend/wholekeep.IrredField", spec := "irredField", unfollowed := true, recurses := true, apart := false }
def IrredFieldSaid : Prop := irredFieldRow.holds Try.pinned (OpenSpec.ofChange irredFieldSpec)

/-- ITS FALSE NEIGHBOUR: 'it returns false'. Refute it at one input. -/
def irredFieldWrong : ChangeSpec := { name := "irredField", fn := fun _ => fun
  | [d1, d2, d3] => { results := [.lit (.bool false)], args := [d1, d2, d3] }
  | _ => none }
def IrredFieldWrongFalsely : Prop := irredFieldRow.holds Try.pinned (OpenSpec.ofChange irredFieldWrong)

/- THE SECOND FORM. 'bulk': how many values and letters a reading holds, each counted each time it is reached (what is shared counts as often as it is met; a slice's spare places count too). A statement '..UptoSaid' is the law's where the arguments, and the package variables that the reading takes, are together of bulk at most 1048576: NARROWER than '..Said'. Prove '..Said' where nothing that the law and all that it calls make is longer than what came in: it says more and counts as full. Else prove '..UptoSaid'. A law counts once. -/
mutual
def uptoBulk {H : Type} : DataW H → Nat
  | .lit (.string bytes) => bytes.length + 1
  | .lit _ => 1
  | .nil => 1
  | .ptr d => uptoBulk d + 1
  | .slice elems spare => uptoBulkAll elems + uptoBulkAll spare + 1
  | .agg parts => uptoBulkAll parts + 1
  | .iface _ d => uptoBulk d + 1
  | .map entries => uptoBulkEntries entries + 1
  | .held _ => 1
def uptoBulkAll {H : Type} : List (DataW H) → Nat
  | [] => 0
  | d :: r => uptoBulk d + uptoBulkAll r
def uptoBulkEntries {H : Type} : List (Lit × DataW H) → Nat
  | [] => 0
  | x :: r => uptoBulkEntry x + uptoBulkEntries r
def uptoBulkEntry {H : Type} : Lit × DataW H → Nat
  | (.string bytes, d) => bytes.length + uptoBulk d + 1
  | (_, d) => uptoBulk d + 1
 end
def uptoSmall : (H : Type) → List (DataW H) → Bool := fun _ ds => decide (uptoBulkAll ds ≤ 1048576)
def OpenSpec.upto (s : _root_.Go.ChangeSpec) : _root_.Go.OpenSpec := { _root_.Go.OpenSpec.ofChange s with cond := some uptoSmall }

/-- 'wholelaw.IrredSays', WHERE WHAT IT READS IS OF BULK AT MOST 1048576: true; the input reads as it did. -/
def irredSaysUptoRow : OpenClaim := { program := "ytimehaolaeedhaa", sum := "8f256716e03616a667d31bdb40df5c1da80eeb80fb4ed284f95233e47ebe815b", func := "wholemend/wholelaw.IrredSays", spec := "irredSays", unfollowed := true, recurses := true, apart := false, narrowed := true }
def IrredSaysUptoSaid : Prop := irredSaysUptoRow.holds Try.pinned (OpenSpec.upto irredSaysSpec)

/-- 'wholekeep.IrredTimes', WHERE WHAT IT READS IS OF BULK AT MOST 1048576: true; the input reads as it did. -/
def irredTimesUptoRow : OpenClaim := { program := "ytimehaolaeedhaa", sum := "8f256716e03616a667d31bdb40df5c1da80eeb80fb4ed284f95233e47ebe815b", func := "wholemend/wholekeep.IrredTimes", spec := "irredTimes", unfollowed := true, recurses := true, apart := false, narrowed := true }
def IrredTimesUptoSaid : Prop := irredTimesUptoRow.holds Try.pinned (OpenSpec.upto irredTimesSpec)

/-- 'wholekeep.IrredMany', WHERE WHAT IT READS IS OF BULK AT MOST 1048576: true; the input reads as it did. -/
def irredManyUptoRow : OpenClaim := { program := "ytimehaolaeedhaa", sum := "8f256716e03616a667d31bdb40df5c1da80eeb80fb4ed284f95233e47ebe815b", func := "wholemend/wholekeep.IrredMany", spec := "irredMany", apart := false, narrowed := true }
def IrredManyUptoSaid : Prop := irredManyUptoRow.holds Try.pinned (OpenSpec.upto irredManySpec)

/-- 'wholekeep.IrredField', WHERE WHAT IT READS IS OF BULK AT MOST 1048576: true; the input reads as it did. -/
def irredFieldUptoRow : OpenClaim := { program := "ytimehaolaeedhaa", sum := "8f256716e03616a667d31bdb40df5c1da80eeb80fb4ed284f95233e47ebe815b", func := "wholemend/wholekeep.IrredField", spec := "irredField", unfollowed := true, recurses := true, apart := false, narrowed := true }
def IrredFieldUptoSaid : Prop := irredFieldUptoRow.holds Try.pinned (OpenSpec.upto irredFieldSpec)

end Rows
end Go.Proofs.Ytimehaolaeedhaa
