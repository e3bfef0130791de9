/-
  No cell of these rows narrows 'for every input' (looked for: loops, veiled, ifaces, maps, wideKeys, modest, calm, conditions, laid).
  DERIVED. THE GIVEN ROWS OF THIS SEAT. 6 by the template 'for every input the law returns true; each argument reads behind the call as it read before'; 0 by the template 'total and deterministic' (their statements: YtbomiohgdlcmdaaTotals.lean).
  GIVEN WITH THE SEED: the statements are not yours to turn. If you find one false, say at which input.
  Laid BY PROGRAM, IN A SANDBOX (cutbox-rows.mjs): the forced cells as the released guide's own fill.sh prints them over the translation e7b186ec9893267f… (all of the seat's roots in one cut). By AI agents, Wed Nov 11 2026. No macro, syntax, notation, axiom, sorry.
-/
import Derived.Test.YtbomiohgdlcmdaaChecked
import GoSem.Claim
import GoSem.ClaimJoined
import GoSem.ClaimMapViews
import Derived.JoinedTies
import Derived.KernelRfl
namespace Go.Proofs.Ytbomiohgdlcmdaa
/- THE CELL 'sum', in the pinned program and in every row, IS THE sha256 OF THE DUMP (.gsa) THAT YtbomiohgdlcmdaaProg.lean LOADS. Nothing in Lean hashes anything: it is a label: what it is worth is what the hold of that sum in a sandbox is worth. -/
noncomputable def Try.pinned : Pinned := { name := "ytbomiohgdlcmdaa", sum := "e7b186ec9893267fbde90594a77a71d50fe4f7fb6d09c7027fa21e25ab2f44f5", checked := Try.checked }
namespace Rows
def none {H : Type} : Left H := { results := [], args := [] }

/-- 'wholelaw.FracSays': WHATEVER THE INPUT: true; the input reads as it did. -/
def fracSaysSpec : ChangeSpec := { name := "fracSays", fn := fun _ => fun
  | [d1, d2] => { results := [.lit (.bool true)], args := [d1, d2] }
  | _ => none }
def fracSaysRow : OpenClaim := { program := "ytbomiohgdlcmdaa", sum := "e7b186ec9893267fbde90594a77a71d50fe4f7fb6d09c7027fa21e25ab2f44f5", func := "wholemend/wholelaw.FracSays", spec := "fracSays", apart := false }
def FracSaysSaid : Prop := fracSaysRow.holds Try.pinned (OpenSpec.ofChange fracSaysSpec)

/-- ITS FALSE NEIGHBOUR: 'it returns false'. Refute it at one input. -/
def fracSaysWrong : ChangeSpec := { name := "fracSays", fn := fun _ => fun
  | [d1, d2] => { results := [.lit (.bool false)], args := [d1, d2] }
  | _ => none }
def FracSaysWrongFalsely : Prop := fracSaysRow.holds Try.pinned (OpenSpec.ofChange fracSaysWrong)

/-- 'wholelaw.FracNear': WHATEVER THE INPUT: true; the input reads as it did. -/
def fracNearSpec : ChangeSpec := { name := "fracNear", fn := fun _ => fun
  | [d1, d2, d3] => { results := [.lit (.bool true)], args := [d1, d2, d3] }
  | _ => none }
def fracNearRow : OpenClaim := { program := "ytbomiohgdlcmdaa", sum := "e7b186ec9893267fbde90594a77a71d50fe4f7fb6d09c7027fa21e25ab2f44f5", func := "wholemend/wholelaw.FracNear", spec := "fracNear", unfollowed := true, recurses := true, apart := false }
def FracNearSaid : Prop := fracNearRow.holds Try.pinned (OpenSpec.ofChange fracNearSpec)

/-- ITS FALSE NEIGHBOUR: 'it returns false'. Refute it at one input. -/
def fracNearWrong : ChangeSpec := { name := "fracNear", fn := fun _ => fun
  | [d1, d2, d3] => { results := [.lit (.bool false)], args := [d1, d2, d3] }
  | _ => none }
def FracNearWrongFalsely : Prop := fracNearRow.holds Try.pinned (OpenSpec.ofChange fracNearWrong)

/-- 'wholekeep.FracBack': WHATEVER THE INPUT: true; the input reads as it did. -/
def fracBackSpec : ChangeSpec := { name := "fracBack", fn := fun _ => fun
  | [d] => { results := [.lit (.bool true)], args := [d] }
  | _ => none }
def fracBackRow : OpenClaim := { program := "ytbomiohgdlcmdaa", sum := "e7b186ec9893267fbde90594a77a71d50fe4f7fb6d09c7027fa21e25ab2f44f5", func := "wholemend/wholekeep.FracBack", spec := "fracBack", unfollowed := true, recurses := true, apart := false }
def FracBackSaid : Prop := fracBackRow.holds Try.pinned (OpenSpec.ofChange fracBackSpec)

/-- ITS FALSE NEIGHBOUR: 'it returns false'. Refute it at one input. -/
def fracBackWrong : ChangeSpec := { name := "fracBack", fn := fun _ => fun
  | [d] => { results := [.lit (.bool false)], args := [d] }
  | _ => none }
def FracBackWrongFalsely : Prop := fracBackRow.holds Try.pinned (OpenSpec.ofChange fracBackWrong)

/-- 'wholekeep.FracTurns': WHATEVER THE INPUT: true; the input reads as it did. -/
def fracTurnsSpec : ChangeSpec := { name := "fracTurns", fn := fun _ => fun
  | [d1, d2] => { results := [.lit (.bool true)], args := [d1, d2] }
  | _ => none }
def fracTurnsRow : OpenClaim := { program := "ytbomiohgdlcmdaa", sum := "e7b186ec9893267fbde90594a77a71d50fe4f7fb6d09c7027fa21e25ab2f44f5", func := "wholemend/wholekeep.FracTurns", spec := "fracTurns", unfollowed := true, recurses := true, apart := false }
def FracTurnsSaid : Prop := fracTurnsRow.holds Try.pinned (OpenSpec.ofChange fracTurnsSpec)

/-- ITS FALSE NEIGHBOUR: 'it returns false'. Refute it at one input. -/
def fracTurnsWrong : ChangeSpec := { name := "fracTurns", fn := fun _ => fun
  | [d1, d2] => { results := [.lit (.bool false)], args := [d1, d2] }
  | _ => none }
def FracTurnsWrongFalsely : Prop := fracTurnsRow.holds Try.pinned (OpenSpec.ofChange fracTurnsWrong)

/-- 'wholekeep.FracSides': WHATEVER THE INPUT: true; the input reads as it did. -/
def fracSidesSpec : ChangeSpec := { name := "fracSides", fn := fun _ => fun
  | [d1, d2, d3] => { results := [.lit (.bool true)], args := [d1, d2, d3] }
  | _ => none }
def fracSidesRow : OpenClaim := { program := "ytbomiohgdlcmdaa", sum := "e7b186ec9893267fbde90594a77a71d50fe4f7fb6d09c7027fa21e25ab2f44f5", func := "wholemend/wholekeep.FracSides", spec := "fracSides", apart := false }
def FracSidesSaid : Prop := fracSidesRow.holds Try.pinned (OpenSpec.ofChange fracSidesSpec)

/-- ITS FALSE NEIGHBOUR: 'it returns false'. Refute it at one input. -/
def fracSidesWrong : ChangeSpec := { name := "fracSides", fn := fun _ => fun
  | [d1, d2, d3] => { results := [.lit (.bool false)], args := [d1, d2, d3] }
  | _ => none }
def FracSidesWrongFalsely : Prop := fracSidesRow.holds Try.pinned (OpenSpec.ofChange fracSidesWrong)

/-- 'wholekeep.FracFarey': WHATEVER THE INPUT: true; the input reads as it did. -/
def fracFareySpec : ChangeSpec := { name := "fracFarey", fn := fun _ => fun
  | [d] => { results := [.lit (.bool true)], args := [d] }
  | _ => none }
def fracFareyRow : OpenClaim := { program := "ytbomiohgdlcmdaa", sum := "e7b186ec9893267fbde90594a77a71d50fe4f7fb6d09c7027fa21e25ab2f44f5", func := "wholemend/wholekeep.FracFarey", spec := "fracFarey", apart := false }
def FracFareySaid : Prop := fracFareyRow.holds Try.pinned (OpenSpec.ofChange fracFareySpec)

/-- ITS FALSE NEIGHBOUR: 'it returns false'. Refute it at one input. -/
def fracFareyWrong : ChangeSpec := { name := "fracFarey", fn := fun _ => fun
  | [d] => { results := [.lit (.bool false)], args := [d] }
  | _ => none }
def FracFareyWrongFalsely : Prop := fracFareyRow.holds Try.pinned (OpenSpec.ofChange fracFareyWrong)

/- THE SECOND FORM. 'bulk': how many values and letters a reading holds, each counted each time it is reached (what is shared counts as often as it is met; a slice's spare places count too). A statement '..UptoSaid' is the law's where the arguments, and the package variables that the reading takes, are together of bulk at most 1048576: NARROWER than '..Said'. Prove '..Said' where nothing that the law and all that it calls make is longer than what came in: it says more and counts as full. Else prove '..UptoSaid'. A law counts once. -/
mutual
def uptoBulk {H : Type} : DataW H → Nat
  | .lit (.string bytes) => bytes.length + 1
  | .lit _ => 1
  | .nil => 1
  | .ptr d => uptoBulk d + 1
  | .slice elems spare => uptoBulkAll elems + uptoBulkAll spare + 1
  | .agg parts => uptoBulkAll parts + 1
  | .iface _ d => uptoBulk d + 1
  | .map entries => uptoBulkEntries entries + 1
  | .held _ => 1
def uptoBulkAll {H : Type} : List (DataW H) → Nat
  | [] => 0
  | d :: r => uptoBulk d + uptoBulkAll r
def uptoBulkEntries {H : Type} : List (Lit × DataW H) → Nat
  | [] => 0
  | x :: r => uptoBulkEntry x + uptoBulkEntries r
def uptoBulkEntry {H : Type} : Lit × DataW H → Nat
  | (.string bytes, d) => bytes.length + uptoBulk d + 1
  | (_, d) => uptoBulk d + 1
 end
def uptoSmall : (H : Type) → List (DataW H) → Bool := fun _ ds => decide (uptoBulkAll ds ≤ 1048576)
def OpenSpec.upto (s : _root_.Go.ChangeSpec) : _root_.Go.OpenSpec := { _root_.Go.OpenSpec.ofChange s with cond := some uptoSmall }

/-- 'wholelaw.FracSays', WHERE WHAT IT READS IS OF BULK AT MOST 1048576: true; the input reads as it did. -/
def fracSaysUptoRow : OpenClaim := { program := "ytbomiohgdlcmdaa", sum := "e7b186ec9893267fbde90594a77a71d50fe4f7fb6d09c7027fa21e25ab2f44f5", func := "wholemend/wholelaw.FracSays", spec := "fracSays", apart := false, narrowed := true }
def FracSaysUptoSaid : Prop := fracSaysUptoRow.holds Try.pinned (OpenSpec.upto fracSaysSpec)

/-- 'wholelaw.FracNear', WHERE WHAT IT READS IS OF BULK AT MOST 1048576: true; the input reads as it did. -/
def fracNearUptoRow : OpenClaim := { program := "ytbomiohgdlcmdaa", sum := "e7b186ec9893267fbde90594a77a71d50fe4f7fb6d09c7027fa21e25ab2f44f5", func := "wholemend/wholelaw.FracNear", spec := "fracNear", unfollowed := true, recurses := true, apart := false, narrowed := true }
def FracNearUptoSaid : Prop := fracNearUptoRow.holds Try.pinned (OpenSpec.upto fracNearSpec)

/-- 'wholekeep.FracBack', WHERE WHAT IT READS IS OF BULK AT MOST 1048576: true; the input reads as it did. -/
def fracBackUptoRow : OpenClaim := { program := "ytbomiohgdlcmdaa", sum := "e7b186ec9893267fbde90594a77a71d50fe4f7fb6d09c7027fa21e25ab2f44f5", func := "wholemend/wholekeep.FracBack", spec := "fracBack", unfollowed := true, recurses := true, apart := false, narrowed := true }
def FracBackUptoSaid : Prop := fracBackUptoRow.holds Try.pinned (OpenSpec.upto fracBackSpec)

/-- 'wholekeep.FracTurns', WHERE WHAT IT READS IS OF BULK AT MOST 1048576: true; the input reads as it did. -/
def fracTurnsUptoRow : OpenClaim := { program := "ytbomiohgdlcmdaa", sum := "e7b186ec9893267fbde90594a77a71d50fe4f7fb6d09c7027fa21e25ab2f44f5", func := "wholemend/wholekeep.FracTurns", spec := "fracTurns", unfollowed := true, recurses := true, apart := false, narrowed := true }
def FracTurnsUptoSaid : Prop := fracTurnsUptoRow.holds Try.pinned (OpenSpec.upto fracTurnsSpec)

/-- 'wholekeep.FracSides', WHERE WHAT IT READS IS OF BULK AT MOST 1048576: true; the input reads as it did. -/
def fracSidesUptoRow : OpenClaim := { program := "ytbomiohgdlcmdaa", sum := "e7b186ec9893267fbde90594a77a71d50fe4f7fb6d09c7027fa21e25ab2f44f5", func := "wholemend/wholekeep.FracSides", spec := "fracSides", apart := false, narrowed := true }
def FracSidesUptoSaid : Prop := fracSidesUptoRow.holds Try.pinned (OpenSpec.upto fracSidesSpec)

/-- 'wholekeep.FracFarey', WHERE WHAT IT READS IS OF BULK AT MOST 1048576: true; the input reads as it did. -/
def fracFareyUptoRow : OpenClaim := { program := "ytbomiohgdlcmdaa", sum := "e7b186ec9893267fbde90594a77a71d50fe4f7fb6d09c7027fa21e25ab2f44f5", func := "wholemend/wholekeep.FracFarey", spec := "fracFarey", apart := false, narrowed := true }
def FracFareyUptoSaid : Prop := fracFareyUptoRow.holds Try.pinned (OpenSpec.upto fracFareySpec)

end Rows
end Go.Proofs.Ytbomiohgdlcmdaa
