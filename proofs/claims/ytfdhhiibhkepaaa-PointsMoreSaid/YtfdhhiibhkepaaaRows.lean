/-
  No cell of these rows narrows 'for every input' (looked for: loops, veiled, ifaces, maps, wideKeys, modest, calm, conditions, laid).
  DERIVED. THE GIVEN ROWS OF THIS SEAT. 4 by the template 'for every input the law returns true; each argument reads behind the call as it read before'; 0 by the template 'total and deterministic' (their statements: YtfdhhiibhkepaaaTotals.lean).
  GIVEN WITH THE SEED: the statements are not yours to turn. If you find one false, say at which input.
  Laid BY PROGRAM, IN A SANDBOX (cutbox-rows.mjs): the forced cells as the released guide's own fill.sh prints them over the translation b8ef8130410ce6d3… (all of the seat's roots in one cut). By AI agents, Wed Nov 11 2026. No macro, syntax, notation, axiom, sorry.
-/
import Derived.Test.YtfdhhiibhkepaaaChecked
import GoSem.Claim
import GoSem.ClaimJoined
import GoSem.ClaimMapViews
import Derived.JoinedTies
import Derived.KernelRfl
namespace Go.Proofs.Ytfdhhiibhkepaaa
/- THE CELL 'sum', in the pinned program and in every row, IS THE sha256 OF THE DUMP (.gsa) THAT YtfdhhiibhkepaaaProg.lean LOADS. Nothing in Lean hashes anything: it is a label: what it is worth is what the hold of that sum in a sandbox is worth. -/
noncomputable def Try.pinned : Pinned := { name := "ytfdhhiibhkepaaa", sum := "b8ef8130410ce6d386ec8ff2a9850c9e5bcad40168ecbdde7ad98f9427167fcf", checked := Try.checked }
namespace Rows
def none {H : Type} : Left H := { results := [], args := [] }

/-- 'wholelaw.PointsSays': WHATEVER THE INPUT: true; the input reads as it did. -/
def pointsSaysSpec : ChangeSpec := { name := "pointsSays", fn := fun _ => fun
  | [d1, d2, d3] => { results := [.lit (.bool true)], args := [d1, d2, d3] }
  | _ => none }
def pointsSaysRow : OpenClaim := { program := "ytfdhhiibhkepaaa", sum := "b8ef8130410ce6d386ec8ff2a9850c9e5bcad40168ecbdde7ad98f9427167fcf", func := "wholemend/wholelaw.PointsSays", spec := "pointsSays", unfollowed := true, recurses := true, apart := false }
def PointsSaysSaid : Prop := pointsSaysRow.holds Try.pinned (OpenSpec.ofChange pointsSaysSpec)

/-- ITS FALSE NEIGHBOUR: 'it returns false'. Refute it at one input. -/
def pointsSaysWrong : ChangeSpec := { name := "pointsSays", fn := fun _ => fun
  | [d1, d2, d3] => { results := [.lit (.bool false)], args := [d1, d2, d3] }
  | _ => none }
def PointsSaysWrongFalsely : Prop := pointsSaysRow.holds Try.pinned (OpenSpec.ofChange pointsSaysWrong)

/-- 'wholekeep.PointsBack': WHATEVER THE INPUT: true; the input reads as it did. -/
def pointsBackSpec : ChangeSpec := { name := "pointsBack", fn := fun _ => fun
  | [d1, d2, d3] => { results := [.lit (.bool true)], args := [d1, d2, d3] }
  | _ => none }
def pointsBackRow : OpenClaim := { program := "ytfdhhiibhkepaaa", sum := "b8ef8130410ce6d386ec8ff2a9850c9e5bcad40168ecbdde7ad98f9427167fcf", func := "wholemend/wholekeep.PointsBack", spec := "pointsBack", unfollowed := true, recurses := true, apart := false }
def PointsBackSaid : Prop := pointsBackRow.holds Try.pinned (OpenSpec.ofChange pointsBackSpec)

/-- ITS FALSE NEIGHBOUR: 'it returns false'. Refute it at one input. -/
def pointsBackWrong : ChangeSpec := { name := "pointsBack", fn := fun _ => fun
  | [d1, d2, d3] => { results := [.lit (.bool false)], args := [d1, d2, d3] }
  | _ => none }
def PointsBackWrongFalsely : Prop := pointsBackRow.holds Try.pinned (OpenSpec.ofChange pointsBackWrong)

/-- 'wholekeep.PointsSums': WHATEVER THE INPUT: true; the input reads as it did. -/
def pointsSumsSpec : ChangeSpec := { name := "pointsSums", fn := fun _ => fun
  | [d1, d2, d3, d4] => { results := [.lit (.bool true)], args := [d1, d2, d3, d4] }
  | _ => none }
def pointsSumsRow : OpenClaim := { program := "ytfdhhiibhkepaaa", sum := "b8ef8130410ce6d386ec8ff2a9850c9e5bcad40168ecbdde7ad98f9427167fcf", func := "wholemend/wholekeep.PointsSums", spec := "pointsSums", unfollowed := true, recurses := true, apart := false }
def PointsSumsSaid : Prop := pointsSumsRow.holds Try.pinned (OpenSpec.ofChange pointsSumsSpec)

/-- ITS FALSE NEIGHBOUR: 'it returns false'. Refute it at one input. -/
def pointsSumsWrong : ChangeSpec := { name := "pointsSums", fn := fun _ => fun
  | [d1, d2, d3, d4] => { results := [.lit (.bool false)], args := [d1, d2, d3, d4] }
  | _ => none }
def PointsSumsWrongFalsely : Prop := pointsSumsRow.holds Try.pinned (OpenSpec.ofChange pointsSumsWrong)

/-- 'wholekeep.PointsMore': WHATEVER THE INPUT: true; the input reads as it did. -/
def pointsMoreSpec : ChangeSpec := { name := "pointsMore", fn := fun _ => fun
  | [d1, d2, d3] => { results := [.lit (.bool true)], args := [d1, d2, d3] }
  | _ => none }
def pointsMoreRow : OpenClaim := { program := "ytfdhhiibhkepaaa", sum := "b8ef8130410ce6d386ec8ff2a9850c9e5bcad40168ecbdde7ad98f9427167fcf", func := "wholemend/wholekeep.PointsMore", spec := "pointsMore", unfollowed := true, recurses := true, apart := false }
def PointsMoreSaid : Prop := pointsMoreRow.holds Try.pinned (OpenSpec.ofChange pointsMoreSpec)

/-- ITS FALSE NEIGHBOUR: 'it returns false'. Refute it at one input. -/
def pointsMoreWrong : ChangeSpec := { name := "pointsMore", fn := fun _ => fun
  | [d1, d2, d3] => { results := [.lit (.bool false)], args := [d1, d2, d3] }
  | _ => none }
def PointsMoreWrongFalsely : Prop := pointsMoreRow.holds Try.pinned (OpenSpec.ofChange pointsMoreWrong)

/- THE SECOND FORM. 'bulk': how many values and letters a reading holds, each counted each time it is reached (what is shared counts as often as it is met; a slice's spare places count too). A statement '..UptoSaid' is the law's where the arguments, and the package variables that the reading takes, are together of bulk at most 1048576: NARROWER than '..Said'. Prove '..Said' where nothing that the law and all that it calls make is longer than what came in: it says more and counts as full. Else prove '..UptoSaid'. A law counts once. -/
mutual
def uptoBulk {H : Type} : DataW H → Nat
  | .lit (.string bytes) => bytes.length + 1
  | .lit _ => 1
  | .nil => 1
  | .ptr d => uptoBulk d + 1
  | .slice elems spare => uptoBulkAll elems + uptoBulkAll spare + 1
  | .agg parts => uptoBulkAll parts + 1
  | .iface _ d => uptoBulk d + 1
  | .map entries => uptoBulkEntries entries + 1
  | .held _ => 1
def uptoBulkAll {H : Type} : List (DataW H) → Nat
  | [] => 0
  | d :: r => uptoBulk d + uptoBulkAll r
def uptoBulkEntries {H : Type} : List (Lit × DataW H) → Nat
  | [] => 0
  | x :: r => uptoBulkEntry x + uptoBulkEntries r
def uptoBulkEntry {H : Type} : Lit × DataW H → Nat
  | (.string bytes, d) => bytes.length + uptoBulk d + 1
  | (_, d) => uptoBulk d + 1
 end
def uptoSmall : (H : Type) → List (DataW H) → Bool := fun _ ds => decide (uptoBulkAll ds ≤ 1048576)
def OpenSpec.upto (s : _root_.Go.ChangeSpec) : _root_.Go.OpenSpec := { _root_.Go.OpenSpec.ofChange s with cond := some uptoSmall }

/-- 'wholelaw.PointsSays', WHERE WHAT IT READS IS OF BULK AT MOST 1048576: true; the input reads as it did. -/
def pointsSaysUptoRow : OpenClaim := { program := "ytfdhhiibhkepaaa", sum := "b8ef8130410ce6d386ec8ff2a9850c9e5bcad40168ecbdde7ad98f9427167fcf", func := "wholemend/wholelaw.PointsSays", spec := "pointsSays", unfollowed := true, recurses := true, apart := false, narrowed := true }
def PointsSaysUptoSaid : Prop := pointsSaysUptoRow.holds Try.pinned (OpenSpec.upto pointsSaysSpec)

/-- 'wholekeep.PointsBack', WHERE WHAT IT READS IS OF BULK AT MOST 1048576: true; the input reads as it did. -/
def pointsBackUptoRow : OpenClaim := { program := "ytfdhhiibhkepaaa", sum := "b8ef8130410ce6d386ec8ff2a9850c9e5bcad40168ecbdde7ad98f9427167fcf", func := "wholemend/wholekeep.PointsBack", spec := "pointsBack", unfollowed := true, recurses := true, apart := false, narrowed := true }
def PointsBackUptoSaid : Prop := pointsBackUptoRow.holds Try.pinned (OpenSpec.upto pointsBackSpec)

/-- 'wholekeep.PointsSums', WHERE WHAT IT READS IS OF BULK AT MOST 1048576: true; the input reads as it did. -/
def pointsSumsUptoRow : OpenClaim := { program := "ytfdhhiibhkepaaa", sum := "b8ef8130410ce6d386ec8ff2a9850c9e5bcad40168ecbdde7ad98f9427167fcf", func := "wholemend/wholekeep.PointsSums", spec := "pointsSums", unfollowed := true, recurses := true, apart := false, narrowed := true }
def PointsSumsUptoSaid : Prop := pointsSumsUptoRow.holds Try.pinned (OpenSpec.upto pointsSumsSpec)

/-- 'wholekeep.PointsMore', WHERE WHAT IT READS IS OF BULK AT MOST 1048576: true; the input reads as it did. -/
def pointsMoreUptoRow : OpenClaim := { program := "ytfdhhiibhkepaaa", sum := "b8ef8130410ce6d386ec8ff2a9850c9e5bcad40168ecbdde7ad98f9427167fcf", func := "wholemend/wholekeep.PointsMore", spec := "pointsMore", unfollowed := true, recurses := true, apart := false, narrowed := true }
def PointsMoreUptoSaid : Prop := pointsMoreUptoRow.holds Try.pinned (OpenSpec.upto pointsMoreSpec)

end Rows
end Go.Proofs.Ytfdhhiibhkepaaa
