/-
  No cell of these rows narrows 'for every input' (looked for: loops, veiled, ifaces, maps, wideKeys, modest, calm, conditions, laid).
  DERIVED. THE GIVEN ROWS OF THIS SEAT. 4 by the template 'for every input the law returns true; each argument reads behind the call as it read before'; 0 by the template 'total and deterministic' (their statements: YteaehaebhpcfeaaTotals.lean).
  GIVEN WITH THE SEED: the statements are not yours to turn. If you find one false, say at which input.
  Laid BY PROGRAM, IN A SANDBOX (cutbox-rows.mjs): the forced cells as the released guide's own fill.sh prints them over the translation 7acb203ab901a62a… (all of the seat's roots in one cut). By AI agents, Wed Nov 11 2026. No macro, syntax, notation, axiom, sorry.
-/
import Derived.Test.YteaehaebhpcfeaaChecked
import GoSem.Claim
import GoSem.ClaimJoined
import GoSem.ClaimMapViews
import Derived.JoinedTies
import Derived.KernelRfl
namespace Go.Proofs.Yteaehaebhpcfeaa
/- THE CELL 'sum', in the pinned program and in every row, IS THE sha256 OF THE DUMP (.gsa) THAT YteaehaebhpcfeaaProg.lean LOADS. Nothing in Lean hashes anything: it is a label: what it is worth is what the hold of that sum in a sandbox is worth. -/
noncomputable def Try.pinned : Pinned := { name := "yteaehaebhpcfeaa", sum := "7acb203ab901a62ac8ef6dd0cecc155b943610cd3a81ed4b8bf57420fc31305b", checked := Try.checked }
namespace Rows
def none {H : Type} : Left H := { results := [], args := [] }

/-- 'wholelaw.GridSays': WHATEVER THE INPUT: true; the input reads as it did. -/
def gridSaysSpec : ChangeSpec := { name := "gridSays", fn := fun _ => fun
  | [d1, d2, d3] => { results := [.lit (.bool true)], args := [d1, d2, d3] }
  | _ => none }
def gridSaysRow : OpenClaim := { program := "yteaehaebhpcfeaa", sum := "7acb203ab901a62ac8ef6dd0cecc155b943610cd3a81ed4b8bf57420fc31305b", func := "wholemend/wholelaw.GridSays", spec := "gridSays", unfollowed := true, recurses := true, apart := false }
def GridSaysSaid : Prop := gridSaysRow.holds Try.pinned (OpenSpec.ofChange gridSaysSpec)

/-- ITS FALSE NEIGHBOUR: 'it returns false'. Refute it at one input. -/
def gridSaysWrong : ChangeSpec := { name := "gridSays", fn := fun _ => fun
  | [d1, d2, d3] => { results := [.lit (.bool false)], args := [d1, d2, d3] }
  | _ => none }
def GridSaysWrongFalsely : Prop := gridSaysRow.holds Try.pinned (OpenSpec.ofChange gridSaysWrong)

/-- 'wholekeep.GridVander': WHATEVER THE INPUT: true; the input reads as it did. -/
def gridVanderSpec : ChangeSpec := { name := "gridVander", fn := fun _ => fun
  | [d] => { results := [.lit (.bool true)], args := [d] }
  | _ => none }
def gridVanderRow : OpenClaim := { program := "yteaehaebhpcfeaa", sum := "7acb203ab901a62ac8ef6dd0cecc155b943610cd3a81ed4b8bf57420fc31305b", func := "wholemend/wholekeep.GridVander", spec := "gridVander", unfollowed := true, recurses := true, apart := false }
def GridVanderSaid : Prop := gridVanderRow.holds Try.pinned (OpenSpec.ofChange gridVanderSpec)

/-- ITS FALSE NEIGHBOUR: 'it returns false'. Refute it at one input. -/
def gridVanderWrong : ChangeSpec := { name := "gridVander", fn := fun _ => fun
  | [d] => { results := [.lit (.bool false)], args := [d] }
  | _ => none }
def GridVanderWrongFalsely : Prop := gridVanderRow.holds Try.pinned (OpenSpec.ofChange gridVanderWrong)

/-- 'wholekeep.GridCauchy': WHATEVER THE INPUT: true; the input reads as it did. -/
def gridCauchySpec : ChangeSpec := { name := "gridCauchy", fn := fun _ => fun
  | [d1, d2, d3, d4] => { results := [.lit (.bool true)], args := [d1, d2, d3, d4] }
  | _ => none }
def gridCauchyRow : OpenClaim := { program := "yteaehaebhpcfeaa", sum := "7acb203ab901a62ac8ef6dd0cecc155b943610cd3a81ed4b8bf57420fc31305b", func := "wholemend/wholekeep.GridCauchy", spec := "gridCauchy", unfollowed := true, recurses := true, apart := false }
def GridCauchySaid : Prop := gridCauchyRow.holds Try.pinned (OpenSpec.ofChange gridCauchySpec)

/-- ITS FALSE NEIGHBOUR: 'it returns false'. Refute it at one input. -/
def gridCauchyWrong : ChangeSpec := { name := "gridCauchy", fn := fun _ => fun
  | [d1, d2, d3, d4] => { results := [.lit (.bool false)], args := [d1, d2, d3, d4] }
  | _ => none }
def GridCauchyWrongFalsely : Prop := gridCauchyRow.holds Try.pinned (OpenSpec.ofChange gridCauchyWrong)

/-- 'wholekeep.GridValues': WHATEVER THE INPUT: true; the input reads as it did. -/
def gridValuesSpec : ChangeSpec := { name := "gridValues", fn := fun _ => fun
  | [d1, d2] => { results := [.lit (.bool true)], args := [d1, d2] }
  | _ => none }
def gridValuesRow : OpenClaim := { program := "yteaehaebhpcfeaa", sum := "7acb203ab901a62ac8ef6dd0cecc155b943610cd3a81ed4b8bf57420fc31305b", func := "wholemend/wholekeep.GridValues", spec := "gridValues", unfollowed := true, recurses := true, apart := false }
def GridValuesSaid : Prop := gridValuesRow.holds Try.pinned (OpenSpec.ofChange gridValuesSpec)

/-- ITS FALSE NEIGHBOUR: 'it returns false'. Refute it at one input. -/
def gridValuesWrong : ChangeSpec := { name := "gridValues", fn := fun _ => fun
  | [d1, d2] => { results := [.lit (.bool false)], args := [d1, d2] }
  | _ => none }
def GridValuesWrongFalsely : Prop := gridValuesRow.holds Try.pinned (OpenSpec.ofChange gridValuesWrong)

/- THE SECOND FORM. 'bulk': how many values and letters a reading holds, each counted each time it is reached (what is shared counts as often as it is met; a slice's spare places count too). A statement '..UptoSaid' is the law's where the arguments, and the package variables that the reading takes, are together of bulk at most 1048576: NARROWER than '..Said'. Prove '..Said' where nothing that the law and all that it calls make is longer than what came in: it says more and counts as full. Else prove '..UptoSaid'. A law counts once. -/
mutual
def uptoBulk {H : Type} : DataW H → Nat
  | .lit (.string bytes) => bytes.length + 1
  | .lit _ => 1
  | .nil => 1
  | .ptr d => uptoBulk d + 1
  | .slice elems spare => uptoBulkAll elems + uptoBulkAll spare + 1
  | .agg parts => uptoBulkAll parts + 1
  | .iface _ d => uptoBulk d + 1
  | .map entries => uptoBulkEntries entries + 1
  | .held _ => 1
def uptoBulkAll {H : Type} : List (DataW H) → Nat
  | [] => 0
  | d :: r => uptoBulk d + uptoBulkAll r
def uptoBulkEntries {H : Type} : List (Lit × DataW H) → Nat
  | [] => 0
  | x :: r => uptoBulkEntry x + uptoBulkEntries r
def uptoBulkEntry {H : Type} : Lit × DataW H → Nat
  | (.string bytes, d) => bytes.length + uptoBulk d + 1
  | (_, d) => uptoBulk d + 1
 end
def uptoSmall : (H : Type) → List (DataW H) → Bool := fun _ ds => decide (uptoBulkAll ds ≤ 1048576)
def OpenSpec.upto (s : _root_.Go.ChangeSpec) : _root_.Go.OpenSpec := { _root_.Go.OpenSpec.ofChange s with cond := some uptoSmall }

/-- 'wholelaw.GridSays', WHERE WHAT IT READS IS OF BULK AT MOST 1048576: true; the input reads as it did. -/
def gridSaysUptoRow : OpenClaim := { program := "yteaehaebhpcfeaa", sum := "7acb203ab901a62ac8ef6dd0cecc155b943610cd3a81ed4b8bf57420fc31305b", func := "wholemend/wholelaw.GridSays", spec := "gridSays", unfollowed := true, recurses := true, apart := false, narrowed := true }
def GridSaysUptoSaid : Prop := gridSaysUptoRow.holds Try.pinned (OpenSpec.upto gridSaysSpec)

/-- 'wholekeep.GridVander', WHERE WHAT IT READS IS OF BULK AT MOST 1048576: true; the input reads as it did. -/
def gridVanderUptoRow : OpenClaim := { program := "yteaehaebhpcfeaa", sum := "7acb203ab901a62ac8ef6dd0cecc155b943610cd3a81ed4b8bf57420fc31305b", func := "wholemend/wholekeep.GridVander", spec := "gridVander", unfollowed := true, recurses := true, apart := false, narrowed := true }
def GridVanderUptoSaid : Prop := gridVanderUptoRow.holds Try.pinned (OpenSpec.upto gridVanderSpec)

/-- 'wholekeep.GridCauchy', WHERE WHAT IT READS IS OF BULK AT MOST 1048576: true; the input reads as it did. -/
def gridCauchyUptoRow : OpenClaim := { program := "yteaehaebhpcfeaa", sum := "7acb203ab901a62ac8ef6dd0cecc155b943610cd3a81ed4b8bf57420fc31305b", func := "wholemend/wholekeep.GridCauchy", spec := "gridCauchy", unfollowed := true, recurses := true, apart := false, narrowed := true }
def GridCauchyUptoSaid : Prop := gridCauchyUptoRow.holds Try.pinned (OpenSpec.upto gridCauchySpec)

/-- 'wholekeep.GridValues', WHERE WHAT IT READS IS OF BULK AT MOST 1048576: true; the input reads as it did. -/
def gridValuesUptoRow : OpenClaim := { program := "yteaehaebhpcfeaa", sum := "7acb203ab901a62ac8ef6dd0cecc155b943610cd3a81ed4b8bf57420fc31305b", func := "wholemend/wholekeep.GridValues", spec := "gridValues", unfollowed := true, recurses := true, apart := false, narrowed := true }
def GridValuesUptoSaid : Prop := gridValuesUptoRow.holds Try.pinned (OpenSpec.upto gridValuesSpec)

end Rows
end Go.Proofs.Yteaehaebhpcfeaa
