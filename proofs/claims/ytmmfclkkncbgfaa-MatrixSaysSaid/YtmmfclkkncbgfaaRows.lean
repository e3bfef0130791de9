/-
  No cell of these rows narrows 'for every input' (looked for: loops, veiled, ifaces, maps, wideKeys, modest, calm, conditions, laid).
  DERIVED. THE GIVEN ROWS OF THIS SEAT. 7 by the template 'for every input the law returns true; each argument reads behind the call as it read before'; 0 by the template 'total and deterministic' (their statements: YtmmfclkkncbgfaaTotals.lean).
  GIVEN WITH THE SEED: the statements are not yours to turn. If you find one false, say at which input.
  Laid BY PROGRAM, IN A SANDBOX (cutbox-rows.mjs): the forced cells as the released guide's own fill.sh prints them over the translation 6661a0911eb976f9… (all of the seat's roots in one cut). By AI agents, Wed Nov 11 2026. No macro, syntax, notation, axiom, sorry.
-/
import Derived.Test.YtmmfclkkncbgfaaChecked
import GoSem.Claim
import GoSem.ClaimJoined
import GoSem.ClaimMapViews
import Derived.JoinedTies
import Derived.KernelRfl
namespace Go.Proofs.Ytmmfclkkncbgfaa
/- THE CELL 'sum', in the pinned program and in every row, IS THE sha256 OF THE DUMP (.gsa) THAT YtmmfclkkncbgfaaProg.lean LOADS. Nothing in Lean hashes anything: it is a label: what it is worth is what the hold of that sum in a sandbox is worth. -/
noncomputable def Try.pinned : Pinned := { name := "ytmmfclkkncbgfaa", sum := "6661a0911eb976f9868def81859d57107164f0a42b13d04be96c5b74a3277d0b", checked := Try.checked }
namespace Rows
def none {H : Type} : Left H := { results := [], args := [] }

/-- 'wholelaw.MatrixSays': WHATEVER THE INPUT: true; the input reads as it did. -/
def matrixSaysSpec : ChangeSpec := { name := "matrixSays", fn := fun _ => fun
  | [d1, d2] => { results := [.lit (.bool true)], args := [d1, d2] }
  | _ => none }
def matrixSaysRow : OpenClaim := { program := "ytmmfclkkncbgfaa", sum := "6661a0911eb976f9868def81859d57107164f0a42b13d04be96c5b74a3277d0b", func := "wholemend/wholelaw.MatrixSays", spec := "matrixSays", unfollowed := true, recurses := true, apart := false }
def MatrixSaysSaid : Prop := matrixSaysRow.holds Try.pinned (OpenSpec.ofChange matrixSaysSpec)

/-- ITS FALSE NEIGHBOUR: 'it returns false'. Refute it at one input. -/
def matrixSaysWrong : ChangeSpec := { name := "matrixSays", fn := fun _ => fun
  | [d1, d2] => { results := [.lit (.bool false)], args := [d1, d2] }
  | _ => none }
def MatrixSaysWrongFalsely : Prop := matrixSaysRow.holds Try.pinned (OpenSpec.ofChange matrixSaysWrong)

/-- 'wholelaw.MatrixSolves': WHATEVER THE INPUT: true; the input reads as it did. -/
def matrixSolvesSpec : ChangeSpec := { name := "matrixSolves", fn := fun _ => fun
  | [d1, d2] => { results := [.lit (.bool true)], args := [d1, d2] }
  | _ => none }
def matrixSolvesRow : OpenClaim := { program := "ytmmfclkkncbgfaa", sum := "6661a0911eb976f9868def81859d57107164f0a42b13d04be96c5b74a3277d0b", func := "wholemend/wholelaw.MatrixSolves", spec := "matrixSolves", unfollowed := true, recurses := true, apart := false }
def MatrixSolvesSaid : Prop := matrixSolvesRow.holds Try.pinned (OpenSpec.ofChange matrixSolvesSpec)

/-- ITS FALSE NEIGHBOUR: 'it returns false'. Refute it at one input. -/
def matrixSolvesWrong : ChangeSpec := { name := "matrixSolves", fn := fun _ => fun
  | [d1, d2] => { results := [.lit (.bool false)], args := [d1, d2] }
  | _ => none }
def MatrixSolvesWrongFalsely : Prop := matrixSolvesRow.holds Try.pinned (OpenSpec.ofChange matrixSolvesWrong)

/-- 'wholekeep.MatrixTimes': WHATEVER THE INPUT: true; the input reads as it did. -/
def matrixTimesSpec : ChangeSpec := { name := "matrixTimes", fn := fun _ => fun
  | [d1, d2, d3] => { results := [.lit (.bool true)], args := [d1, d2, d3] }
  | _ => none }
def matrixTimesRow : OpenClaim := { program := "ytmmfclkkncbgfaa", sum := "6661a0911eb976f9868def81859d57107164f0a42b13d04be96c5b74a3277d0b", func := "wholemend/wholekeep.MatrixTimes", spec := "matrixTimes", unfollowed := true, recurses := true, apart := false }
def MatrixTimesSaid : Prop := matrixTimesRow.holds Try.pinned (OpenSpec.ofChange matrixTimesSpec)

/-- ITS FALSE NEIGHBOUR: 'it returns false'. Refute it at one input. -/
def matrixTimesWrong : ChangeSpec := { name := "matrixTimes", fn := fun _ => fun
  | [d1, d2, d3] => { results := [.lit (.bool false)], args := [d1, d2, d3] }
  | _ => none }
def MatrixTimesWrongFalsely : Prop := matrixTimesRow.holds Try.pinned (OpenSpec.ofChange matrixTimesWrong)

/-- 'wholekeep.MatrixBinet': WHATEVER THE INPUT: true; the input reads as it did. -/
def matrixBinetSpec : ChangeSpec := { name := "matrixBinet", fn := fun _ => fun
  | [d1, d2] => { results := [.lit (.bool true)], args := [d1, d2] }
  | _ => none }
def matrixBinetRow : OpenClaim := { program := "ytmmfclkkncbgfaa", sum := "6661a0911eb976f9868def81859d57107164f0a42b13d04be96c5b74a3277d0b", func := "wholemend/wholekeep.MatrixBinet", spec := "matrixBinet", unfollowed := true, recurses := true, apart := false }
def MatrixBinetSaid : Prop := matrixBinetRow.holds Try.pinned (OpenSpec.ofChange matrixBinetSpec)

/-- ITS FALSE NEIGHBOUR: 'it returns false'. Refute it at one input. -/
def matrixBinetWrong : ChangeSpec := { name := "matrixBinet", fn := fun _ => fun
  | [d1, d2] => { results := [.lit (.bool false)], args := [d1, d2] }
  | _ => none }
def MatrixBinetWrongFalsely : Prop := matrixBinetRow.holds Try.pinned (OpenSpec.ofChange matrixBinetWrong)

/-- 'wholekeep.MatrixRanks': WHATEVER THE INPUT: true; the input reads as it did. -/
def matrixRanksSpec : ChangeSpec := { name := "matrixRanks", fn := fun _ => fun
  | [d1, d2] => { results := [.lit (.bool true)], args := [d1, d2] }
  | _ => none }
def matrixRanksRow : OpenClaim := { program := "ytmmfclkkncbgfaa", sum := "6661a0911eb976f9868def81859d57107164f0a42b13d04be96c5b74a3277d0b", func := "wholemend/wholekeep.MatrixRanks", spec := "matrixRanks", unfollowed := true, recurses := true, apart := false }
def MatrixRanksSaid : Prop := matrixRanksRow.holds Try.pinned (OpenSpec.ofChange matrixRanksSpec)

/-- ITS FALSE NEIGHBOUR: 'it returns false'. Refute it at one input. -/
def matrixRanksWrong : ChangeSpec := { name := "matrixRanks", fn := fun _ => fun
  | [d1, d2] => { results := [.lit (.bool false)], args := [d1, d2] }
  | _ => none }
def MatrixRanksWrongFalsely : Prop := matrixRanksRow.holds Try.pinned (OpenSpec.ofChange matrixRanksWrong)

/-- 'wholekeep.MatrixUndone': WHATEVER THE INPUT: true; the input reads as it did. -/
def matrixUndoneSpec : ChangeSpec := { name := "matrixUndone", fn := fun _ => fun
  | [d1, d2] => { results := [.lit (.bool true)], args := [d1, d2] }
  | _ => none }
def matrixUndoneRow : OpenClaim := { program := "ytmmfclkkncbgfaa", sum := "6661a0911eb976f9868def81859d57107164f0a42b13d04be96c5b74a3277d0b", func := "wholemend/wholekeep.MatrixUndone", spec := "matrixUndone", unfollowed := true, recurses := true, apart := false }
def MatrixUndoneSaid : Prop := matrixUndoneRow.holds Try.pinned (OpenSpec.ofChange matrixUndoneSpec)

/-- ITS FALSE NEIGHBOUR: 'it returns false'. Refute it at one input. -/
def matrixUndoneWrong : ChangeSpec := { name := "matrixUndone", fn := fun _ => fun
  | [d1, d2] => { results := [.lit (.bool false)], args := [d1, d2] }
  | _ => none }
def MatrixUndoneWrongFalsely : Prop := matrixUndoneRow.holds Try.pinned (OpenSpec.ofChange matrixUndoneWrong)

/-- 'wholekeep.MatrixCapelli': WHATEVER THE INPUT: true; the input reads as it did. -/
def matrixCapelliSpec : ChangeSpec := { name := "matrixCapelli", fn := fun _ => fun
  | [d1, d2] => { results := [.lit (.bool true)], args := [d1, d2] }
  | _ => none }
def matrixCapelliRow : OpenClaim := { program := "ytmmfclkkncbgfaa", sum := "6661a0911eb976f9868def81859d57107164f0a42b13d04be96c5b74a3277d0b", func := "wholemend/wholekeep.MatrixCapelli", spec := "matrixCapelli", unfollowed := true, recurses := true, apart := false }
def MatrixCapelliSaid : Prop := matrixCapelliRow.holds Try.pinned (OpenSpec.ofChange matrixCapelliSpec)

/-- ITS FALSE NEIGHBOUR: 'it returns false'. Refute it at one input. -/
def matrixCapelliWrong : ChangeSpec := { name := "matrixCapelli", fn := fun _ => fun
  | [d1, d2] => { results := [.lit (.bool false)], args := [d1, d2] }
  | _ => none }
def MatrixCapelliWrongFalsely : Prop := matrixCapelliRow.holds Try.pinned (OpenSpec.ofChange matrixCapelliWrong)

/- THE SECOND FORM. 'bulk': how many values and letters a reading holds, each counted each time it is reached (what is shared counts as often as it is met; a slice's spare places count too). A statement '..UptoSaid' is the law's where the arguments, and the package variables that the reading takes, are together of bulk at most 1048576: NARROWER than '..Said'. Prove '..Said' where nothing that the law and all that it calls make is longer than what came in: it says more and counts as full. Else prove '..UptoSaid'. A law counts once. -/
mutual
def uptoBulk {H : Type} : DataW H → Nat
  | .lit (.string bytes) => bytes.length + 1
  | .lit _ => 1
  | .nil => 1
  | .ptr d => uptoBulk d + 1
  | .slice elems spare => uptoBulkAll elems + uptoBulkAll spare + 1
  | .agg parts => uptoBulkAll parts + 1
  | .iface _ d => uptoBulk d + 1
  | .map entries => uptoBulkEntries entries + 1
  | .held _ => 1
def uptoBulkAll {H : Type} : List (DataW H) → Nat
  | [] => 0
  | d :: r => uptoBulk d + uptoBulkAll r
def uptoBulkEntries {H : Type} : List (Lit × DataW H) → Nat
  | [] => 0
  | x :: r => uptoBulkEntry x + uptoBulkEntries r
def uptoBulkEntry {H : Type} : Lit × DataW H → Nat
  | (.string bytes, d) => bytes.length + uptoBulk d + 1
  | (_, d) => uptoBulk d + 1
 end
def uptoSmall : (H : Type) → List (DataW H) → Bool := fun _ ds => decide (uptoBulkAll ds ≤ 1048576)
def OpenSpec.upto (s : _root_.Go.ChangeSpec) : _root_.Go.OpenSpec := { _root_.Go.OpenSpec.ofChange s with cond := some uptoSmall }

/-- 'wholelaw.MatrixSays', WHERE WHAT IT READS IS OF BULK AT MOST 1048576: true; the input reads as it did. -/
def matrixSaysUptoRow : OpenClaim := { program := "ytmmfclkkncbgfaa", sum := "6661a0911eb976f9868def81859d57107164f0a42b13d04be96c5b74a3277d0b", func := "wholemend/wholelaw.MatrixSays", spec := "matrixSays", unfollowed := true, recurses := true, apart := false, narrowed := true }
def MatrixSaysUptoSaid : Prop := matrixSaysUptoRow.holds Try.pinned (OpenSpec.upto matrixSaysSpec)

/-- 'wholelaw.MatrixSolves', WHERE WHAT IT READS IS OF BULK AT MOST 1048576: true; the input reads as it did. -/
def matrixSolvesUptoRow : OpenClaim := { program := "ytmmfclkkncbgfaa", sum := "6661a0911eb976f9868def81859d57107164f0a42b13d04be96c5b74a3277d0b", func := "wholemend/wholelaw.MatrixSolves", spec := "matrixSolves", unfollowed := true, recurses := true, apart := false, narrowed := true }
def MatrixSolvesUptoSaid : Prop := matrixSolvesUptoRow.holds Try.pinned (OpenSpec.upto matrixSolvesSpec)

/-- 'wholekeep.MatrixTimes', WHERE WHAT IT READS IS OF BULK AT MOST 1048576: true; the input reads as it did. -/
def matrixTimesUptoRow : OpenClaim := { program := "ytmmfclkkncbgfaa", sum := "6661a0911eb976f9868def81859d57107164f0a42b13d04be96c5b74a3277d0b", func := "wholemend/wholekeep.MatrixTimes", spec := "matrixTimes", unfollowed := true, recurses := true, apart := false, narrowed := true }
def MatrixTimesUptoSaid : Prop := matrixTimesUptoRow.holds Try.pinned (OpenSpec.upto matrixTimesSpec)

/-- 'wholekeep.MatrixBinet', WHERE WHAT IT READS IS OF BULK AT MOST 1048576: true; the input reads as it did. -/
def matrixBinetUptoRow : OpenClaim := { program := "ytmmfclkkncbgfaa", sum := "6661a0911eb976f9868def81859d57107164f0a42b13d04be96c5b74a3277d0b", func := "wholemend/wholekeep.MatrixBinet", spec := "matrixBinet", unfollowed := true, recurses := true, apart := false, narrowed := true }
def MatrixBinetUptoSaid : Prop := matrixBinetUptoRow.holds Try.pinned (OpenSpec.upto matrixBinetSpec)

/-- 'wholekeep.MatrixRanks', WHERE WHAT IT READS IS OF BULK AT MOST 1048576: true; the input reads as it did. -/
def matrixRanksUptoRow : OpenClaim := { program := "ytmmfclkkncbgfaa", sum := "6661a0911eb976f9868def81859d57107164f0a42b13d04be96c5b74a3277d0b", func := "wholemend/wholekeep.MatrixRanks", spec := "matrixRanks", unfollowed := true, recurses := true, apart := false, narrowed := true }
def MatrixRanksUptoSaid : Prop := matrixRanksUptoRow.holds Try.pinned (OpenSpec.upto matrixRanksSpec)

/-- 'wholekeep.MatrixUndone', WHERE WHAT IT READS IS OF BULK AT MOST 1048576: true; the input reads as it did. -/
def matrixUndoneUptoRow : OpenClaim := { program := "ytmmfclkkncbgfaa", sum := "6661a0911eb976f9868def81859d57107164f0a42b13d04be96c5b74a3277d0b", func := "wholemend/wholekeep.MatrixUndone", spec := "matrixUndone", unfollowed := true, recurses := true, apart := false, narrowed := true }
def MatrixUndoneUptoSaid : Prop := matrixUndoneUptoRow.holds Try.pinned (OpenSpec.upto matrixUndoneSpec)

/-- 'wholekeep.MatrixCapelli', WHERE WHAT IT READS IS OF BULK AT MOST 1048576: true; the input reads as it did. -/
def matrixCapelliUptoRow : OpenClaim := { program := "ytmmfclkkncbgfaa", sum := "6661a0911eb976f9868def81859d57107164f0a42b13d04be96c5b74a3277d0b", func := "wholemend/wholekeep.MatrixCapelli", spec := "matrixCapelli", unfollowed := true, recurses := true, apart := false, narrowed := true }
def MatrixCapelliUptoSaid : Prop := matrixCapelliUptoRow.holds Try.pinned (OpenSpec.upto matrixCapelliSpec)

end Rows
end Go.Proofs.Ytmmfclkkncbgfaa
