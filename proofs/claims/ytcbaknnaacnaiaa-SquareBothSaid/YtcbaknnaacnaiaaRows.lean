/-
  No cell of these rows narrows 'for every input' (looked for: loops, veiled, ifaces, maps, wideKeys, modest, calm, conditions, laid).
  DERIVED. THE GIVEN ROWS OF THIS SEAT. 2 by the template 'for every input the law returns true; each argument reads behind the call as it read before'; 0 by the template 'total and deterministic' (their statements: YtcbaknnaacnaiaaTotals.lean).
  GIVEN WITH THE SEED: the statements are not yours to turn. If you find one false, say at which input.
  Laid BY PROGRAM, IN A SANDBOX (cutbox-rows.mjs): the forced cells as the released guide's own fill.sh prints them over the translation 40353effd12fc2d5… (all of the seat's roots in one cut). By AI agents, Wed Nov 11 2026. No macro, syntax, notation, axiom, sorry.
-/
import Derived.Test.YtcbaknnaacnaiaaChecked
import GoSem.Claim
import GoSem.ClaimJoined
import GoSem.ClaimMapViews
import Derived.JoinedTies
import Derived.KernelRfl
namespace Go.Proofs.Ytcbaknnaacnaiaa
/- THE CELL 'sum', in the pinned program and in every row, IS THE sha256 OF THE DUMP (.gsa) THAT YtcbaknnaacnaiaaProg.lean LOADS. Nothing in Lean hashes anything: it is a label: what it is worth is what the hold of that sum in a sandbox is worth. -/
noncomputable def Try.pinned : Pinned := { name := "ytcbaknnaacnaiaa", sum := "40353effd12fc2d50cb4ef0654228fe635e5f58c738a420b0f936484ca3183b0", checked := Try.checked }
namespace Rows
def none {H : Type} : Left H := { results := [], args := [] }

/-- 'wholekeep.SquareFermat': WHATEVER THE INPUT: true; the input reads as it did. -/
def squareFermatSpec : ChangeSpec := { name := "squareFermat", fn := fun _ => fun
  | [d] => { results := [.lit (.bool true)], args := [d] }
  | _ => none }
def squareFermatRow : OpenClaim := { program := "ytcbaknnaacnaiaa", sum := "40353effd12fc2d50cb4ef0654228fe635e5f58c738a420b0f936484ca3183b0", func := "wholemend/wholekeep.SquareFermat", spec := "squareFermat", apart := false }
def SquareFermatSaid : Prop := squareFermatRow.holds Try.pinned (OpenSpec.ofChange squareFermatSpec)

/-- ITS FALSE NEIGHBOUR: 'it returns false'. Refute it at one input. -/
def squareFermatWrong : ChangeSpec := { name := "squareFermat", fn := fun _ => fun
  | [d] => { results := [.lit (.bool false)], args := [d] }
  | _ => none }
def SquareFermatWrongFalsely : Prop := squareFermatRow.holds Try.pinned (OpenSpec.ofChange squareFermatWrong)

/-- 'wholekeep.SquareBoth': WHATEVER THE INPUT: true; the input reads as it did. -/
def squareBothSpec : ChangeSpec := { name := "squareBoth", fn := fun _ => fun
  | [d1, d2] => { results := [.lit (.bool true)], args := [d1, d2] }
  | _ => none }
def squareBothRow : OpenClaim := { program := "ytcbaknnaacnaiaa", sum := "40353effd12fc2d50cb4ef0654228fe635e5f58c738a420b0f936484ca3183b0", func := "wholemend/wholekeep.SquareBoth", spec := "squareBoth", apart := false }
def SquareBothSaid : Prop := squareBothRow.holds Try.pinned (OpenSpec.ofChange squareBothSpec)

/-- ITS FALSE NEIGHBOUR: 'it returns false'. Refute it at one input. -/
def squareBothWrong : ChangeSpec := { name := "squareBoth", fn := fun _ => fun
  | [d1, d2] => { results := [.lit (.bool false)], args := [d1, d2] }
  | _ => none }
def SquareBothWrongFalsely : Prop := squareBothRow.holds Try.pinned (OpenSpec.ofChange squareBothWrong)

/- THE SECOND FORM. 'bulk': how many values and letters a reading holds, each counted each time it is reached (what is shared counts as often as it is met; a slice's spare places count too). A statement '..UptoSaid' is the law's where the arguments, and the package variables that the reading takes, are together of bulk at most 1048576: NARROWER than '..Said'. Prove '..Said' where nothing that the law and all that it calls make is longer than what came in: it says more and counts as full. Else prove '..UptoSaid'. A law counts once. -/
mutual
def uptoBulk {H : Type} : DataW H → Nat
  | .lit (.string bytes) => bytes.length + 1
  | .lit _ => 1
  | .nil => 1
  | .ptr d => uptoBulk d + 1
  | .slice elems spare => uptoBulkAll elems + uptoBulkAll spare + 1
  | .agg parts => uptoBulkAll parts + 1
  | .iface _ d => uptoBulk d + 1
  | .map entries => uptoBulkEntries entries + 1
  | .held _ => 1
def uptoBulkAll {H : Type} : List (DataW H) → Nat
  | [] => 0
  | d :: r => uptoBulk d + uptoBulkAll r
def uptoBulkEntries {H : Type} : List (Lit × DataW H) → Nat
  | [] => 0
  | x :: r => uptoBulkEntry x + uptoBulkEntries r
def uptoBulkEntry {H : Type} : Lit × DataW H → Nat
  | (.string bytes, d) => bytes.length + uptoBulk d + 1
  | (_, d) => uptoBulk d + 1
 end
def uptoSmall : (H : Type) → List (DataW H) → Bool := fun _ ds => decide (uptoBulkAll ds ≤ 1048576)
def OpenSpec.upto (s : _root_.Go.ChangeSpec) : _root_.Go.OpenSpec := { _root_.Go.OpenSpec.ofChange s with cond := some uptoSmall }

/-- 'wholekeep.SquareFermat', WHERE WHAT IT READS IS OF BULK AT MOST 1048576: true; the input reads as it did. -/
def squareFermatUptoRow : OpenClaim := { program := "ytcbaknnaacnaiaa", sum := "40353effd12fc2d50cb4ef0654228fe635e5f58c738a420b0f936484ca3183b0", func := "wholemend/wholekeep.SquareFermat", spec := "squareFermat", apart := false, narrowed := true }
def SquareFermatUptoSaid : Prop := squareFermatUptoRow.holds Try.pinned (OpenSpec.upto squareFermatSpec)

/-- 'wholekeep.SquareBoth', WHERE WHAT IT READS IS OF BULK AT MOST 1048576: true; the input reads as it did. -/
def squareBothUptoRow : OpenClaim := { program := "ytcbaknnaacnaiaa", sum := "40353effd12fc2d50cb4ef0654228fe635e5f58c738a420b0f936484ca3183b0", func := "wholemend/wholekeep.SquareBoth", spec := "squareBoth", apart := false, narrowed := true }
def SquareBothUptoSaid : Prop := squareBothUptoRow.holds Try.pinned (OpenSpec.upto squareBothSpec)

end Rows
end Go.Proofs.Ytcbaknnaacnaiaa
