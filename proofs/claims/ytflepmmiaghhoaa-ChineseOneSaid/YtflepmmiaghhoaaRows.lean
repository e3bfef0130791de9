/-
  No cell of these rows narrows 'for every input' (looked for: loops, veiled, ifaces, maps, wideKeys, modest, calm, conditions, laid).
  DERIVED. THE GIVEN ROWS OF THIS SEAT. 4 by the template 'for every input the law returns true; each argument reads behind the call as it read before'; 0 by the template 'total and deterministic' (their statements: YtflepmmiaghhoaaTotals.lean).
  GIVEN WITH THE SEED: the statements are not yours to turn. If you find one false, say at which input.
  Laid BY PROGRAM, IN A SANDBOX (cutbox-rows.mjs): the forced cells as the released guide's own fill.sh prints them over the translation 2a3bc4b8c9b19fe3… (all of the seat's roots in one cut). By AI agents, Wed Nov 11 2026. No macro, syntax, notation, axiom, sorry.
-/
import Derived.Test.YtflepmmiaghhoaaChecked
import GoSem.Claim
import GoSem.ClaimJoined
import GoSem.ClaimMapViews
import Derived.JoinedTies
import Derived.KernelRfl
namespace Go.Proofs.Ytflepmmiaghhoaa
/- THE CELL 'sum', in the pinned program and in every row, IS THE sha256 OF THE DUMP (.gsa) THAT YtflepmmiaghhoaaProg.lean LOADS. Nothing in Lean hashes anything: it is a label: what it is worth is what the hold of that sum in a sandbox is worth. -/
noncomputable def Try.pinned : Pinned := { name := "ytflepmmiaghhoaa", sum := "2a3bc4b8c9b19fe3b10c3f0cf6b3d7397a0bdfbe62bf247542924dd74bff1d4a", checked := Try.checked }
namespace Rows
def none {H : Type} : Left H := { results := [], args := [] }

/-- 'wholelaw.ChineseSays': WHATEVER THE INPUT: true; the input reads as it did. -/
def chineseSaysSpec : ChangeSpec := { name := "chineseSays", fn := fun _ => fun
  | [d1, d2, d3] => { results := [.lit (.bool true)], args := [d1, d2, d3] }
  | _ => none }
def chineseSaysRow : OpenClaim := { program := "ytflepmmiaghhoaa", sum := "2a3bc4b8c9b19fe3b10c3f0cf6b3d7397a0bdfbe62bf247542924dd74bff1d4a", func := "wholemend/wholelaw.ChineseSays", spec := "chineseSays", unfollowed := true, recurses := true, apart := false }
def ChineseSaysSaid : Prop := chineseSaysRow.holds Try.pinned (OpenSpec.ofChange chineseSaysSpec)

/-- ITS FALSE NEIGHBOUR: 'it returns false'. Refute it at one input. -/
def chineseSaysWrong : ChangeSpec := { name := "chineseSays", fn := fun _ => fun
  | [d1, d2, d3] => { results := [.lit (.bool false)], args := [d1, d2, d3] }
  | _ => none }
def ChineseSaysWrongFalsely : Prop := chineseSaysRow.holds Try.pinned (OpenSpec.ofChange chineseSaysWrong)

/-- 'wholekeep.ChineseBack': WHATEVER THE INPUT: true; the input reads as it did. -/
def chineseBackSpec : ChangeSpec := { name := "chineseBack", fn := fun _ => fun
  | [d1, d2] => { results := [.lit (.bool true)], args := [d1, d2] }
  | _ => none }
def chineseBackRow : OpenClaim := { program := "ytflepmmiaghhoaa", sum := "2a3bc4b8c9b19fe3b10c3f0cf6b3d7397a0bdfbe62bf247542924dd74bff1d4a", func := "wholemend/wholekeep.ChineseBack", spec := "chineseBack", apart := false }
def ChineseBackSaid : Prop := chineseBackRow.holds Try.pinned (OpenSpec.ofChange chineseBackSpec)

/-- ITS FALSE NEIGHBOUR: 'it returns false'. Refute it at one input. -/
def chineseBackWrong : ChangeSpec := { name := "chineseBack", fn := fun _ => fun
  | [d1, d2] => { results := [.lit (.bool false)], args := [d1, d2] }
  | _ => none }
def ChineseBackWrongFalsely : Prop := chineseBackRow.holds Try.pinned (OpenSpec.ofChange chineseBackWrong)

/-- 'wholekeep.ChineseOne': WHATEVER THE INPUT: true; the input reads as it did. -/
def chineseOneSpec : ChangeSpec := { name := "chineseOne", fn := fun _ => fun
  | [d1, d2] => { results := [.lit (.bool true)], args := [d1, d2] }
  | _ => none }
def chineseOneRow : OpenClaim := { program := "ytflepmmiaghhoaa", sum := "2a3bc4b8c9b19fe3b10c3f0cf6b3d7397a0bdfbe62bf247542924dd74bff1d4a", func := "wholemend/wholekeep.ChineseOne", spec := "chineseOne", unfollowed := true, recurses := true, apart := false }
def ChineseOneSaid : Prop := chineseOneRow.holds Try.pinned (OpenSpec.ofChange chineseOneSpec)

/-- ITS FALSE NEIGHBOUR: 'it returns false'. Refute it at one input. -/
def chineseOneWrong : ChangeSpec := { name := "chineseOne", fn := fun _ => fun
  | [d1, d2] => { results := [.lit (.bool false)], args := [d1, d2] }
  | _ => none }
def ChineseOneWrongFalsely : Prop := chineseOneRow.holds Try.pinned (OpenSpec.ofChange chineseOneWrong)

/-- 'wholekeep.ChineseOrder': WHATEVER THE INPUT: true; the input reads as it did. -/
def chineseOrderSpec : ChangeSpec := { name := "chineseOrder", fn := fun _ => fun
  | [d1, d2] => { results := [.lit (.bool true)], args := [d1, d2] }
  | _ => none }
def chineseOrderRow : OpenClaim := { program := "ytflepmmiaghhoaa", sum := "2a3bc4b8c9b19fe3b10c3f0cf6b3d7397a0bdfbe62bf247542924dd74bff1d4a", func := "wholemend/wholekeep.ChineseOrder", spec := "chineseOrder", apart := false }
def ChineseOrderSaid : Prop := chineseOrderRow.holds Try.pinned (OpenSpec.ofChange chineseOrderSpec)

/-- ITS FALSE NEIGHBOUR: 'it returns false'. Refute it at one input. -/
def chineseOrderWrong : ChangeSpec := { name := "chineseOrder", fn := fun _ => fun
  | [d1, d2] => { results := [.lit (.bool false)], args := [d1, d2] }
  | _ => none }
def ChineseOrderWrongFalsely : Prop := chineseOrderRow.holds Try.pinned (OpenSpec.ofChange chineseOrderWrong)

/- THE SECOND FORM. 'bulk': how many values and letters a reading holds, each counted each time it is reached (what is shared counts as often as it is met; a slice's spare places count too). A statement '..UptoSaid' is the law's where the arguments, and the package variables that the reading takes, are together of bulk at most 1048576: NARROWER than '..Said'. Prove '..Said' where nothing that the law and all that it calls make is longer than what came in: it says more and counts as full. Else prove '..UptoSaid'. A law counts once. -/
mutual
def uptoBulk {H : Type} : DataW H → Nat
  | .lit (.string bytes) => bytes.length + 1
  | .lit _ => 1
  | .nil => 1
  | .ptr d => uptoBulk d + 1
  | .slice elems spare => uptoBulkAll elems + uptoBulkAll spare + 1
  | .agg parts => uptoBulkAll parts + 1
  | .iface _ d => uptoBulk d + 1
  | .map entries => uptoBulkEntries entries + 1
  | .held _ => 1
def uptoBulkAll {H : Type} : List (DataW H) → Nat
  | [] => 0
  | d :: r => uptoBulk d + uptoBulkAll r
def uptoBulkEntries {H : Type} : List (Lit × DataW H) → Nat
  | [] => 0
  | x :: r => uptoBulkEntry x + uptoBulkEntries r
def uptoBulkEntry {H : Type} : Lit × DataW H → Nat
  | (.string bytes, d) => bytes.length + uptoBulk d + 1
  | (_, d) => uptoBulk d + 1
 end
def uptoSmall : (H : Type) → List (DataW H) → Bool := fun _ ds => decide (uptoBulkAll ds ≤ 1048576)
def OpenSpec.upto (s : _root_.Go.ChangeSpec) : _root_.Go.OpenSpec := { _root_.Go.OpenSpec.ofChange s with cond := some uptoSmall }

/-- 'wholelaw.ChineseSays', WHERE WHAT IT READS IS OF BULK AT MOST 1048576: true; the input reads as it did. -/
def chineseSaysUptoRow : OpenClaim := { program := "ytflepmmiaghhoaa", sum := "2a3bc4b8c9b19fe3b10c3f0cf6b3d7397a0bdfbe62bf247542924dd74bff1d4a", func := "wholemend/wholelaw.ChineseSays", spec := "chineseSays", unfollowed := true, recurses := true, apart := false, narrowed := true }
def ChineseSaysUptoSaid : Prop := chineseSaysUptoRow.holds Try.pinned (OpenSpec.upto chineseSaysSpec)

/-- 'wholekeep.ChineseBack', WHERE WHAT IT READS IS OF BULK AT MOST 1048576: true; the input reads as it did. -/
def chineseBackUptoRow : OpenClaim := { program := "ytflepmmiaghhoaa", sum := "2a3bc4b8c9b19fe3b10c3f0cf6b3d7397a0bdfbe62bf247542924dd74bff1d4a", func := "wholemend/wholekeep.ChineseBack", spec := "chineseBack", apart := false, narrowed := true }
def ChineseBackUptoSaid : Prop := chineseBackUptoRow.holds Try.pinned (OpenSpec.upto chineseBackSpec)

/-- 'wholekeep.ChineseOne', WHERE WHAT IT READS IS OF BULK AT MOST 1048576: true; the input reads as it did. -/
def chineseOneUptoRow : OpenClaim := { program := "ytflepmmiaghhoaa", sum := "2a3bc4b8c9b19fe3b10c3f0cf6b3d7397a0bdfbe62bf247542924dd74bff1d4a", func := "wholemend/wholekeep.ChineseOne", spec := "chineseOne", unfollowed := true, recurses := true, apart := false, narrowed := true }
def ChineseOneUptoSaid : Prop := chineseOneUptoRow.holds Try.pinned (OpenSpec.upto chineseOneSpec)

/-- 'wholekeep.ChineseOrder', WHERE WHAT IT READS IS OF BULK AT MOST 1048576: true; the input reads as it did. -/
def chineseOrderUptoRow : OpenClaim := { program := "ytflepmmiaghhoaa", sum := "2a3bc4b8c9b19fe3b10c3f0cf6b3d7397a0bdfbe62bf247542924dd74bff1d4a", func := "wholemend/wholekeep.ChineseOrder", spec := "chineseOrder", apart := false, narrowed := true }
def ChineseOrderUptoSaid : Prop := chineseOrderUptoRow.holds Try.pinned (OpenSpec.upto chineseOrderSpec)

end Rows
end Go.Proofs.Ytflepmmiaghhoaa
