/-
  No cell of these rows narrows 'for every input' (looked for: loops, veiled, ifaces, maps, wideKeys, modest, calm, conditions, laid).
  DERIVED. THE GIVEN ROWS OF THIS SEAT. 5 by the template 'for every input the law returns true; each argument reads behind the call as it read before'; 0 by the template 'total and deterministic' (their statements: YtcgcjecmlnohbaaTotals.lean).
  GIVEN WITH THE SEED: the statements are not yours to turn. If you find one false, say at which input.
  Laid BY PROGRAM, IN A SANDBOX (cutbox-rows.mjs): the forced cells as the released guide's own fill.sh prints them over the translation 5f3f4c28b90ddad5… (all of the seat's roots in one cut). By AI agents, Wed Nov 11 2026. No macro, syntax, notation, axiom, sorry.
-/
import Derived.Test.YtcgcjecmlnohbaaChecked
import GoSem.Claim
import GoSem.ClaimJoined
import GoSem.ClaimMapViews
import Derived.JoinedTies
import Derived.KernelRfl
namespace Go.Proofs.Ytcgcjecmlnohbaa
/- THE CELL 'sum', in the pinned program and in every row, IS THE sha256 OF THE DUMP (.gsa) THAT YtcgcjecmlnohbaaProg.lean LOADS. Nothing in Lean hashes anything: it is a label: what it is worth is what the hold of that sum in a sandbox is worth. -/
noncomputable def Try.pinned : Pinned := { name := "ytcgcjecmlnohbaa", sum := "5f3f4c28b90ddad5f10b22e66ea4550a5b7d44afeff274aebabb5ee82293a744", checked := Try.checked }
namespace Rows
def none {H : Type} : Left H := { results := [], args := [] }

/-- 'wholelaw.PrimeSays': WHATEVER THE INPUT: true; the input reads as it did. -/
def primeSaysSpec : ChangeSpec := { name := "primeSays", fn := fun _ => fun
  | [d] => { results := [.lit (.bool true)], args := [d] }
  | _ => none }
def primeSaysRow : OpenClaim := { program := "ytcgcjecmlnohbaa", sum := "5f3f4c28b90ddad5f10b22e66ea4550a5b7d44afeff274aebabb5ee82293a744", func := "wholemend/wholelaw.PrimeSays", spec := "primeSays", apart := false }
def PrimeSaysSaid : Prop := primeSaysRow.holds Try.pinned (OpenSpec.ofChange primeSaysSpec)

/-- ITS FALSE NEIGHBOUR: 'it returns false'. Refute it at one input. -/
def primeSaysWrong : ChangeSpec := { name := "primeSays", fn := fun _ => fun
  | [d] => { results := [.lit (.bool false)], args := [d] }
  | _ => none }
def PrimeSaysWrongFalsely : Prop := primeSaysRow.holds Try.pinned (OpenSpec.ofChange primeSaysWrong)

/-- 'wholekeep.PrimeWilson': WHATEVER THE INPUT: true; the input reads as it did. -/
def primeWilsonSpec : ChangeSpec := { name := "primeWilson", fn := fun _ => fun
  | [d] => { results := [.lit (.bool true)], args := [d] }
  | _ => none }
def primeWilsonRow : OpenClaim := { program := "ytcgcjecmlnohbaa", sum := "5f3f4c28b90ddad5f10b22e66ea4550a5b7d44afeff274aebabb5ee82293a744", func := "wholemend/wholekeep.PrimeWilson", spec := "primeWilson", unfollowed := true, recurses := true, apart := false }
def PrimeWilsonSaid : Prop := primeWilsonRow.holds Try.pinned (OpenSpec.ofChange primeWilsonSpec)

/-- ITS FALSE NEIGHBOUR: 'it returns false'. Refute it at one input. -/
def primeWilsonWrong : ChangeSpec := { name := "primeWilson", fn := fun _ => fun
  | [d] => { results := [.lit (.bool false)], args := [d] }
  | _ => none }
def PrimeWilsonWrongFalsely : Prop := primeWilsonRow.holds Try.pinned (OpenSpec.ofChange primeWilsonWrong)

/-- 'wholekeep.PrimeEuclid': WHATEVER THE INPUT: true; the input reads as it did. -/
def primeEuclidSpec : ChangeSpec := { name := "primeEuclid", fn := fun _ => fun
  | [d1, d2, d3] => { results := [.lit (.bool true)], args := [d1, d2, d3] }
  | _ => none }
def primeEuclidRow : OpenClaim := { program := "ytcgcjecmlnohbaa", sum := "5f3f4c28b90ddad5f10b22e66ea4550a5b7d44afeff274aebabb5ee82293a744", func := "wholemend/wholekeep.PrimeEuclid", spec := "primeEuclid", unfollowed := true, recurses := true, apart := false }
def PrimeEuclidSaid : Prop := primeEuclidRow.holds Try.pinned (OpenSpec.ofChange primeEuclidSpec)

/-- ITS FALSE NEIGHBOUR: 'it returns false'. Refute it at one input. -/
def primeEuclidWrong : ChangeSpec := { name := "primeEuclid", fn := fun _ => fun
  | [d1, d2, d3] => { results := [.lit (.bool false)], args := [d1, d2, d3] }
  | _ => none }
def PrimeEuclidWrongFalsely : Prop := primeEuclidRow.holds Try.pinned (OpenSpec.ofChange primeEuclidWrong)

/-- 'wholekeep.PrimeOne': WHATEVER THE INPUT: true; the input reads as it did. -/
def primeOneSpec : ChangeSpec := { name := "primeOne", fn := fun _ => fun
  | [d1, d2] => { results := [.lit (.bool true)], args := [d1, d2] }
  | _ => none }
def primeOneRow : OpenClaim := { program := "ytcgcjecmlnohbaa", sum := "5f3f4c28b90ddad5f10b22e66ea4550a5b7d44afeff274aebabb5ee82293a744", func := "wholemend/wholekeep.PrimeOne", spec := "primeOne", unfollowed := true, recurses := true, apart := false }
def PrimeOneSaid : Prop := primeOneRow.holds Try.pinned (OpenSpec.ofChange primeOneSpec)

/-- ITS FALSE NEIGHBOUR: 'it returns false'. Refute it at one input. -/
def primeOneWrong : ChangeSpec := { name := "primeOne", fn := fun _ => fun
  | [d1, d2] => { results := [.lit (.bool false)], args := [d1, d2] }
  | _ => none }
def PrimeOneWrongFalsely : Prop := primeOneRow.holds Try.pinned (OpenSpec.ofChange primeOneWrong)

/-- 'wholekeep.PrimeNext': WHATEVER THE INPUT: true; the input reads as it did. -/
def primeNextSpec : ChangeSpec := { name := "primeNext", fn := fun _ => fun
  | [d] => { results := [.lit (.bool true)], args := [d] }
  | _ => none }
def primeNextRow : OpenClaim := { program := "ytcgcjecmlnohbaa", sum := "5f3f4c28b90ddad5f10b22e66ea4550a5b7d44afeff274aebabb5ee82293a744", func := "wholemend/wholekeep.PrimeNext", spec := "primeNext", unfollowed := true, recurses := true, apart := false }
def PrimeNextSaid : Prop := primeNextRow.holds Try.pinned (OpenSpec.ofChange primeNextSpec)

/-- ITS FALSE NEIGHBOUR: 'it returns false'. Refute it at one input. -/
def primeNextWrong : ChangeSpec := { name := "primeNext", fn := fun _ => fun
  | [d] => { results := [.lit (.bool false)], args := [d] }
  | _ => none }
def PrimeNextWrongFalsely : Prop := primeNextRow.holds Try.pinned (OpenSpec.ofChange primeNextWrong)

/- THE SECOND FORM. 'bulk': how many values and letters a reading holds, each counted each time it is reached (what is shared counts as often as it is met; a slice's spare places count too). A statement '..UptoSaid' is the law's where the arguments, and the package variables that the reading takes, are together of bulk at most 1048576: NARROWER than '..Said'. Prove '..Said' where nothing that the law and all that it calls make is longer than what came in: it says more and counts as full. Else prove '..UptoSaid'. A law counts once. -/
mutual
def uptoBulk {H : Type} : DataW H → Nat
  | .lit (.string bytes) => bytes.length + 1
  | .lit _ => 1
  | .nil => 1
  | .ptr d => uptoBulk d + 1
  | .slice elems spare => uptoBulkAll elems + uptoBulkAll spare + 1
  | .agg parts => uptoBulkAll parts + 1
  | .iface _ d => uptoBulk d + 1
  | .map entries => uptoBulkEntries entries + 1
  | .held _ => 1
def uptoBulkAll {H : Type} : List (DataW H) → Nat
  | [] => 0
  | d :: r => uptoBulk d + uptoBulkAll r
def uptoBulkEntries {H : Type} : List (Lit × DataW H) → Nat
  | [] => 0
  | x :: r => uptoBulkEntry x + uptoBulkEntries r
def uptoBulkEntry {H : Type} : Lit × DataW H → Nat
  | (.string bytes, d) => bytes.length + uptoBulk d + 1
  | (_, d) => uptoBulk d + 1
 end
def uptoSmall : (H : Type) → List (DataW H) → Bool := fun _ ds => decide (uptoBulkAll ds ≤ 1048576)
def OpenSpec.upto (s : _root_.Go.ChangeSpec) : _root_.Go.OpenSpec := { _root_.Go.OpenSpec.ofChange s with cond := some uptoSmall }

/-- 'wholelaw.PrimeSays', WHERE WHAT IT READS IS OF BULK AT MOST 1048576: true; the input reads as it did. -/
def primeSaysUptoRow : OpenClaim := { program := "ytcgcjecmlnohbaa", sum := "5f3f4c28b90ddad5f10b22e66ea4550a5b7d44afeff274aebabb5ee82293a744", func := "wholemend/wholelaw.PrimeSays", spec := "primeSays", apart := false, narrowed := true }
def PrimeSaysUptoSaid : Prop := primeSaysUptoRow.holds Try.pinned (OpenSpec.upto primeSaysSpec)

/-- 'wholekeep.PrimeWilson', WHERE WHAT IT READS IS OF BULK AT MOST 1048576: true; the input reads as it did. -/
def primeWilsonUptoRow : OpenClaim := { program := "ytcgcjecmlnohbaa", sum := "5f3f4c28b90ddad5f10b22e66ea4550a5b7d44afeff274aebabb5ee82293a744", func := "wholemend/wholekeep.PrimeWilson", spec := "primeWilson", unfollowed := true, recurses := true, apart := false, narrowed := true }
def PrimeWilsonUptoSaid : Prop := primeWilsonUptoRow.holds Try.pinned (OpenSpec.upto primeWilsonSpec)

/-- 'wholekeep.PrimeEuclid', WHERE WHAT IT READS IS OF BULK AT MOST 1048576: true; the input reads as it did. -/
def primeEuclidUptoRow : OpenClaim := { program := "ytcgcjecmlnohbaa", sum := "5f3f4c28b90ddad5f10b22e66ea4550a5b7d44afeff274aebabb5ee82293a744", func := "wholemend/wholekeep.PrimeEuclid", spec := "primeEuclid", unfollowed := true, recurses := true, apart := false, narrowed := true }
def PrimeEuclidUptoSaid : Prop := primeEuclidUptoRow.holds Try.pinned (OpenSpec.upto primeEuclidSpec)

/-- 'wholekeep.PrimeOne', WHERE WHAT IT READS IS OF BULK AT MOST 1048576: true; the input reads as it did. -/
def primeOneUptoRow : OpenClaim := { program := "ytcgcjecmlnohbaa", sum := "5f3f4c28b90ddad5f10b22e66ea4550a5b7d44afeff274aebabb5ee82293a744", func := "wholemend/wholekeep.PrimeOne", spec := "primeOne", unfollowed := true, recurses := true, apart := false, narrowed := true }
def PrimeOneUptoSaid : Prop := primeOneUptoRow.holds Try.pinned (OpenSpec.upto primeOneSpec)

/-- 'wholekeep.PrimeNext', WHERE WHAT IT READS IS OF BULK AT MOST 1048576: true; the input reads as it did. -/
def primeNextUptoRow : OpenClaim := { program := "ytcgcjecmlnohbaa", sum := "5f3f4c28b90ddad5f10b22e66ea4550a5b7d44afeff274aebabb5ee82293a744", func := "wholemend/wholekeep.PrimeNext", spec := "primeNext", unfollowed := true, recurses := true, apart := false, narrowed := true }
def PrimeNextUptoSaid : Prop := primeNextUptoRow.holds Try.pinned (OpenSpec.upto primeNextSpec)

end Rows
end Go.Proofs.Ytcgcjecmlnohbaa
