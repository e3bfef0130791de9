/-
  No cell of these rows narrows 'for every input' (looked for: loops, veiled, ifaces, maps, wideKeys, modest, calm, conditions, laid).
  DERIVED. THE GIVEN ROWS OF THIS SEAT. 5 by the template 'for every input the law returns true; each argument reads behind the call as it read before'; 0 by the template 'total and deterministic' (their statements: YtflmofehlimegaaTotals.lean).
  GIVEN WITH THE SEED: the statements are not yours to turn. If you find one false, say at which input.
  Laid BY PROGRAM, IN A SANDBOX (cutbox-rows.mjs): the forced cells as the released guide's own fill.sh prints them over the translation 8e72f29d00469b04… (all of the seat's roots in one cut). By AI agents, Wed Nov 11 2026. No macro, syntax, notation, axiom, sorry.
-/
import Derived.Test.YtflmofehlimegaaChecked
import GoSem.Claim
import GoSem.ClaimJoined
import GoSem.ClaimMapViews
import Derived.JoinedTies
import Derived.KernelRfl
namespace Go.Proofs.Ytflmofehlimegaa
/- THE CELL 'sum', in the pinned program and in every row, IS THE sha256 OF THE DUMP (.gsa) THAT YtflmofehlimegaaProg.lean LOADS. Nothing in Lean hashes anything: it is a label: what it is worth is what the hold of that sum in a sandbox is worth. -/
noncomputable def Try.pinned : Pinned := { name := "ytflmofehlimegaa", sum := "8e72f29d00469b043f186107218e6be51c563423f9412651e9faf13ad78c753e", checked := Try.checked }
namespace Rows
def none {H : Type} : Left H := { results := [], args := [] }

/-- 'wholelaw.RestSays': WHATEVER THE INPUT: true; the input reads as it did. -/
def restSaysSpec : ChangeSpec := { name := "restSays", fn := fun _ => fun
  | [d1, d2, d3] => { results := [.lit (.bool true)], args := [d1, d2, d3] }
  | _ => none }
def restSaysRow : OpenClaim := { program := "ytflmofehlimegaa", sum := "8e72f29d00469b043f186107218e6be51c563423f9412651e9faf13ad78c753e", func := "wholemend/wholelaw.RestSays", spec := "restSays", recurses := true, apart := false }
def RestSaysSaid : Prop := restSaysRow.holds Try.pinned (OpenSpec.ofChange restSaysSpec)

/-- ITS FALSE NEIGHBOUR: 'it returns false'. Refute it at one input. -/
def restSaysWrong : ChangeSpec := { name := "restSays", fn := fun _ => fun
  | [d1, d2, d3] => { results := [.lit (.bool false)], args := [d1, d2, d3] }
  | _ => none }
def RestSaysWrongFalsely : Prop := restSaysRow.holds Try.pinned (OpenSpec.ofChange restSaysWrong)

/-- 'wholekeep.RestRing': WHATEVER THE INPUT: true; the input reads as it did. -/
def restRingSpec : ChangeSpec := { name := "restRing", fn := fun _ => fun
  | [d1, d2, d3] => { results := [.lit (.bool true)], args := [d1, d2, d3] }
  | _ => none }
def restRingRow : OpenClaim := { program := "ytflmofehlimegaa", sum := "8e72f29d00469b043f186107218e6be51c563423f9412651e9faf13ad78c753e", func := "wholemend/wholekeep.RestRing", spec := "restRing", unfollowed := true, recurses := true, apart := false }
def RestRingSaid : Prop := restRingRow.holds Try.pinned (OpenSpec.ofChange restRingSpec)

/-- ITS FALSE NEIGHBOUR: 'it returns false'. Refute it at one input. -/
def restRingWrong : ChangeSpec := { name := "restRing", fn := fun _ => fun
  | [d1, d2, d3] => { results := [.lit (.bool false)], args := [d1, d2, d3] }
  | _ => none }
def RestRingWrongFalsely : Prop := restRingRow.holds Try.pinned (OpenSpec.ofChange restRingWrong)

/-- 'wholekeep.RestFermat': WHATEVER THE INPUT: true; the input reads as it did. -/
def restFermatSpec : ChangeSpec := { name := "restFermat", fn := fun _ => fun
  | [d1, d2] => { results := [.lit (.bool true)], args := [d1, d2] }
  | _ => none }
def restFermatRow : OpenClaim := { program := "ytflmofehlimegaa", sum := "8e72f29d00469b043f186107218e6be51c563423f9412651e9faf13ad78c753e", func := "wholemend/wholekeep.RestFermat", spec := "restFermat", unfollowed := true, recurses := true, apart := false }
def RestFermatSaid : Prop := restFermatRow.holds Try.pinned (OpenSpec.ofChange restFermatSpec)

/-- ITS FALSE NEIGHBOUR: 'it returns false'. Refute it at one input. -/
def restFermatWrong : ChangeSpec := { name := "restFermat", fn := fun _ => fun
  | [d1, d2] => { results := [.lit (.bool false)], args := [d1, d2] }
  | _ => none }
def RestFermatWrongFalsely : Prop := restFermatRow.holds Try.pinned (OpenSpec.ofChange restFermatWrong)

/-- 'wholekeep.RestPows': WHATEVER THE INPUT: true; the input reads as it did. -/
def restPowsSpec : ChangeSpec := { name := "restPows", fn := fun _ => fun
  | [d1, d2, d3, d4] => { results := [.lit (.bool true)], args := [d1, d2, d3, d4] }
  | _ => none }
def restPowsRow : OpenClaim := { program := "ytflmofehlimegaa", sum := "8e72f29d00469b043f186107218e6be51c563423f9412651e9faf13ad78c753e", func := "wholemend/wholekeep.RestPows", spec := "restPows", unfollowed := true, recurses := true, apart := false }
def RestPowsSaid : Prop := restPowsRow.holds Try.pinned (OpenSpec.ofChange restPowsSpec)

/-- ITS FALSE NEIGHBOUR: 'it returns false'. Refute it at one input. -/
def restPowsWrong : ChangeSpec := { name := "restPows", fn := fun _ => fun
  | [d1, d2, d3, d4] => { results := [.lit (.bool false)], args := [d1, d2, d3, d4] }
  | _ => none }
def RestPowsWrongFalsely : Prop := restPowsRow.holds Try.pinned (OpenSpec.ofChange restPowsWrong)

/-- 'wholekeep.RestUndone': WHATEVER THE INPUT: true; the input reads as it did. -/
def restUndoneSpec : ChangeSpec := { name := "restUndone", fn := fun _ => fun
  | [d1, d2, d3] => { results := [.lit (.bool true)], args := [d1, d2, d3] }
  | _ => none }
def restUndoneRow : OpenClaim := { program := "ytflmofehlimegaa", sum := "8e72f29d00469b043f186107218e6be51c563423f9412651e9faf13ad78c753e", func := "wholemend/wholekeep.RestUndone", spec := "restUndone", unfollowed := true, recurses := true, apart := false }
def RestUndoneSaid : Prop := restUndoneRow.holds Try.pinned (OpenSpec.ofChange restUndoneSpec)

/-- ITS FALSE NEIGHBOUR: 'it returns false'. Refute it at one input. -/
def restUndoneWrong : ChangeSpec := { name := "restUndone", fn := fun _ => fun
  | [d1, d2, d3] => { results := [.lit (.bool false)], args := [d1, d2, d3] }
  | _ => none }
def RestUndoneWrongFalsely : Prop := restUndoneRow.holds Try.pinned (OpenSpec.ofChange restUndoneWrong)

/- THE SECOND FORM. 'bulk': how many values and letters a reading holds, each counted each time it is reached (what is shared counts as often as it is met; a slice's spare places count too). A statement '..UptoSaid' is the law's where the arguments, and the package variables that the reading takes, are together of bulk at most 1048576: NARROWER than '..Said'. Prove '..Said' where nothing that the law and all that it calls make is longer than what came in: it says more and counts as full. Else prove '..UptoSaid'. A law counts once. -/
mutual
def uptoBulk {H : Type} : DataW H → Nat
  | .lit (.string bytes) => bytes.length + 1
  | .lit _ => 1
  | .nil => 1
  | .ptr d => uptoBulk d + 1
  | .slice elems spare => uptoBulkAll elems + uptoBulkAll spare + 1
  | .agg parts => uptoBulkAll parts + 1
  | .iface _ d => uptoBulk d + 1
  | .map entries => uptoBulkEntries entries + 1
  | .held _ => 1
def uptoBulkAll {H : Type} : List (DataW H) → Nat
  | [] => 0
  | d :: r => uptoBulk d + uptoBulkAll r
def uptoBulkEntries {H : Type} : List (Lit × DataW H) → Nat
  | [] => 0
  | x :: r => uptoBulkEntry x + uptoBulkEntries r
def uptoBulkEntry {H : Type} : Lit × DataW H → Nat
  | (.string bytes, d) => bytes.length + uptoBulk d + 1
  | (_, d) => uptoBulk d + 1
 end
def uptoSmall : (H : Type) → List (DataW H) → Bool := fun _ ds => decide (uptoBulkAll ds ≤ 1048576)
def OpenSpec.upto (s : _root_.Go.ChangeSpec) : _root_.Go.OpenSpec := { _root_.Go.OpenSpec.ofChange s with cond := some uptoSmall }

/-- 'wholelaw.RestSays', WHERE WHAT IT READS IS OF BULK AT MOST 1048576: true; the input reads as it did. -/
def restSaysUptoRow : OpenClaim := { program := "ytflmofehlimegaa", sum := "8e72f29d00469b043f186107218e6be51c563423f9412651e9faf13ad78c753e", func := "wholemend/wholelaw.RestSays", spec := "restSays", recurses := true, apart := false, narrowed := true }
def RestSaysUptoSaid : Prop := restSaysUptoRow.holds Try.pinned (OpenSpec.upto restSaysSpec)

/-- 'wholekeep.RestRing', WHERE WHAT IT READS IS OF BULK AT MOST 1048576: true; the input reads as it did. -/
def restRingUptoRow : OpenClaim := { program := "ytflmofehlimegaa", sum := "8e72f29d00469b043f186107218e6be51c563423f9412651e9faf13ad78c753e", func := "wholemend/wholekeep.RestRing", spec := "restRing", unfollowed := true, recurses := true, apart := false, narrowed := true }
def RestRingUptoSaid : Prop := restRingUptoRow.holds Try.pinned (OpenSpec.upto restRingSpec)

/-- 'wholekeep.RestFermat', WHERE WHAT IT READS IS OF BULK AT MOST 1048576: true; the input reads as it did. -/
def restFermatUptoRow : OpenClaim := { program := "ytflmofehlimegaa", sum := "8e72f29d00469b043f186107218e6be51c563423f9412651e9faf13ad78c753e", func := "wholemend/wholekeep.RestFermat", spec := "restFermat", unfollowed := true, recurses := true, apart := false, narrowed := true }
def RestFermatUptoSaid : Prop := restFermatUptoRow.holds Try.pinned (OpenSpec.upto restFermatSpec)

/-- 'wholekeep.RestPows', WHERE WHAT IT READS IS OF BULK AT MOST 1048576: true; the input reads as it did. -/
def restPowsUptoRow : OpenClaim := { program := "ytflmofehlimegaa", sum := "8e72f29d00469b043f186107218e6be51c563423f9412651e9faf13ad78c753e", func := "wholemend/wholekeep.RestPows", spec := "restPows", unfollowed := true, recurses := true, apart := false, narrowed := true }
def RestPowsUptoSaid : Prop := restPowsUptoRow.holds Try.pinned (OpenSpec.upto restPowsSpec)

/-- 'wholekeep.RestUndone', WHERE WHAT IT READS IS OF BULK AT MOST 1048576: true; the input reads as it did. -/
def restUndoneUptoRow : OpenClaim := { program := "ytflmofehlimegaa", sum := "8e72f29d00469b043f186107218e6be51c563423f9412651e9faf13ad78c753e", func := "wholemend/wholekeep.RestUndone", spec := "restUndone", unfollowed := true, recurses := true, apart := false, narrowed := true }
def RestUndoneUptoSaid : Prop := restUndoneUptoRow.holds Try.pinned (OpenSpec.upto restUndoneSpec)

end Rows
end Go.Proofs.Ytflmofehlimegaa
