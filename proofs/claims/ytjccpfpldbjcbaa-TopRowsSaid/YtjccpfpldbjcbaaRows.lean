/-
  No cell of these rows narrows 'for every input' (looked for: loops, veiled, ifaces, maps, wideKeys, modest, calm, conditions, laid).
  DERIVED. THE GIVEN ROWS OF THIS SEAT. 4 by the template 'for every input the law returns true; each argument reads behind the call as it read before'; 0 by the template 'total and deterministic' (their statements: YtjccpfpldbjcbaaTotals.lean).
  GIVEN WITH THE SEED: the statements are not yours to turn. If you find one false, say at which input.
  Laid BY PROGRAM, IN A SANDBOX (cutbox-rows.mjs): the forced cells as the released guide's own fill.sh prints them over the translation fbeab599c73441c6… (all of the seat's roots in one cut). By AI agents, Wed Nov 11 2026. No macro, syntax, notation, axiom, sorry.
-/
import Derived.Test.YtjccpfpldbjcbaaChecked
import GoSem.Claim
import GoSem.ClaimJoined
import GoSem.ClaimMapViews
import Derived.JoinedTies
import Derived.KernelRfl
namespace Go.Proofs.Ytjccpfpldbjcbaa
/- THE CELL 'sum', in the pinned program and in every row, IS THE sha256 OF THE DUMP (.gsa) THAT YtjccpfpldbjcbaaProg.lean LOADS. Nothing in Lean hashes anything: it is a label: what it is worth is what the hold of that sum in a sandbox is worth. -/
noncomputable def Try.pinned : Pinned := { name := "ytjccpfpldbjcbaa", sum := "fbeab599c73441c647a9edf5e09d054586ba58582fc65a7717ed7d341afc9f11", checked := Try.checked }
namespace Rows
def none {H : Type} : Left H := { results := [], args := [] }

/-- 'wholelaw.WelchSays': WHATEVER THE INPUT: true; the input reads as it did. -/
def welchSaysSpec : ChangeSpec := { name := "welchSays", fn := fun _ => fun
  | [d1, d2] => { results := [.lit (.bool true)], args := [d1, d2] }
  | _ => none }
def welchSaysRow : OpenClaim := { program := "ytjccpfpldbjcbaa", sum := "fbeab599c73441c647a9edf5e09d054586ba58582fc65a7717ed7d341afc9f11", func := "wholemend/wholelaw.WelchSays", spec := "welchSays", unfollowed := true, recurses := true, apart := false }
def WelchSaysSaid : Prop := welchSaysRow.holds Try.pinned (OpenSpec.ofChange welchSaysSpec)

/-- ITS FALSE NEIGHBOUR: 'it returns false'. Refute it at one input. -/
def welchSaysWrong : ChangeSpec := { name := "welchSays", fn := fun _ => fun
  | [d1, d2] => { results := [.lit (.bool false)], args := [d1, d2] }
  | _ => none }
def WelchSaysWrongFalsely : Prop := welchSaysRow.holds Try.pinned (OpenSpec.ofChange welchSaysWrong)

/-- 'wholekeep.WelchBack': WHATEVER THE INPUT: true; the input reads as it did. -/
def welchBackSpec : ChangeSpec := { name := "welchBack", fn := fun _ => fun
  | [d1, d2, d3, d4] => { results := [.lit (.bool true)], args := [d1, d2, d3, d4] }
  | _ => none }
def welchBackRow : OpenClaim := { program := "ytjccpfpldbjcbaa", sum := "fbeab599c73441c647a9edf5e09d054586ba58582fc65a7717ed7d341afc9f11", func := "wholemend/wholekeep.WelchBack", spec := "welchBack", unfollowed := true, recurses := true, apart := false }
def WelchBackSaid : Prop := welchBackRow.holds Try.pinned (OpenSpec.ofChange welchBackSpec)

/-- ITS FALSE NEIGHBOUR: 'it returns false'. Refute it at one input. -/
def welchBackWrong : ChangeSpec := { name := "welchBack", fn := fun _ => fun
  | [d1, d2, d3, d4] => { results := [.lit (.bool false)], args := [d1, d2, d3, d4] }
  | _ => none }
def WelchBackWrongFalsely : Prop := welchBackRow.holds Try.pinned (OpenSpec.ofChange welchBackWrong)

/-- 'wholekeep.WelchTells': WHATEVER THE INPUT: true; the input reads as it did. -/
def welchTellsSpec : ChangeSpec := { name := "welchTells", fn := fun _ => fun
  | [d1, d2] => { results := [.lit (.bool true)], args := [d1, d2] }
  | _ => none }
def welchTellsRow : OpenClaim := { program := "ytjccpfpldbjcbaa", sum := "fbeab599c73441c647a9edf5e09d054586ba58582fc65a7717ed7d341afc9f11", func := "wholemend/wholekeep.WelchTells", spec := "welchTells", unfollowed := true, recurses := true, apart := false }
def WelchTellsSaid : Prop := welchTellsRow.holds Try.pinned (OpenSpec.ofChange welchTellsSpec)

/-- ITS FALSE NEIGHBOUR: 'it returns false'. Refute it at one input. -/
def welchTellsWrong : ChangeSpec := { name := "welchTells", fn := fun _ => fun
  | [d1, d2] => { results := [.lit (.bool false)], args := [d1, d2] }
  | _ => none }
def WelchTellsWrongFalsely : Prop := welchTellsRow.holds Try.pinned (OpenSpec.ofChange welchTellsWrong)

/-- 'wholetop.TopRows': WHATEVER THE INPUT: true; the input reads as it did. -/
def topRowsSpec : ChangeSpec := { name := "topRows", fn := fun _ => fun
  | [d1, d2, d3, d4, d5] => { results := [.lit (.bool true)], args := [d1, d2, d3, d4, d5] }
  | _ => none }
def topRowsRow : OpenClaim := { program := "ytjccpfpldbjcbaa", sum := "fbeab599c73441c647a9edf5e09d054586ba58582fc65a7717ed7d341afc9f11", func := "wholemend/wholetop.TopRows", spec := "topRows", unfollowed := true, recurses := true, apart := false }
def TopRowsSaid : Prop := topRowsRow.holds Try.pinned (OpenSpec.ofChange topRowsSpec)

/-- ITS FALSE NEIGHBOUR: 'it returns false'. Refute it at one input. -/
def topRowsWrong : ChangeSpec := { name := "topRows", fn := fun _ => fun
  | [d1, d2, d3, d4, d5] => { results := [.lit (.bool false)], args := [d1, d2, d3, d4, d5] }
  | _ => none }
def TopRowsWrongFalsely : Prop := topRowsRow.holds Try.pinned (OpenSpec.ofChange topRowsWrong)

/- THE SECOND FORM. 'bulk': how many values and letters a reading holds, each counted each time it is reached (what is shared counts as often as it is met; a slice's spare places count too). A statement '..UptoSaid' is the law's where the arguments, and the package variables that the reading takes, are together of bulk at most 1048576: NARROWER than '..Said'. Prove '..Said' where nothing that the law and all that it calls make is longer than what came in: it says more and counts as full. Else prove '..UptoSaid'. A law counts once. -/
mutual
def uptoBulk {H : Type} : DataW H → Nat
  | .lit (.string bytes) => bytes.length + 1
  | .lit _ => 1
  | .nil => 1
  | .ptr d => uptoBulk d + 1
  | .slice elems spare => uptoBulkAll elems + uptoBulkAll spare + 1
  | .agg parts => uptoBulkAll parts + 1
  | .iface _ d => uptoBulk d + 1
  | .map entries => uptoBulkEntries entries + 1
  | .held _ => 1
def uptoBulkAll {H : Type} : List (DataW H) → Nat
  | [] => 0
  | d :: r => uptoBulk d + uptoBulkAll r
def uptoBulkEntries {H : Type} : List (Lit × DataW H) → Nat
  | [] => 0
  | x :: r => uptoBulkEntry x + uptoBulkEntries r
def uptoBulkEntry {H : Type} : Lit × DataW H → Nat
  | (.string bytes, d) => bytes.length + uptoBulk d + 1
  | (_, d) => uptoBulk d + 1
 end
def uptoSmall : (H : Type) → List (DataW H) → Bool := fun _ ds => decide (uptoBulkAll ds ≤ 1048576)
def OpenSpec.upto (s : _root_.Go.ChangeSpec) : _root_.Go.OpenSpec := { _root_.Go.OpenSpec.ofChange s with cond := some uptoSmall }

/-- 'wholelaw.WelchSays', WHERE WHAT IT READS IS OF BULK AT MOST 1048576: true; the input reads as it did. -/
def welchSaysUptoRow : OpenClaim := { program := "ytjccpfpldbjcbaa", sum := "fbeab599c73441c647a9edf5e09d054586ba58582fc65a7717ed7d341afc9f11", func := "wholemend/wholelaw.WelchSays", spec := "welchSays", unfollowed := true, recurses := true, apart := false, narrowed := true }
def WelchSaysUptoSaid : Prop := welchSaysUptoRow.holds Try.pinned (OpenSpec.upto welchSaysSpec)

/-- 'wholekeep.WelchBack', WHERE WHAT IT READS IS OF BULK AT MOST 1048576: true; the input reads as it did. -/
def welchBackUptoRow : OpenClaim := { program := "ytjccpfpldbjcbaa", sum := "fbeab599c73441c647a9edf5e09d054586ba58582fc65a7717ed7d341afc9f11", func := "wholemend/wholekeep.WelchBack", spec := "welchBack", unfollowed := true, recurses := true, apart := false, narrowed := true }
def WelchBackUptoSaid : Prop := welchBackUptoRow.holds Try.pinned (OpenSpec.upto welchBackSpec)

/-- 'wholekeep.WelchTells', WHERE WHAT IT READS IS OF BULK AT MOST 1048576: true; the input reads as it did. -/
def welchTellsUptoRow : OpenClaim := { program := "ytjccpfpldbjcbaa", sum := "fbeab599c73441c647a9edf5e09d054586ba58582fc65a7717ed7d341afc9f11", func := "wholemend/wholekeep.WelchTells", spec := "welchTells", unfollowed := true, recurses := true, apart := false, narrowed := true }
def WelchTellsUptoSaid : Prop := welchTellsUptoRow.holds Try.pinned (OpenSpec.upto welchTellsSpec)

/-- 'wholetop.TopRows', WHERE WHAT IT READS IS OF BULK AT MOST 1048576: true; the input reads as it did. -/
def topRowsUptoRow : OpenClaim := { program := "ytjccpfpldbjcbaa", sum := "fbeab599c73441c647a9edf5e09d054586ba58582fc65a7717ed7d341afc9f11", func := "wholemend/wholetop.TopRows", spec := "topRows", unfollowed := true, recurses := true, apart := false, narrowed := true }
def TopRowsUptoSaid : Prop := topRowsUptoRow.holds Try.pinned (OpenSpec.upto topRowsSpec)

end Rows
end Go.Proofs.Ytjccpfpldbjcbaa
