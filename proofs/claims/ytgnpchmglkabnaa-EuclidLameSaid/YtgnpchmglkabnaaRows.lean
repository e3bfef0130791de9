/-
  No cell of these rows narrows 'for every input' (looked for: loops, veiled, ifaces, maps, wideKeys, modest, calm, conditions, laid).
  DERIVED. THE GIVEN ROWS OF THIS SEAT. 6 by the template 'for every input the law returns true; each argument reads behind the call as it read before'; 0 by the template 'total and deterministic' (their statements: YtgnpchmglkabnaaTotals.lean).
  GIVEN WITH THE SEED: the statements are not yours to turn. If you find one false, say at which input.
  Laid BY PROGRAM, IN A SANDBOX (cutbox-rows.mjs): the forced cells as the released guide's own fill.sh prints them over the translation 78e93db518b94256… (all of the seat's roots in one cut). By AI agents, Wed Nov 11 2026. No macro, syntax, notation, axiom, sorry.
-/
import Derived.Test.YtgnpchmglkabnaaChecked
import GoSem.Claim
import GoSem.ClaimJoined
import GoSem.ClaimMapViews
import Derived.JoinedTies
import Derived.KernelRfl
namespace Go.Proofs.Ytgnpchmglkabnaa
/- THE CELL 'sum', in the pinned program and in every row, IS THE sha256 OF THE DUMP (.gsa) THAT YtgnpchmglkabnaaProg.lean LOADS. Nothing in Lean hashes anything: it is a label: what it is worth is what the hold of that sum in a sandbox is worth. -/
noncomputable def Try.pinned : Pinned := { name := "ytgnpchmglkabnaa", sum := "78e93db518b942561c90d0989a5154b70f940e0a98539433a907cc09352eb3ed", checked := Try.checked }
namespace Rows
def none {H : Type} : Left H := { results := [], args := [] }

/-- 'wholelaw.Names': WHATEVER THE INPUT: true; the input reads as it did. -/
def namesSpec : ChangeSpec := { name := "names", fn := fun _ => fun
  | [] => { results := [.lit (.bool true)], args := [] }
  | _ => none }
def namesRow : OpenClaim := { program := "ytgnpchmglkabnaa", sum := "78e93db518b942561c90d0989a5154b70f940e0a98539433a907cc09352eb3ed", func := "wholemend/wholelaw.Names", spec := "names", apart := false }
def NamesSaid : Prop := namesRow.holds Try.pinned (OpenSpec.ofChange namesSpec)

/-- ITS FALSE NEIGHBOUR: 'it returns false'. Refute it at one input. -/
def namesWrong : ChangeSpec := { name := "names", fn := fun _ => fun
  | [] => { results := [.lit (.bool false)], args := [] }
  | _ => none }
def NamesWrongFalsely : Prop := namesRow.holds Try.pinned (OpenSpec.ofChange namesWrong)

/-- 'wholelaw.EuclidSays': WHATEVER THE INPUT: true; the input reads as it did. -/
def euclidSaysSpec : ChangeSpec := { name := "euclidSays", fn := fun _ => fun
  | [d1, d2] => { results := [.lit (.bool true)], args := [d1, d2] }
  | _ => none }
def euclidSaysRow : OpenClaim := { program := "ytgnpchmglkabnaa", sum := "78e93db518b942561c90d0989a5154b70f940e0a98539433a907cc09352eb3ed", func := "wholemend/wholelaw.EuclidSays", spec := "euclidSays", unfollowed := true, recurses := true, apart := false }
def EuclidSaysSaid : Prop := euclidSaysRow.holds Try.pinned (OpenSpec.ofChange euclidSaysSpec)

/-- ITS FALSE NEIGHBOUR: 'it returns false'. Refute it at one input. -/
def euclidSaysWrong : ChangeSpec := { name := "euclidSays", fn := fun _ => fun
  | [d1, d2] => { results := [.lit (.bool false)], args := [d1, d2] }
  | _ => none }
def EuclidSaysWrongFalsely : Prop := euclidSaysRow.holds Try.pinned (OpenSpec.ofChange euclidSaysWrong)

/-- 'wholekeep.EuclidDivides': WHATEVER THE INPUT: true; the input reads as it did. -/
def euclidDividesSpec : ChangeSpec := { name := "euclidDivides", fn := fun _ => fun
  | [d1, d2, d3, d4, d5] => { results := [.lit (.bool true)], args := [d1, d2, d3, d4, d5] }
  | _ => none }
def euclidDividesRow : OpenClaim := { program := "ytgnpchmglkabnaa", sum := "78e93db518b942561c90d0989a5154b70f940e0a98539433a907cc09352eb3ed", func := "wholemend/wholekeep.EuclidDivides", spec := "euclidDivides", apart := false }
def EuclidDividesSaid : Prop := euclidDividesRow.holds Try.pinned (OpenSpec.ofChange euclidDividesSpec)

/-- ITS FALSE NEIGHBOUR: 'it returns false'. Refute it at one input. -/
def euclidDividesWrong : ChangeSpec := { name := "euclidDivides", fn := fun _ => fun
  | [d1, d2, d3, d4, d5] => { results := [.lit (.bool false)], args := [d1, d2, d3, d4, d5] }
  | _ => none }
def EuclidDividesWrongFalsely : Prop := euclidDividesRow.holds Try.pinned (OpenSpec.ofChange euclidDividesWrong)

/-- 'wholekeep.EuclidSame': WHATEVER THE INPUT: true; the input reads as it did. -/
def euclidSameSpec : ChangeSpec := { name := "euclidSame", fn := fun _ => fun
  | [d1, d2, d3] => { results := [.lit (.bool true)], args := [d1, d2, d3] }
  | _ => none }
def euclidSameRow : OpenClaim := { program := "ytgnpchmglkabnaa", sum := "78e93db518b942561c90d0989a5154b70f940e0a98539433a907cc09352eb3ed", func := "wholemend/wholekeep.EuclidSame", spec := "euclidSame", unfollowed := true, recurses := true, apart := false }
def EuclidSameSaid : Prop := euclidSameRow.holds Try.pinned (OpenSpec.ofChange euclidSameSpec)

/-- ITS FALSE NEIGHBOUR: 'it returns false'. Refute it at one input. -/
def euclidSameWrong : ChangeSpec := { name := "euclidSame", fn := fun _ => fun
  | [d1, d2, d3] => { results := [.lit (.bool false)], args := [d1, d2, d3] }
  | _ => none }
def EuclidSameWrongFalsely : Prop := euclidSameRow.holds Try.pinned (OpenSpec.ofChange euclidSameWrong)

/-- 'wholekeep.EuclidTimes': WHATEVER THE INPUT: true; the input reads as it did. -/
def euclidTimesSpec : ChangeSpec := { name := "euclidTimes", fn := fun _ => fun
  | [d1, d2, d3] => { results := [.lit (.bool true)], args := [d1, d2, d3] }
  | _ => none }
def euclidTimesRow : OpenClaim := { program := "ytgnpchmglkabnaa", sum := "78e93db518b942561c90d0989a5154b70f940e0a98539433a907cc09352eb3ed", func := "wholemend/wholekeep.EuclidTimes", spec := "euclidTimes", unfollowed := true, recurses := true, apart := false }
def EuclidTimesSaid : Prop := euclidTimesRow.holds Try.pinned (OpenSpec.ofChange euclidTimesSpec)

/-- ITS FALSE NEIGHBOUR: 'it returns false'. Refute it at one input. -/
def euclidTimesWrong : ChangeSpec := { name := "euclidTimes", fn := fun _ => fun
  | [d1, d2, d3] => { results := [.lit (.bool false)], args := [d1, d2, d3] }
  | _ => none }
def EuclidTimesWrongFalsely : Prop := euclidTimesRow.holds Try.pinned (OpenSpec.ofChange euclidTimesWrong)

/-- 'wholekeep.EuclidLame': WHATEVER THE INPUT: true; the input reads as it did. -/
def euclidLameSpec : ChangeSpec := { name := "euclidLame", fn := fun _ => fun
  | [d1, d2] => { results := [.lit (.bool true)], args := [d1, d2] }
  | _ => none }
def euclidLameRow : OpenClaim := { program := "ytgnpchmglkabnaa", sum := "78e93db518b942561c90d0989a5154b70f940e0a98539433a907cc09352eb3ed", func := "wholemend/wholekeep.EuclidLame", spec := "euclidLame", apart := false }
def EuclidLameSaid : Prop := euclidLameRow.holds Try.pinned (OpenSpec.ofChange euclidLameSpec)

/-- ITS FALSE NEIGHBOUR: 'it returns false'. Refute it at one input. -/
def euclidLameWrong : ChangeSpec := { name := "euclidLame", fn := fun _ => fun
  | [d1, d2] => { results := [.lit (.bool false)], args := [d1, d2] }
  | _ => none }
def EuclidLameWrongFalsely : Prop := euclidLameRow.holds Try.pinned (OpenSpec.ofChange euclidLameWrong)

/- THE SECOND FORM. 'bulk': how many values and letters a reading holds, each counted each time it is reached (what is shared counts as often as it is met; a slice's spare places count too). A statement '..UptoSaid' is the law's where the arguments, and the package variables that the reading takes, are together of bulk at most 1048576: NARROWER than '..Said'. Prove '..Said' where nothing that the law and all that it calls make is longer than what came in: it says more and counts as full. Else prove '..UptoSaid'. A law counts once. -/
mutual
def uptoBulk {H : Type} : DataW H → Nat
  | .lit (.string bytes) => bytes.length + 1
  | .lit _ => 1
  | .nil => 1
  | .ptr d => uptoBulk d + 1
  | .slice elems spare => uptoBulkAll elems + uptoBulkAll spare + 1
  | .agg parts => uptoBulkAll parts + 1
  | .iface _ d => uptoBulk d + 1
  | .map entries => uptoBulkEntries entries + 1
  | .held _ => 1
def uptoBulkAll {H : Type} : List (DataW H) → Nat
  | [] => 0
  | d :: r => uptoBulk d + uptoBulkAll r
def uptoBulkEntries {H : Type} : List (Lit × DataW H) → Nat
  | [] => 0
  | x :: r => uptoBulkEntry x + uptoBulkEntries r
def uptoBulkEntry {H : Type} : Lit × DataW H → Nat
  | (.string bytes, d) => bytes.length + uptoBulk d + 1
  | (_, d) => uptoBulk d + 1
 end
def uptoSmall : (H : Type) → List (DataW H) → Bool := fun _ ds => decide (uptoBulkAll ds ≤ 1048576)
def OpenSpec.upto (s : _root_.Go.ChangeSpec) : _root_.Go.OpenSpec := { _root_.Go.OpenSpec.ofChange s with cond := some uptoSmall }

/-- 'wholelaw.Names', WHERE WHAT IT READS IS OF BULK AT MOST 1048576: true; the input reads as it did. -/
def namesUptoRow : OpenClaim := { program := "ytgnpchmglkabnaa", sum := "78e93db518b942561c90d0989a5154b70f940e0a98539433a907cc09352eb3ed", func := "wholemend/wholelaw.Names", spec := "names", apart := false, narrowed := true }
def NamesUptoSaid : Prop := namesUptoRow.holds Try.pinned (OpenSpec.upto namesSpec)

/-- 'wholelaw.EuclidSays', WHERE WHAT IT READS IS OF BULK AT MOST 1048576: true; the input reads as it did. -/
def euclidSaysUptoRow : OpenClaim := { program := "ytgnpchmglkabnaa", sum := "78e93db518b942561c90d0989a5154b70f940e0a98539433a907cc09352eb3ed", func := "wholemend/wholelaw.EuclidSays", spec := "euclidSays", unfollowed := true, recurses := true, apart := false, narrowed := true }
def EuclidSaysUptoSaid : Prop := euclidSaysUptoRow.holds Try.pinned (OpenSpec.upto euclidSaysSpec)

/-- 'wholekeep.EuclidDivides', WHERE WHAT IT READS IS OF BULK AT MOST 1048576: true; the input reads as it did. -/
def euclidDividesUptoRow : OpenClaim := { program := "ytgnpchmglkabnaa", sum := "78e93db518b942561c90d0989a5154b70f940e0a98539433a907cc09352eb3ed", func := "wholemend/wholekeep.EuclidDivides", spec := "euclidDivides", apart := false, narrowed := true }
def EuclidDividesUptoSaid : Prop := euclidDividesUptoRow.holds Try.pinned (OpenSpec.upto euclidDividesSpec)

/-- 'wholekeep.EuclidSame', WHERE WHAT IT READS IS OF BULK AT MOST 1048576: true; the input reads as it did. -/
def euclidSameUptoRow : OpenClaim := { program := "ytgnpchmglkabnaa", sum := "78e93db518b942561c90d0989a5154b70f940e0a98539433a907cc09352eb3ed", func := "wholemend/wholekeep.EuclidSame", spec := "euclidSame", unfollowed := true, recurses := true, apart := false, narrowed := true }
def EuclidSameUptoSaid : Prop := euclidSameUptoRow.holds Try.pinned (OpenSpec.upto euclidSameSpec)

/-- 'wholekeep.EuclidTimes', WHERE WHAT IT READS IS OF BULK AT MOST 1048576: true; the input reads as it did. -/
def euclidTimesUptoRow : OpenClaim := { program := "ytgnpchmglkabnaa", sum := "78e93db518b942561c90d0989a5154b70f940e0a98539433a907cc09352eb3ed", func := "wholemend/wholekeep.EuclidTimes", spec := "euclidTimes", unfollowed := true, recurses := true, apart := false, narrowed := true }
def EuclidTimesUptoSaid : Prop := euclidTimesUptoRow.holds Try.pinned (OpenSpec.upto euclidTimesSpec)

/-- 'wholekeep.EuclidLame', WHERE WHAT IT READS IS OF BULK AT MOST 1048576: true; the input reads as it did. -/
def euclidLameUptoRow : OpenClaim := { program := "ytgnpchmglkabnaa", sum := "78e93db518b942561c90d0989a5154b70f940e0a98539433a907cc09352eb3ed", func := "wholemend/wholekeep.EuclidLame", spec := "euclidLame", apart := false, narrowed := true }
def EuclidLameUptoSaid : Prop := euclidLameUptoRow.holds Try.pinned (OpenSpec.upto euclidLameSpec)

end Rows
end Go.Proofs.Ytgnpchmglkabnaa
