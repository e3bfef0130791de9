/-
  No cell of these rows narrows 'for every input' (looked for: loops, veiled, ifaces, maps, wideKeys, modest, calm, conditions, laid).
  DERIVED. THE GIVEN ROWS OF THIS SEAT. 5 by the template 'for every input the law returns true; each argument reads behind the call as it read before'; 0 by the template 'total and deterministic' (their statements: YtjgkpfkiflhkaaaTotals.lean).
  GIVEN WITH THE SEED: the statements are not yours to turn. If you find one false, say at which input.
  Laid BY PROGRAM, IN A SANDBOX (cutbox-rows.mjs): the forced cells as the released guide's own fill.sh prints them over the translation 91f1406af0bcbcac… (all of the seat's roots in one cut). By AI agents, Wed Nov 11 2026. No macro, syntax, notation, axiom, sorry.
-/
import Derived.Test.YtjgkpfkiflhkaaaChecked
import GoSem.Claim
import GoSem.ClaimJoined
import GoSem.ClaimMapViews
import Derived.JoinedTies
import Derived.KernelRfl
namespace Go.Proofs.Ytjgkpfkiflhkaaa
/- THE CELL 'sum', in the pinned program and in every row, IS THE sha256 OF THE DUMP (.gsa) THAT YtjgkpfkiflhkaaaProg.lean LOADS. Nothing in Lean hashes anything: it is a label: what it is worth is what the hold of that sum in a sandbox is worth. -/
noncomputable def Try.pinned : Pinned := { name := "ytjgkpfkiflhkaaa", sum := "91f1406af0bcbcac3599e16795d5528cde751234c9365313bde43e3be391ce2c", checked := Try.checked }
namespace Rows
def none {H : Type} : Left H := { results := [], args := [] }

/-- 'wholelaw.BinomSays': WHATEVER THE INPUT: true; the input reads as it did. -/
def binomSaysSpec : ChangeSpec := { name := "binomSays", fn := fun _ => fun
  | [d1, d2, d3] => { results := [.lit (.bool true)], args := [d1, d2, d3] }
  | _ => none }
def binomSaysRow : OpenClaim := { program := "ytjgkpfkiflhkaaa", sum := "91f1406af0bcbcac3599e16795d5528cde751234c9365313bde43e3be391ce2c", func := "wholemend/wholelaw.BinomSays", spec := "binomSays", apart := false }
def BinomSaysSaid : Prop := binomSaysRow.holds Try.pinned (OpenSpec.ofChange binomSaysSpec)

/-- ITS FALSE NEIGHBOUR: 'it returns false'. Refute it at one input. -/
def binomSaysWrong : ChangeSpec := { name := "binomSays", fn := fun _ => fun
  | [d1, d2, d3] => { results := [.lit (.bool false)], args := [d1, d2, d3] }
  | _ => none }
def BinomSaysWrongFalsely : Prop := binomSaysRow.holds Try.pinned (OpenSpec.ofChange binomSaysWrong)

/-- 'wholekeep.BinomPascal': WHATEVER THE INPUT: true; the input reads as it did. -/
def binomPascalSpec : ChangeSpec := { name := "binomPascal", fn := fun _ => fun
  | [d1, d2] => { results := [.lit (.bool true)], args := [d1, d2] }
  | _ => none }
def binomPascalRow : OpenClaim := { program := "ytjgkpfkiflhkaaa", sum := "91f1406af0bcbcac3599e16795d5528cde751234c9365313bde43e3be391ce2c", func := "wholemend/wholekeep.BinomPascal", spec := "binomPascal", unfollowed := true, recurses := true, apart := false }
def BinomPascalSaid : Prop := binomPascalRow.holds Try.pinned (OpenSpec.ofChange binomPascalSpec)

/-- ITS FALSE NEIGHBOUR: 'it returns false'. Refute it at one input. -/
def binomPascalWrong : ChangeSpec := { name := "binomPascal", fn := fun _ => fun
  | [d1, d2] => { results := [.lit (.bool false)], args := [d1, d2] }
  | _ => none }
def BinomPascalWrongFalsely : Prop := binomPascalRow.holds Try.pinned (OpenSpec.ofChange binomPascalWrong)

/-- 'wholekeep.BinomVander': WHATEVER THE INPUT: true; the input reads as it did. -/
def binomVanderSpec : ChangeSpec := { name := "binomVander", fn := fun _ => fun
  | [d1, d2, d3] => { results := [.lit (.bool true)], args := [d1, d2, d3] }
  | _ => none }
def binomVanderRow : OpenClaim := { program := "ytjgkpfkiflhkaaa", sum := "91f1406af0bcbcac3599e16795d5528cde751234c9365313bde43e3be391ce2c", func := "wholemend/wholekeep.BinomVander", spec := "binomVander", unfollowed := true, recurses := true, apart := false }
def BinomVanderSaid : Prop := binomVanderRow.holds Try.pinned (OpenSpec.ofChange binomVanderSpec)

/-- ITS FALSE NEIGHBOUR: 'it returns false'. Refute it at one input. -/
def binomVanderWrong : ChangeSpec := { name := "binomVander", fn := fun _ => fun
  | [d1, d2, d3] => { results := [.lit (.bool false)], args := [d1, d2, d3] }
  | _ => none }
def BinomVanderWrongFalsely : Prop := binomVanderRow.holds Try.pinned (OpenSpec.ofChange binomVanderWrong)

/-- 'wholekeep.BinomLucas': WHATEVER THE INPUT: true; the input reads as it did. -/
def binomLucasSpec : ChangeSpec := { name := "binomLucas", fn := fun _ => fun
  | [d1, d2, d3] => { results := [.lit (.bool true)], args := [d1, d2, d3] }
  | _ => none }
def binomLucasRow : OpenClaim := { program := "ytjgkpfkiflhkaaa", sum := "91f1406af0bcbcac3599e16795d5528cde751234c9365313bde43e3be391ce2c", func := "wholemend/wholekeep.BinomLucas", spec := "binomLucas", unfollowed := true, recurses := true, apart := false }
def BinomLucasSaid : Prop := binomLucasRow.holds Try.pinned (OpenSpec.ofChange binomLucasSpec)

/-- ITS FALSE NEIGHBOUR: 'it returns false'. Refute it at one input. -/
def binomLucasWrong : ChangeSpec := { name := "binomLucas", fn := fun _ => fun
  | [d1, d2, d3] => { results := [.lit (.bool false)], args := [d1, d2, d3] }
  | _ => none }
def BinomLucasWrongFalsely : Prop := binomLucasRow.holds Try.pinned (OpenSpec.ofChange binomLucasWrong)

/-- 'wholekeep.BinomKummer': WHATEVER THE INPUT: true; the input reads as it did. -/
def binomKummerSpec : ChangeSpec := { name := "binomKummer", fn := fun _ => fun
  | [d1, d2, d3] => { results := [.lit (.bool true)], args := [d1, d2, d3] }
  | _ => none }
def binomKummerRow : OpenClaim := { program := "ytjgkpfkiflhkaaa", sum := "91f1406af0bcbcac3599e16795d5528cde751234c9365313bde43e3be391ce2c", func := "wholemend/wholekeep.BinomKummer", spec := "binomKummer", apart := false }
def BinomKummerSaid : Prop := binomKummerRow.holds Try.pinned (OpenSpec.ofChange binomKummerSpec)

/-- ITS FALSE NEIGHBOUR: 'it returns false'. Refute it at one input. -/
def binomKummerWrong : ChangeSpec := { name := "binomKummer", fn := fun _ => fun
  | [d1, d2, d3] => { results := [.lit (.bool false)], args := [d1, d2, d3] }
  | _ => none }
def BinomKummerWrongFalsely : Prop := binomKummerRow.holds Try.pinned (OpenSpec.ofChange binomKummerWrong)

/- THE SECOND FORM. 'bulk': how many values and letters a reading holds, each counted each time it is reached (what is shared counts as often as it is met; a slice's spare places count too). A statement '..UptoSaid' is the law's where the arguments, and the package variables that the reading takes, are together of bulk at most 1048576: NARROWER than '..Said'. Prove '..Said' where nothing that the law and all that it calls make is longer than what came in: it says more and counts as full. Else prove '..UptoSaid'. A law counts once. -/
mutual
def uptoBulk {H : Type} : DataW H → Nat
  | .lit (.string bytes) => bytes.length + 1
  | .lit _ => 1
  | .nil => 1
  | .ptr d => uptoBulk d + 1
  | .slice elems spare => uptoBulkAll elems + uptoBulkAll spare + 1
  | .agg parts => uptoBulkAll parts + 1
  | .iface _ d => uptoBulk d + 1
  | .map entries => uptoBulkEntries entries + 1
  | .held _ => 1
def uptoBulkAll {H : Type} : List (DataW H) → Nat
  | [] => 0
  | d :: r => uptoBulk d + uptoBulkAll r
def uptoBulkEntries {H : Type} : List (Lit × DataW H) → Nat
  | [] => 0
  | x :: r => uptoBulkEntry x + uptoBulkEntries r
def uptoBulkEntry {H : Type} : Lit × DataW H → Nat
  | (.string bytes, d) => bytes.length + uptoBulk d + 1
  | (_, d) => uptoBulk d + 1
 end
def uptoSmall : (H : Type) → List (DataW H) → Bool := fun _ ds => decide (uptoBulkAll ds ≤ 1048576)
def OpenSpec.upto (s : _root_.Go.ChangeSpec) : _root_.Go.OpenSpec := { _root_.Go.OpenSpec.ofChange s with cond := some uptoSmall }

/-- 'wholelaw.BinomSays', WHERE WHAT IT READS IS OF BULK AT MOST 1048576: true; the input reads as it did. -/
def binomSaysUptoRow : OpenClaim := { program := "ytjgkpfkiflhkaaa", sum := "91f1406af0bcbcac3599e16795d5528cde751234c9365313bde43e3be391ce2c", func := "wholemend/wholelaw.BinomSays", spec := "binomSays", apart := false, narrowed := true }
def BinomSaysUptoSaid : Prop := binomSaysUptoRow.holds Try.pinned (OpenSpec.upto binomSaysSpec)

/-- 'wholekeep.BinomPascal', WHERE WHAT IT READS IS OF BULK AT MOST 1048576: true; the input reads as it did. -/
def binomPascalUptoRow : OpenClaim := { program := "ytjgkpfkiflhkaaa", sum := "91f1406af0bcbcac3599e16795d5528cde751234c9365313bde43e3be391ce2c", func := "wholemend/wholekeep.BinomPascal", spec := "binomPascal", unfollowed := true, recurses := true, apart := false, narrowed := true }
def BinomPascalUptoSaid : Prop := binomPascalUptoRow.holds Try.pinned (OpenSpec.upto binomPascalSpec)

/-- 'wholekeep.BinomVander', WHERE WHAT IT READS IS OF BULK AT MOST 1048576: true; the input reads as it did. -/
def binomVanderUptoRow : OpenClaim := { program := "ytjgkpfkiflhkaaa", sum := "91f1406af0bcbcac3599e16795d5528cde751234c9365313bde43e3be391ce2c", func := "wholemend/wholekeep.BinomVander", spec := "binomVander", unfollowed := true, recurses := true, apart := false, narrowed := true }
def BinomVanderUptoSaid : Prop := binomVanderUptoRow.holds Try.pinned (OpenSpec.upto binomVanderSpec)

/-- 'wholekeep.BinomLucas', WHERE WHAT IT READS IS OF BULK AT MOST 1048576: true; the input reads as it did. -/
def binomLucasUptoRow : OpenClaim := { program := "ytjgkpfkiflhkaaa", sum := "91f1406af0bcbcac3599e16795d5528cde751234c9365313bde43e3be391ce2c", func := "wholemend/wholekeep.BinomLucas", spec := "binomLucas", unfollowed := true, recurses := true, apart := false, narrowed := true }
def BinomLucasUptoSaid : Prop := binomLucasUptoRow.holds Try.pinned (OpenSpec.upto binomLucasSpec)

/-- 'wholekeep.BinomKummer', WHERE WHAT IT READS IS OF BULK AT MOST 1048576: true; the input reads as it did. -/
def binomKummerUptoRow : OpenClaim := { program := "ytjgkpfkiflhkaaa", sum := "91f1406af0bcbcac3599e16795d5528cde751234c9365313bde43e3be391ce2c", func := "wholemend/wholekeep.BinomKummer", spec := "binomKummer", apart := false, narrowed := true }
def BinomKummerUptoSaid : Prop := binomKummerUptoRow.holds Try.pinned (OpenSpec.upto binomKummerSpec)

end Rows
end Go.Proofs.Ytjgkpfkiflhkaaa
