/-
  No cell of these rows narrows 'for every input' (looked for: loops, veiled, ifaces, maps, wideKeys, modest, calm, conditions, laid).
  DERIVED. THE GIVEN ROWS OF THIS SEAT. 4 by the template 'for every input the law returns true; each argument reads behind the call as it read before'; 0 by the template 'total and deterministic' (their statements: YtlpnopliblaknaaTotals.lean).
  GIVEN WITH THE SEED: the statements are not yours to turn. If you find one false, say at which input.
  Laid BY PROGRAM, IN A SANDBOX (cutbox-rows.mjs): the forced cells as the released guide's own fill.sh prints them over the translation b95329db7ff8f3a2… (all of the seat's roots in one cut). By AI agents, Wed Nov 11 2026. No macro, syntax, notation, axiom, sorry.
-/
import Derived.Test.YtlpnopliblaknaaChecked
import GoSem.Claim
import GoSem.ClaimJoined
import GoSem.ClaimMapViews
import Derived.JoinedTies
import Derived.KernelRfl
namespace Go.Proofs.Ytlpnopliblaknaa
/- THE CELL 'sum', in the pinned program and in every row, IS THE sha256 OF THE DUMP (.gsa) THAT YtlpnopliblaknaaProg.lean LOADS. Nothing in Lean hashes anything: it is a label: what it is worth is what the hold of that sum in a sandbox is worth. -/
noncomputable def Try.pinned : Pinned := { name := "ytlpnopliblaknaa", sum := "b95329db7ff8f3a27e95c9e0be161a09a38cc4e1fbf33c873423d1ad333e98ec", checked := Try.checked }
namespace Rows
def none {H : Type} : Left H := { results := [], args := [] }

/-- 'wholekeep.CyclicBack': WHATEVER THE INPUT: true; the input reads as it did. -/
def cyclicBackSpec : ChangeSpec := { name := "cyclicBack", fn := fun _ => fun
  | [d1, d2] => { results := [.lit (.bool true)], args := [d1, d2] }
  | _ => none }
def cyclicBackRow : OpenClaim := { program := "ytlpnopliblaknaa", sum := "b95329db7ff8f3a27e95c9e0be161a09a38cc4e1fbf33c873423d1ad333e98ec", func := "wholemend/wholekeep.CyclicBack", spec := "cyclicBack", inPlace := ["internal/abi.NoEscape", "internal/bytealg.MakeNoZero", "internal/bytealg.IndexByteString", "internal/bytealg.IndexString"], unfollowed := true, recurses := true, named := ["internal/bytealg.MaxLen"], apart := false }
def CyclicBackSaid : Prop := cyclicBackRow.holds Try.pinned (OpenSpec.ofChange cyclicBackSpec)

/-- ITS FALSE NEIGHBOUR: 'it returns false'. Refute it at one input. -/
def cyclicBackWrong : ChangeSpec := { name := "cyclicBack", fn := fun _ => fun
  | [d1, d2] => { results := [.lit (.bool false)], args := [d1, d2] }
  | _ => none }
def CyclicBackWrongFalsely : Prop := cyclicBackRow.holds Try.pinned (OpenSpec.ofChange cyclicBackWrong)

/-- 'wholekeep.CyclicBurst': WHATEVER THE INPUT: true; the input reads as it did. -/
def cyclicBurstSpec : ChangeSpec := { name := "cyclicBurst", fn := fun _ => fun
  | [d1, d2, d3, d4] => { results := [.lit (.bool true)], args := [d1, d2, d3, d4] }
  | _ => none }
def cyclicBurstRow : OpenClaim := { program := "ytlpnopliblaknaa", sum := "b95329db7ff8f3a27e95c9e0be161a09a38cc4e1fbf33c873423d1ad333e98ec", func := "wholemend/wholekeep.CyclicBurst", spec := "cyclicBurst", inPlace := ["internal/abi.NoEscape", "internal/bytealg.MakeNoZero", "internal/bytealg.IndexByteString", "internal/bytealg.IndexString"], named := ["internal/bytealg.MaxLen"], apart := false }
def CyclicBurstSaid : Prop := cyclicBurstRow.holds Try.pinned (OpenSpec.ofChange cyclicBurstSpec)

/-- ITS FALSE NEIGHBOUR: 'it returns false'. Refute it at one input. -/
def cyclicBurstWrong : ChangeSpec := { name := "cyclicBurst", fn := fun _ => fun
  | [d1, d2, d3, d4] => { results := [.lit (.bool false)], args := [d1, d2, d3, d4] }
  | _ => none }
def CyclicBurstWrongFalsely : Prop := cyclicBurstRow.holds Try.pinned (OpenSpec.ofChange cyclicBurstWrong)

/-- 'wholekeep.CyclicSums': WHATEVER THE INPUT: true; the input reads as it did. -/
def cyclicSumsSpec : ChangeSpec := { name := "cyclicSums", fn := fun _ => fun
  | [d1, d2, d3] => { results := [.lit (.bool true)], args := [d1, d2, d3] }
  | _ => none }
def cyclicSumsRow : OpenClaim := { program := "ytlpnopliblaknaa", sum := "b95329db7ff8f3a27e95c9e0be161a09a38cc4e1fbf33c873423d1ad333e98ec", func := "wholemend/wholekeep.CyclicSums", spec := "cyclicSums", inPlace := ["internal/abi.NoEscape", "internal/bytealg.MakeNoZero"], unfollowed := true, recurses := true, apart := false }
def CyclicSumsSaid : Prop := cyclicSumsRow.holds Try.pinned (OpenSpec.ofChange cyclicSumsSpec)

/-- ITS FALSE NEIGHBOUR: 'it returns false'. Refute it at one input. -/
def cyclicSumsWrong : ChangeSpec := { name := "cyclicSums", fn := fun _ => fun
  | [d1, d2, d3] => { results := [.lit (.bool false)], args := [d1, d2, d3] }
  | _ => none }
def CyclicSumsWrongFalsely : Prop := cyclicSumsRow.holds Try.pinned (OpenSpec.ofChange cyclicSumsWrong)

/-- 'wholekeep.CyclicOdd': WHATEVER THE INPUT: true; the input reads as it did. -/
def cyclicOddSpec : ChangeSpec := { name := "cyclicOdd", fn := fun _ => fun
  | [d1, d2, d3] => { results := [.lit (.bool true)], args := [d1, d2, d3] }
  | _ => none }
def cyclicOddRow : OpenClaim := { program := "ytlpnopliblaknaa", sum := "b95329db7ff8f3a27e95c9e0be161a09a38cc4e1fbf33c873423d1ad333e98ec", func := "wholemend/wholekeep.CyclicOdd", spec := "cyclicOdd", inPlace := ["internal/abi.NoEscape", "internal/bytealg.MakeNoZero", "internal/bytealg.CountString", "internal/bytealg.IndexByteString", "internal/bytealg.IndexString"], named := ["internal/bytealg.MaxLen"], apart := false }
def CyclicOddSaid : Prop := cyclicOddRow.holds Try.pinned (OpenSpec.ofChange cyclicOddSpec)

/-- ITS FALSE NEIGHBOUR: 'it returns false'. Refute it at one input. -/
def cyclicOddWrong : ChangeSpec := { name := "cyclicOdd", fn := fun _ => fun
  | [d1, d2, d3] => { results := [.lit (.bool false)], args := [d1, d2, d3] }
  | _ => none }
def CyclicOddWrongFalsely : Prop := cyclicOddRow.holds Try.pinned (OpenSpec.ofChange cyclicOddWrong)

/- THE SECOND FORM. 'bulk': how many values and letters a reading holds, each counted each time it is reached (what is shared counts as often as it is met; a slice's spare places count too). A statement '..UptoSaid' is the law's where the arguments, and the package variables that the reading takes, are together of bulk at most 1048576: NARROWER than '..Said'. Prove '..Said' where nothing that the law and all that it calls make is longer than what came in: it says more and counts as full. Else prove '..UptoSaid'. A law counts once. -/
mutual
def uptoBulk {H : Type} : DataW H → Nat
  | .lit (.string bytes) => bytes.length + 1
  | .lit _ => 1
  | .nil => 1
  | .ptr d => uptoBulk d + 1
  | .slice elems spare => uptoBulkAll elems + uptoBulkAll spare + 1
  | .agg parts => uptoBulkAll parts + 1
  | .iface _ d => uptoBulk d + 1
  | .map entries => uptoBulkEntries entries + 1
  | .held _ => 1
def uptoBulkAll {H : Type} : List (DataW H) → Nat
  | [] => 0
  | d :: r => uptoBulk d + uptoBulkAll r
def uptoBulkEntries {H : Type} : List (Lit × DataW H) → Nat
  | [] => 0
  | x :: r => uptoBulkEntry x + uptoBulkEntries r
def uptoBulkEntry {H : Type} : Lit × DataW H → Nat
  | (.string bytes, d) => bytes.length + uptoBulk d + 1
  | (_, d) => uptoBulk d + 1
 end
def uptoSmall : (H : Type) → List (DataW H) → Bool := fun _ ds => decide (uptoBulkAll ds ≤ 1048576)
def OpenSpec.upto (s : _root_.Go.ChangeSpec) : _root_.Go.OpenSpec := { _root_.Go.OpenSpec.ofChange s with cond := some uptoSmall }

/-- 'wholekeep.CyclicBack', WHERE WHAT IT READS IS OF BULK AT MOST 1048576: true; the input reads as it did. -/
def cyclicBackUptoRow : OpenClaim := { program := "ytlpnopliblaknaa", sum := "b95329db7ff8f3a27e95c9e0be161a09a38cc4e1fbf33c873423d1ad333e98ec", func := "wholemend/wholekeep.CyclicBack", spec := "cyclicBack", inPlace := ["internal/abi.NoEscape", "internal/bytealg.MakeNoZero", "internal/bytealg.IndexByteString", "internal/bytealg.IndexString"], unfollowed := true, recurses := true, named := ["internal/bytealg.MaxLen"], apart := false, narrowed := true }
def CyclicBackUptoSaid : Prop := cyclicBackUptoRow.holds Try.pinned (OpenSpec.upto cyclicBackSpec)

/-- 'wholekeep.CyclicBurst', WHERE WHAT IT READS IS OF BULK AT MOST 1048576: true; the input reads as it did. -/
def cyclicBurstUptoRow : OpenClaim := { program := "ytlpnopliblaknaa", sum := "b95329db7ff8f3a27e95c9e0be161a09a38cc4e1fbf33c873423d1ad333e98ec", func := "wholemend/wholekeep.CyclicBurst", spec := "cyclicBurst", inPlace := ["internal/abi.NoEscape", "internal/bytealg.MakeNoZero", "internal/bytealg.IndexByteString", "internal/bytealg.IndexString"], named := ["internal/bytealg.MaxLen"], apart := false, narrowed := true }
def CyclicBurstUptoSaid : Prop := cyclicBurstUptoRow.holds Try.pinned (OpenSpec.upto cyclicBurstSpec)

/-- 'wholekeep.CyclicSums', WHERE WHAT IT READS IS OF BULK AT MOST 1048576: true; the input reads as it did. -/
def cyclicSumsUptoRow : OpenClaim := { program := "ytlpnopliblaknaa", sum := "b95329db7ff8f3a27e95c9e0be161a09a38cc4e1fbf33c873423d1ad333e98ec", func := "wholemend/wholekeep.CyclicSums", spec := "cyclicSums", inPlace := ["internal/abi.NoEscape", "internal/bytealg.MakeNoZero"], unfollowed := true, recurses := true, apart := false, narrowed := true }
def CyclicSumsUptoSaid : Prop := cyclicSumsUptoRow.holds Try.pinned (OpenSpec.upto cyclicSumsSpec)

/-- 'wholekeep.CyclicOdd', WHERE WHAT IT READS IS OF BULK AT MOST 1048576: true; the input reads as it did. -/
def cyclicOddUptoRow : OpenClaim := { program := "ytlpnopliblaknaa", sum := "b95329db7ff8f3a27e95c9e0be161a09a38cc4e1fbf33c873423d1ad333e98ec", func := "wholemend/wholekeep.CyclicOdd", spec := "cyclicOdd", inPlace := ["internal/abi.NoEscape", "internal/bytealg.MakeNoZero", "internal/bytealg.CountString", "internal/bytealg.IndexByteString", "internal/bytealg.IndexString"], named := ["internal/bytealg.MaxLen"], apart := false, narrowed := true }
def CyclicOddUptoSaid : Prop := cyclicOddUptoRow.holds Try.pinned (OpenSpec.upto cyclicOddSpec)

end Rows
end Go.Proofs.Ytlpnopliblaknaa
