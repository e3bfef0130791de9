/-
  No cell of these rows narrows 'for every input' (looked for: loops, veiled, ifaces, maps, wideKeys, modest, calm, conditions, laid).
  DERIVED. THE GIVEN ROWS OF THIS SEAT. 10 by the template 'for every input the law returns true; each argument reads behind the call as it read before'; 0 by the template 'total and deterministic' (their statements: YthlnbomapfjphaaTotals.lean).
  GIVEN WITH THE SEED: the statements are not yours to turn. If you find one false, say at which input.
  Laid BY PROGRAM, IN A SANDBOX (cutbox-rows.mjs): the forced cells as the released guide's own fill.sh prints them over the translation 5db777ca523e2222… (all of the seat's roots in one cut). By AI agents, Wed Nov 11 2026. No macro, syntax, notation, axiom, sorry.
-/
import Derived.Test.YthlnbomapfjphaaChecked
import GoSem.Claim
import GoSem.ClaimJoined
import GoSem.ClaimMapViews
import Derived.JoinedTies
import Derived.KernelRfl
namespace Go.Proofs.Ythlnbomapfjphaa
/- THE CELL 'sum', in the pinned program and in every row, IS THE sha256 OF THE DUMP (.gsa) THAT YthlnbomapfjphaaProg.lean LOADS. Nothing in Lean hashes anything: it is a label: what it is worth is what the hold of that sum in a sandbox is worth. -/
noncomputable def Try.pinned : Pinned := { name := "ythlnbomapfjphaa", sum := "5db777ca523e22226dcd5427e2b0d82025b60245eb68cc680f0edc90c7e0ccc4", checked := Try.checked }
namespace Rows
def none {H : Type} : Left H := { results := [], args := [] }

/-- 'wholelaw.ReedSays': WHATEVER THE INPUT: true; the input reads as it did. -/
def reedSaysSpec : ChangeSpec := { name := "reedSays", fn := fun _ => fun
  | [d1, d2, d3, d4] => { results := [.lit (.bool true)], args := [d1, d2, d3, d4] }
  | _ => none }
def reedSaysRow : OpenClaim := { program := "ythlnbomapfjphaa", sum := "5db777ca523e22226dcd5427e2b0d82025b60245eb68cc680f0edc90c7e0ccc4", func := "wholemend/wholelaw.ReedSays", spec := "reedSays", unfollowed := true, recurses := true, apart := false }
def ReedSaysSaid : Prop := reedSaysRow.holds Try.pinned (OpenSpec.ofChange reedSaysSpec)

/-- ITS FALSE NEIGHBOUR: 'it returns false'. Refute it at one input. -/
def reedSaysWrong : ChangeSpec := { name := "reedSays", fn := fun _ => fun
  | [d1, d2, d3, d4] => { results := [.lit (.bool false)], args := [d1, d2, d3, d4] }
  | _ => none }
def ReedSaysWrongFalsely : Prop := reedSaysRow.holds Try.pinned (OpenSpec.ofChange reedSaysWrong)

/-- 'wholekeep.ReedAny': WHATEVER THE INPUT: true; the input reads as it did. -/
def reedAnySpec : ChangeSpec := { name := "reedAny", fn := fun _ => fun
  | [d1, d2, d3] => { results := [.lit (.bool true)], args := [d1, d2, d3] }
  | _ => none }
def reedAnyRow : OpenClaim := { program := "ythlnbomapfjphaa", sum := "5db777ca523e22226dcd5427e2b0d82025b60245eb68cc680f0edc90c7e0ccc4", func := "wholemend/wholekeep.ReedAny", spec := "reedAny", unfollowed := true, recurses := true, apart := false }
def ReedAnySaid : Prop := reedAnyRow.holds Try.pinned (OpenSpec.ofChange reedAnySpec)

/-- ITS FALSE NEIGHBOUR: 'it returns false'. Refute it at one input. -/
def reedAnyWrong : ChangeSpec := { name := "reedAny", fn := fun _ => fun
  | [d1, d2, d3] => { results := [.lit (.bool false)], args := [d1, d2, d3] }
  | _ => none }
def ReedAnyWrongFalsely : Prop := reedAnyRow.holds Try.pinned (OpenSpec.ofChange reedAnyWrong)

/-- 'wholekeep.ReedFar': WHATEVER THE INPUT: true; the input reads as it did. -/
def reedFarSpec : ChangeSpec := { name := "reedFar", fn := fun _ => fun
  | [d1, d2, d3] => { results := [.lit (.bool true)], args := [d1, d2, d3] }
  | _ => none }
def reedFarRow : OpenClaim := { program := "ythlnbomapfjphaa", sum := "5db777ca523e22226dcd5427e2b0d82025b60245eb68cc680f0edc90c7e0ccc4", func := "wholemend/wholekeep.ReedFar", spec := "reedFar", unfollowed := true, recurses := true, apart := false }
def ReedFarSaid : Prop := reedFarRow.holds Try.pinned (OpenSpec.ofChange reedFarSpec)

/-- ITS FALSE NEIGHBOUR: 'it returns false'. Refute it at one input. -/
def reedFarWrong : ChangeSpec := { name := "reedFar", fn := fun _ => fun
  | [d1, d2, d3] => { results := [.lit (.bool false)], args := [d1, d2, d3] }
  | _ => none }
def ReedFarWrongFalsely : Prop := reedFarRow.holds Try.pinned (OpenSpec.ofChange reedFarWrong)

/-- 'wholekeep.ReedSums': WHATEVER THE INPUT: true; the input reads as it did. -/
def reedSumsSpec : ChangeSpec := { name := "reedSums", fn := fun _ => fun
  | [d1, d2, d3, d4] => { results := [.lit (.bool true)], args := [d1, d2, d3, d4] }
  | _ => none }
def reedSumsRow : OpenClaim := { program := "ythlnbomapfjphaa", sum := "5db777ca523e22226dcd5427e2b0d82025b60245eb68cc680f0edc90c7e0ccc4", func := "wholemend/wholekeep.ReedSums", spec := "reedSums", unfollowed := true, recurses := true, apart := false }
def ReedSumsSaid : Prop := reedSumsRow.holds Try.pinned (OpenSpec.ofChange reedSumsSpec)

/-- ITS FALSE NEIGHBOUR: 'it returns false'. Refute it at one input. -/
def reedSumsWrong : ChangeSpec := { name := "reedSums", fn := fun _ => fun
  | [d1, d2, d3, d4] => { results := [.lit (.bool false)], args := [d1, d2, d3, d4] }
  | _ => none }
def ReedSumsWrongFalsely : Prop := reedSumsRow.holds Try.pinned (OpenSpec.ofChange reedSumsWrong)

/-- 'wholekeep.ReedWrong': WHATEVER THE INPUT: true; the input reads as it did. -/
def reedWrongSpec : ChangeSpec := { name := "reedWrong", fn := fun _ => fun
  | [d1, d2, d3, d4] => { results := [.lit (.bool true)], args := [d1, d2, d3, d4] }
  | _ => none }
def reedWrongRow : OpenClaim := { program := "ythlnbomapfjphaa", sum := "5db777ca523e22226dcd5427e2b0d82025b60245eb68cc680f0edc90c7e0ccc4", func := "wholemend/wholekeep.ReedWrong", spec := "reedWrong", unfollowed := true, recurses := true, apart := false }
def ReedWrongSaid : Prop := reedWrongRow.holds Try.pinned (OpenSpec.ofChange reedWrongSpec)

/-- ITS FALSE NEIGHBOUR: 'it returns false'. Refute it at one input. -/
def reedWrongWrong : ChangeSpec := { name := "reedWrong", fn := fun _ => fun
  | [d1, d2, d3, d4] => { results := [.lit (.bool false)], args := [d1, d2, d3, d4] }
  | _ => none }
def ReedWrongWrongFalsely : Prop := reedWrongRow.holds Try.pinned (OpenSpec.ofChange reedWrongWrong)

/-- 'wholekeep.TablesOwn': WHATEVER THE INPUT: true; the input reads as it did. -/
def tablesOwnSpec : ChangeSpec := { name := "tablesOwn", fn := fun _ => fun
  | [d1, d2, d3, d4] => { results := [.lit (.bool true)], args := [d1, d2, d3, d4] }
  | _ => none }
def tablesOwnRow : OpenClaim := { program := "ythlnbomapfjphaa", sum := "5db777ca523e22226dcd5427e2b0d82025b60245eb68cc680f0edc90c7e0ccc4", func := "wholemend/wholekeep.TablesOwn", spec := "tablesOwn", unfollowed := true, recurses := true, apart := false }
def TablesOwnSaid : Prop := tablesOwnRow.holds Try.pinned (OpenSpec.ofChange tablesOwnSpec)

/-- ITS FALSE NEIGHBOUR: 'it returns false'. Refute it at one input. -/
def tablesOwnWrong : ChangeSpec := { name := "tablesOwn", fn := fun _ => fun
  | [d1, d2, d3, d4] => { results := [.lit (.bool false)], args := [d1, d2, d3, d4] }
  | _ => none }
def TablesOwnWrongFalsely : Prop := tablesOwnRow.holds Try.pinned (OpenSpec.ofChange tablesOwnWrong)

/-- 'wholetop.TopUnits': WHATEVER THE INPUT: true; the input reads as it did. -/
def topUnitsSpec : ChangeSpec := { name := "topUnits", fn := fun _ => fun
  | [d1, d2, d3] => { results := [.lit (.bool true)], args := [d1, d2, d3] }
  | _ => none }
def topUnitsRow : OpenClaim := { program := "ythlnbomapfjphaa", sum := "5db777ca523e22226dcd5427e2b0d82025b60245eb68cc680f0edc90c7e0ccc4", func := "wholemend/wholetop.TopUnits", spec := "topUnits", unfollowed := true, recurses := true, apart := false }
def TopUnitsSaid : Prop := topUnitsRow.holds Try.pinned (OpenSpec.ofChange topUnitsSpec)

/-- ITS FALSE NEIGHBOUR: 'it returns false'. Refute it at one input. -/
def topUnitsWrong : ChangeSpec := { name := "topUnits", fn := fun _ => fun
  | [d1, d2, d3] => { results := [.lit (.bool false)], args := [d1, d2, d3] }
  | _ => none }
def TopUnitsWrongFalsely : Prop := topUnitsRow.holds Try.pinned (OpenSpec.ofChange topUnitsWrong)

/-- 'wholetop.TopShares': WHATEVER THE INPUT: true; the input reads as it did. -/
def topSharesSpec : ChangeSpec := { name := "topShares", fn := fun _ => fun
  | [d1, d2, d3, d4] => { results := [.lit (.bool true)], args := [d1, d2, d3, d4] }
  | _ => none }
def topSharesRow : OpenClaim := { program := "ythlnbomapfjphaa", sum := "5db777ca523e22226dcd5427e2b0d82025b60245eb68cc680f0edc90c7e0ccc4", func := "wholemend/wholetop.TopShares", spec := "topShares", unfollowed := true, recurses := true, apart := false }
def TopSharesSaid : Prop := topSharesRow.holds Try.pinned (OpenSpec.ofChange topSharesSpec)

/-- ITS FALSE NEIGHBOUR: 'it returns false'. Refute it at one input. -/
def topSharesWrong : ChangeSpec := { name := "topShares", fn := fun _ => fun
  | [d1, d2, d3, d4] => { results := [.lit (.bool false)], args := [d1, d2, d3, d4] }
  | _ => none }
def TopSharesWrongFalsely : Prop := topSharesRow.holds Try.pinned (OpenSpec.ofChange topSharesWrong)

/-- 'wholetop.TopFractions': WHATEVER THE INPUT: true; the input reads as it did. -/
def topFractionsSpec : ChangeSpec := { name := "topFractions", fn := fun _ => fun
  | [d1, d2, d3] => { results := [.lit (.bool true)], args := [d1, d2, d3] }
  | _ => none }
def topFractionsRow : OpenClaim := { program := "ythlnbomapfjphaa", sum := "5db777ca523e22226dcd5427e2b0d82025b60245eb68cc680f0edc90c7e0ccc4", func := "wholemend/wholetop.TopFractions", spec := "topFractions", unfollowed := true, recurses := true, apart := false }
def TopFractionsSaid : Prop := topFractionsRow.holds Try.pinned (OpenSpec.ofChange topFractionsSpec)

/-- ITS FALSE NEIGHBOUR: 'it returns false'. Refute it at one input. -/
def topFractionsWrong : ChangeSpec := { name := "topFractions", fn := fun _ => fun
  | [d1, d2, d3] => { results := [.lit (.bool false)], args := [d1, d2, d3] }
  | _ => none }
def TopFractionsWrongFalsely : Prop := topFractionsRow.holds Try.pinned (OpenSpec.ofChange topFractionsWrong)

/-- 'wholetop.TopBytes': WHATEVER THE INPUT: true; the input reads as it did. -/
def topBytesSpec : ChangeSpec := { name := "topBytes", fn := fun _ => fun
  | [d1, d2, d3] => { results := [.lit (.bool true)], args := [d1, d2, d3] }
  | _ => none }
def topBytesRow : OpenClaim := { program := "ythlnbomapfjphaa", sum := "5db777ca523e22226dcd5427e2b0d82025b60245eb68cc680f0edc90c7e0ccc4", func := "wholemend/wholetop.TopBytes", spec := "topBytes", inPlace := ["internal/bytealg.IndexByteString", "internal/bytealg.IndexString"], unfollowed := true, recurses := true, named := ["internal/bytealg.MaxLen"], apart := false }
def TopBytesSaid : Prop := topBytesRow.holds Try.pinned (OpenSpec.ofChange topBytesSpec)

/-- ITS FALSE NEIGHBOUR: 'it returns false'. Refute it at one input. -/
def topBytesWrong : ChangeSpec := { name := "topBytes", fn := fun _ => fun
  | [d1, d2, d3] => { results := [.lit (.bool false)], args := [d1, d2, d3] }
  | _ => none }
def TopBytesWrongFalsely : Prop := topBytesRow.holds Try.pinned (OpenSpec.ofChange topBytesWrong)

/- THE SECOND FORM. 'bulk': how many values and letters a reading holds, each counted each time it is reached (what is shared counts as often as it is met; a slice's spare places count too). A statement '..UptoSaid' is the law's where the arguments, and the package variables that the reading takes, are together of bulk at most 1048576: NARROWER than '..Said'. Prove '..Said' where nothing that the law and all that it calls make is longer than what came in: it says more and counts as full. Else prove '..UptoSaid'. A law counts once. -/
mutual
def uptoBulk {H : Type} : DataW H → Nat
  | .lit (.string bytes) => bytes.length + 1
  | .lit _ => 1
  | .nil => 1
  | .ptr d => uptoBulk d + 1
  | .slice elems spare => uptoBulkAll elems + uptoBulkAll spare + 1
  | .agg parts => uptoBulkAll parts + 1
  | .iface _ d => uptoBulk d + 1
  | .map entries => uptoBulkEntries entries + 1
  | .held _ => 1
def uptoBulkAll {H : Type} : List (DataW H) → Nat
  | [] => 0
  | d :: r => uptoBulk d + uptoBulkAll r
def uptoBulkEntries {H : Type} : List (Lit × DataW H) → Nat
  | [] => 0
  | x :: r => uptoBulkEntry x + uptoBulkEntries r
def uptoBulkEntry {H : Type} : Lit × DataW H → Nat
  | (.string bytes, d) => bytes.length + uptoBulk d + 1
  | (_, d) => uptoBulk d + 1
 end
def uptoSmall : (H : Type) → List (DataW H) → Bool := fun _ ds => decide (uptoBulkAll ds ≤ 1048576)
def OpenSpec.upto (s : _root_.Go.ChangeSpec) : _root_.Go.OpenSpec := { _root_.Go.OpenSpec.ofChange s with cond := some uptoSmall }

/-- 'wholelaw.ReedSays', WHERE WHAT IT READS IS OF BULK AT MOST 1048576: true; the input reads as it did. -/
def reedSaysUptoRow : OpenClaim := { program := "ythlnbomapfjphaa", sum := "5db777ca523e22226dcd5427e2b0d82025b60245eb68cc680f0edc90c7e0ccc4", func := "wholemend/wholelaw.ReedSays", spec := "reedSays", unfollowed := true, recurses := true, apart := false, narrowed := true }
def ReedSaysUptoSaid : Prop := reedSaysUptoRow.holds Try.pinned (OpenSpec.upto reedSaysSpec)

/-- 'wholekeep.ReedAny', WHERE WHAT IT READS IS OF BULK AT MOST 1048576: true; the input reads as it did. -/
def reedAnyUptoRow : OpenClaim := { program := "ythlnbomapfjphaa", sum := "5db777ca523e22226dcd5427e2b0d82025b60245eb68cc680f0edc90c7e0ccc4", func := "wholemend/wholekeep.ReedAny", spec := "reedAny", unfollowed := true, recurses := true, apart := false, narrowed := true }
def ReedAnyUptoSaid : Prop := reedAnyUptoRow.holds Try.pinned (OpenSpec.upto reedAnySpec)

/-- 'wholekeep.ReedFar', WHERE WHAT IT READS IS OF BULK AT MOST 1048576: true; the input reads as it did. -/
def reedFarUptoRow : OpenClaim := { program := "ythlnbomapfjphaa", sum := "5db777ca523e22226dcd5427e2b0d82025b60245eb68cc680f0edc90c7e0ccc4", func := "wholemend/wholekeep.ReedFar", spec := "reedFar", unfollowed := true, recurses := true, apart := false, narrowed := true }
def ReedFarUptoSaid : Prop := reedFarUptoRow.holds Try.pinned (OpenSpec.upto reedFarSpec)

/-- 'wholekeep.ReedSums', WHERE WHAT IT READS IS OF BULK AT MOST 1048576: true; the input reads as it did. -/
def reedSumsUptoRow : OpenClaim := { program := "ythlnbomapfjphaa", sum := "5db777ca523e22226dcd5427e2b0d82025b60245eb68cc680f0edc90c7e0ccc4", func := "wholemend/wholekeep.ReedSums", spec := "reedSums", unfollowed := true, recurses := true, apart := false, narrowed := true }
def ReedSumsUptoSaid : Prop := reedSumsUptoRow.holds Try.pinned (OpenSpec.upto reedSumsSpec)

/-- 'wholekeep.ReedWrong', WHERE WHAT IT READS IS OF BULK AT MOST 1048576: true; the input reads as it did. -/
def reedWrongUptoRow : OpenClaim := { program := "ythlnbomapfjphaa", sum := "5db777ca523e22226dcd5427e2b0d82025b60245eb68cc680f0edc90c7e0ccc4", func := "wholemend/wholekeep.ReedWrong", spec := "reedWrong", unfollowed := true, recurses := true, apart := false, narrowed := true }
def ReedWrongUptoSaid : Prop := reedWrongUptoRow.holds Try.pinned (OpenSpec.upto reedWrongSpec)

/-- 'wholekeep.TablesOwn', WHERE WHAT IT READS IS OF BULK AT MOST 1048576: true; the input reads as it did. -/
def tablesOwnUptoRow : OpenClaim := { program := "ythlnbomapfjphaa", sum := "5db777ca523e22226dcd5427e2b0d82025b60245eb68cc680f0edc90c7e0ccc4", func := "wholemend/wholekeep.TablesOwn", spec := "tablesOwn", unfollowed := true, recurses := true, apart := false, narrowed := true }
def TablesOwnUptoSaid : Prop := tablesOwnUptoRow.holds Try.pinned (OpenSpec.upto tablesOwnSpec)

/-- 'wholetop.TopUnits', WHERE WHAT IT READS IS OF BULK AT MOST 1048576: true; the input reads as it did. -/
def topUnitsUptoRow : OpenClaim := { program := "ythlnbomapfjphaa", sum := "5db777ca523e22226dcd5427e2b0d82025b60245eb68cc680f0edc90c7e0ccc4", func := "wholemend/wholetop.TopUnits", spec := "topUnits", unfollowed := true, recurses := true, apart := false, narrowed := true }
def TopUnitsUptoSaid : Prop := topUnitsUptoRow.holds Try.pinned (OpenSpec.upto topUnitsSpec)

/-- 'wholetop.TopShares', WHERE WHAT IT READS IS OF BULK AT MOST 1048576: true; the input reads as it did. -/
def topSharesUptoRow : OpenClaim := { program := "ythlnbomapfjphaa", sum := "5db777ca523e22226dcd5427e2b0d82025b60245eb68cc680f0edc90c7e0ccc4", func := "wholemend/wholetop.TopShares", spec := "topShares", unfollowed := true, recurses := true, apart := false, narrowed := true }
def TopSharesUptoSaid : Prop := topSharesUptoRow.holds Try.pinned (OpenSpec.upto topSharesSpec)

/-- 'wholetop.TopFractions', WHERE WHAT IT READS IS OF BULK AT MOST 1048576: true; the input reads as it did. -/
def topFractionsUptoRow : OpenClaim := { program := "ythlnbomapfjphaa", sum := "5db777ca523e22226dcd5427e2b0d82025b60245eb68cc680f0edc90c7e0ccc4", func := "wholemend/wholetop.TopFractions", spec := "topFractions", unfollowed := true, recurses := true, apart := false, narrowed := true }
def TopFractionsUptoSaid : Prop := topFractionsUptoRow.holds Try.pinned (OpenSpec.upto topFractionsSpec)

/-- 'wholetop.TopBytes', WHERE WHAT IT READS IS OF BULK AT MOST 1048576: true; the input reads as it did. -/
def topBytesUptoRow : OpenClaim := { program := "ythlnbomapfjphaa", sum := "5db777ca523e22226dcd5427e2b0d82025b60245eb68cc680f0edc90c7e0ccc4", func := "wholemend/wholetop.TopBytes", spec := "topBytes", inPlace := ["internal/bytealg.IndexByteString", "internal/bytealg.IndexString"], unfollowed := true, recurses := true, named := ["internal/bytealg.MaxLen"], apart := false, narrowed := true }
def TopBytesUptoSaid : Prop := topBytesUptoRow.holds Try.pinned (OpenSpec.upto topBytesSpec)

end Rows
end Go.Proofs.Ythlnbomapfjphaa
