/-
  slices.Grow at nil and slices.Concat of two, at bytes.
-/
import Derived.Test.YteaehaebhpcfeaaGro
import Derived.Test.YteaehaebhpcfeaaWide
import Derived.Lib.AppendZerosOnto
import Derived.Laws.AppendOwnNone
import Derived.Lib.SliceRun
namespace Go.Proofs.Yteaehaebhpcfeaa
open Go.RowKit




end Go.Proofs.Yteaehaebhpcfeaa
