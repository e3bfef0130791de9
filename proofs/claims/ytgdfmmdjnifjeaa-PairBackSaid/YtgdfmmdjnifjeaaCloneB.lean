/-
  slices.Clone at bytes.
-/
import Derived.Test.YtgdfmmdjnifjeaaGrb
import Derived.Test.YtgdfmmdjnifjeaaGtb
import Derived.Test.YtgdfmmdjnifjeaaMixT
import Derived.Test.YtgdfmmdjnifjeaaGro
namespace Go.Proofs.Ytgdfmmdjnifjeaa
open Go.RowKit
open Gf

end Go.Proofs.Ytgdfmmdjnifjeaa
