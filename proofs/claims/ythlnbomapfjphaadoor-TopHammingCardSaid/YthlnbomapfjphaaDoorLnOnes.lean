/-
  wholeref.Ones and High.
-/
import Derived.Test.YthlnbomapfjphaaDoorU16
namespace Go.Proofs.YthlnbomapfjphaaDoor
open Go.RowKit
open Ln



end Go.Proofs.YthlnbomapfjphaaDoor
