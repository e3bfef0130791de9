/-
  wholekeep: turned.
-/
import Derived.Test.YthlnbomapfjphaaTabMul
namespace Go.Proofs.Ythlnbomapfjphaa
open Go.RowKit
open Gf


end Go.Proofs.Ythlnbomapfjphaa
