/-
  slices.Equal, Index and Contains at words of sixteen bits.
-/
import Derived.Test.YthlnbomapfjphaaDoorGro
namespace Go.Proofs.YthlnbomapfjphaaDoor
open Go.RowKit






end Go.Proofs.YthlnbomapfjphaaDoor
