/-
  TopPrimes at the landed code.
-/
import Derived.Test.YthlnbomapfjphaaDoorReCode
import Derived.Test.YthlnbomapfjphaaDoorTpPrim
namespace Go.Proofs.YthlnbomapfjphaaDoor
open Go.RowKit

theorem topPrimes_walk (n a : Int) (w : World) (hn : I64 n) (ha : I64 a) (hT : Tab w) : Calls Tryd.prog 3 #[.int .i64 n, .int .i64 a] w (Says (.bool true) w) :=
  topPrimes_of rePutC n a w hn ha hT

end Go.Proofs.YthlnbomapfjphaaDoor
