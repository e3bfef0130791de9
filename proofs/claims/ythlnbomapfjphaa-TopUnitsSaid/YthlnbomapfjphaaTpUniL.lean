/-
  TopUnits at the landed code.
-/
import Derived.Test.YthlnbomapfjphaaReCode
import Derived.Test.YthlnbomapfjphaaTpUnits
namespace Go.Proofs.Ythlnbomapfjphaa
open Go.RowKit

theorem topUnits_walk (m n a : Int) (w : World) (hm : I64 m) (hn : I64 n) (ha : I64 a) : Calls Try.prog 9 #[.int .i64 m, .int .i64 n, .int .i64 a] w (Says (.bool true) w) :=
  topUnits_of rePutC m n a w hm hn ha

end Go.Proofs.Ythlnbomapfjphaa
