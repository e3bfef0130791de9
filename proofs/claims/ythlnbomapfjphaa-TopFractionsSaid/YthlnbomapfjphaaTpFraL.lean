/-
  TopFractions at the landed code.
-/
import Derived.Test.YthlnbomapfjphaaReCode
import Derived.Test.YthlnbomapfjphaaTpFrac
namespace Go.Proofs.Ythlnbomapfjphaa
open Go.RowKit

theorem topFractions_walk (p q most : Int) (w : World) (hp : I64 p) (hq : I64 q) (hm : I64 most) : Calls Try.prog 11 #[.int .i64 p, .int .i64 q, .int .i64 most] w (Says (.bool true) w) :=
  topFractions_of rePutC p q most w hp hq hm

end Go.Proofs.Ythlnbomapfjphaa
