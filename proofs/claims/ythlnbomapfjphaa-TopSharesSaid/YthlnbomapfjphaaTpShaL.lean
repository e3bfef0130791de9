/-
  TopShares at the landed code.
-/
import Derived.Test.YthlnbomapfjphaaReCode
import Derived.Test.YthlnbomapfjphaaTpSha
namespace Go.Proofs.Ythlnbomapfjphaa
open Go.RowKit

theorem topShares_walk (n s : Int) (a : Option Addr) (la ca : Nat) (z : List Int) (x : Int) (w : World) (hn : I64 n) (hs : I64 s) (ha : IsInts .i64 8 w a la ca z) (hx : I64 x) :
    Calls Try.prog 10 #[.int .i64 n, .int .i64 s, .slice a la ca, .int .i64 x] w (Says (.bool true) w) :=
  topShares_of rePutC n s a la ca z x w hn hs ha hx

end Go.Proofs.Ythlnbomapfjphaa
