/-
  TopBytes at the landed code.
-/
import Derived.Test.YthlnbomapfjphaaGre
import Derived.Test.YthlnbomapfjphaaTpByt
import Derived.Test.YthlnbomapfjphaaGdCodeP
import Derived.Test.YthlnbomapfjphaaMcInv
namespace Go.Proofs.Ythlnbomapfjphaa
open Go.RowKit

theorem topBytes_walk (a : Option Addr) (la ca : Nat) (y : List Int) (b : Option Addr) (lb cb : Nat) (z : List Int) (c : Option Addr) (lc cc : Nat) (v : List Int) (w : World)
    (ha : IsInts .u8 1 w a la ca y) (hb : IsInts .u8 1 w b lb cb z) (hc : IsInts .u8 1 w c lc cc v) :
    Calls Try.prog 12 #[.slice a la ca, .slice b lb cb, .slice c lc cc] w (Says (.bool true) w) :=
  topBytes_of rePutC crossC mulC invC a la ca y b lb cb z c lc cc v w ha hb hc

end Go.Proofs.Ythlnbomapfjphaa
