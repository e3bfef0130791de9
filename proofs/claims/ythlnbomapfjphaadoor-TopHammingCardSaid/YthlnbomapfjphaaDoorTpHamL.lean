/-
  TopHamming at the landed code.
-/
import Derived.Test.YthlnbomapfjphaaDoorGre
import Derived.Test.YthlnbomapfjphaaDoorTpHam
import Derived.Test.YthlnbomapfjphaaDoorHmCode
import Derived.Test.YthlnbomapfjphaaDoorLnWtC
namespace Go.Proofs.YthlnbomapfjphaaDoor
open Go.RowKit

theorem topHamming_walk (a : Option Addr) (la ca : Nat) (z : List Int) (w : World) (ha : IsInts .u16 2 w a la ca z) (hT : HmT w) :
    Calls Tryd.prog 4 #[.slice a la ca] w (Says (.bool true) w) :=
  topHamming_of rePutC putC getC wordsC baseC farC a la ca z w ha hT

end Go.Proofs.YthlnbomapfjphaaDoor
