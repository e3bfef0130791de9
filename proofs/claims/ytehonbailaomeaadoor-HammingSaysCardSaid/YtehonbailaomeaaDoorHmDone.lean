/-
  The four laws of package hamming at the landed code.
-/
import Derived.Test.YtehonbailaomeaaDoorHmLaws
import Derived.Test.YtehonbailaomeaaDoorHmCode
namespace Go.Proofs.YtehonbailaomeaaDoor
open Go.RowKit

theorem hammingOne_walk (d at' : Int) (w : World) (hd : 0 ≤ d ∧ d ≤ 65535) (h2 : I64 at') (hT : HmT w) :
    Calls Tryd.prog 4 #[.int .u16 d, .int .i64 at'] w (Says (.bool true) w) := hammingOne_of putC getC d at' w hd h2 hT

theorem hammingFar_walk (a b : Int) (w : World) (ha : 0 ≤ a ∧ a ≤ 65535) (hb : 0 ≤ b ∧ b ≤ 65535) (hT : HmT w) :
    Calls Tryd.prog 5 #[.int .u16 a, .int .u16 b] w (Says (.bool true) w) := hammingFar_of putC a b w ha hb hT

theorem hammingAll_walk (v : Int) (w : World) (hv : 0 ≤ v ∧ v ≤ 65535) (hT : HmT w) :
    Calls Tryd.prog 6 #[.int .u16 v] w (Says (.bool true) w) := hammingAll_of putC getC v w hv hT

theorem hammingSays_walk (d v : Int) (w : World) (hd : 0 ≤ d ∧ d ≤ 65535) (hv : 0 ≤ v ∧ v ≤ 65535) (hT : HmT w) :
    Calls Tryd.prog 3 #[.int .u16 d, .int .u16 v] w (Says (.bool true) w) := hammingSays_of putC getC d v w hd hv hT

end Go.Proofs.YtehonbailaomeaaDoor
