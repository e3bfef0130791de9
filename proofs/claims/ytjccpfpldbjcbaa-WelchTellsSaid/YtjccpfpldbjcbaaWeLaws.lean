/-
  The laws of stage 20, walked.
-/
import Derived.Test.YtjccpfpldbjcbaaGwl
import Derived.Test.YtjccpfpldbjcbaaWeBack
import Derived.Test.YtjccpfpldbjcbaaTpRows
import Derived.Test.YtjccpfpldbjcbaaGmd
namespace Go.Proofs.Ytjccpfpldbjcbaa
open Go.RowKit
open Gf

theorem welchSays_walk (a : Option Addr) (la ca : Nat) (z : List Int) (k : Int) (w : World) (ha : IsInts .u8 1 w a la ca z) (hk : I64 k) :
    Calls Try.prog 3 #[.slice a la ca, .int .i64 k] w (Says (.bool true) w) := welchSays_of weCheckC weMendC a la ca z k w ha hk

theorem welchTells_walk (a : Option Addr) (la ca : Nat) (z : List Int) (k : Int) (w : World) (ha : IsInts .u8 1 w a la ca z) (hk : I64 k) :
    Calls Try.prog 5 #[.slice a la ca, .int .i64 k] w (Says (.bool true) w) := welchTells_of rePutC weMendC a la ca z k w ha hk

theorem welchBack_walk (a : Option Addr) (la ca : Nat) (z : List Int) (n : Int) (c : Option Addr) (lc cc : Nat) (y : List Int) (b : Option Addr) (lb cb : Nat) (x : List Int) (w : World)
    (ha : IsInts .u8 1 w a la ca z) (hn : I64 n) (hc : IsInts .i64 8 w c lc cc y) (hb : IsInts .u8 1 w b lb cb x) :
    Calls Try.prog 4 #[.slice a la ca, .int .i64 n, .slice c lc cc, .slice b lb cb] w (Says (.bool true) w) := welchBack_of rePutC weMendC a la ca z n c lc cc y b lb cb x w ha hn hc hb

theorem topRows_walk (a : Option Addr) (la ca : Nat) (z : List Int) (more lost at' by' : Int) (w : World)
    (ha : IsInts .u8 1 w a la ca z) (h1 : I64 more) (h2 : I64 lost) (h3 : I64 at') (hby : 0 ≤ by' ∧ by' ≤ 255) :
    Calls Try.prog 6 #[.slice a la ca, .int .i64 more, .int .i64 lost, .int .i64 at', .int .u8 by'] w (Says (.bool true) w) := topRows_of rePutC powersW solC rankC mendC weMendC a la ca z more lost at' by' w ha h1 h2 h3 hby

end Go.Proofs.Ytjccpfpldbjcbaa
