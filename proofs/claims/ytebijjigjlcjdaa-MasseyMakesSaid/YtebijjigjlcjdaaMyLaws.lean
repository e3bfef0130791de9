/-
  The laws of stage 21, walked.
-/
import Derived.Test.YtebijjigjlcjdaaMyCode
import Derived.Test.YtebijjigjlcjdaaMySays
import Derived.Test.YtebijjigjlcjdaaMyKeep2
import Derived.Test.YtebijjigjlcjdaaMyLeast
namespace Go.Proofs.Ytebijjigjlcjdaa
open Go.RowKit
open My

theorem masseySays_walk (a : Option Addr) (la ca : Nat) (z : List Int) (b : Option Addr) (lb cb : Nat) (y : List Int) (w : World) (ha : IsInts .u8 1 w a la ca z) (hb : IsInts .u8 1 w b lb cb y) :
    Calls Try.prog 3 #[.slice a la ca, .slice b lb cb] w (Says (.bool true) w) := masseySays_of myRuleC myNextC myCheckC a la ca z b lb cb y w ha hb

theorem masseyMakes_walk (a : Option Addr) (la ca : Nat) (z : List Int) (w : World) (ha : IsInts .u8 1 w a la ca z) :
    Calls Try.prog 4 #[.slice a la ca] w (Says (.bool true) w) := masseyMakes_of myRuleC myNextC a la ca z w ha

theorem masseyLeast_walk (a : Option Addr) (la ca : Nat) (z : List Int) (b : Option Addr) (lb cb : Nat) (y : List Int) (n : Int) (w : World) (ha : IsInts .u8 1 w a la ca z) (hb : IsInts .u8 1 w b lb cb y) (hn : I64 n) :
    Calls Try.prog 5 #[.slice a la ca, .slice b lb cb, .int .i64 n] w (Says (.bool true) w) := masseyLeast_of myRuleC myNextC a la ca z b lb cb y n w ha hb hn

theorem masseyGrows_walk (a : Option Addr) (la ca : Nat) (z : List Int) (n : Int) (w : World) (ha : IsInts .u8 1 w a la ca z) (hn : I64 n) :
    Calls Try.prog 6 #[.slice a la ca, .int .i64 n] w (Says (.bool true) w) := masseyGrows_of myRuleC myNextC a la ca z n w ha hn

end Go.Proofs.Ytebijjigjlcjdaa
