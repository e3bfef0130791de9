/-
  The laws of stage 16, walked for the landed code.
-/
import Derived.Test.YtgmhbkfjabmkgaaLnDuC
import Derived.Test.YtgmhbkfjabmkgaaLnWtC
import Derived.Test.YtgmhbkfjabmkgaaLnDual
import Derived.Test.YtgmhbkfjabmkgaaLnSays
import Derived.Test.YtgmhbkfjabmkgaaLnKeep
import Derived.Test.YtgmhbkfjabmkgaaLnBds
import Derived.Test.YtgmhbkfjabmkgaaLnPk
import Derived.Test.YtgmhbkfjabmkgaaLnDus
import Derived.Test.YtgmhbkfjabmkgaaLnWil
namespace Go.Proofs.Ytgmhbkfjabmkgaa
open Go.RowKit

theorem linearDual_walk (n : Int) (a : Option Addr) (la ca : Nat) (z : List Int) (w : World) (hn : I64 n) (ha : IsInts .u16 2 w a la ca z) :
    Calls Try.prog 4 #[.int .i64 n, .slice a la ca] w (Says (.bool true) w) :=
  linearDual_of dualC n a la ca z w hn ha

theorem linearSays_walk (n : Int) (a : Option Addr) (la ca : Nat) (z : List Int) (w : World) (hn : I64 n) (ha : IsInts .u16 2 w a la ca z) :
    Calls Try.prog 3 #[.int .i64 n, .slice a la ca] w (Says (.bool true) w) :=
  linearSays_of lcheckC wordsC baseC weightsC farC n a la ca z w hn ha

theorem linearBounds_walk (n : Int) (a : Option Addr) (la ca : Nat) (z : List Int) (w : World) (hn : I64 n) (ha : IsInts .u16 2 w a la ca z) :
    Calls Try.prog 6 #[.int .i64 n, .slice a la ca] w (Says (.bool true) w) :=
  linearBounds_of farC wordsC baseC n a la ca z w hn ha

theorem linearPacked_walk (n : Int) (a : Option Addr) (la ca : Nat) (z : List Int) (w : World) (hn : I64 n) (ha : IsInts .u16 2 w a la ca z) :
    Calls Try.prog 7 #[.int .i64 n, .slice a la ca] w (Says (.bool true) w) :=
  linearPacked_of farC wordsC baseC n a la ca z w hn ha

theorem linearDuals_walk (n : Int) (a : Option Addr) (la ca : Nat) (z : List Int) (w : World) (hn : I64 n) (ha : IsInts .u16 2 w a la ca z) :
    Calls Try.prog 8 #[.int .i64 n, .slice a la ca] w (Says (.bool true) w) :=
  linearDuals_of dualC wordsC baseC n a la ca z w hn ha

theorem linearWilliams_walk (n : Int) (a : Option Addr) (la ca : Nat) (z : List Int) (w : World) (hn : I64 n) (ha : IsInts .u16 2 w a la ca z) :
    Calls Try.prog 9 #[.int .i64 n, .slice a la ca] w (Says (.bool true) w) :=
  linearWilliams_of weightsC dualC wordsC baseC n a la ca z w hn ha

theorem linearClosed_walk (n : Int) (a : Option Addr) (la ca : Nat) (z : List Int) (i k : Int) (w : World) (hn : I64 n) (ha : IsInts .u16 2 w a la ca z) (_ : I64 i) (_ : I64 k) :
    Calls Try.prog 5 #[.int .i64 n, .slice a la ca, .int .i64 i, .int .i64 k] w (Says (.bool true) w) :=
  linearClosed_of wordsC baseC n a la ca z i k w hn ha

end Go.Proofs.Ytgmhbkfjabmkgaa
