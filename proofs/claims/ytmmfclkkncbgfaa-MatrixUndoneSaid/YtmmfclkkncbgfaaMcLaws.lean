/-
  The laws of stage 14, walked for the landed code.
-/
import Derived.Test.YtmmfclkkncbgfaaMcSol
import Derived.Test.YtmmfclkkncbgfaaMatTimes
import Derived.Test.YtmmfclkkncbgfaaMatBinet
import Derived.Test.YtmmfclkkncbgfaaMatRanks
import Derived.Test.YtmmfclkkncbgfaaMatCap
import Derived.Test.YtmmfclkkncbgfaaMatSays
namespace Go.Proofs.Ytmmfclkkncbgfaa
open Go.RowKit
open Gf

theorem matrixTimes_walk (a : Option Addr) (la ca : Nat) (m : List (List Int)) (b : Option Addr) (lb cb : Nat) (n : List (List Int)) (c : Option Addr) (lc cc : Nat) (o : List (List Int)) (w : World) (ha : IsMat .u8 w a la ca m) (hb : IsMat .u8 w b lb cb n) (hc : IsMat .u8 w c lc cc o) :
    Calls Try.prog 5 #[.slice a la ca, .slice b lb cb, .slice c lc cc] w (Says (.bool true) w) :=
  matrixTimes_of mulC a la ca m b lb cb n c lc cc o w ha hb hc

theorem matrixBinet_walk (a : Option Addr) (la ca : Nat) (m : List (List Int)) (b : Option Addr) (lb cb : Nat) (n : List (List Int)) (w : World) (ha : IsMat .u8 w a la ca m) (hb : IsMat .u8 w b lb cb n) :
    Calls Try.prog 6 #[.slice a la ca, .slice b lb cb] w (Says (.bool true) w) :=
  matrixBinet_of mulC detC rankC a la ca m b lb cb n w ha hb

theorem matrixRanks_walk (a : Option Addr) (la ca : Nat) (m : List (List Int)) (b : Option Addr) (lb cb : Nat) (n : List (List Int)) (w : World) (ha : IsMat .u8 w a la ca m) (hb : IsMat .u8 w b lb cb n) :
    Calls Try.prog 7 #[.slice a la ca, .slice b lb cb] w (Says (.bool true) w) :=
  matrixRanks_of mulC detC rankC a la ca m b lb cb n w ha hb

theorem matrixUndone_walk (a : Option Addr) (la ca : Nat) (m : List (List Int)) (b : Option Addr) (lb cb : Nat) (n : List (List Int)) (w : World) (ha : IsMat .u8 w a la ca m) (hb : IsMat .u8 w b lb cb n) :
    Calls Try.prog 8 #[.slice a la ca, .slice b lb cb] w (Says (.bool true) w) :=
  matrixUndone_of mulC detC invC a la ca m b lb cb n w ha hb

theorem matrixCapelli_walk (a : Option Addr) (la ca : Nat) (m : List (List Int)) (b : Option Addr) (lb cb : Nat) (z : List Int) (w : World) (ha : IsMat .u8 w a la ca m) (hb : IsInts .u8 1 w b lb cb z) :
    Calls Try.prog 9 #[.slice a la ca, .slice b lb cb] w (Says (.bool true) w) :=
  matrixCapelli_of mulC detC rankC solC a la ca m b lb cb z w ha hb

theorem matrixSays_walk (a : Option Addr) (la ca : Nat) (m : List (List Int)) (b : Option Addr) (lb cb : Nat) (n : List (List Int)) (w : World) (ha : IsMat .u8 w a la ca m) (hb : IsMat .u8 w b lb cb n) :
    Calls Try.prog 3 #[.slice a la ca, .slice b lb cb] w (Says (.bool true) w) :=
  matrixSays_of mulC detC rankC checkC a la ca m b lb cb n w ha hb

theorem matrixSolves_walk (a : Option Addr) (la ca : Nat) (m : List (List Int)) (b : Option Addr) (lb cb : Nat) (z : List Int) (w : World) (ha : IsMat .u8 w a la ca m) (hb : IsInts .u8 1 w b lb cb z) :
    Calls Try.prog 4 #[.slice a la ca, .slice b lb cb] w (Says (.bool true) w) :=
  matrixSolves_of invC solC a la ca m b lb cb z w ha hb

end Go.Proofs.Ytmmfclkkncbgfaa
