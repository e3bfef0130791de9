/-
  CyclicBack, CyclicBurst, CyclicSums, CyclicOdd, walked for the landed code.
-/
import Derived.Test.YtlpnopliblaknaaCyFin
import Derived.Test.YtlpnopliblaknaaCyLaws2
namespace Go.Proofs.Ytlpnopliblaknaa
open Go.RowKit
open Ln Cy

theorem cyclicBack_walk (a : Option Addr) (la ca : Nat) (z : List Int) (b : Option Addr) (lb cb : Nat) (y : List Int) (w : World) (ha : IsInts .u8 1 w a la ca z) (hb : IsInts .u8 1 w b lb cb y) :
    Calls Try.prog 3 #[.slice a la ca, .slice b lb cb] w (Says (.bool true) w) :=
  cyclicBack_of cyPutC cyGetC a la ca z b lb cb y w ha hb

theorem cyclicBurst_walk (a : Option Addr) (la ca : Nat) (z : List Int) (b : Option Addr) (lb cb : Nat) (y : List Int) (c : Option Addr) (lc cc : Nat) (x : List Int) (at' : Int) (w : World) (ha : IsInts .u8 1 w a la ca z) (hb : IsInts .u8 1 w b lb cb y) (hc : IsInts .u8 1 w c lc cc x) (hd : I64 at') :
    Calls Try.prog 4 #[.slice a la ca, .slice b lb cb, .slice c lc cc, .int .i64 at'] w (Says (.bool true) w) :=
  cyclicBurst_of cyPutC cyGetC a la ca z b lb cb y c lc cc x at' w ha hb hc hd

theorem cyclicSums_walk (a : Option Addr) (la ca : Nat) (z : List Int) (b : Option Addr) (lb cb : Nat) (y : List Int) (c : Option Addr) (lc cc : Nat) (x : List Int) (w : World) (ha : IsInts .u8 1 w a la ca z) (hb : IsInts .u8 1 w b lb cb y) (hc : IsInts .u8 1 w c lc cc x) :
    Calls Try.prog 5 #[.slice a la ca, .slice b lb cb, .slice c lc cc] w (Says (.bool true) w) :=
  cyclicSums_of cyPutC a la ca z b lb cb y c lc cc x w ha hb hc

theorem cyclicOdd_walk (a : Option Addr) (la ca : Nat) (z : List Int) (b : Option Addr) (lb cb : Nat) (y : List Int) (c : Option Addr) (lc cc : Nat) (x : List Int) (w : World) (ha : IsInts .u8 1 w a la ca z) (hb : IsInts .u8 1 w b lb cb y) (hc : IsInts .u8 1 w c lc cc x) :
    Calls Try.prog 6 #[.slice a la ca, .slice b lb cb, .slice c lc cc] w (Says (.bool true) w) :=
  cyclicOdd_of cyPutC cyGetC a la ca z b lb cb y c lc cc x w ha hb hc

end Go.Proofs.Ytlpnopliblaknaa
