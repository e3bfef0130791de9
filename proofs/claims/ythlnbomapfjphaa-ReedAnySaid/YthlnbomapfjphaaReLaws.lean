/-
  The five laws of package reed at the landed code.
-/
import Derived.Test.YthlnbomapfjphaaReCode
import Derived.Test.YthlnbomapfjphaaReSays
import Derived.Test.YthlnbomapfjphaaReWrong
namespace Go.Proofs.Ythlnbomapfjphaa
open Go.RowKit
open Gf

theorem reedSays_walk (a : Option Addr) (la ca : Nat) (z : List Int) (n : Int) (b : Option Addr) (lb cb : Nat) (H : Nat → Bool) (B : Nat → Nat) (k : Int) (w : World) (ha : IsInts .u8 1 w a la ca z) (hn : I64 n) (hb : IsCels w b lb cb H B) (hk : I64 k) :
    Calls Try.prog 3 #[.slice a la ca, .int .i64 n, .slice b lb cb, .int .i64 k] w (Says (.bool true) w) :=
  reedSays_of rePutC mendC reCheckC a la ca z n b lb cb H B k w ha hn hb hk

theorem reedAny_walk (a : Option Addr) (la ca : Nat) (z : List Int) (n s : Int) (w : World) (ha : IsInts .u8 1 w a la ca z) (hn : I64 n) (hs : 0 ≤ s ∧ s ≤ 4294967295) :
    Calls Try.prog 4 #[.slice a la ca, .int .i64 n, .int .u32 s] w (Says (.bool true) w) :=
  reedAny_of rePutC mendC a la ca z n s w ha hn hs

theorem reedFar_walk (a : Option Addr) (la ca : Nat) (z : List Int) (b : Option Addr) (lb cb : Nat) (y : List Int) (n : Int) (w : World) (ha : IsInts .u8 1 w a la ca z) (hb : IsInts .u8 1 w b lb cb y) (hn : I64 n) :
    Calls Try.prog 5 #[.slice a la ca, .slice b lb cb, .int .i64 n] w (Says (.bool true) w) :=
  reedFar_of rePutC a la ca z b lb cb y n w ha hb hn

theorem reedSums_walk (a : Option Addr) (la ca : Nat) (z : List Int) (b : Option Addr) (lb cb : Nat) (y : List Int) (n : Int) (by' : Int) (w : World) (ha : IsInts .u8 1 w a la ca z) (hb : IsInts .u8 1 w b lb cb y) (hn : I64 n) (hby : 0 ≤ by' ∧ by' ≤ 255) :
    Calls Try.prog 6 #[.slice a la ca, .slice b lb cb, .int .i64 n, .int .u8 by'] w (Says (.bool true) w) :=
  reedSums_of rePutC a la ca z b lb cb y n by' w ha hb hn hby

theorem reedWrong_walk (a : Option Addr) (la ca : Nat) (z : List Int) (n at' by' : Int) (w : World) (ha : IsInts .u8 1 w a la ca z) (hn : I64 n) (hat : I64 at') (hby : 0 ≤ by' ∧ by' ≤ 255) :
    Calls Try.prog 7 #[.slice a la ca, .int .i64 n, .int .i64 at', .int .u8 by'] w (Says (.bool true) w) :=
  reedWrong_of rePutC mendC a la ca z n at' by' w ha hn hat hby

end Go.Proofs.Ythlnbomapfjphaa
