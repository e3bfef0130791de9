/-
  The laws of stage 22, walked for the landed code.
-/
import Derived.Test.YtgdfmmdjnifjeaaPqCodeC
import Derived.Test.YtgdfmmdjnifjeaaPqSums
import Derived.Test.YtgdfmmdjnifjeaaPqSaysB
namespace Go.Proofs.Ytgdfmmdjnifjeaa
open Go.RowKit
open Gf By Pq

theorem pairSums_walk (a : Option Addr) (la ca : Nat) (ss : List ByteArray) (b : Option Addr) (lb cb : Nat) (tt : List ByteArray) (w : World) (ha : IsStrs w a la ca ss) (hb : IsStrs w b lb cb tt) :
    Calls Try.prog 5 #[.slice a la ca, .slice b lb cb] w (Says (.bool true) w) :=
  pairSums_of prPutC a la ca ss b lb cb tt w ha hb

theorem pairBack_walk (a : Option Addr) (la ca : Nat) (ss : List ByteArray) (i k : Int) (W : ByteArray) (w : World) (ha : IsStrs w a la ca ss) (hi : I64 i) (hk : I64 k) (hW : W.size ≤ maxLen) :
    Calls Try.prog 4 #[.slice a la ca, .int .i64 i, .int .i64 k, .string W] w (Says (.bool true) w) :=
  pairBack_of prPutC prMendC a la ca ss i k W w ha hi hk hW

theorem pairTells_walk (a : Option Addr) (la ca : Nat) (ss : List ByteArray) (i k at' by' : Int) (w : World) (ha : IsStrs w a la ca ss) (hi : I64 i) (hk : I64 k) (ht : I64 at') (hby : 0 ≤ by' ∧ by' ≤ 255) :
    Calls Try.prog 6 #[.slice a la ca, .int .i64 i, .int .i64 k, .int .i64 at', .int .u8 by'] w (Says (.bool true) w) :=
  pairTells_of prPutC prMendC a la ca ss i k at' by' w ha hi hk ht hby

theorem pairSays_walk (a : Option Addr) (la ca : Nat) (ss : List ByteArray) (p q : ByteArray) (b : Option Addr) (lb cb : Nat) (z : List Int) (w : World) (ha : IsStrs w a la ca ss) (hp : p.size ≤ maxLen) (hq : q.size ≤ maxLen) (hb : IsInts .i64 8 w b lb cb z) :
    Calls Try.prog 3 #[.slice a la ca, .string p, .string q, .slice b lb cb] w (Says (.bool true) w) :=
  pairSays_of prPutC prMendC a la ca ss p q b lb cb z w ha hp hq hb

end Go.Proofs.Ytgdfmmdjnifjeaa
