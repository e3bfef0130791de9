/-
  TablesOwn at the landed code.
-/
import Derived.Test.YthlnbomapfjphaaGre
import Derived.Test.YthlnbomapfjphaaTbOwn
import Derived.Test.YthlnbomapfjphaaTbOpen
import Derived.Test.YthlnbomapfjphaaGmd
namespace Go.Proofs.Ythlnbomapfjphaa
open Go.RowKit
open Gf

theorem tablesOwn_walk (a : Option Addr) (la ca : Nat) (m : List (List Int)) (b : Option Addr) (lb cb : Nat) (k : List (List Int)) (d : Option Addr) (ld cd : Nat) (y : List Int) (n : Int) (w : World)
    (ha : IsMat .u8 w a la ca m ∧ la ≤ 1048576 ∧ ∀ r ∈ m, r.length ≤ 1048576) (hb : IsMat .u8 w b lb cb k ∧ lb ≤ 1048576 ∧ ∀ r ∈ k, r.length ≤ 1048576) (hd : IsInts .u8 1 w d ld cd y ∧ ld ≤ 1048576) (hn : I64 n) :
    Calls Try.prog 8 #[.slice a la ca, .slice b lb cb, .slice d ld cd, .int .i64 n] w (Says (.bool true) w) :=
  tablesOwn_of detC rankC rePutC a la ca m b lb cb k d ld cd y n w ha.1 hb.1 hd.1 hn ha.2.1 hb.2.1 ha.2.2 hb.2.2 hd.2

end Go.Proofs.Ythlnbomapfjphaa
