/-
  The laws of stage 15, walked for the landed code.
-/
import Derived.Test.YteaehaebhpcfeaaGdCodeP
import Derived.Test.YteaehaebhpcfeaaGmd
import Derived.Test.YteaehaebhpcfeaaGdVander
import Derived.Test.YteaehaebhpcfeaaGdValues
import Derived.Test.YteaehaebhpcfeaaGdCauchyW
import Derived.Test.YteaehaebhpcfeaaGdSays
namespace Go.Proofs.Yteaehaebhpcfeaa
open Go.RowKit
open Gf

theorem gridVander_walk (a : Option Addr) (la ca : Nat) (z : List Int) (w : World) (ha : IsInts .u8 1 w a la ca z) :
    Calls Try.prog 4 #[.slice a la ca] w (Says (.bool true) w) :=
  gridVander_of powersC detC rankC a la ca z w ha

theorem gridValues_walk (a : Option Addr) (la ca : Nat) (z : List Int) (b : Option Addr) (lb cb : Nat) (y : List Int) (w : World) (ha : IsInts .u8 1 w a la ca z) (hb : IsInts .u8 1 w b lb cb y) :
    Calls Try.prog 6 #[.slice a la ca, .slice b lb cb] w (Says (.bool true) w) :=
  gridValues_of powersC mulC a la ca z b lb cb y w ha hb

theorem gridCauchy_walk (a : Option Addr) (la ca : Nat) (z : List Int) (b : Option Addr) (lb cb : Nat) (y : List Int) (p q : Int) (w : World) (ha : IsInts .u8 1 w a la ca z) (hb : IsInts .u8 1 w b lb cb y) (hp : 0 ≤ p ∧ p ≤ 65535) (hq : 0 ≤ q ∧ q ≤ 65535) :
    Calls Try.prog 5 #[.slice a la ca, .slice b lb cb, .int .u16 p, .int .u16 q] w (Says (.bool true) w) := by
  obtain ⟨P, rfl⟩ : ∃ P : Nat, p = (P : Int) := ⟨p.toNat, by omega⟩
  obtain ⟨Q, rfl⟩ : ∃ Q : Nat, q = (Q : Int) := ⟨q.toNat, by omega⟩
  exact gridCauchy_of crossC detC rankC a la ca z b lb cb y P Q w ha hb (by omega) (by omega)

theorem gridSays_walk (a : Option Addr) (la ca : Nat) (y : List Int) (b : Option Addr) (lb cb : Nat) (z : List Int) (n : Int) (w : World) (ha : IsInts .u8 1 w a la ca y) (hb : IsInts .u8 1 w b lb cb z) (hn : I64 n) :
    Calls Try.prog 3 #[.slice a la ca, .slice b lb cb, .int .i64 n] w (Says (.bool true) w) :=
  gridSays_of powersC crossC a la ca y b lb cb z n w ha hb hn

end Go.Proofs.Yteaehaebhpcfeaa
