/-
  Package prime, walked: smallestFactor, isPrime, Is, Next; and the document's Prime by sixes.
-/
import Derived.Test.YtflepmmiaghhoaaSmall
import Derived.Test.YtflepmmiaghhoaaPrMath
namespace Go.Proofs.Ytflepmmiaghhoaa
open Go.RowKit
open Pr

theorem sq_le {d : Int} (h : 1001 ≤ d) : 1002001 ≤ d * d := by
  have h1 : 1001 * d ≤ d * d := Int.mul_le_mul_of_nonneg_right h (by omega)
  omega

theorem tmod_dvd {n d : Int} (h : n.tmod d = 0) : d ∣ n := Int.dvd_of_tmod_eq_zero h
theorem emod_dvd {n d : Int} (h : n % d = 0) : d ∣ n := Int.dvd_of_emod_eq_zero h






end Go.Proofs.Ytflepmmiaghhoaa
