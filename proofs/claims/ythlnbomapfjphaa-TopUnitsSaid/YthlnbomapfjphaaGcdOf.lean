/-
  The document's own road to the common divisor (STEIN): what GcdOf answers; Big.
-/
import Derived.Test.YthlnbomapfjphaaGma
import Derived.Test.YthlnbomapfjphaaGro
import Derived.Test.YthlnbomapfjphaaBits
namespace Go.Proofs.Ythlnbomapfjphaa
open Go.RowKit
open Eu

theorem pow_le2 {g t B : Nat} (h : 1 ≤ g) (hb : g * 2 ^ t ≤ B) (hB : B < 2 ^ 50) : t < 50 := by
  rcases Nat.lt_or_ge t 50 with h1 | h1
  · exact h1
  · have h2 : 2 ^ 50 ≤ 2 ^ t := Nat.pow_le_pow_right (by omega) h1
    have h3 : 1 * 2 ^ t ≤ g * 2 ^ t := Nat.mul_le_mul_right _ h
    omega

/-- Beyond ten to the ninth? -/
def bigB (x : Int) : Bool := decide (x < -1000000000) || decide (1000000000 < x)

theorem bigB_yes {x : Int} (h : x < -1000000000 ∨ 1000000000 < x) : bigB x = true := by unfold bigB; simp; omega
theorem bigB_no {x : Int} (h : -1000000000 ≤ x) (h' : x ≤ 1000000000) : bigB x = false := by unfold bigB; simp; omega

end Go.Proofs.Ythlnbomapfjphaa
