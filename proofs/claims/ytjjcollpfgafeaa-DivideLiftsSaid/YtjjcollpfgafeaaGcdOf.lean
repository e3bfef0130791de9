/-
  The document's own road to the common divisor (STEIN): what GcdOf answers; Big.
-/
import Derived.Test.YtjjcollpfgafeaaEuMath
import Derived.Test.YtjjcollpfgafeaaLib
import Derived.Test.YtjjcollpfgafeaaBits
namespace Go.Proofs.Ytjjcollpfgafeaa
open Go.RowKit
open Eu

theorem pow_le2 {g t B : Nat} (h : 1 ≤ g) (hb : g * 2 ^ t ≤ B) (hB : B < 2 ^ 50) : t < 50 := by
  rcases Nat.lt_or_ge t 50 with h1 | h1
  · exact h1
  · have h2 : 2 ^ 50 ≤ 2 ^ t := Nat.pow_le_pow_right (by omega) h1
    have h3 : 1 * 2 ^ t ≤ g * 2 ^ t := Nat.mul_le_mul_right _ h
    omega

/-- Beyond ten to the ninth? -/
def bigB (x : Int) : Bool := decide (x < -1000000000) || decide (1000000000 < x)

theorem bigB_yes {x : Int} (h : x < -1000000000 ∨ 1000000000 < x) : bigB x = true := by unfold bigB; simp; omega
theorem bigB_no {x : Int} (h : -1000000000 ≤ x) (h' : x ≤ 1000000000) : bigB x = false := by unfold bigB; simp; omega

set_option maxHeartbeats 400000 in
theorem bigOne_any (x : Int) (w : World) : Calls Try.prog 40 #[.int .i64 x] w (Says (.bool (bigB x)) w) := by
  by_cases h1 : x < -1000000000
  · rw [bigB_yes (.inl h1)]
    go_enter Try.func40, Try.ntmps40
    go_wp2
    go_ret
    exact .same
  · by_cases h2 : 1000000000 < x
    · rw [bigB_yes (.inr h2)]
      go_enter Try.func40, Try.ntmps40
      go_wp2
      go_ret
      exact ⟨by simp, Ex.refl _⟩
    · rw [bigB_no (by omega) (by omega)]
      go_enter Try.func40, Try.ntmps40
      go_wp2
      go_ret
      exact ⟨by simp, Ex.refl _⟩

theorem entered_bigOne : Entered Try.prog 40 := fun _ _ => by kernel_rfl

set_option maxHeartbeats 400000 in
theorem big_any (xs : List Int) (a : Option Addr) (cap : Nat) (w : World) (hl : xs.length ≤ maxLen) (hr : Reads w .i64 a xs) :
    Calls Try.prog 21 #[.slice a xs.length cap] w (Says (.bool (xs.any bigB)) w) := by
  have HI := Lib.hid (ints_contains 40 #[] bigB xs a cap w hl hr entered_bigOne (fun x _ w2 _ => bigOne_any x w2))
  clear hr
  go_enter Try.func21, Try.ntmps21
  go_wp2_with ((go_at_call 39; refine (HI.out).mono ?_; rintro e w2 ⟨rfl, hw2⟩))
  go_ret
  exact ⟨rfl, hw2⟩

/-- Called on a row that has just been built. -/
theorem big_new (xs : List Int) (hn : xs.length ≤ 1000) (vs : Array Value) (h : vs = (xs.map (Value.int .i64)).toArray) (r : Bool) (hr : xs.any bigB = r) (n : Nat) (hl : n = xs.length) (T : TypeId) (w : World) :
    Calls Try.prog 21 #[.slice (some ⟨w.heap.size, 0, none⟩) n n] (w.alloc (.cells vs T)) (Says (.bool r) w) := by
  subst hr; subst hl
  exact (big_any xs _ _ _ (by unfold maxLen; omega) (reads_new .i64 xs vs h T w)).mono fun _ _ ⟨he, hx⟩ => ⟨he, ((Ex.refl w).alloc _).trans hx⟩

end Go.Proofs.Ytjjcollpfgafeaa
