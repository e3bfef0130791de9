/-
  The walks over package euclid: what Gcd, Lcm, Steps, Bezout answer.
-/
import Derived.Test.YtbomiohgdlcmdaaChecked
import Derived.Test.YtbomiohgdlcmdaaEuMath
import Derived.Test.YtbomiohgdlcmdaaBase
namespace Go.Proofs.Ytbomiohgdlcmdaa
open Go.RowKit
open Eu

set_option maxHeartbeats 400000 in
theorem inRange_yes (a : Int) (w : World) (h0 : -1000000000 ≤ a) (h1 : a ≤ 1000000000) :
    Calls Try.prog 29 #[.int .i64 a] w fun e w' => e = .returned (.bool true) ∧ w = w' := by
  go_enter Try.func29, Try.ntmps29
  go_wp2
  go_ret
  exact ⟨rfl, rfl⟩

set_option maxHeartbeats 400000 in
theorem inRange_no (a : Int) (w : World) (h : a < -1000000000 ∨ 1000000000 < a) :
    Calls Try.prog 29 #[.int .i64 a] w fun e w' => e = .returned (.bool false) ∧ w = w' := by
  rcases h with h | h
  · go_enter Try.func29, Try.ntmps29
    go_wp2
    go_ret
    exact ⟨rfl, rfl⟩
  · have h2 : -1000000000 ≤ a := by omega
    go_enter Try.func29, Try.ntmps29
    go_wp2
    go_ret
    exact ⟨by simp; omega, rfl⟩

set_option maxHeartbeats 400000 in
theorem abs_any (a : Int) (w : World) (h0 : -1000000000 ≤ a) (h1 : a ≤ 1000000000) :
    Calls Try.prog 30 #[.int .i64 a] w fun e w' => e = .returned (.int .i64 (a.natAbs : Int)) ∧ w = w' := by
  by_cases h : a < 0
  · go_enter Try.func30, Try.ntmps30
    go_wp2
    go_ret
    have e : -a = (a.natAbs : Int) := by omega
    exact ⟨by simp [e], rfl⟩
  · go_enter Try.func30, Try.ntmps30
    go_wp2
    go_ret
    have e : a = (a.natAbs : Int) := by omega
    exact ⟨by simp [← e], rfl⟩

set_option maxHeartbeats 400000 in
theorem gcd_ok (a b : Int) (w : World) (ha : -1000000000 ≤ a) (ha' : a ≤ 1000000000) (hb : -1000000000 ≤ b) (hb' : b ≤ 1000000000) :
    Calls Try.prog 18 #[.int .i64 a, .int .i64 b] w (Says (.tuple #[.int .i64 (G a b), .int .i64 0]) w) := by
  go_enter Try.func18, Try.ntmps18
  go_wp2_with (first
    | (go_at_call 29; refine (inRange_yes _ _ (by omega) (by omega)).mono ?_; rintro e w' ⟨rfl, rfl⟩)
    | (go_at_call 30; refine (abs_any _ _ (by omega) (by omega)).mono ?_; rintro e w' ⟨rfl, rfl⟩))
  go_loopg [0, 1] (b.natAbs) (fun k v0 v1 wr => ∃ (x y : Int), 0 ≤ x ∧ x ≤ 1000000000 ∧ 0 ≤ y ∧ y ≤ 1000000000 ∧ Hid (G x y = G a b) ∧ v0 = .int .i64 x ∧ v1 = .int .i64 y ∧ Hid (k = y.toNat) ∧ Ex w wr)
  case atStart => exact ⟨_, _, by omega, by omega, by omega, by omega, Lib.hid (G_natAbs a b), rfl, rfl, Lib.hid (by simp), Ex.refl _⟩
  case round =>
    obtain ⟨x, y, hx0, hx1, hy0, hy1, hG, rfl, rfl, hk, hw⟩ := hrel
    by_cases hy : y = 0
    · subst hy
      go_wp2
      go_ret2
      have := hG.out
      rw [G_zero x hx0] at this
      exact ⟨by simp [this], hw⟩
    · go_wp2
      refine wp_region_wo (by kernel_rfl) (by kernel_rfl) ?_
      repeat (go_big_quiet_step (fail))
      refine wpQuiet_nil ?_
      rintro _ ⟨⟨w2, hw2⟩, rfl⟩
      go_wp2
      have h1 := Int.emod_nonneg x hy
      have h2 := Int.emod_lt_of_pos x (b := y) (by omega)
      have hk := hk.out
      go_roundg (x % y).toNat
      case measure => omega
      case rel => exact ⟨y, x % y, hy0, hy1, h1, by omega, Lib.hid (by rw [G_step]; exact hG.out), rfl, rfl, Lib.hid rfl, hw.trans hw2⟩

/-- In the range of the package. -/
def Fit (a : Int) : Prop := -1000000000 ≤ a ∧ a ≤ 1000000000

set_option maxHeartbeats 400000 in
theorem gcd_no (a b : Int) (w : World) (h : ¬ (Fit a ∧ Fit b)) :
    Calls Try.prog 18 #[.int .i64 a, .int .i64 b] w (Says (.tuple #[.int .i64 0, .int .i64 1]) w) := by
  by_cases ha : Fit a
  · have hb : b < -1000000000 ∨ 1000000000 < b := by unfold Fit at *; omega
    clear h
    unfold Fit at ha
    obtain ⟨ha, ha'⟩ := ha
    go_enter Try.func18, Try.ntmps18
    go_wp2_with (first
      | (go_at_call 29; refine (inRange_yes _ _ (by omega) (by omega)).mono ?_; rintro e w' ⟨rfl, rfl⟩)
      | (go_at_call 29; refine (inRange_no _ _ (by omega)).mono ?_; rintro e w' ⟨rfl, rfl⟩))
    go_ret2
    exact .same
  · have ha : a < -1000000000 ∨ 1000000000 < a := by unfold Fit at *; omega
    clear h
    go_enter Try.func18, Try.ntmps18
    go_wp2_with (
      (go_at_call 29; refine (inRange_no _ _ (by omega)).mono ?_; rintro e w' ⟨rfl, rfl⟩))
    go_ret2
    exact .same

/-- What Bezout says where b is not 0. -/
def BezoutSays (a b : Int) (w : World) (e : Ending) (w2 : World) : Prop :=
  ∃ x y : Int, 0 ≤ x ∧ x < (b.natAbs : Int) / G a b ∧ x * a + y * b = G a b ∧ Says (.tuple #[.int .i64 x, .int .i64 y, .int .i64 (G a b), .int .i64 0]) w e w2

end Go.Proofs.Ytbomiohgdlcmdaa
