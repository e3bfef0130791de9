/-
  The small helpers of the statements: Rest, Within, small.
-/
import Derived.Test.YtfdhhiibhkepaaaEuMath
import Derived.Test.YtfdhhiibhkepaaaLib
namespace Go.Proofs.Ytfdhhiibhkepaaa
open Go.RowKit
open Eu

set_option maxHeartbeats 400000 in
theorem rest_any (n m : Int) (w : World) (hm : 0 < m) (hm' : m ≤ 4611686018427387904) :
    Calls Try.prog 41 #[.int .i64 n, .int .i64 m] w (fun e w' => e = .returned (.int .i64 (n % m)) ∧ w = w') := by
  have h3 := Int.tmod_lt_of_pos n hm
  have h4 := Int.lt_tmod_of_pos n hm
  by_cases h : n.tmod m < 0
  · have e1 : n.tmod m + m = n % m := by
      have := tmod_mod n m
      rw [Int.emod_eq_of_lt (by omega) (by omega)] at this
      exact this
    have H := Lib.hid e1
    clear e1
    go_enter Try.func41, Try.ntmps41
    go_wp2
    go_ret
    exact ⟨by simp [H.out], rfl⟩
  · have e1 : n.tmod m = n % m := by
      have := tmod_mod' n m
      rw [Int.emod_eq_of_lt (by omega) (by omega)] at this
      exact this
    have H := Lib.hid e1
    clear e1
    go_enter Try.func41, Try.ntmps41
    go_wp2
    go_ret
    exact ⟨by simp [H.out], rfl⟩

set_option maxHeartbeats 400000 in
theorem refmod_any (n m : Int) (w : World) (hm : 0 < m) (hm' : m ≤ 4611686018427387904) :
    Calls Try.prog 36 #[.int .i64 n, .int .i64 m] w (fun e w' => e = .returned (.int .i64 (n % m)) ∧ w = w') := by
  have h1 := Int.emod_nonneg n (b := m) (by omega)
  have h2 := Int.emod_lt_of_pos n hm
  go_enter Try.func36, Try.ntmps36
  go_wp2_with (
    (go_at_call 41; refine (rest_any _ _ _ (by omega) (by omega)).mono ?_; rintro e w' ⟨rfl, rfl⟩))
  go_ret
  exact ⟨rfl, rfl⟩

set_option maxHeartbeats 400000 in
theorem within_any (n m : Int) (w : World) (hm : 0 < m) (hm' : m ≤ 4611686018427387904) :
    Calls Try.prog 19 #[.int .i64 n, .int .i64 m] w (fun e w' => e = .returned (.int .i64 (n % m)) ∧ w = w') := by
  have h1 := Int.emod_nonneg n (b := m) (by omega)
  have h2 := Int.emod_lt_of_pos n hm
  go_enter Try.func19, Try.ntmps19
  go_wp2_with (
    (go_at_call 41; refine (rest_any _ _ _ (by omega) (by omega)).mono ?_; rintro e w' ⟨rfl, rfl⟩))
  go_ret
  exact ⟨rfl, rfl⟩


end Go.Proofs.Ytfdhhiibhkepaaa
