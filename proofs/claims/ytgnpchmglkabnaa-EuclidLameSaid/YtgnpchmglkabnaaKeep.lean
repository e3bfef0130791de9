/-
  The small helpers of the statements: Rest, Within, small; gcds.
-/
import Derived.Test.YtgnpchmglkabnaaEuWalks
namespace Go.Proofs.Ytgnpchmglkabnaa
open Go.RowKit
open Eu

set_option maxHeartbeats 400000 in
theorem rest_any (n m : Int) (w : World) (hm : 0 < m) (hm' : m ≤ 4611686018427387904) :
    Calls Try.prog 27 #[.int .i64 n, .int .i64 m] w (fun e w' => e = .returned (.int .i64 (n % m)) ∧ w = w') := by
  have h3 := Int.tmod_lt_of_pos n hm
  have h4 := Int.lt_tmod_of_pos n hm
  by_cases h : n.tmod m < 0
  · have e1 : n.tmod m + m = n % m := by
      have := tmod_mod n m
      rw [Int.emod_eq_of_lt (by omega) (by omega)] at this
      exact this
    have H := Lib.hid e1
    clear e1
    go_enter Try.func27, Try.ntmps27
    go_wp2
    go_ret
    exact ⟨by simp [H.out], rfl⟩
  · have e1 : n.tmod m = n % m := by
      have := tmod_mod' n m
      rw [Int.emod_eq_of_lt (by omega) (by omega)] at this
      exact this
    have H := Lib.hid e1
    clear e1
    go_enter Try.func27, Try.ntmps27
    go_wp2
    go_ret
    exact ⟨by simp [H.out], rfl⟩

set_option maxHeartbeats 400000 in
theorem within_any (n m : Int) (w : World) (hm : 0 < m) (hm' : m ≤ 4611686018427387904) :
    Calls Try.prog 17 #[.int .i64 n, .int .i64 m] w (fun e w' => e = .returned (.int .i64 (n % m)) ∧ w = w') := by
  have h1 := Int.emod_nonneg n (b := m) (by omega)
  have h2 := Int.emod_lt_of_pos n hm
  go_enter Try.func17, Try.ntmps17
  go_wp2_with (
    (go_at_call 27; refine (rest_any _ _ _ (by omega) (by omega)).mono ?_; rintro e w' ⟨rfl, rfl⟩))
  go_ret
  exact ⟨rfl, rfl⟩

set_option maxHeartbeats 400000 in
theorem small_any (n : Int) (w : World) :
    Calls Try.prog 18 #[.int .i64 n] w (fun e w' => e = .returned (.int .i64 (n % 2001 - 1000)) ∧ w = w') := by
  go_enter Try.func18, Try.ntmps18
  go_wp2_with (
    (go_at_call 17; refine (within_any _ _ _ (by omega) (by omega)).mono ?_; rintro e w' ⟨rfl, rfl⟩))
  go_ret
  exact ⟨rfl, rfl⟩

theorem G_12_18 : G 12 18 = 6 := by decide

set_option maxHeartbeats 400000 in
theorem gcds_yes (w : World) : Calls Try.prog 16 #[] w (Says (.bool true) w) := by
  go_enter Try.func16, Try.ntmps16
  go_wp2_with (
    (go_at_call 10; refine (gcd_ok _ _ _ (by omega) (by omega) (by omega) (by omega)).mono ?_; rintro e w2 ⟨rfl, hw2⟩; rw [G_12_18]))
  go_ret
  exact ⟨rfl, hw2⟩

theorem tmod_zero {a g : Int} (h : g ∣ a) : a.tmod g = 0 := Int.tmod_eq_zero_of_dvd h

set_option maxHeartbeats 400000 in
theorem euclidDivides_walk (a b d x y : Int) (w : World) (_ : I64 a) (_ : I64 b) (_ : I64 d) (_ : I64 x) (_ : I64 y) :
    Calls Try.prog 5 #[.int .i64 a, .int .i64 b, .int .i64 d, .int .i64 x, .int .i64 y] w (Says (.bool true) w) := by
  by_cases hF : Fit a ∧ Fit b
  · obtain ⟨⟨ha1, ha2⟩, hb1, hb2⟩ := hF
    by_cases h0 : a ≠ 0 ∨ b ≠ 0
    · have hg := G_pos h0
      have hl := G_le 1000000000 ha1 ha2 hb1 hb2
      have hA := tmod_zero (G_dvd_left a b)
      have hB := tmod_zero (G_dvd_right a b)
      have hC := tmod_zero (Int.dvd_add (Int.dvd_mul_of_dvd_right (G_dvd_left a b) (b := x % 2001 - 1000)) (Int.dvd_mul_of_dvd_right (G_dvd_right a b) (b := y % 2001 - 1000)))
      have hxa := abs_mul_le (B := 1000) (C := 1000000000) (a := x % 2001 - 1000) (b := a) (by omega) (by omega) (by omega) (by omega)
      have hyb := abs_mul_le (B := 1000) (C := 1000000000) (a := y % 2001 - 1000) (b := b) (by omega) (by omega) (by omega) (by omega)
      have HD : Hid (a.tmod (1 + d % 1000) = 0 → b.tmod (1 + d % 1000) = 0 → G a b % (1 + d % 1000) = 0) := fun h1 h2 =>
        Int.emod_eq_zero_of_dvd (dvd_G (Int.dvd_of_tmod_eq_zero h1) (Int.dvd_of_tmod_eq_zero h2))
      clear h0
      go_enter Try.func5, Try.ntmps5
      go_wp2_with (first
        | (go_at_call 16; refine (gcds_yes _).mono ?_; rintro e w2 ⟨rfl, hw2⟩)
        | (go_at_call 10; refine (gcd_ok _ _ _ (by omega) (by omega) (by omega) (by omega)).mono ?_; rintro e w3 ⟨rfl, hw3⟩)
        | (go_at_call 17; refine (within_any _ _ _ (by omega) (by omega)).mono ?_; rintro e w' ⟨rfl, rfl⟩)
        | (go_at_call 18; refine (small_any _ _).mono ?_; rintro e w' ⟨rfl, rfl⟩))
      all_goals go_ret
      all_goals refine ⟨?_, hw2.trans hw3⟩
      all_goals first | rfl | exact absurd (HD.out ‹_› ‹_›) ‹_›
    · obtain rfl : a = 0 := by omega
      obtain rfl : b = 0 := by omega
      have hg := G_zero 0 (by omega)
      go_enter Try.func5, Try.ntmps5
      go_wp2_with (first
        | (go_at_call 16; refine (gcds_yes _).mono ?_; rintro e w2 ⟨rfl, hw2⟩)
        | (go_at_call 10; refine (gcd_ok _ _ _ (by omega) (by omega) (by omega) (by omega)).mono ?_; rintro e w3 ⟨rfl, hw3⟩))
      all_goals go_ret
      exact ⟨rfl, hw2.trans hw3⟩
  · go_enter Try.func5, Try.ntmps5
    go_wp2_with (first
        | (go_at_call 16; refine (gcds_yes _).mono ?_; rintro e w2 ⟨rfl, hw2⟩)
        | (go_at_call 10; refine (gcd_no _ _ _ hF).mono ?_; rintro e w3 ⟨rfl, hw3⟩))
    go_ret
    exact ⟨rfl, hw2.trans hw3⟩

end Go.Proofs.Ytgnpchmglkabnaa
