/-
  The document's powers.
-/
import Derived.Test.YtfdhhiibhkepaaaSmall
import Derived.Test.YtfdhhiibhkepaaaRsMath
namespace Go.Proofs.Ytfdhhiibhkepaaa
open Go.RowKit
open Eu Rs Pr

set_option maxHeartbeats 1000000 in
theorem powOf_any (a m : Int) (h1 : 1 ≤ m) (h2 : m ≤ 1000000) : ∀ (n : Nat), n ≤ 9223372036854775807 → ∀ w : World,
    Calls Try.prog 37 #[.int .i64 a, .int .i64 n, .int .i64 m] w (Says (.int .i64 (Pw a n m)) w) := by
  intro n
  induction n using Nat.strongRecOn with
  | ind n ih =>
    intro hn w
    by_cases h0 : n = 0
    · subst h0
      have HZ := Lib.hid (Pw_zero a m)
      go_enter Try.func37, Try.ntmps37
      go_wp2
      go_ret
      exact ⟨by simp [HZ.out], Ex.refl _⟩
    · have HI : Hid (∀ w, Calls Try.prog 37 #[.int .i64 a, .int .i64 ((n : Int) / 2), .int .i64 m] w (Says (.int .i64 (Pw a (n / 2) m)) w)) := Lib.hid (ih (n / 2) (by omega) (by omega))
      have p1 := Pw_nonneg a (n / 2) (m := m) (by omega)
      have p2 := Pw_lt a (n / 2) (m := m) (by omega)
      have c1 := Int.emod_nonneg a (b := m) (by omega)
      have c2 := Int.emod_lt_of_pos a (b := m) (by omega)
      have hnb : ((n : Int) == 0) = false := by simpa using h0
      have HE : Hid (n % 2 = 0 → Pw a (n / 2) m * Pw a (n / 2) m % m = Pw a n m) := Lib.hid (front_even a n m)
      have HO : Hid (n % 2 = 1 → Pw a (n / 2) m * Pw a (n / 2) m % m * (a % m) % m = Pw a n m) := Lib.hid (front_odd a n m)
      clear ih
      obtain ⟨X, hX⟩ : ∃ X, Pw a (n / 2) m = X := ⟨_, rfl⟩
      rw [hX] at HI p1 p2 HE HO
      clear hX
      have xx := Eu.mul_le (a := X) (b := X) (A := 1000000) (B := 1000000) (by omega) (by omega) (by omega) (by omega)
      obtain ⟨xx1, xx2⟩ := xx
      have q1 := Int.emod_nonneg (X * X) (b := m) (by omega)
      have q2 := Int.emod_lt_of_pos (X * X) (b := m) (by omega)
      have yy := Eu.mul_le (a := X * X % m) (b := a % m) (A := 1000000) (B := 1000000) (by omega) (by omega) (by omega) (by omega)
      obtain ⟨yy1, yy2⟩ := yy
      by_cases ho : (n : Int) % 2 = 1
      · have HR := Lib.hid (HO.out (by omega))
        go_enter Try.func37, Try.ntmps37
        go_wp2_with (first
          | (go_at_call 37; refine (HI.out _).mono ?_; rintro e w2 ⟨rfl, hw2⟩)
          | (go_at_call 36; refine (refmod_any _ _ _ (by omega) (by omega)).mono ?_; rintro e w' ⟨rfl, rfl⟩))
        go_ret
        exact ⟨by simp [HR.out], hw2⟩
      · have HR := Lib.hid (HE.out (by omega))
        have hob : ((n : Int) % 2 == 1) = false := by simpa using ho
        go_enter Try.func37, Try.ntmps37
        go_wp2_with (first
          | (go_at_call 37; refine (HI.out _).mono ?_; rintro e w2 ⟨rfl, hw2⟩)
          | (go_at_call 36; refine (refmod_any _ _ _ (by omega) (by omega)).mono ?_; rintro e w' ⟨rfl, rfl⟩))
        go_ret
        exact ⟨by simp [HR.out], hw2⟩

end Go.Proofs.Ytfdhhiibhkepaaa
