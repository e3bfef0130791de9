/-
  PrimeWilson, PrimeEuclid, PrimeNext, walked.
-/
import Derived.Test.YtcgcjecmlnohbaaPrWalks
import Derived.Test.YtcgcjecmlnohbaaPrWil
namespace Go.Proofs.Ytcgcjecmlnohbaa
open Go.RowKit
open Pr

set_option maxHeartbeats 1000000 in
theorem primeWilson_walk (n : Int) (w : World) (_ : I64 n) : Calls Try.prog 4 #[.int .i64 n] w (Says (.bool true) w) := by
  obtain ⟨m, hm⟩ : ∃ m : Nat, (m : Int) = 2 + n % 2000 := ⟨(2 + n % 2000).toNat, by omega⟩
  have hm2 : 2 ≤ m := by omega
  have hm3 : m ≤ 2001 := by omega
  have HW := Lib.hid (wilson (n := m) hm2 (by omega))
  have hm' : 2 + n % 2000 = (m : Int) := hm.symm
  clear hm
  go_enter Try.func4, Try.ntmps4
  go_wp2_with (first
    | (go_at_call 12; refine (primes_yes _).mono ?_; rintro e w1 ⟨rfl, hw1⟩)
    | (go_at_call 13; refine (within_any _ _ _ (by omega) (by omega)).mono ?_; rintro e w' ⟨rfl, rfl⟩)
    | (go_at_call 8; refine (is_ok _ _ (by omega) (by omega)).mono ?_; rintro e w2 ⟨rfl, hw2⟩))
  go_loopg [5, 6] (m - 2) (fun r v5 v6 wr => ∃ (x k : Nat), x ≤ 2001 ∧ 2 ≤ k ∧ k ≤ m ∧ Hid (wil m (m - k) k x = wil m (m - 2) 2 1) ∧ v5 = .int .i64 x ∧ v6 = .int .i64 k ∧ Hid (r = m - k) ∧ Ex w wr)
  case atStart => exact ⟨1, 2, by omega, by omega, by omega, Lib.hid rfl, rfl, rfl, Lib.hid rfl, (by repeat (first | assumption | exact Ex.refl _ | refine Ex.trans ?_ (by assumption)))⟩
  case round =>
    obtain ⟨x, k, hx, hk2, hk3, hW, rfl, rfl, hr, hw⟩ := hrel
    by_cases hlt : k < m
    · have hb := Eu.mul_le (a := (x : Int)) (b := (k : Int)) (A := 2001) (B := 2001) (by omega) (by omega) (by omega) (by omega)
      have hb1 := hb.1
      have hb2 : (x : Int) * k ≤ 4004001 := by omega
      clear hb
      go_wp2
      go_roundg (m - (k + 1))
      case measure => have := hr.out; omega
      case rel =>
        have hl := Nat.mod_lt (x * k) (y := m) (by omega)
        refine ⟨x * k % m, k + 1, by omega, by omega, by omega, Lib.hid ?_, ?_, by go_num, Lib.hid rfl, hw⟩
        · rw [← hW.out, show m - k = (m - (k + 1)) + 1 by omega, wil_succ]
        · simp
    · obtain rfl : k = m := by omega
      have hW := hW.out
      rw [Nat.sub_self] at hW
      have e : x = wil k (k - 2) 2 1 := hW
      have HX : Hid (x = wil k (k - 2) 2 1) := e
      clear e hW
      go_wp2
      go_ret
      refine ⟨?_, hw⟩
      have := HW.out
      rw [← HX.out] at this
      simp [this]

set_option maxHeartbeats 1000000 in
theorem primeEuclid_walk (p a b : Int) (w : World) (_ : I64 p) (_ : I64 a) (_ : I64 b) : Calls Try.prog 5 #[.int .i64 p, .int .i64 a, .int .i64 b] w (Says (.bool true) w) := by
  obtain ⟨P, hP⟩ : ∃ P : Int, p % 1000 = P := ⟨_, rfl⟩
  obtain ⟨A, hA⟩ : ∃ A : Int, a % 2001 - 1000 = A := ⟨_, rfl⟩
  obtain ⟨B, hB⟩ : ∃ B : Int, b % 2001 - 1000 = B := ⟨_, rfl⟩
  have b1 : 0 ≤ P := by omega
  have b2 : P < 1000 := by omega
  by_cases hp : Prm P
  · have hpb := (pb_iff P).mpr hp
    have b3 : 2 ≤ P := hp.1
    have hab := Eu.abs_mul_le (B := 1000) (C := 1000) (a := A) (b := B) (by omega) (by omega) (by omega) (by omega)
    obtain ⟨c1, c2⟩ := hab
    by_cases h : (A * B).tmod P = 0
    · have h0 : ((A * B).tmod P != 0) = false := by simp [h]
      rcases euclid hp (tmod_dvd h) with h1 | h1
      · have h2 := Int.tmod_eq_zero_of_dvd h1
        have h3 : (A.tmod P == 0) = true := by simp [h2]
        have HP := Lib.hid hp
        clear hp h1
        go_enter Try.func5, Try.ntmps5
        go_wp2_with (first
          | (go_at_call 12; refine (primes_yes _).mono ?_; rintro e w1 ⟨rfl, hw1⟩)
          | (go_at_call 13; refine (within_any _ _ _ (by omega) (by omega)).mono ?_; rintro e w' ⟨rfl, rfl⟩)
          | (go_at_call 14; refine (small_any _ _).mono ?_; rintro e w' ⟨rfl, rfl⟩)
          | (go_at_call 8; refine (is_ok _ _ (by omega) (by omega)).mono ?_; rintro e w2 ⟨rfl, hw2⟩))
        go_ret
        exact ⟨by simp, (by repeat (first | assumption | exact Ex.refl _ | refine Ex.trans ?_ (by assumption)))⟩
      · have h2 := Int.tmod_eq_zero_of_dvd h1
        have h3 : (B.tmod P == 0) = true := by simp [h2]
        have HP := Lib.hid hp
        clear hp h1
        go_enter Try.func5, Try.ntmps5
        go_wp2_with (first
          | (go_at_call 12; refine (primes_yes _).mono ?_; rintro e w1 ⟨rfl, hw1⟩)
          | (go_at_call 13; refine (within_any _ _ _ (by omega) (by omega)).mono ?_; rintro e w' ⟨rfl, rfl⟩)
          | (go_at_call 14; refine (small_any _ _).mono ?_; rintro e w' ⟨rfl, rfl⟩)
          | (go_at_call 8; refine (is_ok _ _ (by omega) (by omega)).mono ?_; rintro e w2 ⟨rfl, hw2⟩))
        all_goals go_ret
        all_goals exact ⟨by simp, (by repeat (first | assumption | exact Ex.refl _ | refine Ex.trans ?_ (by assumption)))⟩
    · have h0 : ((A * B).tmod P != 0) = true := by simp [h]
      have HP := Lib.hid hp
      clear hp
      go_enter Try.func5, Try.ntmps5
      go_wp2_with (first
        | (go_at_call 12; refine (primes_yes _).mono ?_; rintro e w1 ⟨rfl, hw1⟩)
        | (go_at_call 13; refine (within_any _ _ _ (by omega) (by omega)).mono ?_; rintro e w' ⟨rfl, rfl⟩)
        | (go_at_call 14; refine (small_any _ _).mono ?_; rintro e w' ⟨rfl, rfl⟩)
        | (go_at_call 8; refine (is_ok _ _ (by omega) (by omega)).mono ?_; rintro e w2 ⟨rfl, hw2⟩))
      go_ret
      exact ⟨by simp, (by repeat (first | assumption | exact Ex.refl _ | refine Ex.trans ?_ (by assumption)))⟩
  · have hpb := pb_no hp
    have HP := Lib.hid hp
    clear hp
    go_enter Try.func5, Try.ntmps5
    go_wp2_with (first
      | (go_at_call 12; refine (primes_yes _).mono ?_; rintro e w1 ⟨rfl, hw1⟩)
      | (go_at_call 13; refine (within_any _ _ _ (by omega) (by omega)).mono ?_; rintro e w' ⟨rfl, rfl⟩)
      | (go_at_call 14; refine (small_any _ _).mono ?_; rintro e w' ⟨rfl, rfl⟩)
      | (go_at_call 8; refine (is_ok _ _ (by omega) (by omega)).mono ?_; rintro e w2 ⟨rfl, hw2⟩))
    go_ret
    exact ⟨by simp, (by repeat (first | assumption | exact Ex.refl _ | refine Ex.trans ?_ (by assumption)))⟩

set_option maxHeartbeats 1000000 in
theorem primeNext_walk (n : Int) (w : World) (_ : I64 n) : Calls Try.prog 7 #[.int .i64 n] w (Says (.bool true) w) := by
  obtain ⟨m, hm⟩ : ∃ m : Int, 2 + n % 499999 = m := ⟨_, rfl⟩
  have b1 : 2 ≤ m := by omega
  have b2 : m ≤ 500000 := by omega
  obtain ⟨q, q1, q2, q3⟩ := bertrand (n := m) b1 (by omega)
  obtain ⟨p, hN, p1⟩ := next_some (n := m + 1) _ q rfl (by omega) q1
  have c1 : m < p := by have := hN.1; omega
  have c2 : p < 2 * m := by omega
  have hpb := (pb_iff p).mpr hN.2.1
  have HN := Lib.hid hN
  have HB : Hid (∀ k : Int, m + 1 ≤ k → k < p → pb k = false) := fun k h1 h2 => pb_no (hN.2.2 k h1 h2)
  clear hN q1 q2 q3 p1
  go_enter Try.func7, Try.ntmps7
  go_wp2_with (first
    | (go_at_call 12; refine (primes_yes _).mono ?_; rintro e w1 ⟨rfl, hw1⟩)
    | (go_at_call 13; refine (within_any _ _ _ (by omega) (by omega)).mono ?_; rintro e w' ⟨rfl, rfl⟩)
    | (go_at_call 9; (with_reducible refine (next_ok 90 97 _ (by omega) next_97 (by omega)).mono ?_); rintro e w0 ⟨rfl, hw0⟩)
    | (go_at_call 9; (with_reducible refine (next_ok (m + 1) p _ (by omega) HN.out (by omega)).mono ?_); rintro e w2 ⟨rfl, hw2⟩)
    | (go_at_call 8; refine (is_ok _ _ (by omega) (by omega)).mono ?_; rintro e w3 ⟨rfl, hw3⟩)
    | (go_at_call 16; refine (good_zeros 2 (by omega) _ rfl _ _).mono ?_; rintro e w4 ⟨rfl, hw4⟩))
  go_loopg [9] (p - (m + 1)).toNat (fun r v9 wr => ∃ k : Int, m + 1 ≤ k ∧ k ≤ p ∧ v9 = .int .i64 k ∧ Hid (r = (p - k).toNat) ∧ Ex w wr)
  case atStart => exact ⟨m + 1, by omega, by omega, rfl, Lib.hid rfl, (by repeat (first | assumption | exact Ex.refl _ | refine Ex.trans ?_ (by assumption)))⟩
  case round =>
    obtain ⟨k, k1, k2, rfl, hr, hw⟩ := hrel
    by_cases hlt : k < p
    · have hk := HB.out k k1 hlt
      go_wp2_with (
        (go_at_call 8; refine (is_ok _ _ (by omega) (by omega)).mono ?_; rintro e w5 ⟨rfl, hw5⟩))
      go_roundg (p - (k + 1)).toNat
      case measure => have := hr.out; omega
      case rel => exact ⟨k + 1, by omega, by omega, rfl, Lib.hid rfl, hw.trans hw5⟩
    · go_wp2
      go_ret
      exact ⟨rfl, hw⟩

end Go.Proofs.Ytcgcjecmlnohbaa
