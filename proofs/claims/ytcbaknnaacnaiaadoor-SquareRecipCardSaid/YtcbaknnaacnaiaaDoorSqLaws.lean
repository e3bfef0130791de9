/-
  SquareEuler, SquareRecip, SquareTimes, SquareMinus, walked.
-/
import Derived.Test.YtcbaknnaacnaiaaDoorSqRootW
import Derived.Test.YtcbaknnaacnaiaaDoorMix
namespace Go.Proofs.YtcbaknnaacnaiaaDoor
open Go.RowKit
open Eu Pr Rs Sq

theorem prm_900007' : Prm 900007 := isP_prm (n := 900007) (by decide +kernel)

theorem next_below' {n : Int} (h : n ≤ 900007) : ∃ p, IsNext n p ∧ p ≤ 900007 := next_some _ 900007 rfl h prm_900007'

/-- The statements' odd number. -/
theorem odd_at (n : Int) (m : Int) (h : m = 999 ∨ m = 999999) : ∃ N : Nat, 1 ≤ N ∧ (N : Int) ≤ m ∧ N % 2 = 1 ∧ ∀ w, Calls Tryd.prog 20 #[.int .i64 n, .int .i64 m] w (Says (.int .i64 N) w) := by
  have h1 := Int.emod_nonneg n (b := m / 2) (by omega)
  have h2 := Int.emod_lt_of_pos n (show 0 < m / 2 by omega)
  refine ⟨(1 + 2 * (n % (m / 2))).toNat, by omega, by omega, by omega, fun w => ?_⟩
  have := odd_any n m w (by omega) (by omega)
  rw [Int.toNat_of_nonneg (by omega)]
  exact says_same this

theorem jac_i64 (a : Int) (n : Nat) : -1 ≤ jac a n ∧ jac a n ≤ 1 := by
  rcases jac_sign a n with h | h | h <;> omega

set_option maxHeartbeats 1000000 in
theorem squareEuler_walk (a n : Int) (w : World) (_ : I64 a) (_ : I64 n) (hT : Tab w) : Calls Tryd.prog 4 #[.int .i64 a, .int .i64 n] w (Says (.bool true) w) := by
  obtain ⟨N, hN⟩ : ∃ N, n % 900000 = N := ⟨_, rfl⟩
  have n0 : 0 ≤ N := by omega
  have n1 : N < 900000 := by omega
  obtain ⟨q, hq, hb⟩ := next_below' (n := 3 + N) (by omega)
  have HN := Lib.hid fun w => next_ok (3 + N) q w (by omega) hq (by omega)
  have q3 : 3 ≤ q := by have := hq.1; omega
  have hp := hq.2.1
  obtain ⟨p, rfl⟩ : ∃ p : Nat, q = p := ⟨q.toNat, by omega⟩
  obtain ⟨ho, h3⟩ := prm_odd hp (by omega)
  have HS := Lib.hid fun w => symbol_ok a p w (by omega) (by omega) (by omega)
  rw [Int.toNat_natCast, jac_prime hp (by omega)] at HS
  have HP := Lib.hid fun w => pow_ok a (((p : Int) - 1) / 2) p w (by omega) (by omega) (by omega) (by omega)
  have e1 : Pw a (((p : Int) - 1) / 2).toNat p = leg a p % p := by
    rw [show (((p : Int) - 1) / 2).toNat = p / 2 by omega]
    exact dvd_same.mp (leg_euler hp (by omega))
  rw [e1] at HP
  have ls := leg_sign a p
  have l0 := Int.emod_nonneg (leg a p) (b := (p : Int)) (by omega)
  have l1 := Int.emod_lt_of_pos (leg a p) (b := (p : Int)) (by omega)
  obtain ⟨s, hs⟩ : ∃ s, leg a p = s := ⟨_, rfl⟩
  rw [hs] at HS HP ls l0 l1
  have HSQ := Lib.hid (squares_yes w hT)
  have ge : (s % (p : Int) == s % (p : Int)) = true := by simp
  clear e1 hs hq hp hT ho
  go_enter Tryd.func4, Tryd.ntmps4
  go_wp2_with (first
    | (go_at_call 15; (with_reducible refine (HSQ.out).mono ?_); rintro e w1 ⟨rfl, hw1⟩)
    | (go_at_call 17; (with_reducible refine (within_any n _ _ (by omega) (by omega)).mono ?_); rintro e w' ⟨rfl, rfl⟩; rw [hN])
    | (go_at_call 16; (with_reducible refine (HN.out _).mono ?_); rintro e w2 ⟨rfl, hw2⟩)
    | (go_at_call 9; (with_reducible refine (HS.out _).mono ?_); rintro e w3 ⟨rfl, hw3⟩)
    | (go_at_call 18; (with_reducible refine (HP.out _).mono ?_); rintro e w4 ⟨rfl, hw4⟩)
    | (go_at_call 19; refine (good_zeros 3 (by omega) _ rfl _ _).mono ?_; rintro e w5 ⟨rfl, hw5⟩)
    | (go_at_call 17; (with_reducible refine (within_any s _ _ (by omega) (by omega)).mono ?_); rintro e w' ⟨rfl, rfl⟩))
  go_ret
  exact ⟨by simp, (by repeat (first | assumption | exact Ex.refl _ | refine Ex.trans ?_ (by assumption)))⟩

theorem gcd_nat (m n : Nat) : (G m n = 1 ↔ Int.gcd (n : Int) (m : Int) = 1) ∧ (G m n = 1 ↔ Int.gcd (m : Int) (n : Int) = 1) := by
  unfold G
  have := Int.gcd_comm (m : Int) n
  omega

set_option maxHeartbeats 1000000 in
theorem squareRecip_walk (m n : Int) (w : World) (_ : I64 m) (_ : I64 n) (hT : Tab w) : Calls Tryd.prog 5 #[.int .i64 m, .int .i64 n] w (Says (.bool true) w) := by
  obtain ⟨M, m1, m2, mo, hM⟩ := odd_at m 999999 (.inr rfl)
  obtain ⟨N, n1, n2, no, hN⟩ := odd_at n 999999 (.inr rfl)
  have HM := Lib.hid hM
  have HN := Lib.hid hN
  have HA := Lib.hid fun w => symbol_ok M N w (by omega) (by omega) (by omega)
  have HB := Lib.hid fun w => symbol_ok N M w (by omega) (by omega) (by omega)
  rw [Int.toNat_natCast] at HA HB
  have HG := Lib.hid fun w => gcd_ok M N w (by omega) (by omega) (by omega) (by omega)
  have ht := jac_turn mo no
  have hz := jac_zero (a := (M : Int)) (n := N)
  have hz2 := jac_zero (a := (N : Int)) (n := M)
  have hg := gcd_nat M N
  have sa := jac_i64 M N
  have sb := jac_i64 N M
  obtain ⟨a, ha⟩ : ∃ a, jac M N = a := ⟨_, rfl⟩
  obtain ⟨b, hb⟩ : ∃ b, jac N M = b := ⟨_, rfl⟩
  obtain ⟨g, hgg⟩ : ∃ g, G M N = g := ⟨_, rfl⟩
  rw [ha, hb] at ht
  rw [ha] at HA hz sa
  rw [hb] at HB hz2 sb
  rw [hgg] at HG hg
  have HSQ := Lib.hid (squares_yes w hT)
  obtain ⟨c, hc⟩ : ∃ c, -b = c := ⟨_, rfl⟩
  by_cases h1 : g = 1
  · have hne : a ≠ 0 := fun h => (hz.mp h) (hg.1.mp h1)
    have g1 : (g != 1) = false := by simp [h1]
    have g2 : (a != 0) = true := by simpa using hne
    by_cases m3 : (M : Int) % 4 = 3
    · have g3 : ((M : Int) % 4 == 3) = true := by simp [m3]
      by_cases n3 : (N : Int) % 4 = 3
      · have g4 : ((N : Int) % 4 == 3) = true := by simp [n3]
        have he : (a == c) = true := by
          rw [if_pos (by omega)] at ht
          simp; omega
        clear h1 hne
        clear ht hz hz2 hg ha hb hgg hM hN hT
        go_enter Tryd.func5, Tryd.ntmps5
        go_wp2_with (first
          | (go_at_call 15; (with_reducible refine (HSQ.out).mono ?_); rintro e w1 ⟨rfl, hw1⟩)
          | (go_at_call 20; (with_reducible refine (HM.out _).mono ?_); rintro e w2 ⟨rfl, hw2⟩)
          | (go_at_call 20; (with_reducible refine (HN.out _).mono ?_); rintro e w3 ⟨rfl, hw3⟩)
          | (go_at_call 9; (with_reducible refine (HA.out _).mono ?_); rintro e w4 ⟨rfl, hw4⟩)
          | (go_at_call 9; (with_reducible refine (HB.out _).mono ?_); rintro e w5 ⟨rfl, hw5⟩)
          | (go_at_call 21; (with_reducible refine (HG.out _).mono ?_); rintro e w6 ⟨rfl, hw6⟩)
          | (go_at_call 19; refine (good_zeros 3 (by omega) _ rfl _ _).mono ?_; rintro e w7 ⟨rfl, hw7⟩))
        go_ret
        exact ⟨by simp, (by repeat (first | assumption | exact Ex.refl _ | refine Ex.trans ?_ (by assumption)))⟩
      · have g4 : ((N : Int) % 4 == 3) = false := by simp [n3]
        have he : (a == b) = true := by
          rw [if_neg (by omega)] at ht
          simp; omega
        clear h1 hne
        clear ht hz hz2 hg ha hb hgg hM hN hT
        go_enter Tryd.func5, Tryd.ntmps5
        go_wp2_with (first
          | (go_at_call 15; (with_reducible refine (HSQ.out).mono ?_); rintro e w1 ⟨rfl, hw1⟩)
          | (go_at_call 20; (with_reducible refine (HM.out _).mono ?_); rintro e w2 ⟨rfl, hw2⟩)
          | (go_at_call 20; (with_reducible refine (HN.out _).mono ?_); rintro e w3 ⟨rfl, hw3⟩)
          | (go_at_call 9; (with_reducible refine (HA.out _).mono ?_); rintro e w4 ⟨rfl, hw4⟩)
          | (go_at_call 9; (with_reducible refine (HB.out _).mono ?_); rintro e w5 ⟨rfl, hw5⟩)
          | (go_at_call 21; (with_reducible refine (HG.out _).mono ?_); rintro e w6 ⟨rfl, hw6⟩)
          | (go_at_call 19; refine (good_zeros 3 (by omega) _ rfl _ _).mono ?_; rintro e w7 ⟨rfl, hw7⟩))
        go_ret
        exact ⟨by simp, (by repeat (first | assumption | exact Ex.refl _ | refine Ex.trans ?_ (by assumption)))⟩
    · have g3 : ((M : Int) % 4 == 3) = false := by simp [m3]
      have he : (a == b) = true := by
        rw [if_neg (by omega)] at ht
        simp; omega
      clear h1 hne
      clear ht hz hz2 hg ha hb hgg hM hN hT
      go_enter Tryd.func5, Tryd.ntmps5
      go_wp2_with (first
        | (go_at_call 15; (with_reducible refine (HSQ.out).mono ?_); rintro e w1 ⟨rfl, hw1⟩)
        | (go_at_call 20; (with_reducible refine (HM.out _).mono ?_); rintro e w2 ⟨rfl, hw2⟩)
        | (go_at_call 20; (with_reducible refine (HN.out _).mono ?_); rintro e w3 ⟨rfl, hw3⟩)
        | (go_at_call 9; (with_reducible refine (HA.out _).mono ?_); rintro e w4 ⟨rfl, hw4⟩)
        | (go_at_call 9; (with_reducible refine (HB.out _).mono ?_); rintro e w5 ⟨rfl, hw5⟩)
        | (go_at_call 21; (with_reducible refine (HG.out _).mono ?_); rintro e w6 ⟨rfl, hw6⟩)
        | (go_at_call 19; refine (good_zeros 3 (by omega) _ rfl _ _).mono ?_; rintro e w7 ⟨rfl, hw7⟩))
      go_ret
      exact ⟨by simp, (by repeat (first | assumption | exact Ex.refl _ | refine Ex.trans ?_ (by assumption)))⟩
  · have g1 : (g != 1) = true := by simpa using h1
    obtain rfl : a = 0 := hz.mpr fun h => h1 (hg.1.mpr h)
    obtain rfl : b = 0 := hz2.mpr fun h => h1 (hg.2.mpr h)
    clear h1
    clear ht hz hz2 hg ha hb hgg hM hN hT
    go_enter Tryd.func5, Tryd.ntmps5
    go_wp2_with (first
      | (go_at_call 15; (with_reducible refine (HSQ.out).mono ?_); rintro e w1 ⟨rfl, hw1⟩)
      | (go_at_call 20; (with_reducible refine (HM.out _).mono ?_); rintro e w2 ⟨rfl, hw2⟩)
      | (go_at_call 20; (with_reducible refine (HN.out _).mono ?_); rintro e w3 ⟨rfl, hw3⟩)
      | (go_at_call 9; (with_reducible refine (HA.out _).mono ?_); rintro e w4 ⟨rfl, hw4⟩)
      | (go_at_call 9; (with_reducible refine (HB.out _).mono ?_); rintro e w5 ⟨rfl, hw5⟩)
      | (go_at_call 21; (with_reducible refine (HG.out _).mono ?_); rintro e w6 ⟨rfl, hw6⟩)
      | (go_at_call 19; refine (good_zeros 3 (by omega) _ rfl _ _).mono ?_; rintro e w7 ⟨rfl, hw7⟩))
    go_ret
    exact ⟨by simp, (by repeat (first | assumption | exact Ex.refl _ | refine Ex.trans ?_ (by assumption)))⟩

set_option maxHeartbeats 1000000 in
theorem squareTimes_walk (a b m n : Int) (w : World) (_ : I64 a) (_ : I64 b) (_ : I64 m) (_ : I64 n) (hT : Tab w) : Calls Tryd.prog 6 #[.int .i64 a, .int .i64 b, .int .i64 m, .int .i64 n] w (Says (.bool true) w) := by
  obtain ⟨M, m1, m2, mo, hM⟩ := odd_at m 999 (.inl rfl)
  obtain ⟨N, n1, n2, no, hN⟩ := odd_at n 999 (.inl rfl)
  obtain ⟨A, hA⟩ : ∃ A : Int, a % 2001 - 1000 = A := ⟨_, rfl⟩
  obtain ⟨B, hB⟩ : ∃ B : Int, b % 2001 - 1000 = B := ⟨_, rfl⟩
  have HM := Lib.hid hM
  have HN := Lib.hid hN
  have hab := Eu.abs_mul_le (B := 1000) (C := 1000) (a := A) (b := B) (by omega) (by omega) (by omega) (by omega)
  obtain ⟨ab0, ab1⟩ := hab
  have hmn := Eu.mul_le (a := (M : Int)) (b := (N : Int)) (A := 999) (B := 999) (by omega) (by omega) (by omega) (by omega)
  obtain ⟨mn0, mn1⟩ := hmn
  have mno : ((M : Int) * N) % 2 = 1 := by rw [Int.mul_emod]; rw [show (M : Int) % 2 = 1 by omega, show (N : Int) % 2 = 1 by omega]; rfl
  have HX := Lib.hid fun w => symbol_ok A M w (by omega) (by omega) (by omega)
  have HY := Lib.hid fun w => symbol_ok B M w (by omega) (by omega) (by omega)
  have HZ := Lib.hid fun w => symbol_ok (A * B) M w (by omega) (by omega) (by omega)
  have HW := Lib.hid fun w => symbol_ok A N w (by omega) (by omega) (by omega)
  have HV := Lib.hid fun w => symbol_ok A ((M : Int) * N) w (by omega) (by omega) mno
  rw [Int.toNat_natCast] at HX HY HZ HW
  rw [show ((M : Int) * N).toNat = M * N by rw [← Int.natCast_mul, Int.toNat_natCast]] at HV
  rw [jac_mul mo] at HZ
  rw [jac_low mo no] at HV
  have sx := jac_i64 A M
  have sy := jac_i64 B M
  have sw := jac_i64 A N
  obtain ⟨x, hx⟩ : ∃ x, jac A M = x := ⟨_, rfl⟩
  obtain ⟨y, hy⟩ : ∃ y, jac B M = y := ⟨_, rfl⟩
  obtain ⟨v, hv⟩ : ∃ v, jac A N = v := ⟨_, rfl⟩
  rw [hx] at HX HZ HV sx
  rw [hy] at HY HZ sy
  rw [hv] at HW HV sw
  obtain ⟨sx0, sx1⟩ := sx
  obtain ⟨sy0, sy1⟩ := sy
  obtain ⟨sw0, sw1⟩ := sw
  have p1 := Eu.abs_mul_le (B := 1) (C := 1) (a := x) (b := y) (by omega) (by omega) (by omega) (by omega)
  have p2 := Eu.abs_mul_le (B := 1) (C := 1) (a := x) (b := v) (by omega) (by omega) (by omega) (by omega)
  obtain ⟨p10, p11⟩ := p1
  obtain ⟨p20, p21⟩ := p2
  have HSQ := Lib.hid (squares_yes w hT)
  have g1 : (x * y == x * y) = true := by simp
  have g2 : (x * v == x * v) = true := by simp
  clear hx hy hv hM hN hT mno
  go_enter Tryd.func6, Tryd.ntmps6
  go_wp2_with (first
    | (go_at_call 15; (with_reducible refine (HSQ.out).mono ?_); rintro e w1 ⟨rfl, hw1⟩)
    | (go_at_call 22; refine (small_any _ _).mono ?_; rintro e w' ⟨rfl, rfl⟩; first | rw [hA] | rw [hB])
    | (go_at_call 20; (with_reducible refine (HM.out _).mono ?_); rintro e w2 ⟨rfl, hw2⟩)
    | (go_at_call 20; (with_reducible refine (HN.out _).mono ?_); rintro e w3 ⟨rfl, hw3⟩)
    | (go_at_call 9; (with_reducible refine (HX.out _).mono ?_); rintro e w4 ⟨rfl, hw4⟩)
    | (go_at_call 9; (with_reducible refine (HY.out _).mono ?_); rintro e w5 ⟨rfl, hw5⟩)
    | (go_at_call 9; (with_reducible refine (HZ.out _).mono ?_); rintro e w6 ⟨rfl, hw6⟩)
    | (go_at_call 9; (with_reducible refine (HW.out _).mono ?_); rintro e w7 ⟨rfl, hw7⟩)
    | (go_at_call 9; (with_reducible refine (HV.out _).mono ?_); rintro e w8 ⟨rfl, hw8⟩)
    | (go_at_call 19; refine (good_zeros 5 (by omega) _ rfl _ _).mono ?_; rintro e w9 ⟨rfl, hw9⟩))
  go_ret
  exact ⟨by first | rfl | (simp; done), (by repeat (first | assumption | exact Ex.refl _ | refine Ex.trans ?_ (by assumption)))⟩

set_option maxHeartbeats 1000000 in
theorem squareMinus_walk (n : Int) (w : World) (_ : I64 n) (hT : Tab w) : Calls Tryd.prog 7 #[.int .i64 n] w (Says (.bool true) w) := by
  obtain ⟨M, m1, m2, mo, hM⟩ := odd_at n 999999 (.inr rfl)
  have HM := Lib.hid hM
  have HA := Lib.hid fun w => symbol_ok (-1) M w (by omega) (by omega) (by omega)
  have HB := Lib.hid fun w => symbol_ok 2 M w (by omega) (by omega) (by omega)
  rw [Int.toNat_natCast, jac_neg mo] at HA
  rw [Int.toNat_natCast, jac_two mo] at HB
  have HSQ := Lib.hid (squares_yes w hT)
  by_cases m3 : M % 4 = 3
  · rw [if_pos m3] at HA
    have g3 : ((M : Int) % 4 == 3) = true := by simp; omega
    by_cases h8 : M % 8 = 3
    · rw [if_pos (.inl h8)] at HB
      have g4 : ((M : Int) % 8 == 3) = true := by simp; omega
      clear hM hT
      go_enter Tryd.func7, Tryd.ntmps7
      go_wp2_with (first
        | (go_at_call 15; (with_reducible refine (HSQ.out).mono ?_); rintro e w1 ⟨rfl, hw1⟩)
        | (go_at_call 20; (with_reducible refine (HM.out _).mono ?_); rintro e w2 ⟨rfl, hw2⟩)
        | (go_at_call 9; (with_reducible refine (HA.out _).mono ?_); rintro e w4 ⟨rfl, hw4⟩)
        | (go_at_call 9; (with_reducible refine (HB.out _).mono ?_); rintro e w5 ⟨rfl, hw5⟩)
        | (go_at_call 19; refine (good_zeros 2 (by omega) _ rfl _ _).mono ?_; rintro e w7 ⟨rfl, hw7⟩))
      go_ret
      exact ⟨by first | rfl | (simp; done), (by repeat (first | assumption | exact Ex.refl _ | refine Ex.trans ?_ (by assumption)))⟩
    · have h5 : M % 8 ≠ 5 := by omega
      rw [if_neg (by omega)] at HB
      have g4 : ((M : Int) % 8 == 3) = false := by simp; omega
      have g5 : ((M : Int) % 8 == 5) = false := by simp; omega
      clear hM hT
      go_enter Tryd.func7, Tryd.ntmps7
      go_wp2_with (first
        | (go_at_call 15; (with_reducible refine (HSQ.out).mono ?_); rintro e w1 ⟨rfl, hw1⟩)
        | (go_at_call 20; (with_reducible refine (HM.out _).mono ?_); rintro e w2 ⟨rfl, hw2⟩)
        | (go_at_call 9; (with_reducible refine (HA.out _).mono ?_); rintro e w4 ⟨rfl, hw4⟩)
        | (go_at_call 9; (with_reducible refine (HB.out _).mono ?_); rintro e w5 ⟨rfl, hw5⟩)
        | (go_at_call 19; refine (good_zeros 2 (by omega) _ rfl _ _).mono ?_; rintro e w7 ⟨rfl, hw7⟩))
      go_ret
      exact ⟨by first | rfl | (simp; done), (by repeat (first | assumption | exact Ex.refl _ | refine Ex.trans ?_ (by assumption)))⟩
  · rw [if_neg m3] at HA
    have g3 : ((M : Int) % 4 == 3) = false := by simp; omega
    have g4 : ((M : Int) % 8 == 3) = false := by simp; omega
    by_cases h5 : M % 8 = 5
    · rw [if_pos (.inr h5)] at HB
      have g5 : ((M : Int) % 8 == 5) = true := by simp; omega
      clear hM hT
      go_enter Tryd.func7, Tryd.ntmps7
      go_wp2_with (first
        | (go_at_call 15; (with_reducible refine (HSQ.out).mono ?_); rintro e w1 ⟨rfl, hw1⟩)
        | (go_at_call 20; (with_reducible refine (HM.out _).mono ?_); rintro e w2 ⟨rfl, hw2⟩)
        | (go_at_call 9; (with_reducible refine (HA.out _).mono ?_); rintro e w4 ⟨rfl, hw4⟩)
        | (go_at_call 9; (with_reducible refine (HB.out _).mono ?_); rintro e w5 ⟨rfl, hw5⟩)
        | (go_at_call 19; refine (good_zeros 2 (by omega) _ rfl _ _).mono ?_; rintro e w7 ⟨rfl, hw7⟩))
      go_ret
      exact ⟨by first | rfl | (simp; done), (by repeat (first | assumption | exact Ex.refl _ | refine Ex.trans ?_ (by assumption)))⟩
    · rw [if_neg (by omega)] at HB
      have g5 : ((M : Int) % 8 == 5) = false := by simp; omega
      clear hM hT
      go_enter Tryd.func7, Tryd.ntmps7
      go_wp2_with (first
        | (go_at_call 15; (with_reducible refine (HSQ.out).mono ?_); rintro e w1 ⟨rfl, hw1⟩)
        | (go_at_call 20; (with_reducible refine (HM.out _).mono ?_); rintro e w2 ⟨rfl, hw2⟩)
        | (go_at_call 9; (with_reducible refine (HA.out _).mono ?_); rintro e w4 ⟨rfl, hw4⟩)
        | (go_at_call 9; (with_reducible refine (HB.out _).mono ?_); rintro e w5 ⟨rfl, hw5⟩)
        | (go_at_call 19; refine (good_zeros 2 (by omega) _ rfl _ _).mono ?_; rintro e w7 ⟨rfl, hw7⟩))
      go_ret
      exact ⟨by first | rfl | (simp; done), (by repeat (first | assumption | exact Ex.refl _ | refine Ex.trans ?_ (by assumption)))⟩

end Go.Proofs.YtcbaknnaacnaiaaDoor
