/-
  SquareFermat, SquareBoth, walked.
-/
import Derived.Test.YtcbaknnaacnaiaaSqTwoW
import Derived.Test.YtcbaknnaacnaiaaPrWalks
namespace Go.Proofs.Ytcbaknnaacnaiaa
open Go.RowKit
open Eu Pr Rs Sq

theorem prm_900007 : Prm 900007 := isP_prm (n := 900007) (by decide +kernel)

/-- There is a next prime, up to the limit. -/
theorem next_below {n : Int} (h : n ≤ 900007) : ∃ p, IsNext n p ∧ p ≤ 900007 := next_some _ 900007 rfl h prm_900007

theorem two_13 : TwoSays 13 2 3 0 := .inl ⟨⟨by omega, by omega, by omega, fun i k i0 ik hs => by
  refine Decidable.byContradiction fun hc => ?_
  have a2 : 0 ≤ i * i := Int.mul_nonneg i0 i0
  have hk : k < 4 := sq_small (by omega) (by omega) (by omega)
  obtain h | h : i = 0 ∨ i = 1 := by omega
  all_goals
    subst h
    obtain h | h | h | h : k = 0 ∨ k = 1 ∨ k = 2 ∨ k = 3 := by omega
    all_goals subst h; omega⟩, rfl⟩

theorem two_8 : TwoSays 8 2 2 0 := .inl ⟨⟨by omega, by omega, by omega, fun i k i0 ik hs => by
  refine Decidable.byContradiction fun hc => ?_
  have a2 : 0 ≤ i * i := Int.mul_nonneg i0 i0
  have hk : k < 3 := sq_small (by omega) (by omega) (by omega)
  obtain h | h : i = 0 ∨ i = 1 := by omega
  all_goals
    subst h
    obtain h | h | h : k = 0 ∨ k = 1 ∨ k = 2 := by omega
    all_goals subst h; omega⟩, rfl⟩

theorem two_3 : TwoSays 3 0 0 4 := .inr ⟨fun i k i0 ik hs => by
  have a2 : 0 ≤ i * i := Int.mul_nonneg i0 i0
  have hk : k < 2 := sq_small (by omega) (by omega) (by omega)
  obtain h | h : i = 0 ∨ i = 1 := by omega
  all_goals
    subst h
    obtain h | h : k = 0 ∨ k = 1 := by omega
    all_goals subst h; omega, rfl, rfl, rfl⟩

set_option maxHeartbeats 1000000 in
theorem squareFermat_walk (n : Int) (w : World) (_ : I64 n) : Calls Try.prog 3 #[.int .i64 n] w (Says (.bool true) w) := by
  obtain ⟨N, hN⟩ : ∃ N, n % 900000 = N := ⟨_, rfl⟩
  have n0 : 0 ≤ N := by omega
  have n1 : N < 900000 := by omega
  obtain ⟨p, hp, hb⟩ := next_below (n := 2 + N) (by omega)
  have HN := Lib.hid fun w => next_ok (2 + N) p w (by omega) hp (by omega)
  have p2 := hp.2.1.1
  have H13 := Lib.hid fun w => two_any 13 2 3 0 w (by omega) (by omega) two_13
  obtain ⟨x, y, e, hs⟩ := twoSays_some p
  have HT := Lib.hid fun w => two_any p x y e w (by omega) (by omega) hs
  have hpr := hp.2.1
  clear hp
  by_cases h4 : p % 4 = 3
  · have g4 : (p % 4 != 3) = false := by simp [h4]
    have he : x = 0 ∧ y = 0 ∧ e = 4 := by
      rcases hs with ⟨ht, _⟩ | ⟨_, h⟩
      · exact absurd ht.2.2.1 (two_no h4)
      · exact h
    obtain ⟨rfl, rfl, rfl⟩ := he
    clear hs hpr
    go_enter Try.func3, Try.ntmps3
    go_wp2_with (first
      | (go_at_call 5; (with_reducible refine (H13.out _).mono ?_); rintro e w1 ⟨rfl, hw1⟩)
      | (go_at_call 7; refine (within_any _ _ _ (by omega) (by omega)).mono ?_; rintro e w' ⟨rfl, rfl⟩; rw [hN])
      | (go_at_call 6; (with_reducible refine (HN.out _).mono ?_); rintro e w2 ⟨rfl, hw2⟩)
      | (go_at_call 5; (with_reducible refine (HT.out _).mono ?_); rintro e w3 ⟨rfl, hw3⟩))
    go_ret
    exact ⟨rfl, (by repeat (first | assumption | exact Ex.refl _ | refine Ex.trans ?_ (by assumption)))⟩
  · have g4 : (p % 4 != 3) = true := by simpa using h4
    have ht : IsTwo p x y ∧ e = 0 := by
      rcases hs with h | ⟨h, _⟩
      · exact h
      · obtain ⟨a, b, hab⟩ := two_yes (p := p.toNat) (by rw [Int.toNat_of_nonneg (by omega)]; exact hpr) (by omega)
        rw [Int.toNat_of_nonneg (by omega)] at hab
        exact absurd hab (h.all a b)
    obtain ⟨ht, rfl⟩ := ht
    obtain ⟨x0, xy, hsum, _⟩ := ht
    have a2 : 0 ≤ x * x := Int.mul_nonneg x0 x0
    have b2 : 0 ≤ y * y := Int.mul_nonneg (by omega) (by omega)
    have gs : (x * x + y * y == p) = true := by simp [hsum]
    have a3 : x * x ≤ 1000000 := by omega
    have b3 : y * y ≤ 1000000 := by omega
    have HSum := Lib.hid hsum
    clear hs hpr hsum
    go_enter Try.func3, Try.ntmps3
    go_wp2_with (first
      | (go_at_call 5; (with_reducible refine (H13.out _).mono ?_); rintro e w1 ⟨rfl, hw1⟩)
      | (go_at_call 7; refine (within_any _ _ _ (by omega) (by omega)).mono ?_; rintro e w' ⟨rfl, rfl⟩; rw [hN])
      | (go_at_call 6; (with_reducible refine (HN.out _).mono ?_); rintro e w2 ⟨rfl, hw2⟩)
      | (go_at_call 5; (with_reducible refine (HT.out _).mono ?_); rintro e w3 ⟨rfl, hw3⟩))
    go_ret
    exact ⟨by first | rfl | (simp; done) | (simp; omega), (by repeat (first | assumption | exact Ex.refl _ | refine Ex.trans ?_ (by assumption)))⟩

set_option maxHeartbeats 1000000 in
theorem squareBoth_walk (m n : Int) (w : World) (_ : I64 m) (_ : I64 n) : Calls Try.prog 4 #[.int .i64 m, .int .i64 n] w (Says (.bool true) w) := by
  obtain ⟨M, hM⟩ : ∃ M, m % 1000 = M := ⟨_, rfl⟩
  obtain ⟨N, hN⟩ : ∃ N, n % 1000 = N := ⟨_, rfl⟩
  have m0 : 0 ≤ M := by omega
  have m1 : M < 1000 := by omega
  have n0 : 0 ≤ N := by omega
  have n1 : N < 1000 := by omega
  have b := Eu.mul_le (a := M) (b := N) (A := 1000) (B := 1000) (by omega) (by omega) (by omega) (by omega)
  obtain ⟨b0, b1⟩ := b
  have H3 := Lib.hid fun w => two_any 3 0 0 4 w (by omega) (by omega) two_3
  have H8 := Lib.hid fun w => two_any 8 2 2 0 w (by omega) (by omega) two_8
  obtain ⟨x, y, e, hs⟩ := twoSays_some M
  have HM := Lib.hid fun w => two_any M x y e w (by omega) (by omega) hs
  obtain ⟨x', y', e', hs'⟩ := twoSays_some N
  have HN := Lib.hid fun w => two_any N x' y' e' w (by omega) (by omega) hs'
  obtain ⟨X, Y, E, hS⟩ := twoSays_some (M * N)
  have HMN := Lib.hid fun w => two_any (M * N) X Y E w (by omega) (by omega) hS
  rcases hs with ⟨ht, rfl⟩ | ⟨_, _, _, rfl⟩
  · rcases hs' with ⟨ht', rfl⟩ | ⟨_, _, _, rfl⟩
    · have hT : IsTwo (M * N) X Y ∧ E = 0 := by
        rcases hS with h | ⟨h, _⟩
        · exact h
        · have := two_mul x y x' y'
          rw [ht.2.2.1, ht'.2.2.1] at this
          exact absurd this.symm (h.all _ _)
      obtain ⟨hT, rfl⟩ := hT
      obtain ⟨x0, xy, hsum, _⟩ := hT
      have gs : (X * X + Y * Y == M * N) = true := by simp [hsum]
      have a2 : 0 ≤ X * X := Int.mul_nonneg x0 x0
      have b2 : 0 ≤ Y * Y := Int.mul_nonneg (by omega) (by omega)
      have a3 : X * X ≤ 1000000 := by omega
      have b3 : Y * Y ≤ 1000000 := by omega
      have HSum := Lib.hid hsum
      clear ht ht' hS hsum
      go_enter Try.func4, Try.ntmps4
      go_wp2_with (first
        | (go_at_call 5; (with_reducible refine (H3.out _).mono ?_); rintro e w1 ⟨rfl, hw1⟩)
        | (go_at_call 5; (with_reducible refine (H8.out _).mono ?_); rintro e w2 ⟨rfl, hw2⟩)
        | (go_at_call 7; refine (within_any _ _ _ (by omega) (by omega)).mono ?_; rintro e w' ⟨rfl, rfl⟩; first | rw [hM] | rw [hN])
        | (go_at_call 5; (with_reducible refine (HM.out _).mono ?_); rintro e w3 ⟨rfl, hw3⟩)
        | (go_at_call 5; (with_reducible refine (HN.out _).mono ?_); rintro e w4 ⟨rfl, hw4⟩)
        | (go_at_call 5; (with_reducible refine (HMN.out _).mono ?_); rintro e w5 ⟨rfl, hw5⟩))
      go_ret
      exact ⟨by first | rfl | (simp; done) | (simp; omega), (by repeat (first | assumption | exact Ex.refl _ | refine Ex.trans ?_ (by assumption)))⟩
    · clear ht hS
      go_enter Try.func4, Try.ntmps4
      go_wp2_with (first
        | (go_at_call 5; (with_reducible refine (H3.out _).mono ?_); rintro e w1 ⟨rfl, hw1⟩)
        | (go_at_call 5; (with_reducible refine (H8.out _).mono ?_); rintro e w2 ⟨rfl, hw2⟩)
        | (go_at_call 7; refine (within_any _ _ _ (by omega) (by omega)).mono ?_; rintro e w' ⟨rfl, rfl⟩; first | rw [hM] | rw [hN])
        | (go_at_call 5; (with_reducible refine (HM.out _).mono ?_); rintro e w3 ⟨rfl, hw3⟩)
        | (go_at_call 5; (with_reducible refine (HN.out _).mono ?_); rintro e w4 ⟨rfl, hw4⟩)
        | (go_at_call 5; (with_reducible refine (HMN.out _).mono ?_); rintro e w5 ⟨rfl, hw5⟩))
      go_ret
      exact ⟨by first | rfl | (simp; done) | (simp; omega), (by repeat (first | assumption | exact Ex.refl _ | refine Ex.trans ?_ (by assumption)))⟩
  · clear hs' hS
    go_enter Try.func4, Try.ntmps4
    go_wp2_with (first
      | (go_at_call 5; (with_reducible refine (H3.out _).mono ?_); rintro e w1 ⟨rfl, hw1⟩)
      | (go_at_call 5; (with_reducible refine (H8.out _).mono ?_); rintro e w2 ⟨rfl, hw2⟩)
      | (go_at_call 7; refine (within_any _ _ _ (by omega) (by omega)).mono ?_; rintro e w' ⟨rfl, rfl⟩; first | rw [hM] | rw [hN])
      | (go_at_call 5; (with_reducible refine (HM.out _).mono ?_); rintro e w3 ⟨rfl, hw3⟩)
      | (go_at_call 5; (with_reducible refine (HN.out _).mono ?_); rintro e w4 ⟨rfl, hw4⟩)
      | (go_at_call 5; (with_reducible refine (HMN.out _).mono ?_); rintro e w5 ⟨rfl, hw5⟩))
    go_ret
    exact ⟨by first | rfl | (simp; done) | (simp; omega), (by repeat (first | assumption | exact Ex.refl _ | refine Ex.trans ?_ (by assumption)))⟩

end Go.Proofs.Ytcbaknnaacnaiaa
