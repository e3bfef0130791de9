/-
  RestEuler, walked.
-/
import Derived.Test.YtjjcollpfgafeaaRsOrd
import Derived.Test.YtjjcollpfgafeaaDvWalks
namespace Go.Proofs.Ytjjcollpfgafeaa
open Go.RowKit
open Eu Pr Rs Dd

theorem one_gcd {a m : Int} : ∀ x y : Nat, One (a ^ x) m → One (a ^ y) m → One (a ^ Nat.gcd x y) m := by
  intro x y
  induction x, y using Nat.gcd.induction with
  | H0 y => intro _ h; rwa [Nat.gcd_zero_left]
  | H1 x y hx ih =>
    intro h1 h2
    rw [Nat.gcd_rec]
    refine ih ?_ h1
    have h3 : One ((a ^ x) ^ (y / x)) m := h1.pow _
    have e : a ^ y = (a ^ x) ^ (y / x) * a ^ (y % x) := by
      rw [← ipow_mul, ← Int.pow_add, Nat.div_add_mod]
    rw [e] at h2
    unfold Rs.One at *
    have e2 : a ^ (y % x) - 1 = ((a ^ x) ^ (y / x) * a ^ (y % x) - 1) - ((a ^ x) ^ (y / x) - 1) * a ^ (y % x) := by
      rw [Int.sub_mul]; omega
    rw [e2]
    exact Int.dvd_sub h2 (Int.dvd_trans h3 (Int.dvd_mul_right _ _))

theorem ord_dvd {a m : Int} {o k : Nat} (h : IsOrd a m o) (hk : One (a ^ k) m) : o ∣ k := by
  have hg := one_gcd o k h.2.1 hk
  have h1 := Nat.gcd_dvd_left o k
  have h2 := Nat.le_of_dvd h.1 h1
  by_cases he : Nat.gcd o k = o
  · rw [← he]; exact Nat.gcd_dvd_right o k
  · exact absurd hg (h.least h1 (by omega))

theorem ord_27 {o : Nat} (h : IsOrd 2 7 o) : o = 3 := by
  have h1 : o ∣ 3 := ord_dvd h (by unfold Rs.One; decide)
  have h2 := Nat.le_of_dvd (by omega) h1
  have h3 := h.1
  obtain h4 | h4 | h4 : o = 1 ∨ o = 2 ∨ o = 3 := by omega
  · subst h4
    exact absurd h.2.1 (by unfold Rs.One; decide)
  · subst h4
    revert h1; decide
  · exact h4

/-- EULER's law, of Phi's answer. -/
theorem euler_ph {a : Int} {n : Nat} (hn : 1 ≤ n) (hg : G a n = 1) : One (a ^ (ph n).toNat) n := by
  have hF := fc_fac hn
  rw [ph_fac hF hn, Int.toNat_natCast]
  exact euler hF (coprime_prm hg)

set_option maxRecDepth 100000 in
set_option maxHeartbeats 2000000 in
theorem restEuler_walk (a m : Int) (w : World) (_ : I64 a) (_ : I64 m) : Calls Try.prog 5 #[.int .i64 a, .int .i64 m] w (Says (.bool true) w) := by
  obtain ⟨M, hM⟩ : ∃ M : Nat, 1 + m % 5000 = (M : Int) := ⟨(1 + m % 5000).toNat, by omega⟩
  have m1 : 1 ≤ M ∧ M ≤ 5000 := by omega
  obtain ⟨m1, m2⟩ := m1
  have HO7 : Hid (∀ w : World, Calls Try.prog 22 #[.int .i64 2, .int .i64 7] w (Says (.tuple #[.int .i64 3, .int .i64 0]) w)) := Lib.hid fun w => by
    refine (order_ok 2 7 w (by omega) (by omega) (by decide)).mono ?_
    rintro e w2 ⟨o, hO, _, _, rfl, hx⟩
    rw [ord_27 hO.out]
    exact ⟨rfl, hx⟩
  by_cases hg : G a M = 1
  · have HOR := Lib.hid fun w => order_ok a M w (by omega) (by omega) hg
    have HPH := Lib.hid fun w => phi_of M w m1 (by omega)
    have HEU := Lib.hid (euler_ph m1 hg)
    have p1 := ph_bound m1
    obtain ⟨P, hP⟩ : ∃ P : Nat, ph M = (P : Int) := ⟨(ph M).toNat, by omega⟩
    rw [hP] at HPH p1
    rw [hP, Int.toNat_natCast] at HEU
    have HPW : Hid (∀ (k : Nat) (w : World), k ≤ 1000000 → One (a ^ k) M → Calls Try.prog 24 #[.int .i64 a, .int .i64 k, .int .i64 M] w (Says (.tuple #[.int .i64 (1 % (M : Int)), .int .i64 0]) w)) := Lib.hid fun k w hk h1 => by
      have h2 := pow_ok a k M w (by omega) (by omega) (by omega) (by omega)
      rw [Int.toNat_natCast, pw_one.mp h1] at h2
      exact h2
    obtain ⟨p1, p2⟩ := p1
    have r1 := Int.emod_nonneg 1 (b := (M : Int)) (by omega)
    have r2 := Int.emod_lt_of_pos 1 (b := (M : Int)) (by omega)
    clear hg hP
    go_enter Try.func5, Try.ntmps5
    go_wp2_with (first
      | (go_at_call 22; (with_reducible refine (HO7.out _).mono ?_); rintro e w0 ⟨rfl, hw0⟩)
      | (go_at_call 23; refine (within_any _ _ _ (by omega) (by omega)).mono ?_; rintro e w' ⟨rfl, rfl⟩)
      | (go_at_call 22; (with_reducible refine (HOR.out _).mono ?_); rintro e w1 ⟨o, hO, o1, o2, rfl, hw1⟩
         have HO := Lib.hid hO.out.2.1
         have hdv := ord_dvd hO.out HEU.out
         have hmod : ((P : Int) % (o : Int)) = 0 := by have := Nat.mod_eq_zero_of_dvd hdv; omega
         have o3 : (1 : Int) ≤ (o : Int) := by omega
         have o4 : (o : Int) ≤ 1000000 := by omega
         clear hdv hO)
      | (go_at_call 13; (with_reducible refine (HPH.out _).mono ?_); rintro e w2 ⟨rfl, hw2⟩)
      | (go_at_call 24; (with_reducible refine (HPW.out P _ (by omega) HEU.out).mono ?_); rintro e w3 ⟨rfl, hw3⟩)
      | (go_at_call 24; (with_reducible refine (HPW.out o _ (by omega) HO.out).mono ?_); rintro e w4 ⟨rfl, hw4⟩)
      | (go_at_call 25; refine (good_zeros 3 (by omega) _ rfl _ _).mono ?_; rintro e w5 ⟨rfl, hw5⟩))
    go_ret
    exact ⟨by simp, (by repeat (first | assumption | exact Ex.refl _ | refine Ex.trans ?_ (by assumption)))⟩
  · have HOR := Lib.hid fun w => order_none a M w (by omega) (by omega) hg
    clear hg
    go_enter Try.func5, Try.ntmps5
    go_wp2_with (first
      | (go_at_call 22; (with_reducible refine (HO7.out _).mono ?_); rintro e w0 ⟨rfl, hw0⟩)
      | (go_at_call 23; refine (within_any _ _ _ (by omega) (by omega)).mono ?_; rintro e w' ⟨rfl, rfl⟩)
      | (go_at_call 22; (with_reducible refine (HOR.out _).mono ?_); rintro e w1 ⟨rfl, hw1⟩))
    go_ret
    exact ⟨rfl, (by repeat (first | assumption | exact Ex.refl _ | refine Ex.trans ?_ (by assumption)))⟩

end Go.Proofs.Ytjjcollpfgafeaa
