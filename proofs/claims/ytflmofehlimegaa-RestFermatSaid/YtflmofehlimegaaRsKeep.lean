/-
  RestRing, RestPows, RestFermat, RestUndone, walked.
-/
import Derived.Test.YtflmofehlimegaaRsWalks
import Derived.Test.YtflmofehlimegaaPrWalks
import Derived.Test.YtflmofehlimegaaMix
namespace Go.Proofs.Ytflmofehlimegaa
open Go.RowKit
open Eu Rs Pr

set_option maxHeartbeats 400000 in
theorem rests_yes (w : World) : Calls Try.prog 16 #[] w (Says (.bool true) w) := by
  go_enter Try.func16, Try.ntmps16
  go_wp2_with (
    (go_at_call 8; refine (of_ok _ _ _ (by omega) (by omega)).mono ?_; rintro e w1 ⟨rfl, hw1⟩))
  go_ret
  exact ⟨rfl, (by repeat (first | assumption | exact Ex.refl _ | refine Ex.trans ?_ (by assumption)))⟩

set_option maxHeartbeats 1000000 in
theorem restRing_walk (a b m : Int) (w : World) (_ : I64 a) (_ : I64 b) (_ : I64 m) : Calls Try.prog 4 #[.int .i64 a, .int .i64 b, .int .i64 m] w (Says (.bool true) w) := by
  by_cases h : m < 1 ∨ 1000000 < m
  · go_enter Try.func4, Try.ntmps4
    go_wp2_with (first
      | (go_at_call 16; refine (rests_yes _).mono ?_; rintro e w1 ⟨rfl, hw1⟩)
      | (go_at_call 8; refine (of_no _ _ _ h).mono ?_; rintro e w2 ⟨rfl, hw2⟩))
    go_ret
    exact ⟨rfl, (by repeat (first | assumption | exact Ex.refl _ | refine Ex.trans ?_ (by assumption)))⟩
  · have m1 : 1 ≤ m := by omega
    have m2 : m ≤ 1000000 := by omega
    clear h
    obtain ⟨A, hA⟩ : ∃ A : Int, a % 1073741824 = A := ⟨_, rfl⟩
    obtain ⟨B, hB⟩ : ∃ B : Int, b % 1073741824 = B := ⟨_, rfl⟩
    have a1 : 0 ≤ A := by omega
    have a2 : A < 1073741824 := by omega
    have b1 : 0 ≤ B := by omega
    have b2 : B < 1073741824 := by omega
    have ab := Eu.mul_le (a := A) (b := B) (A := 1073741824) (B := 1073741824) (by omega) (by omega) (by omega) (by omega)
    obtain ⟨ab1, ab2⟩ := ab
    have c1 := Int.emod_nonneg A (b := m) (by omega)
    have c2 := Int.emod_lt_of_pos A (b := m) (by omega)
    have d1 := Int.emod_nonneg B (b := m) (by omega)
    have d2 := Int.emod_lt_of_pos B (b := m) (by omega)
    have xy := Eu.mul_le (a := A % m) (b := B % m) (A := 1000000) (B := 1000000) (by omega) (by omega) (by omega) (by omega)
    obtain ⟨xy1, xy2⟩ := xy
    have HM := Lib.hid (mul_emod_both A B m)
    go_enter Try.func4, Try.ntmps4
    go_wp2_with (first
      | (go_at_call 16; refine (rests_yes _).mono ?_; rintro e w1 ⟨rfl, hw1⟩)
      | (go_at_call 17; refine (within_any _ _ _ (by omega) (by omega)).mono ?_; rintro e w' ⟨rfl, rfl⟩)
      | (go_at_call 8; refine (of_ok _ _ _ (by omega) (by omega)).mono ?_; rintro e w2 ⟨rfl, hw2⟩)
      | (go_at_call 18; refine (good_zeros 6 (by omega) _ rfl _ _).mono ?_; rintro e w4 ⟨rfl, hw4⟩))
    all_goals go_ret
    all_goals exact ⟨by simp [HM.out], (by repeat (first | assumption | exact Ex.refl _ | refine Ex.trans ?_ (by assumption)))⟩

theorem next_big {n : Int} (h2 : n ≤ 999983) : ∃ p, IsNext n p ∧ p ≤ 999983 :=
  next_some (n := n) _ 999983 rfl h2 (isP_prm (n := 999983) (by decide +kernel))

theorem pw_347 : Pw 3 (Int.toNat 4) 7 = 4 := by decide
theorem pw_2_10 : Pw 2 (Int.toNat 10) 1000 = 24 := by decide

set_option maxRecDepth 100000 in
set_option maxHeartbeats 1000000 in
theorem restFermat_walk (a n : Int) (w : World) (_ : I64 a) (_ : I64 n) : Calls Try.prog 5 #[.int .i64 a, .int .i64 n] w (Says (.bool true) w) := by
  obtain ⟨m, hm⟩ : ∃ m : Int, 2 + n % 990000 = m := ⟨_, rfl⟩
  have b1 : 2 ≤ m := by omega
  have b2 : m ≤ 990001 := by omega
  obtain ⟨p, hN, p1⟩ := next_big (n := m) (by omega)
  have c1 : m ≤ p := hN.1
  have HN := Lib.hid hN
  have HF := Lib.hid (fermat hN.2.1 a)
  clear hN
  go_enter Try.func5, Try.ntmps5
  go_wp2_with (first
    | (go_at_call 17; refine (within_any _ _ _ (by omega) (by omega)).mono ?_; rintro e w' ⟨rfl, rfl⟩)
    | (go_at_call 9; (with_reducible refine (pow_ok 3 4 7 _ (by omega) (by omega) (by omega) (by omega)).mono ?_); rintro e w1 ⟨rfl, hw1⟩; rw [pw_347])
    | (go_at_call 19; (with_reducible refine (next_ok m p _ (by omega) HN.out (by omega)).mono ?_); rintro e w2 ⟨rfl, hw2⟩)
    | (go_at_call 9; (with_reducible refine (pow_ok a p p _ (by omega) (by omega) (by omega) (by omega)).mono ?_); rintro e w3 ⟨rfl, hw3⟩)
    | (go_at_call 8; refine (of_ok _ _ _ (by omega) (by omega)).mono ?_; rintro e w4 ⟨rfl, hw4⟩)
    | (go_at_call 18; refine (good_zeros 3 (by omega) _ rfl _ _).mono ?_; rintro e w5 ⟨rfl, hw5⟩))
  all_goals go_ret
  all_goals exact ⟨by simp [HF.out], (by repeat (first | assumption | exact Ex.refl _ | refine Ex.trans ?_ (by assumption)))⟩

set_option maxRecDepth 100000 in
set_option maxHeartbeats 1000000 in
theorem restPows_walk (a n k m : Int) (w : World) (_ : I64 a) (_ : I64 n) (_ : I64 k) (_ : I64 m) : Calls Try.prog 6 #[.int .i64 a, .int .i64 n, .int .i64 k, .int .i64 m] w (Says (.bool true) w) := by
  obtain ⟨N, hN⟩ : ∃ N : Nat, n % 1048576 = (N : Int) := ⟨(n % 1048576).toNat, by omega⟩
  obtain ⟨K, hK⟩ : ∃ K : Nat, k % 1048576 = (K : Int) := ⟨(k % 1048576).toNat, by omega⟩
  have n2 : N < 1048576 := by omega
  have k2 : K < 1048576 := by omega
  have nk := Eu.mul_le (a := (N : Int)) (b := (K : Int)) (A := 1048576) (B := 1048576) (by omega) (by omega) (by omega) (by omega)
  obtain ⟨nk1, nk2⟩ := nk
  by_cases h : m < 1 ∨ 1000000 < m
  · go_enter Try.func6, Try.ntmps6
    go_wp2_with (first
      | (go_at_call 17; refine (within_any _ _ _ (by omega) (by omega)).mono ?_; rintro e w' ⟨rfl, rfl⟩)
      | (go_at_call 9; (with_reducible refine (pow_ok 2 10 1000 _ (by omega) (by omega) (by omega) (by omega)).mono ?_); rintro e w1 ⟨rfl, hw1⟩; rw [pw_2_10])
      | (go_at_call 9; refine (pow_no _ _ _ _ (by omega)).mono ?_; rintro e w2 ⟨rfl, hw2⟩))
    go_ret
    exact ⟨rfl, (by repeat (first | assumption | exact Ex.refl _ | refine Ex.trans ?_ (by assumption)))⟩
  · have m1 : 1 ≤ m := by omega
    have m2 : m ≤ 1000000 := by omega
    clear h
    have H1 : Hid (Pw a ((N : Int) + K).toNat m = Pw a N m * Pw a K m % m) := Lib.hid (by rw [show ((N : Int) + K).toNat = N + K by omega, Pw_add])
    have H2 : Hid (Pw a ((N : Int) * K).toNat m = Pw (Pw a N m) K m) := Lib.hid (by rw [show ((N : Int) * K).toNat = N * K by rw [← Int.natCast_mul, Int.toNat_natCast], Pw_mul])
    have d1 := Pw_nonneg a N (m := m) (by omega)
    have d2 := Pw_lt a N (m := m) (by omega)
    have d3 := Pw_nonneg a K (m := m) (by omega)
    have d4 := Pw_lt a K (m := m) (by omega)
    have xy := Eu.mul_le (a := Pw a N m) (b := Pw a K m) (A := 1000000) (B := 1000000) (by omega) (by omega) (by omega) (by omega)
    obtain ⟨xy1, xy2⟩ := xy
    have HN := Lib.hid (Int.toNat_natCast N)
    have HK := Lib.hid (Int.toNat_natCast K)
    go_enter Try.func6, Try.ntmps6
    go_wp2_with (first
      | (go_at_call 17; refine (within_any _ _ _ (by omega) (by omega)).mono ?_; rintro e w' ⟨rfl, rfl⟩)
      | (go_at_call 9; (with_reducible refine (pow_ok 2 10 1000 _ (by omega) (by omega) (by omega) (by omega)).mono ?_); rintro e w1 ⟨rfl, hw1⟩; rw [pw_2_10])
      | (go_at_call 9; (with_reducible refine (pow_ok a (N : Int) m _ (by omega) (by omega) (by omega) (by omega)).mono ?_); rintro e w2 ⟨rfl, hw2⟩; rw [HN.out])
      | (go_at_call 9; (with_reducible refine (pow_ok a (K : Int) m _ (by omega) (by omega) (by omega) (by omega)).mono ?_); rintro e w3 ⟨rfl, hw3⟩; rw [HK.out])
      | (go_at_call 9; (with_reducible refine (pow_ok a ((N : Int) + K) m _ (by omega) (by omega) (by omega) (by omega)).mono ?_); rintro e w4 ⟨rfl, hw4⟩; rw [H1.out])
      | (go_at_call 9; (with_reducible refine (pow_ok (Pw a N m) (K : Int) m _ (by omega) (by omega) (by omega) (by omega)).mono ?_); rintro e w5 ⟨rfl, hw5⟩; rw [HK.out])
      | (go_at_call 9; (with_reducible refine (pow_ok a ((N : Int) * K) m _ (by omega) (by omega) (by omega) (by omega)).mono ?_); rintro e w6 ⟨rfl, hw6⟩; rw [H2.out])
      | (go_at_call 18; refine (good_zeros 4 (by omega) _ rfl _ _).mono ?_; rintro e w7 ⟨rfl, hw7⟩))
    all_goals go_ret
    all_goals exact ⟨by simp, (by repeat (first | assumption | exact Ex.refl _ | refine Ex.trans ?_ (by assumption)))⟩

theorem inverse_37 (w : World) : Calls Try.prog 10 #[.int .i64 3, .int .i64 7] w (Says (.tuple #[.int .i64 5, .int .i64 0]) w) := by
  refine (inverse_ok 3 7 w (by omega) (by omega) (by decide)).mono ?_
  rintro e w2 ⟨x, h1, h2, h3, rfl, hw⟩
  have h3 := h3.out
  obtain rfl : x = 5 := by omega
  exact ⟨rfl, hw⟩

theorem undone_some {a b m x z : Int} (hx : x * a % m = 1 % m) (hz : z * b % m = 1 % m) : x * z % m * ((a % m) * (b % m)) % m = 1 % m := by
  have e : x * z % m * ((a % m) * (b % m)) % m = (x * a % m) * (z * b % m) % m := by
    rw [mul_emod_left, mul_emod_both, ← mul_emod_right, mul_emod_both, mul_emod_right]
    congr 1; ac_rfl
  rw [e, hx, hz, mul_emod_both]; rfl

theorem undone_none {a b m : Int} (hm : 0 < m) (hb : G b m ≠ 1) : G ((a % m) * (b % m)) m ≠ 1 := by
  intro h
  have h1 : G b m ∣ b % m := by rw [← G_mod]; exact G_dvd_left _ _
  have h2 := dvd_G (Int.dvd_trans h1 (Int.dvd_mul_left (a % m) _)) (G_dvd_right b m)
  rw [h] at h2
  have h3 := Int.le_of_dvd (by omega) h2
  have h4 := G_pos (a := b) (b := m) (.inr (by omega))
  omega

set_option maxRecDepth 100000 in
set_option maxHeartbeats 1500000 in
theorem restUndone_walk (a b m : Int) (w : World) (_ : I64 a) (_ : I64 b) (_ : I64 m) : Calls Try.prog 7 #[.int .i64 a, .int .i64 b, .int .i64 m] w (Says (.bool true) w) := by
  by_cases h : m < 1 ∨ 1000000 < m
  · go_enter Try.func7, Try.ntmps7
    go_wp2_with (first
      | (go_at_call 10; (with_reducible refine (inverse_37 _).mono ?_); rintro e w0 ⟨rfl, hw0⟩)
      | (go_at_call 10; refine (inverse_no _ _ _ h).mono ?_; rintro e w1 ⟨rfl, hw1⟩))
    go_ret
    exact ⟨rfl, (by repeat (first | assumption | exact Ex.refl _ | refine Ex.trans ?_ (by assumption)))⟩
  · have m1 : 1 ≤ m := by omega
    have m2 : m ≤ 1000000 := by omega
    clear h
    by_cases hga : G a m = 1
    · have HA := Lib.hid hga
      have c1 := Int.emod_nonneg a (b := m) (by omega)
      have c2 := Int.emod_lt_of_pos a (b := m) (by omega)
      have d1 := Int.emod_nonneg b (b := m) (by omega)
      have d2 := Int.emod_lt_of_pos b (b := m) (by omega)
      have cd := Eu.mul_le (a := a % m) (b := b % m) (A := 1000000) (B := 1000000) (by omega) (by omega) (by omega) (by omega)
      obtain ⟨cd1, cd2⟩ := cd
      clear hga
      by_cases hgb : G b m = 1
      · have HB := Lib.hid hgb
        clear hgb
        go_enter Try.func7, Try.ntmps7
        go_wp2_with (first
          | (go_at_call 10; (with_reducible refine (inverse_37 _).mono ?_); rintro e w0 ⟨rfl, hw0⟩)
          | (go_at_call 10; (with_reducible refine (inverse_ok a m _ (by omega) (by omega) HA.out).mono ?_); rintro e w1 ⟨x, hx0, hx1, hxa, rfl, hw1⟩; have HGX : Hid (G x m = 1) := Lib.hid (G_one_of_inv (x := a) (by omega) (by rw [Int.mul_comm]; exact hxa.out)))
          | (go_at_call 8; refine (of_ok _ _ _ (by omega) (by omega)).mono ?_; rintro e w2 ⟨rfl, hw2⟩)
          | (go_at_call 10; (with_reducible refine (inverse_ok x m _ (by omega) (by omega) HGX.out).mono ?_); rintro e w3 ⟨y, hy0, hy1, hyx, rfl, hw3⟩; obtain rfl : y = a % m := inv_uniq (x := x) (m := m) (by omega) (by omega) (by omega) (by omega) (by rw [mul_emod_right]; exact hxa.out) hyx.out)
          | (go_at_call 10; (with_reducible refine (inverse_ok b m _ (by omega) (by omega) HB.out).mono ?_); rintro e w4 ⟨z, hz0, hz1, hzb, rfl, hw4⟩; have HGC : Hid (G (a % m * (b % m)) m = 1) := Lib.hid (G_one_of_inv (x := x * z % m) (by omega) (undone_some hxa.out hzb.out)))
          | (go_at_call 10; (with_reducible refine (inverse_ok (a % m * (b % m)) m _ (by omega) (by omega) HGC.out).mono ?_); rintro e w5 ⟨v, hv0, hv1, hvc, rfl, hw5⟩; obtain rfl : v = x * z % m := inv_uniq (x := a % m * (b % m)) (m := m) (Int.emod_nonneg _ (by omega)) (Int.emod_lt_of_pos _ (by omega)) (by omega) (by omega) (by rw [Int.mul_comm]; exact undone_some hxa.out hzb.out) hvc.out; have HXC : Hid (x * (a % m) % m = 1 % m) := Lib.hid (by rw [mul_emod_right]; exact hxa.out); have xc := Eu.mul_le (a := x) (b := a % m) (A := 1000000) (B := 1000000) (by omega) (by omega) (by omega) (by omega); have xc1 := xc.1; have xc2 : x * (a % m) ≤ 1000000000000 := by omega
             have xz := Eu.mul_le (a := x) (b := z) (A := 1000000) (B := 1000000) (by omega) (by omega) (by omega) (by omega); have xz1 := xz.1; have xz2 : x * z ≤ 1000000000000 := by omega
             clear xc xz))
        have hb1 : (x * (a % m) % m == 1 % m) = true := by rw [HXC.out]; simp
        refine wp_region_mix (fun _ => True) [false, false, true, true, false, false, false, false, false, false, false, false, false, false, false, false, false, false, false, false, false, false, false, false, false, false, false, false, false, false, false, false, false, false, false, false, false, false] (by kernel_rfl) (by kernel_rfl) (by intro _ _ d _ _ h; cases d <;> exact h) trivial ?_
        repeat (first
          | ((with_reducible refine wpMix_pure ?_); go_big_quiet_step (fail); (with_reducible refine mixQ_on ?_))
          | ((with_reducible refine wpMix_turn ?_); intro K hK; go_wp2_with (first | fail | (go_at_call 18; refine (good_zeros_dr 2 (by omega) _ rfl _ _).mono ?_; rintro e w7 ⟨rfl, hw7⟩)); refine hK _ _ trivial ?_; clear hK K))
        refine wpMix_nil ?_
        all_goals go_wp2
        all_goals go_ret
        all_goals exact ⟨by simp [HXC.out], (by repeat (first | assumption | exact Ex.refl _ | refine Ex.trans ?_ (by assumption)))⟩
      · have HC := Lib.hid (undone_none (a := a) (by omega) hgb)
        have HB : Hid (G b m ≠ 1) := Lib.hid hgb
        clear hgb
        go_enter Try.func7, Try.ntmps7
        go_wp2_with (first
          | (go_at_call 10; (with_reducible refine (inverse_37 _).mono ?_); rintro e w0 ⟨rfl, hw0⟩)
          | (go_at_call 10; (with_reducible refine (inverse_ok a m _ (by omega) (by omega) HA.out).mono ?_); rintro e w1 ⟨x, hx0, hx1, hxa, rfl, hw1⟩; have HGX : Hid (G x m = 1) := Lib.hid (G_one_of_inv (x := a) (by omega) (by rw [Int.mul_comm]; exact hxa.out)))
          | (go_at_call 8; refine (of_ok _ _ _ (by omega) (by omega)).mono ?_; rintro e w2 ⟨rfl, hw2⟩)
          | (go_at_call 10; (with_reducible refine (inverse_ok x m _ (by omega) (by omega) HGX.out).mono ?_); rintro e w3 ⟨y, hy0, hy1, hyx, rfl, hw3⟩; obtain rfl : y = a % m := inv_uniq (x := x) (m := m) (by omega) (by omega) (by omega) (by omega) (by rw [mul_emod_right]; exact hxa.out) hyx.out)
          | (go_at_call 10; (with_reducible refine (inverse_none b m _ (by omega) (by omega) HB.out).mono ?_); rintro e w4 ⟨rfl, hw4⟩)
          | (go_at_call 10; (with_reducible refine (inverse_none (a % m * (b % m)) m _ (by omega) (by omega) HC.out).mono ?_); rintro e w5 ⟨rfl, hw5⟩; have HXC : Hid (x * (a % m) % m = 1 % m) := Lib.hid (by rw [mul_emod_right]; exact hxa.out); have xc := Eu.mul_le (a := x) (b := a % m) (A := 1000000) (B := 1000000) (by omega) (by omega) (by omega) (by omega); have xc1 := xc.1; have xc2 : x * (a % m) ≤ 1000000000000 := by omega
             clear xc))
        have hb1 : (x * (a % m) % m == 1 % m) = true := by rw [HXC.out]; simp
        refine wp_region_mix (fun _ => True) [false, false, true, true, false, false, false, false, false, false, false, false, false, false, false, false, false, false, false, false, false, false, false, false, false, false, false, false, false, false, false, false, false, false, false, false, false, false] (by kernel_rfl) (by kernel_rfl) (by intro _ _ d _ _ h; cases d <;> exact h) trivial ?_
        repeat (first
          | ((with_reducible refine wpMix_pure ?_); go_big_quiet_step (fail); (with_reducible refine mixQ_on ?_))
          | ((with_reducible refine wpMix_turn ?_); intro K hK; go_wp2_with (first | fail | (go_at_call 18; refine (good_zeros_dr 2 (by omega) _ rfl _ _).mono ?_; rintro e w7 ⟨rfl, hw7⟩)); refine hK _ _ trivial ?_; clear hK K))
        refine wpMix_nil ?_
        all_goals go_wp2
        all_goals go_ret
        all_goals exact ⟨by simp [HXC.out], (by repeat (first | assumption | exact Ex.refl _ | refine Ex.trans ?_ (by assumption)))⟩
    · have HA : Hid (G a m ≠ 1) := Lib.hid hga
      clear hga
      go_enter Try.func7, Try.ntmps7
      go_wp2_with (first
        | (go_at_call 10; (with_reducible refine (inverse_37 _).mono ?_); rintro e w0 ⟨rfl, hw0⟩)
        | (go_at_call 10; refine (inverse_none _ _ _ (by omega) (by omega) HA.out).mono ?_; rintro e w1 ⟨rfl, hw1⟩))
      go_ret
      exact ⟨rfl, (by repeat (first | assumption | exact Ex.refl _ | refine Ex.trans ?_ (by assumption)))⟩

end Go.Proofs.Ytflmofehlimegaa
