/-
  Package rest, walked: isModulus, mod, power, Of, Pow, Inverse.
-/
import Derived.Test.YtjjcollpfgafeaaSmall
import Derived.Test.YtjjcollpfgafeaaRsMath
import Derived.Test.YtjjcollpfgafeaaEuWalks
namespace Go.Proofs.Ytjjcollpfgafeaa
open Go.RowKit
open Eu Rs

/-- A number to reckon by. -/
def Md (m : Int) : Prop := 1 ≤ m ∧ m ≤ 1000000

set_option maxHeartbeats 400000 in
theorem isMod_yes (m : Int) (w : World) (h1 : 1 ≤ m) (h2 : m ≤ 1000000) :
    Calls Try.prog 46 #[.int .i64 m] w fun e w' => e = .returned (.bool true) ∧ w = w' := by
  go_enter Try.func46, Try.ntmps46
  go_wp2
  go_ret
  exact ⟨rfl, rfl⟩

set_option maxHeartbeats 400000 in
theorem isMod_no (m : Int) (w : World) (h : m < 1 ∨ 1000000 < m) :
    Calls Try.prog 46 #[.int .i64 m] w fun e w' => e = .returned (.bool false) ∧ w = w' := by
  rcases h with h | h
  · go_enter Try.func46, Try.ntmps46
    go_wp2
    go_ret
    exact ⟨by first | rfl | (simp; done) | (simp; omega), rfl⟩
  · have h2 : 1 ≤ m := by omega
    go_enter Try.func46, Try.ntmps46
    go_wp2
    go_ret
    exact ⟨by first | rfl | (simp; done) | (simp; omega), rfl⟩

set_option maxHeartbeats 400000 in
theorem rmod_any (n m : Int) (w : World) (hm : 1 ≤ m) (hm' : m ≤ 1000000) :
    Calls Try.prog 44 #[.int .i64 n, .int .i64 m] w (fun e w' => e = .returned (.int .i64 (n % m)) ∧ w = w') := by
  have h1 := Int.emod_nonneg n (b := m) (by omega)
  have h2 := Int.emod_lt_of_pos n (b := m) (by omega)
  by_cases h : n < 0
  · have h3 := Int.tmod_lt_of_pos n (b := m) (by omega)
    have h4 := Int.lt_tmod_of_pos n (b := m) (by omega)
    go_enter Try.func44, Try.ntmps44
    go_wp2
    go_ret
    exact ⟨by simp [tmod_mod'], rfl⟩
  · go_enter Try.func44, Try.ntmps44
    go_wp2
    go_ret
    exact ⟨rfl, rfl⟩

set_option maxHeartbeats 1000000 in
theorem power_any (a n m : Int) (w : World) (h1 : 1 ≤ m) (h2 : m ≤ 1000000) (ha : 0 ≤ a) (ha' : a < m) (hn : 0 ≤ n) (hn' : n ≤ 9223372036854775807) :
    Calls Try.prog 47 #[.int .i64 a, .int .i64 n, .int .i64 m] w (Says (.int .i64 (Pw a n.toNat m)) w) := by
  have HT : Hid (1 % m * a ^ n.toNat % m = Pw a n.toNat m) := by
    refine Lib.hid ?_
    rw [mul_emod_left, Int.one_mul]; rfl
  have b1 := Int.emod_nonneg 1 (b := m) (by omega)
  have b2 := Int.emod_lt_of_pos 1 (b := m) (by omega)
  obtain ⟨T, hT⟩ : ∃ T, Pw a n.toNat m = T := ⟨_, rfl⟩
  rw [hT] at HT ⊢
  clear hT
  go_enter Try.func47, Try.ntmps47
  go_wp2_with (
    (go_at_call 44; refine (rmod_any _ _ _ (by omega) (by omega)).mono ?_; rintro e w' ⟨rfl, rfl⟩))
  go_loopg [0, 1, 7] n.toNat (fun k v0 v1 v7 wr => ∃ (x c p : Int), 0 ≤ x ∧ x < m ∧ 0 ≤ c ∧ c ≤ 9223372036854775807 ∧ 0 ≤ p ∧ p < m ∧ v0 = .int .i64 x ∧ v1 = .int .i64 c ∧ v7 = .int .i64 p ∧ Hid (p * x ^ c.toNat % m = T) ∧ Hid (k = c.toNat) ∧ Ex w wr)
  case atStart => exact ⟨_, _, _, by omega, by omega, by omega, by omega, by omega, by omega, rfl, rfl, rfl, HT, Lib.hid rfl, Ex.refl _⟩
  case round =>
    obtain ⟨x, c, p, hx0, hx1, hc0, hc1, hp0, hp1, rfl, rfl, rfl, hI, hk, hw⟩ := hrel
    by_cases hc : 0 < c
    · have m1 := Eu.mul_le (a := x) (b := x) (A := 1000000) (B := 1000000) (by omega) (by omega) (by omega) (by omega)
      have m2 := Eu.mul_le (a := p) (b := x) (A := 1000000) (B := 1000000) (by omega) (by omega) (by omega) (by omega)
      obtain ⟨m1a, m1b⟩ := m1
      obtain ⟨m2a, m2b⟩ := m2
      have d1 := Int.emod_nonneg (x * x) (b := m) (by omega)
      have d2 := Int.emod_lt_of_pos (x * x) (b := m) (by omega)
      have d3 := Int.emod_nonneg (p * x) (b := m) (by omega)
      have d4 := Int.emod_lt_of_pos (p * x) (b := m) (by omega)
      have ec : (c / 2).toNat = c.toNat / 2 := by omega
      by_cases ho : c % 2 = 1
      · have HS : Hid (p * x % m * (x * x % m) ^ (c / 2).toNat % m = T) := by
          refine Lib.hid ?_
          rw [ec, sq_odd _ _ _ _ (by omega)]; exact hI.out
        clear ec
        go_wp2
        go_roundg (c / 2).toNat
        case measure => have := hk.out; omega
        case rel => exact ⟨x * x % m, c / 2, p * x % m, by omega, by omega, by omega, by omega, by omega, by omega, rfl, rfl, rfl, HS, Lib.hid rfl, hw⟩
      · have HS : Hid (p * (x * x % m) ^ (c / 2).toNat % m = T) := by
          refine Lib.hid ?_
          rw [ec, sq_even' _ _ _ _ (by omega)]; exact hI.out
        clear ec
        go_wp2
        go_roundg (c / 2).toNat
        case measure => have := hk.out; omega
        case rel => exact ⟨x * x % m, c / 2, p, by omega, by omega, by omega, by omega, by omega, by omega, rfl, rfl, rfl, HS, Lib.hid rfl, hw⟩
    · obtain rfl : c = 0 := by omega
      have he : p = T := by
        have := hI.out
        simp only [Int.toNat_zero, Int.pow_zero, Int.mul_one] at this
        rw [← this, Int.emod_eq_of_lt hp0 hp1]
      have HE := Lib.hid he
      clear he
      go_wp2
      go_ret
      exact ⟨by simp [HE.out], hw⟩

set_option maxHeartbeats 400000 in
theorem of_ok (a m : Int) (w : World) (h1 : 1 ≤ m) (h2 : m ≤ 1000000) :
    Calls Try.prog 61 #[.int .i64 a, .int .i64 m] w (Says (.tuple #[.int .i64 (a % m), .int .i64 0]) w) := by
  go_enter Try.func61, Try.ntmps61
  go_wp2_with (first
    | (go_at_call 46; refine (isMod_yes _ _ (by omega) (by omega)).mono ?_; rintro e w' ⟨rfl, rfl⟩)
    | (go_at_call 44; refine (rmod_any _ _ _ (by omega) (by omega)).mono ?_; rintro e w' ⟨rfl, rfl⟩))
  go_ret2
  exact .same

set_option maxHeartbeats 400000 in
theorem of_no (a m : Int) (w : World) (h : m < 1 ∨ 1000000 < m) :
    Calls Try.prog 61 #[.int .i64 a, .int .i64 m] w (Says (.tuple #[.int .i64 0, .int .i64 1]) w) := by
  go_enter Try.func61, Try.ntmps61
  go_wp2_with (
    (go_at_call 46; refine (isMod_no _ _ h).mono ?_; rintro e w' ⟨rfl, rfl⟩))
  go_ret2
  exact .same

set_option maxHeartbeats 400000 in
theorem pow_ok (a n m : Int) (w : World) (h1 : 1 ≤ m) (h2 : m ≤ 1000000) (hn : 0 ≤ n) (hn' : n ≤ 9223372036854775807) :
    Calls Try.prog 24 #[.int .i64 a, .int .i64 n, .int .i64 m] w (Says (.tuple #[.int .i64 (Pw a n.toNat m), .int .i64 0]) w) := by
  have b1 := Int.emod_nonneg a (b := m) (by omega)
  have b2 := Int.emod_lt_of_pos a (b := m) (by omega)
  have HP := Lib.hid (Pw_mod a m n.toNat)
  go_enter Try.func24, Try.ntmps24
  go_wp2_with (first
    | (go_at_call 46; refine (isMod_yes _ _ (by omega) (by omega)).mono ?_; rintro e w' ⟨rfl, rfl⟩)
    | (go_at_call 44; refine (rmod_any _ _ _ (by omega) (by omega)).mono ?_; rintro e w' ⟨rfl, rfl⟩)
    | (go_at_call 47; refine (power_any _ _ _ _ (by omega) (by omega) (by omega) (by omega) (by omega) (by omega)).mono ?_; rintro e w2 ⟨rfl, hw2⟩; rw [HP.out]))
  go_ret2
  exact ⟨rfl, hw2⟩

set_option maxHeartbeats 400000 in
theorem pow_no (a n m : Int) (w : World) (h : m < 1 ∨ 1000000 < m ∨ n < 0) :
    Calls Try.prog 24 #[.int .i64 a, .int .i64 n, .int .i64 m] w (Says (.tuple #[.int .i64 0, .int .i64 1]) w) := by
  by_cases hm : m < 1 ∨ 1000000 < m
  · clear h
    go_enter Try.func24, Try.ntmps24
    go_wp2_with (
      (go_at_call 46; refine (isMod_no _ _ hm).mono ?_; rintro e w' ⟨rfl, rfl⟩))
    go_ret2
    exact .same
  · have h1 : 1 ≤ m := by omega
    have h2 : m ≤ 1000000 := by omega
    have h3 : n < 0 := by omega
    clear h hm
    go_enter Try.func24, Try.ntmps24
    go_wp2_with (
      (go_at_call 46; refine (isMod_yes _ _ (by omega) (by omega)).mono ?_; rintro e w' ⟨rfl, rfl⟩))
    go_ret2
    exact .same

/-- What Inverse says where there is one. -/
def InverseSays (a m : Int) (w : World) (e : Ending) (w2 : World) : Prop :=
  ∃ x : Int, 0 ≤ x ∧ x < m ∧ Hid (x * a % m = 1 % m) ∧ Says (.tuple #[.int .i64 x, .int .i64 0]) w e w2

set_option maxHeartbeats 400000 in
theorem inverse_ok (a m : Int) (w : World) (h1 : 1 ≤ m) (h2 : m ≤ 1000000) (hg : G a m = 1) :
    Calls Try.prog 41 #[.int .i64 a, .int .i64 m] w (InverseSays a m w) := by
  have b1 := Int.emod_nonneg a (b := m) (by omega)
  have b2 := Int.emod_lt_of_pos a (b := m) (by omega)
  have hg2 : G (a % m) m = 1 := by rw [G_mod, hg]
  have HG := Lib.hid hg2
  have HE : Hid ((m.natAbs : Int) / 1 = m) := Lib.hid (by omega)
  clear hg hg2
  go_enter Try.func41, Try.ntmps41
  go_wp2_with (first
    | (go_at_call 46; refine (isMod_yes _ _ (by omega) (by omega)).mono ?_; rintro e w' ⟨rfl, rfl⟩)
    | (go_at_call 44; refine (rmod_any _ _ _ (by omega) (by omega)).mono ?_; rintro e w' ⟨rfl, rfl⟩)
    | (go_at_call 58; refine (bezout_ok _ _ _ (by omega) (by omega) (by omega) (by omega) (by omega)).mono ?_; rintro e w2 ⟨x, y, hx0, hx1, hxy, rfl, hw2⟩; rw [HG.out] at hx1 hxy ⊢; rw [HE.out] at hx1; have HX := Lib.hid hxy; clear hxy))
  go_ret2
  exact ⟨x, hx0, hx1, Lib.hid (by rw [← mul_emod_right]; exact bezout_inv HX.out), rfl, hw2⟩

set_option maxHeartbeats 400000 in
theorem inverse_none (a m : Int) (w : World) (h1 : 1 ≤ m) (h2 : m ≤ 1000000) (hg : G a m ≠ 1) :
    Calls Try.prog 41 #[.int .i64 a, .int .i64 m] w (Says (.tuple #[.int .i64 0, .int .i64 4]) w) := by
  have b1 := Int.emod_nonneg a (b := m) (by omega)
  have b2 := Int.emod_lt_of_pos a (b := m) (by omega)
  have HG := Lib.hid (G_mod a m)
  have hg1 : (G a m == 1) = false := by simpa using hg
  have hg2 : (G a m != 1) = true := by simpa using hg
  clear hg
  go_enter Try.func41, Try.ntmps41
  go_wp2_with (first
    | (go_at_call 46; refine (isMod_yes _ _ (by omega) (by omega)).mono ?_; rintro e w' ⟨rfl, rfl⟩)
    | (go_at_call 44; refine (rmod_any _ _ _ (by omega) (by omega)).mono ?_; rintro e w' ⟨rfl, rfl⟩)
    | (go_at_call 58; refine (bezout_ok _ _ _ (by omega) (by omega) (by omega) (by omega) (by omega)).mono ?_; rintro e w2 ⟨x, y, hx0, hx1, hxy, rfl, hw2⟩; rw [HG.out] at hx1 hxy ⊢; have HX := Lib.hid hxy; clear hxy hx1))
  go_ret2
  exact ⟨rfl, hw2⟩

set_option maxHeartbeats 400000 in
theorem inverse_no (a m : Int) (w : World) (h : m < 1 ∨ 1000000 < m) :
    Calls Try.prog 41 #[.int .i64 a, .int .i64 m] w (Says (.tuple #[.int .i64 0, .int .i64 1]) w) := by
  go_enter Try.func41, Try.ntmps41
  go_wp2_with (
    (go_at_call 46; refine (isMod_no _ _ h).mono ?_; rintro e w' ⟨rfl, rfl⟩))
  go_ret2
  exact .same

end Go.Proofs.Ytjjcollpfgafeaa
