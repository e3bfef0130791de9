/-
  Package rest, walked: isModulus, mod, power, Of, Pow, Inverse.
-/
import Derived.Test.YtcbaknnaacnaiaaDoorSmall
import Derived.Test.YtcbaknnaacnaiaaDoorRsMath
import Derived.Test.YtcbaknnaacnaiaaDoorEuWalks
namespace Go.Proofs.YtcbaknnaacnaiaaDoor
open Go.RowKit
open Eu Rs

/-- A number to reckon by. -/
def Md (m : Int) : Prop := 1 ≤ m ∧ m ≤ 1000000

set_option maxHeartbeats 400000 in
theorem isMod_yes (m : Int) (w : World) (h1 : 1 ≤ m) (h2 : m ≤ 1000000) :
    Calls Tryd.prog 31 #[.int .i64 m] w fun e w' => e = .returned (.bool true) ∧ w = w' := by
  go_enter Tryd.func31, Tryd.ntmps31
  go_wp2
  go_ret
  exact ⟨rfl, rfl⟩

set_option maxHeartbeats 400000 in
theorem isMod_no (m : Int) (w : World) (h : m < 1 ∨ 1000000 < m) :
    Calls Tryd.prog 31 #[.int .i64 m] w fun e w' => e = .returned (.bool false) ∧ w = w' := by
  rcases h with h | h
  · go_enter Tryd.func31, Tryd.ntmps31
    go_wp2
    go_ret
    exact ⟨by first | rfl | (simp; done) | (simp; omega), rfl⟩
  · have h2 : 1 ≤ m := by omega
    go_enter Tryd.func31, Tryd.ntmps31
    go_wp2
    go_ret
    exact ⟨by first | rfl | (simp; done) | (simp; omega), rfl⟩

set_option maxHeartbeats 400000 in
theorem rmod_any (n m : Int) (w : World) (hm : 1 ≤ m) (hm' : m ≤ 1000000) :
    Calls Tryd.prog 33 #[.int .i64 n, .int .i64 m] w (fun e w' => e = .returned (.int .i64 (n % m)) ∧ w = w') := by
  have h1 := Int.emod_nonneg n (b := m) (by omega)
  have h2 := Int.emod_lt_of_pos n (b := m) (by omega)
  by_cases h : n < 0
  · have h3 := Int.tmod_lt_of_pos n (b := m) (by omega)
    have h4 := Int.lt_tmod_of_pos n (b := m) (by omega)
    go_enter Tryd.func33, Tryd.ntmps33
    go_wp2
    go_ret
    exact ⟨by simp [tmod_mod'], rfl⟩
  · go_enter Tryd.func33, Tryd.ntmps33
    go_wp2
    go_ret
    exact ⟨rfl, rfl⟩

set_option maxHeartbeats 1000000 in
theorem power_any (a n m : Int) (w : World) (h1 : 1 ≤ m) (h2 : m ≤ 1000000) (ha : 0 ≤ a) (ha' : a < m) (hn : 0 ≤ n) (hn' : n ≤ 9223372036854775807) :
    Calls Tryd.prog 32 #[.int .i64 a, .int .i64 n, .int .i64 m] w (Says (.int .i64 (Pw a n.toNat m)) w) := by
  have HT : Hid (1 % m * a ^ n.toNat % m = Pw a n.toNat m) := by
    refine Lib.hid ?_
    rw [mul_emod_left, Int.one_mul]; rfl
  have b1 := Int.emod_nonneg 1 (b := m) (by omega)
  have b2 := Int.emod_lt_of_pos 1 (b := m) (by omega)
  obtain ⟨T, hT⟩ : ∃ T, Pw a n.toNat m = T := ⟨_, rfl⟩
  rw [hT] at HT ⊢
  clear hT
  go_enter Tryd.func32, Tryd.ntmps32
  go_wp2_with (
    (go_at_call 33; refine (rmod_any _ _ _ (by omega) (by omega)).mono ?_; rintro e w' ⟨rfl, rfl⟩))
  go_loopg [0, 1, 7] n.toNat (fun k v0 v1 v7 wr => ∃ (x c p : Int), 0 ≤ x ∧ x < m ∧ 0 ≤ c ∧ c ≤ 9223372036854775807 ∧ 0 ≤ p ∧ p < m ∧ v0 = .int .i64 x ∧ v1 = .int .i64 c ∧ v7 = .int .i64 p ∧ Hid (p * x ^ c.toNat % m = T) ∧ Hid (k = c.toNat) ∧ Ex w wr)
  case atStart => exact ⟨_, _, _, by omega, by omega, by omega, by omega, by omega, by omega, rfl, rfl, rfl, HT, Lib.hid rfl, Ex.refl _⟩
  case round =>
    obtain ⟨x, c, p, hx0, hx1, hc0, hc1, hp0, hp1, rfl, rfl, rfl, hI, hk, hw⟩ := hrel
    by_cases hc : 0 < c
    · have m1 := Eu.mul_le (a := x) (b := x) (A := 1000000) (B := 1000000) (by omega) (by omega) (by omega) (by omega)
      have m2 := Eu.mul_le (a := p) (b := x) (A := 1000000) (B := 1000000) (by omega) (by omega) (by omega) (by omega)
      obtain ⟨m1a, m1b⟩ := m1
      obtain ⟨m2a, m2b⟩ := m2
      have d1 := Int.emod_nonneg (x * x) (b := m) (by omega)
      have d2 := Int.emod_lt_of_pos (x * x) (b := m) (by omega)
      have d3 := Int.emod_nonneg (p * x) (b := m) (by omega)
      have d4 := Int.emod_lt_of_pos (p * x) (b := m) (by omega)
      have ec : (c / 2).toNat = c.toNat / 2 := by omega
      by_cases ho : c % 2 = 1
      · have HS : Hid (p * x % m * (x * x % m) ^ (c / 2).toNat % m = T) := by
          refine Lib.hid ?_
          rw [ec, sq_odd _ _ _ _ (by omega)]; exact hI.out
        clear ec
        go_wp2
        go_roundg (c / 2).toNat
        case measure => have := hk.out; omega
        case rel => exact ⟨x * x % m, c / 2, p * x % m, by omega, by omega, by omega, by omega, by omega, by omega, rfl, rfl, rfl, HS, Lib.hid rfl, hw⟩
      · have HS : Hid (p * (x * x % m) ^ (c / 2).toNat % m = T) := by
          refine Lib.hid ?_
          rw [ec, sq_even' _ _ _ _ (by omega)]; exact hI.out
        clear ec
        go_wp2
        go_roundg (c / 2).toNat
        case measure => have := hk.out; omega
        case rel => exact ⟨x * x % m, c / 2, p, by omega, by omega, by omega, by omega, by omega, by omega, rfl, rfl, rfl, HS, Lib.hid rfl, hw⟩
    · obtain rfl : c = 0 := by omega
      have he : p = T := by
        have := hI.out
        simp only [Int.toNat_zero, Int.pow_zero, Int.mul_one] at this
        rw [← this, Int.emod_eq_of_lt hp0 hp1]
      have HE := Lib.hid he
      clear he
      go_wp2
      go_ret
      exact ⟨by simp [HE.out], hw⟩

set_option maxHeartbeats 400000 in
theorem of_ok (a m : Int) (w : World) (h1 : 1 ≤ m) (h2 : m ≤ 1000000) :
    Calls Tryd.prog 23 #[.int .i64 a, .int .i64 m] w (Says (.tuple #[.int .i64 (a % m), .int .i64 0]) w) := by
  go_enter Tryd.func23, Tryd.ntmps23
  go_wp2_with (first
    | (go_at_call 31; refine (isMod_yes _ _ (by omega) (by omega)).mono ?_; rintro e w' ⟨rfl, rfl⟩)
    | (go_at_call 33; refine (rmod_any _ _ _ (by omega) (by omega)).mono ?_; rintro e w' ⟨rfl, rfl⟩))
  go_ret2
  exact .same

set_option maxHeartbeats 400000 in
theorem of_no (a m : Int) (w : World) (h : m < 1 ∨ 1000000 < m) :
    Calls Tryd.prog 23 #[.int .i64 a, .int .i64 m] w (Says (.tuple #[.int .i64 0, .int .i64 1]) w) := by
  go_enter Tryd.func23, Tryd.ntmps23
  go_wp2_with (
    (go_at_call 31; refine (isMod_no _ _ h).mono ?_; rintro e w' ⟨rfl, rfl⟩))
  go_ret2
  exact .same

set_option maxHeartbeats 400000 in
theorem pow_ok (a n m : Int) (w : World) (h1 : 1 ≤ m) (h2 : m ≤ 1000000) (hn : 0 ≤ n) (hn' : n ≤ 9223372036854775807) :
    Calls Tryd.prog 18 #[.int .i64 a, .int .i64 n, .int .i64 m] w (Says (.tuple #[.int .i64 (Pw a n.toNat m), .int .i64 0]) w) := by
  have b1 := Int.emod_nonneg a (b := m) (by omega)
  have b2 := Int.emod_lt_of_pos a (b := m) (by omega)
  have HP := Lib.hid (Pw_mod a m n.toNat)
  go_enter Tryd.func18, Tryd.ntmps18
  go_wp2_with (first
    | (go_at_call 31; refine (isMod_yes _ _ (by omega) (by omega)).mono ?_; rintro e w' ⟨rfl, rfl⟩)
    | (go_at_call 33; refine (rmod_any _ _ _ (by omega) (by omega)).mono ?_; rintro e w' ⟨rfl, rfl⟩)
    | (go_at_call 32; refine (power_any _ _ _ _ (by omega) (by omega) (by omega) (by omega) (by omega) (by omega)).mono ?_; rintro e w2 ⟨rfl, hw2⟩; rw [HP.out]))
  go_ret2
  exact ⟨rfl, hw2⟩

set_option maxHeartbeats 400000 in
theorem pow_no (a n m : Int) (w : World) (h : m < 1 ∨ 1000000 < m ∨ n < 0) :
    Calls Tryd.prog 18 #[.int .i64 a, .int .i64 n, .int .i64 m] w (Says (.tuple #[.int .i64 0, .int .i64 1]) w) := by
  by_cases hm : m < 1 ∨ 1000000 < m
  · clear h
    go_enter Tryd.func18, Tryd.ntmps18
    go_wp2_with (
      (go_at_call 31; refine (isMod_no _ _ hm).mono ?_; rintro e w' ⟨rfl, rfl⟩))
    go_ret2
    exact .same
  · have h1 : 1 ≤ m := by omega
    have h2 : m ≤ 1000000 := by omega
    have h3 : n < 0 := by omega
    clear h hm
    go_enter Tryd.func18, Tryd.ntmps18
    go_wp2_with (
      (go_at_call 31; refine (isMod_yes _ _ (by omega) (by omega)).mono ?_; rintro e w' ⟨rfl, rfl⟩))
    go_ret2
    exact .same





end Go.Proofs.YtcbaknnaacnaiaaDoor
