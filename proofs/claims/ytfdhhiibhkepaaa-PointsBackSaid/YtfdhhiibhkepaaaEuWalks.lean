/-
  The walks over package euclid: what Gcd, Lcm, Steps, Bezout answer.
-/
import Derived.Test.YtfdhhiibhkepaaaChecked
import Derived.Test.YtfdhhiibhkepaaaEuMath
import Derived.Test.YtfdhhiibhkepaaaBase
namespace Go.Proofs.Ytfdhhiibhkepaaa
open Go.RowKit
open Eu

set_option maxHeartbeats 400000 in
theorem inRange_yes (a : Int) (w : World) (h0 : -1000000000 ≤ a) (h1 : a ≤ 1000000000) :
    Calls Try.prog 67 #[.int .i64 a] w fun e w' => e = .returned (.bool true) ∧ w = w' := by
  go_enter Try.func67, Try.ntmps67
  go_wp2
  go_ret
  exact ⟨rfl, rfl⟩

set_option maxHeartbeats 400000 in
theorem inRange_no (a : Int) (w : World) (h : a < -1000000000 ∨ 1000000000 < a) :
    Calls Try.prog 67 #[.int .i64 a] w fun e w' => e = .returned (.bool false) ∧ w = w' := by
  rcases h with h | h
  · go_enter Try.func67, Try.ntmps67
    go_wp2
    go_ret
    exact ⟨rfl, rfl⟩
  · have h2 : -1000000000 ≤ a := by omega
    go_enter Try.func67, Try.ntmps67
    go_wp2
    go_ret
    exact ⟨by simp; omega, rfl⟩

set_option maxHeartbeats 400000 in
theorem abs_any (a : Int) (w : World) (h0 : -1000000000 ≤ a) (h1 : a ≤ 1000000000) :
    Calls Try.prog 66 #[.int .i64 a] w fun e w' => e = .returned (.int .i64 (a.natAbs : Int)) ∧ w = w' := by
  by_cases h : a < 0
  · go_enter Try.func66, Try.ntmps66
    go_wp2
    go_ret
    have e : -a = (a.natAbs : Int) := by omega
    exact ⟨by simp [e], rfl⟩
  · go_enter Try.func66, Try.ntmps66
    go_wp2
    go_ret
    have e : a = (a.natAbs : Int) := by omega
    exact ⟨by simp [← e], rfl⟩

set_option maxHeartbeats 400000 in
theorem gcd_ok (a b : Int) (w : World) (ha : -1000000000 ≤ a) (ha' : a ≤ 1000000000) (hb : -1000000000 ≤ b) (hb' : b ≤ 1000000000) :
    Calls Try.prog 62 #[.int .i64 a, .int .i64 b] w (Says (.tuple #[.int .i64 (G a b), .int .i64 0]) w) := by
  go_enter Try.func62, Try.ntmps62
  go_wp2_with (first
    | (go_at_call 67; refine (inRange_yes _ _ (by omega) (by omega)).mono ?_; rintro e w' ⟨rfl, rfl⟩)
    | (go_at_call 66; refine (abs_any _ _ (by omega) (by omega)).mono ?_; rintro e w' ⟨rfl, rfl⟩))
  go_loopg [0, 1] (b.natAbs) (fun k v0 v1 wr => ∃ (x y : Int), 0 ≤ x ∧ x ≤ 1000000000 ∧ 0 ≤ y ∧ y ≤ 1000000000 ∧ Hid (G x y = G a b) ∧ v0 = .int .i64 x ∧ v1 = .int .i64 y ∧ Hid (k = y.toNat) ∧ Ex w wr)
  case atStart => exact ⟨_, _, by omega, by omega, by omega, by omega, Lib.hid (G_natAbs a b), rfl, rfl, Lib.hid (by simp), Ex.refl _⟩
  case round =>
    obtain ⟨x, y, hx0, hx1, hy0, hy1, hG, rfl, rfl, hk, hw⟩ := hrel
    by_cases hy : y = 0
    · subst hy
      go_wp2
      go_ret2
      have := hG.out
      rw [G_zero x hx0] at this
      exact ⟨by simp [this], hw⟩
    · go_wp2
      refine wp_region_wo (by kernel_rfl) (by kernel_rfl) ?_
      repeat (go_big_quiet_step (fail))
      refine wpQuiet_nil ?_
      rintro _ ⟨⟨w2, hw2⟩, rfl⟩
      go_wp2
      have h1 := Int.emod_nonneg x hy
      have h2 := Int.emod_lt_of_pos x (b := y) (by omega)
      have hk := hk.out
      go_roundg (x % y).toNat
      case measure => omega
      case rel => exact ⟨y, x % y, hy0, hy1, h1, by omega, Lib.hid (by rw [G_step]; exact hG.out), rfl, rfl, Lib.hid rfl, hw.trans hw2⟩

/-- In the range of the package. -/
def Fit (a : Int) : Prop := -1000000000 ≤ a ∧ a ≤ 1000000000

set_option maxHeartbeats 400000 in
theorem gcd_no (a b : Int) (w : World) (h : ¬ (Fit a ∧ Fit b)) :
    Calls Try.prog 62 #[.int .i64 a, .int .i64 b] w (Says (.tuple #[.int .i64 0, .int .i64 1]) w) := by
  by_cases ha : Fit a
  · have hb : b < -1000000000 ∨ 1000000000 < b := by unfold Fit at *; omega
    clear h
    unfold Fit at ha
    obtain ⟨ha, ha'⟩ := ha
    go_enter Try.func62, Try.ntmps62
    go_wp2_with (first
      | (go_at_call 67; refine (inRange_yes _ _ (by omega) (by omega)).mono ?_; rintro e w' ⟨rfl, rfl⟩)
      | (go_at_call 67; refine (inRange_no _ _ (by omega)).mono ?_; rintro e w' ⟨rfl, rfl⟩))
    go_ret2
    exact .same
  · have ha : a < -1000000000 ∨ 1000000000 < a := by unfold Fit at *; omega
    clear h
    go_enter Try.func62, Try.ntmps62
    go_wp2_with (
      (go_at_call 67; refine (inRange_no _ _ (by omega)).mono ?_; rintro e w' ⟨rfl, rfl⟩))
    go_ret2
    exact .same

set_option maxHeartbeats 400000 in
theorem efactor_ok (a m : Int) (w : World) (ha : 0 ≤ a) (ha' : a ≤ m) (hm : 0 < m) (hm' : m ≤ 1000000000) :
    Calls Try.prog 65 #[.int .i64 a, .int .i64 m] w (fun e w' => ∃ x : Int, (∃ k, G a m = x * a + k * m) ∧ -m ≤ x ∧ x ≤ m ∧ Says (.int .i64 x) w e w') := by
  go_enter Try.func65, Try.ntmps65
  go_wp2_with (fail)
  go_loopg [5, 6, 7, 8] (a.toNat) (fun k v5 v6 v7 v8 wr => ∃ (r s x y : Int), FInv m a r s x y ∧ v5 = .int .i64 r ∧ v6 = .int .i64 s ∧ v7 = .int .i64 x ∧ v8 = .int .i64 y ∧ Hid (k = s.toNat) ∧ Ex w wr)
  case atStart => exact ⟨_, _, _, _, .start ha ha' hm, rfl, rfl, rfl, rfl, Lib.hid rfl, Ex.refl _⟩
  case round =>
    obtain ⟨r, s, x, y, hI, rfl, rfl, rfl, rfl, hk, hw⟩ := hrel
    have hr0 := hI.r0
    have hrm := hI.rm
    have hs0 := hI.s0
    by_cases hs : s = 0
    · subst hs
      go_wp2
      go_ret
      have hg := hI.g
      rw [G_zero _ (by omega)] at hg
      obtain ⟨k, e1⟩ := hI.e1
      exact ⟨x, ⟨k, by omega⟩, hI.bx.1, hI.bx.2, rfl, hw⟩
    · obtain ⟨hI2, q0, q1, q2, q3, q4, q5⟩ := hI.round (by omega)
      have hd := Int.emod_lt_of_pos r (b := s) (by omega)
      have hd2 : r - r / s * s = r % s := by rw [Int.emod_def, Int.mul_comm]
      have H : Hid (FInv m a s (r - r / s * s) y (x - r / s * y) ∧ r - r / s * s = r % s) := ⟨hI2, hd2⟩
      have HI : Hid (FInv m a r s x y) := hI
      clear hI hI2 hd2
      go_wp2
      have hI2 := H.out.1
      have hd2 := H.out.2
      have hk := hk.out
      have b1 := hI2.bY
      go_roundg (r - r / s * s).toNat
      case measure => omega
      case rel => exact ⟨_, _, _, _, hI2, rfl, int_eq (by go_unwrap), rfl, int_eq (by go_unwrap), Lib.hid rfl, hw⟩

set_option maxHeartbeats 400000 in
theorem mod_any (n m : Int) (w : World) (hn : -1000000000 ≤ n) (hn' : n ≤ 1000000000) (hm : 0 < m) (hm' : m ≤ 1000000000) :
    Calls Try.prog 64 #[.int .i64 n, .int .i64 m] w (fun e w' => e = .returned (.int .i64 (n % m)) ∧ w = w') := by
  have h1 := Int.emod_nonneg n (b := m) (by omega)
  have h2 := Int.emod_lt_of_pos n hm
  by_cases h : n < 0
  · have h3 := Int.tmod_lt_of_pos n hm
    have h4 := Int.lt_tmod_of_pos n hm
    go_enter Try.func64, Try.ntmps64
    go_wp2
    go_ret
    exact ⟨by simp [tmod_mod'], rfl⟩
  · go_enter Try.func64, Try.ntmps64
    go_wp2
    go_ret
    exact ⟨rfl, rfl⟩

set_option maxHeartbeats 400000 in
theorem sign_any (n : Int) (w : World) :
    Calls Try.prog 63 #[.int .i64 n] w (fun e w' => e = .returned (.int .i64 n.sign) ∧ w = w') := by
  rcases Int.lt_trichotomy n 0 with h | h | h
  · rw [Int.sign_eq_neg_one_of_neg h]
    go_enter Try.func63, Try.ntmps63
    go_wp2
    go_ret
    exact ⟨rfl, rfl⟩
  · subst h
    go_enter Try.func63, Try.ntmps63
    go_wp2
    go_ret
    exact ⟨rfl, rfl⟩
  · rw [Int.sign_eq_one_of_pos h]
    go_enter Try.func63, Try.ntmps63
    go_wp2
    go_ret
    exact ⟨rfl, rfl⟩

set_option maxHeartbeats 400000 in
theorem bezout_no (a b : Int) (w : World) (h : ¬ (Fit a ∧ Fit b)) :
    Calls Try.prog 58 #[.int .i64 a, .int .i64 b] w (Says (.tuple #[.int .i64 0, .int .i64 0, .int .i64 0, .int .i64 1]) w) := by
  go_enter Try.func58, Try.ntmps58
  go_wp2_with (
    (go_at_call 62; refine (gcd_no _ _ _ h).mono ?_; rintro e w2 ⟨rfl, hw2⟩))
  go_returns
  exact ⟨rfl, hw2⟩

set_option maxHeartbeats 400000 in
theorem bezout_nil (a : Int) (w : World) (ha : -1000000000 ≤ a) (ha' : a ≤ 1000000000) :
    Calls Try.prog 58 #[.int .i64 a, .int .i64 0] w (Says (.tuple #[.int .i64 a.sign, .int .i64 0, .int .i64 (G a 0), .int .i64 0]) w) := by
  go_enter Try.func58, Try.ntmps58
  go_wp2_with (first
    | (go_at_call 62; refine (gcd_ok _ _ _ (by omega) (by omega) (by omega) (by omega)).mono ?_; rintro e w2 ⟨rfl, hw2⟩)
    | (go_at_call 63; refine (sign_any _ _).mono ?_; rintro e w' ⟨rfl, rfl⟩))
  go_returns
  exact ⟨rfl, hw2⟩

/-- What Bezout says where b is not 0. -/
def BezoutSays (a b : Int) (w : World) (e : Ending) (w2 : World) : Prop :=
  ∃ x y : Int, 0 ≤ x ∧ x < (b.natAbs : Int) / G a b ∧ x * a + y * b = G a b ∧ Says (.tuple #[.int .i64 x, .int .i64 y, .int .i64 (G a b), .int .i64 0]) w e w2

set_option maxHeartbeats 400000 in
theorem bezout_ok (a b : Int) (w : World) (ha : -1000000000 ≤ a) (ha' : a ≤ 1000000000) (hb : -1000000000 ≤ b) (hb' : b ≤ 1000000000) (h0 : b ≠ 0) :
    Calls Try.prog 58 #[.int .i64 a, .int .i64 b] w (BezoutSays a b w) := by
  have hg := G_pos (a := a) (.inr h0)
  have hl := G_le 1000000000 ha ha' hb hb'
  have hm1 := Int.emod_nonneg a (b := (b.natAbs : Int)) (by omega)
  have hm2 := Int.emod_lt_of_pos a (b := (b.natAbs : Int)) (by omega)
  have hgm : G a b ∣ (b.natAbs : Int) := Int.dvd_natAbs.mpr (G_dvd_right a b)
  have hgle := Int.le_of_dvd (by omega) hgm
  have hn0 : 0 < (b.natAbs : Int) / G a b := Int.ediv_pos_of_pos_of_dvd (by omega) (by omega) hgm
  have hn1 : (b.natAbs : Int) / G a b ≤ (b.natAbs : Int) := Int.ediv_le_self _ (by omega)
  clear hgm
  go_enter Try.func58, Try.ntmps58
  go_wp2_with (first
    | (go_at_call 62; refine (gcd_ok _ _ _ (by omega) (by omega) (by omega) (by omega)).mono ?_; rintro e w2 ⟨rfl, hw2⟩)
    | (go_at_call 66; refine (abs_any _ _ (by omega) (by omega)).mono ?_; rintro e w' ⟨rfl, rfl⟩)
    | (go_at_call 65; refine (efactor_ok _ _ _ (by omega) (by omega) (by omega) (by omega)).mono ?_; rintro e w3 ⟨x0, hk, hx0, hx1, rfl, hw3⟩; have HK := Lib.hid hk; clear hk)
    | (go_at_call 64; refine (mod_any _ _ _ (by omega) (by omega) (by omega) (by omega)).mono ?_; rintro e w' ⟨rfl, rfl⟩))
  obtain ⟨y, hy⟩ := bezout_dvd h0 HK.out
  have HY := Lib.hid hy
  have hx2 := Int.emod_nonneg x0 (b := (b.natAbs : Int) / G a b) (by omega)
  have hx3 := Int.emod_lt_of_pos x0 hn0
  have hxa := abs_mul_le (B := 1000000000) (C := 1000000000) (a := x0 % ((b.natAbs : Int) / G a b)) (b := a) (by omega) (by omega) (by omega) (by omega)
  clear HK hy
  refine wp_region_wo (by kernel_rfl) (by kernel_rfl) ?_
  repeat (go_big_quiet_step (fail))
  refine wpQuiet_nil ?_
  rintro _ ⟨⟨w4, hw4⟩, rfl⟩
  go_wp2
  go_returns
  have hy := HY.out
  have hb2 := abs_le_mul (y := y) h0
  have e1 : wrap64 ((G a b - x0 % ((b.natAbs : Int) / G a b) * a).tdiv b) = y := by
    rw [hy, Int.mul_tdiv_cancel_left _ h0]
    exact IntWalk.wrap64_in _ (by omega)
  refine ⟨_, y, hx2, hx3, ?_, ?_, (hw2.trans hw3).trans hw4⟩
  · rw [Int.mul_comm y b]; omega
  · rw [e1]

end Go.Proofs.Ytfdhhiibhkepaaa
