/-
  Package rest, walked: isModulus, mod, power, Of, Pow, Inverse.
-/
import Derived.Test.YtfdhhiibhkepaaaSmall
import Derived.Test.YtfdhhiibhkepaaaRsMath
import Derived.Test.YtfdhhiibhkepaaaEuWalks
namespace Go.Proofs.Ytfdhhiibhkepaaa
open Go.RowKit
open Eu Rs

/-- A number to reckon by. -/
def Md (m : Int) : Prop := 1 ≤ m ∧ m ≤ 1000000

set_option maxHeartbeats 400000 in
theorem isMod_yes (m : Int) (w : World) (h1 : 1 ≤ m) (h2 : m ≤ 1000000) :
    Calls Try.prog 57 #[.int .i64 m] w fun e w' => e = .returned (.bool true) ∧ w = w' := by
  go_enter Try.func57, Try.ntmps57
  go_wp2
  go_ret
  exact ⟨rfl, rfl⟩

set_option maxHeartbeats 400000 in
theorem isMod_no (m : Int) (w : World) (h : m < 1 ∨ 1000000 < m) :
    Calls Try.prog 57 #[.int .i64 m] w fun e w' => e = .returned (.bool false) ∧ w = w' := by
  rcases h with h | h
  · go_enter Try.func57, Try.ntmps57
    go_wp2
    go_ret
    exact ⟨by first | rfl | (simp; done) | (simp; omega), rfl⟩
  · have h2 : 1 ≤ m := by omega
    go_enter Try.func57, Try.ntmps57
    go_wp2
    go_ret
    exact ⟨by first | rfl | (simp; done) | (simp; omega), rfl⟩

set_option maxHeartbeats 400000 in
theorem rmod_any (n m : Int) (w : World) (hm : 1 ≤ m) (hm' : m ≤ 1000000) :
    Calls Try.prog 59 #[.int .i64 n, .int .i64 m] w (fun e w' => e = .returned (.int .i64 (n % m)) ∧ w = w') := by
  have h1 := Int.emod_nonneg n (b := m) (by omega)
  have h2 := Int.emod_lt_of_pos n (b := m) (by omega)
  by_cases h : n < 0
  · have h3 := Int.tmod_lt_of_pos n (b := m) (by omega)
    have h4 := Int.lt_tmod_of_pos n (b := m) (by omega)
    go_enter Try.func59, Try.ntmps59
    go_wp2
    go_ret
    exact ⟨by simp [tmod_mod'], rfl⟩
  · go_enter Try.func59, Try.ntmps59
    go_wp2
    go_ret
    exact ⟨rfl, rfl⟩

set_option maxHeartbeats 400000 in
theorem of_ok (a m : Int) (w : World) (h1 : 1 ≤ m) (h2 : m ≤ 1000000) :
    Calls Try.prog 50 #[.int .i64 a, .int .i64 m] w (Says (.tuple #[.int .i64 (a % m), .int .i64 0]) w) := by
  go_enter Try.func50, Try.ntmps50
  go_wp2_with (first
    | (go_at_call 57; refine (isMod_yes _ _ (by omega) (by omega)).mono ?_; rintro e w' ⟨rfl, rfl⟩)
    | (go_at_call 59; refine (rmod_any _ _ _ (by omega) (by omega)).mono ?_; rintro e w' ⟨rfl, rfl⟩))
  go_ret2
  exact .same

set_option maxHeartbeats 400000 in
theorem of_no (a m : Int) (w : World) (h : m < 1 ∨ 1000000 < m) :
    Calls Try.prog 50 #[.int .i64 a, .int .i64 m] w (Says (.tuple #[.int .i64 0, .int .i64 1]) w) := by
  go_enter Try.func50, Try.ntmps50
  go_wp2_with (
    (go_at_call 57; refine (isMod_no _ _ h).mono ?_; rintro e w' ⟨rfl, rfl⟩))
  go_ret2
  exact .same



/-- What Inverse says where there is one. -/
def InverseSays (a m : Int) (w : World) (e : Ending) (w2 : World) : Prop :=
  ∃ x : Int, 0 ≤ x ∧ x < m ∧ Hid (x * a % m = 1 % m) ∧ Says (.tuple #[.int .i64 x, .int .i64 0]) w e w2

set_option maxHeartbeats 400000 in
theorem inverse_ok (a m : Int) (w : World) (h1 : 1 ≤ m) (h2 : m ≤ 1000000) (hg : G a m = 1) :
    Calls Try.prog 47 #[.int .i64 a, .int .i64 m] w (InverseSays a m w) := by
  have b1 := Int.emod_nonneg a (b := m) (by omega)
  have b2 := Int.emod_lt_of_pos a (b := m) (by omega)
  have hg2 : G (a % m) m = 1 := by rw [G_mod, hg]
  have HG := Lib.hid hg2
  have HE : Hid ((m.natAbs : Int) / 1 = m) := Lib.hid (by omega)
  clear hg hg2
  go_enter Try.func47, Try.ntmps47
  go_wp2_with (first
    | (go_at_call 57; refine (isMod_yes _ _ (by omega) (by omega)).mono ?_; rintro e w' ⟨rfl, rfl⟩)
    | (go_at_call 59; refine (rmod_any _ _ _ (by omega) (by omega)).mono ?_; rintro e w' ⟨rfl, rfl⟩)
    | (go_at_call 58; refine (bezout_ok _ _ _ (by omega) (by omega) (by omega) (by omega) (by omega)).mono ?_; rintro e w2 ⟨x, y, hx0, hx1, hxy, rfl, hw2⟩; rw [HG.out] at hx1 hxy ⊢; rw [HE.out] at hx1; have HX := Lib.hid hxy; clear hxy))
  go_ret2
  exact ⟨x, hx0, hx1, Lib.hid (by rw [← mul_emod_right]; exact bezout_inv HX.out), rfl, hw2⟩

set_option maxHeartbeats 400000 in
theorem inverse_none (a m : Int) (w : World) (h1 : 1 ≤ m) (h2 : m ≤ 1000000) (hg : G a m ≠ 1) :
    Calls Try.prog 47 #[.int .i64 a, .int .i64 m] w (Says (.tuple #[.int .i64 0, .int .i64 4]) w) := by
  have b1 := Int.emod_nonneg a (b := m) (by omega)
  have b2 := Int.emod_lt_of_pos a (b := m) (by omega)
  have HG := Lib.hid (G_mod a m)
  have hg1 : (G a m == 1) = false := by simpa using hg
  have hg2 : (G a m != 1) = true := by simpa using hg
  clear hg
  go_enter Try.func47, Try.ntmps47
  go_wp2_with (first
    | (go_at_call 57; refine (isMod_yes _ _ (by omega) (by omega)).mono ?_; rintro e w' ⟨rfl, rfl⟩)
    | (go_at_call 59; refine (rmod_any _ _ _ (by omega) (by omega)).mono ?_; rintro e w' ⟨rfl, rfl⟩)
    | (go_at_call 58; refine (bezout_ok _ _ _ (by omega) (by omega) (by omega) (by omega) (by omega)).mono ?_; rintro e w2 ⟨x, y, hx0, hx1, hxy, rfl, hw2⟩; rw [HG.out] at hx1 hxy ⊢; have HX := Lib.hid hxy; clear hxy hx1))
  go_ret2
  exact ⟨rfl, hw2⟩

set_option maxHeartbeats 400000 in
theorem inverse_no (a m : Int) (w : World) (h : m < 1 ∨ 1000000 < m) :
    Calls Try.prog 47 #[.int .i64 a, .int .i64 m] w (Says (.tuple #[.int .i64 0, .int .i64 1]) w) := by
  go_enter Try.func47, Try.ntmps47
  go_wp2_with (
    (go_at_call 57; refine (isMod_no _ _ h).mono ?_; rintro e w' ⟨rfl, rfl⟩))
  go_ret2
  exact .same

end Go.Proofs.Ytfdhhiibhkepaaa
