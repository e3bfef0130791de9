/-
  EuclidSays, walked where one of both numbers is 0; and all together.
-/
import Derived.Test.YtgnpchmglkabnaaSays
namespace Go.Proofs.Ytgnpchmglkabnaa
open Go.RowKit
open Eu


theorem L_left (b : Int) : L 0 b = 0 := by unfold L; simp
theorem L_right (a : Int) : L a 0 = 0 := by unfold L; simp

set_option maxRecDepth 100000 in
set_option maxHeartbeats 1000000 in
theorem euclidSays_zz (w : World) :
    Calls Try.prog 4 #[.int .i64 0, .int .i64 0] w (Says (.bool true) w) := by
  have HB : Hid ([(0 : Int), 0].any bigB = false) := by show _ = _; decide
  have hg : G 0 0 = 0 := G_zero 0 (by omega)
  have hs : St 0 0 = 0 := St_zero 0
  go_enter Try.func4, Try.ntmps4
  go_wp2_with (first
    | (go_at_call 10; refine (gcd_ok _ _ _ (by omega) (by omega) (by omega) (by omega)).mono ?_; rintro e w2 ⟨rfl, hw2⟩)
    | (go_at_call 11; refine (lcm_zero _ _ _ rfl rfl).mono ?_; rintro e w2 ⟨rfl, hw2⟩)
    | (go_at_call 12; refine (bezout_nil _ _ (by omega) (by omega)).mono ?_; rintro e w2 ⟨rfl, hw2⟩)
    | (go_at_call 13; refine (steps_okk _ _ _ (by omega)).mono ?_; rintro e w2 ⟨rfl, hw2⟩)
    | (go_at_call 15; refine (gcdOf_any _ _ _ (by omega) (by omega) (by omega) (by omega)).mono ?_; rintro e w2 ⟨rfl, hw2⟩)
    | (go_at_call 14; refine (big_new [0, 0] (by simp) _ rfl false HB.out _ rfl _ _).mono ?_; rintro e w2 ⟨rfl, hw2⟩))
  refine wp_loop_rounds 1 ?_
  rw [rounds_succ]
  go_wp2
  go_ret
  exact ⟨rfl, (by repeat (first | assumption | exact Ex.refl _ | refine Ex.trans ?_ (by assumption)))⟩

set_option maxRecDepth 100000 in
set_option maxHeartbeats 1000000 in
theorem euclidSays_pz (a : Int) (w : World) (ha : -1000000000 ≤ a) (ha' : a ≤ 1000000000) (ha0 : 0 < a) :
    Calls Try.prog 4 #[.int .i64 a, .int .i64 0] w (Says (.bool true) w) := by
  have HB : Hid ([a, 0].any bigB = false) := by show _ = _; simp [bigB_no ha ha', bigB_no (x := 0) (by omega) (by omega)]
  have hg : G a 0 = a := by rw [G_zero']; omega
  have hs : St a.toNat 0 = 0 := St_zero _
  have hl := L_right a
  have hsg : a.sign = 1 := Int.sign_eq_one_of_pos ha0
  have fa : (a == 0) = false := by simp; omega
  go_enter Try.func4, Try.ntmps4
  go_wp2_with (first
    | (go_at_call 10; refine (gcd_ok _ _ _ (by omega) (by omega) (by omega) (by omega)).mono ?_; rintro e w2 ⟨rfl, hw2⟩)
    | (go_at_call 11; refine (lcm_ok _ _ _ (by omega) (by omega) (by omega) (by omega) (by omega)).mono ?_; rintro e w2 ⟨rfl, hw2⟩)
    | (go_at_call 12; refine (bezout_nil _ _ (by omega) (by omega)).mono ?_; rintro e w2 ⟨rfl, hw2⟩)
    | (go_at_call 13; refine (steps_okk _ _ _ (by omega)).mono ?_; rintro e w2 ⟨rfl, hw2⟩)
    | (go_at_call 15; refine (gcdOf_any _ _ _ (by omega) (by omega) (by omega) (by omega)).mono ?_; rintro e w2 ⟨rfl, hw2⟩)
    | (go_at_call 14; refine (big_new [a, 0] (by simp) _ rfl false HB.out _ rfl _ _).mono ?_; rintro e w2 ⟨rfl, hw2⟩))
  (refine wp_loop_rounds 1 ?_; rw [rounds_succ]; go_wp2; go_ret; exact ⟨rfl, (by repeat (first | assumption | exact Ex.refl _ | refine Ex.trans ?_ (by assumption)))⟩)

set_option maxRecDepth 100000 in
set_option maxHeartbeats 1000000 in
theorem euclidSays_nz (a : Int) (w : World) (ha : -1000000000 ≤ a) (ha' : a ≤ 1000000000) (ha0 : a < 0) :
    Calls Try.prog 4 #[.int .i64 a, .int .i64 0] w (Says (.bool true) w) := by
  have HB : Hid ([a, 0].any bigB = false) := by show _ = _; simp [bigB_no ha ha', bigB_no (x := 0) (by omega) (by omega)]
  have hg : G a 0 = -a := by rw [G_zero']; omega
  have hs : St a.toNat 0 = 0 := St_zero _
  have hl := L_right a
  have hsg : a.sign = -1 := Int.sign_eq_neg_one_of_neg ha0
  have fa : (a == 0) = false := by simp; omega
  go_enter Try.func4, Try.ntmps4
  go_wp2_with (first
    | (go_at_call 10; refine (gcd_ok _ _ _ (by omega) (by omega) (by omega) (by omega)).mono ?_; rintro e w2 ⟨rfl, hw2⟩)
    | (go_at_call 11; refine (lcm_ok _ _ _ (by omega) (by omega) (by omega) (by omega) (by omega)).mono ?_; rintro e w2 ⟨rfl, hw2⟩)
    | (go_at_call 12; refine (bezout_nil _ _ (by omega) (by omega)).mono ?_; rintro e w2 ⟨rfl, hw2⟩)
    | (go_at_call 13; refine (steps_noo _ _ _ (by omega)).mono ?_; rintro e w2 ⟨rfl, hw2⟩)
    | (go_at_call 15; refine (gcdOf_any _ _ _ (by omega) (by omega) (by omega) (by omega)).mono ?_; rintro e w2 ⟨rfl, hw2⟩)
    | (go_at_call 14; refine (big_new [a, 0] (by simp) _ rfl false HB.out _ rfl _ _).mono ?_; rintro e w2 ⟨rfl, hw2⟩))
  (go_ret; exact ⟨rfl, (by repeat (first | assumption | exact Ex.refl _ | refine Ex.trans ?_ (by assumption)))⟩)

set_option maxRecDepth 100000 in
set_option maxHeartbeats 1000000 in
theorem euclidSays_zp (a b  : Int) (w : World) (ha0 : a = 0) (hb : -1000000000 ≤ b) (hb' : b ≤ 1000000000) (hb0 : 0 < b)  :
    Calls Try.prog 4 #[.int .i64 a, .int .i64 b] w (Says (.bool true) w) := by
  have HB : Hid ([a, b].any bigB = false) := by show _ = _; simp [bigB_no hb hb', bigB_no (x := a) (by omega) (by omega)]
  have hg0 : G a b = b := by rw [G_comm, ha0, G_zero']; omega
  have hl : L a b = 0 := by rw [ha0, L_left]
  have fb : (b == 0) = false := by simp; omega
  have fa : (a == 0) = true := by simp; omega
  have hg1 : b / b = 1 := Int.ediv_self (by omega)
  have A0 : 0 ≤ a := by omega
  have A1 : a ≤ 0 := by omega
  have HA := Lib.hid ha0
  clear ha0
  go_enter Try.func4, Try.ntmps4
  go_wp2_with (first
    | (go_at_call 10; refine (gcd_ok _ _ _ (by omega) (by omega) (by omega) (by omega)).mono ?_; rintro e w2 ⟨rfl, hw2⟩)
    | (go_at_call 11; refine (lcm_ok _ _ _ (by omega) (by omega) (by omega) (by omega) (by omega)).mono ?_; rintro e w2 ⟨rfl, hw2⟩)
    | (go_at_call 12; refine (bezout_ok _ _ _ (by omega) (by omega) (by omega) (by omega) (by omega)).mono ?_; rintro e w2 ⟨x, y, hx0, hx1, hxy, rfl, hw2⟩; rw [show (b.natAbs : Int) = b from (by omega), hg0, hg1] at hx1; (obtain rfl : x = 0 := by omega); rw [Int.zero_mul, hg0, Int.zero_add] at hxy; clear hx1 hx0)
    | (go_at_call 13; refine (steps_okk _ _ _ (by omega)).mono ?_; rintro e w2 ⟨rfl, hw2⟩)
    | (go_at_call 15; refine (gcdOf_any _ _ _ (by omega) (by omega) (by omega) (by omega)).mono ?_; rintro e w2 ⟨rfl, hw2⟩)
    | (go_at_call 14; refine (big_new [a, b] (by simp) _ rfl false HB.out _ rfl _ _).mono ?_; rintro e w2 ⟨rfl, hw2⟩))
  have HS : Hid (St a.toNat b.toNat ≤ b.toNat) := St_le _ _
  go_loopg [0, 1, 15] (b.toNat) (fun k v0 v1 v15 wr => ∃ (x y c : Int), 0 ≤ x ∧ x ≤ 1000000000 ∧ 0 ≤ y ∧ y ≤ 1000000000 ∧ 0 ≤ c ∧ c ≤ 1000000000 ∧ Hid (c + (St x.toNat y.toNat : Nat) = (St a.toNat b.toNat : Nat)) ∧ v0 = .int .i64 x ∧ v1 = .int .i64 y ∧ v15 = .int .i64 c ∧ Hid (k = y.toNat) ∧ Ex w wr)
  case atStart => exact ⟨_, _, _, by omega, by omega, by omega, by omega, by omega, by omega, Lib.hid (by simp), rfl, rfl, rfl, Lib.hid rfl, (by repeat (first | assumption | exact Ex.refl _ | refine Ex.trans ?_ (by assumption)))⟩
  case round =>
    obtain ⟨x, y, c, hx0, hx1, hy0, hy1, hc0, hc1, hS, rfl, rfl, rfl, hk, hw⟩ := hrel
    by_cases hy : y = 0
    · subst hy
      have hS := hS.out
      simp only [St_zero, Int.toNat_zero] at hS
      have hS2 : ((St a.toNat b.toNat : Nat) : Int) = c := by omega
      clear hS
      go_wp2
      go_ret
      exact ⟨by simp, hw⟩
    · have h1 := Int.emod_nonneg x hy
      have h2 := Int.emod_lt_of_pos x (b := y) (by omega)
      have h3 := Int.ediv_mul_le x hy
      have h4 : 0 ≤ x / y * y := Int.mul_nonneg (Int.ediv_nonneg hx0 hy0) hy0
      have h5 : x - x / y * y = x % y := by rw [Int.emod_def, Int.mul_comm]
      have h6 : x / y ≤ x := Int.ediv_le_self _ hx0
      have h7 : 0 ≤ x / y := Int.ediv_nonneg hx0 hy0
      go_wp2
      refine wp_region_wo (by kernel_rfl) (by kernel_rfl) ?_
      repeat (go_big_quiet_step (fail))
      refine wpQuiet_nil ?_
      rintro _ ⟨⟨w8, hw8⟩, rfl⟩
      go_wp2
      have hk := hk.out
      have hS := hS.out
      have hL := HS.out
      have e3 : (x % y).toNat = x.toNat % y.toNat := by
        have : ((x.toNat % y.toNat : Nat) : Int) = x % y := by rw [Int.natCast_emod]; congr 1 <;> omega
        omega
      rw [St_step _ _ (by omega), ← e3] at hS
      go_roundg (x % y).toNat
      case measure => omega
      case rel => exact ⟨y, x % y, c + 1, hy0, hy1, h1, by omega, by omega, by omega, Lib.hid (by omega), rfl, rfl, rfl, Lib.hid rfl, hw.trans hw8⟩

set_option maxRecDepth 100000 in
set_option maxHeartbeats 1000000 in
theorem euclidSays_zn (a b d : Int) (w : World) (ha0 : a = 0) (hb : -1000000000 ≤ b) (hb' : b ≤ 1000000000) (hb0 : b < 0) (hm : -b = d) :
    Calls Try.prog 4 #[.int .i64 a, .int .i64 b] w (Says (.bool true) w) := by
  have HB : Hid ([a, b].any bigB = false) := by show _ = _; simp [bigB_no hb hb', bigB_no (x := a) (by omega) (by omega)]
  have hg0 : G a b = d := by rw [G_comm, ha0, G_zero']; omega
  have hl : L a b = 0 := by rw [ha0, L_left]
  have fb : (b == 0) = false := by simp; omega
  have fa : (a == 0) = true := by simp; omega
  have hg1 : d / d = 1 := Int.ediv_self (by omega)
  have A0 : 0 ≤ a := by omega
  have A1 : a ≤ 0 := by omega
  have HA := Lib.hid ha0
  clear ha0
  go_enter Try.func4, Try.ntmps4
  go_wp2_with (first
    | (go_at_call 10; refine (gcd_ok _ _ _ (by omega) (by omega) (by omega) (by omega)).mono ?_; rintro e w2 ⟨rfl, hw2⟩)
    | (go_at_call 11; refine (lcm_ok _ _ _ (by omega) (by omega) (by omega) (by omega) (by omega)).mono ?_; rintro e w2 ⟨rfl, hw2⟩)
    | (go_at_call 12; refine (bezout_ok _ _ _ (by omega) (by omega) (by omega) (by omega) (by omega)).mono ?_; rintro e w2 ⟨x, y, hx0, hx1, hxy, rfl, hw2⟩; rw [show (b.natAbs : Int) = d from (by omega), hg0, hg1] at hx1; (obtain rfl : x = 0 := by omega); rw [Int.zero_mul, hg0, Int.zero_add] at hxy; clear hx1 hx0)
    | (go_at_call 13; refine (steps_noo _ _ _ (by omega)).mono ?_; rintro e w2 ⟨rfl, hw2⟩)
    | (go_at_call 15; refine (gcdOf_any _ _ _ (by omega) (by omega) (by omega) (by omega)).mono ?_; rintro e w2 ⟨rfl, hw2⟩)
    | (go_at_call 14; refine (big_new [a, b] (by simp) _ rfl false HB.out _ rfl _ _).mono ?_; rintro e w2 ⟨rfl, hw2⟩))
  (go_ret; exact ⟨rfl, (by repeat (first | assumption | exact Ex.refl _ | refine Ex.trans ?_ (by assumption)))⟩)

theorem euclidSays_walk (a b : Int) (w : World) (_ : I64 a) (_ : I64 b) :
    Calls Try.prog 4 #[.int .i64 a, .int .i64 b] w (Says (.bool true) w) := by
  by_cases hF : Fit a ∧ Fit b
  · obtain ⟨⟨ha, ha'⟩, hb, hb'⟩ := hF
    rcases Int.lt_trichotomy a 0 with h1 | h1 | h1 <;> rcases Int.lt_trichotomy b 0 with h2 | h2 | h2
    · exact euclidSays_nn a b _ _ w rfl rfl ha ha' hb hb' h1 h2
    · subst h2; exact euclidSays_nz a w ha ha' h1
    · exact euclidSays_np a b _ w rfl ha ha' hb hb' h1 h2
    · exact euclidSays_zn a b _ w h1 hb hb' h2 rfl
    · subst h1; subst h2; exact euclidSays_zz w
    · exact euclidSays_zp a b w h1 hb hb' h2
    · exact euclidSays_pn a b _ w rfl ha ha' hb hb' h1 h2
    · subst h2; exact euclidSays_pz a w ha ha' h1
    · exact euclidSays_pp a b w ha ha' hb hb' h1 h2
  · exact euclidSays_big a b w hF

end Go.Proofs.Ytgnpchmglkabnaa
