/-
  EuclidSays, walked.
-/
import Derived.Test.YtgnpchmglkabnaaEuWalks
import Derived.Test.YtgnpchmglkabnaaGcdOf
namespace Go.Proofs.Ytgnpchmglkabnaa
open Go.RowKit
open Eu

theorem steps_noo (a b : Int) (w : World) (h : a < 0 ∨ b < 0 ∨ 1000000000 < a ∨ 1000000000 < b) :
    Calls Try.prog 13 #[.int .i64 a, .int .i64 b] w (Says (.tuple #[.int .i64 0, .int .i64 1]) w) := steps_no a b w h
theorem steps_okk (a b : Int) (w : World) (h : 0 ≤ a ∧ a ≤ 1000000000 ∧ 0 ≤ b ∧ b ≤ 1000000000) :
    Calls Try.prog 13 #[.int .i64 a, .int .i64 b] w (Says (.tuple #[.int .i64 (St a.toNat b.toNat : Nat), .int .i64 0]) w) := steps_ok a b w h.1 h.2.1 h.2.2.1 h.2.2.2

set_option maxRecDepth 100000 in
set_option maxHeartbeats 1000000 in
theorem euclidSays_big (a b : Int) (w : World) (h : ¬ (Fit a ∧ Fit b)) :
    Calls Try.prog 4 #[.int .i64 a, .int .i64 b] w (Says (.bool true) w) := by
  have hbig : [a, b].any bigB = true := by
    unfold Fit at h
    have : bigB a = true ∨ bigB b = true := by
      by_cases h1 : a < -1000000000 ∨ 1000000000 < a
      · exact .inl (bigB_yes h1)
      · exact .inr (bigB_yes (by omega))
    simpa using this
  have HB := Lib.hid hbig
  have HF := Lib.hid h
  have HS : Hid (a < 0 ∨ b < 0 ∨ 1000000000 < a ∨ 1000000000 < b) := by show _ ∨ _; unfold Fit at h; omega
  clear hbig h
  go_enter Try.func4, Try.ntmps4
  go_wp2_with (first
    | (go_at_call 10; refine (gcd_no _ _ _ HF.out).mono ?_; rintro e w2 ⟨rfl, hw2⟩)
    | (go_at_call 11; refine (lcm_no _ _ _ HF.out).mono ?_; rintro e w2 ⟨rfl, hw2⟩)
    | (go_at_call 12; refine (bezout_no _ _ _ HF.out).mono ?_; rintro e w2 ⟨rfl, hw2⟩)
    | (go_at_call 13; refine (steps_no _ _ _ HS.out).mono ?_; rintro e w2 ⟨rfl, hw2⟩)
    | (go_at_call 14; refine (big_new [a, b] (by simp) _ rfl true HB.out _ rfl _ _).mono ?_; rintro e w2 ⟨rfl, hw2⟩))
  go_ret
  exact ⟨rfl, (by repeat (first | assumption | exact Ex.refl _ | refine Ex.trans ?_ (by assumption)))⟩

/-- What the law asks of the least common multiple. -/
theorem says_L {a b A B : Int} (hA : A = a ∨ A = -a) (hA0 : 0 < A) (hA1 : A ≤ 1000000000) (hB : B = b ∨ B = -b) (hB0 : 0 < B) (hB1 : B ≤ 1000000000) :
    L a b / G a b = A / G a b * (B / G a b) ∧ L a b % G a b = 0 ∧ 1 ≤ L a b ∧ L a b ≤ 1000000000000000000 ∧ 0 ≤ A / G a b ∧ A / G a b ≤ 1000000000 ∧ 0 ≤ B / G a b ∧ B / G a b ≤ 1000000000 ∧
      0 ≤ A / G a b * (B / G a b) ∧ A / G a b * (B / G a b) ≤ 1000000000000000000 := by
  have eA : (a.natAbs : Int) = A := by omega
  have eB : (b.natAbs : Int) = B := by omega
  have hg := G_pos (a := a) (b := b) (.inl (by omega))
  have hbd := L_bound a b (by omega) (by omega) (by omega) (by omega)
  have hv := L_val a b
  rw [eA, eB] at hv
  rw [eA] at hbd
  have dA : G a b ∣ A := by rw [← eA]; exact Int.dvd_natAbs.mpr (G_dvd_left a b)
  have dB : G a b ∣ B := by rw [← eB]; exact Int.dvd_natAbs.mpr (G_dvd_right a b)
  have h1 : 0 < A / G a b := Int.ediv_pos_of_pos_of_dvd hA0 (by omega) dA
  have h2 : 0 < B / G a b := Int.ediv_pos_of_pos_of_dvd hB0 (by omega) dB
  have h3 : B / G a b ≤ 1000000000 := Int.le_trans (Int.ediv_le_self _ (by omega)) hB1
  have h4 := mul_le (a := A / G a b) (b := B / G a b) (by omega) (by omega) hbd.2.1 h3
  have h5 : L a b = A / G a b * (B / G a b) * G a b := by rw [hv, Int.mul_assoc, Int.ediv_mul_cancel dB]
  have h6 : 0 < L a b := by rw [hv]; exact Int.mul_pos h1 hB0
  refine ⟨?_, ?_, by omega, hbd.2.2.2, by omega, hbd.2.1, by omega, h3, h4.1, by omega⟩
  · rw [h5]; exact Int.mul_ediv_cancel _ (by omega)
  · rw [h5]; exact Int.mul_emod_left _ _

set_option maxRecDepth 100000 in
set_option maxHeartbeats 1000000 in
theorem euclidSays_pp (a b  : Int) (w : World)  (ha : -1000000000 ≤ a) (ha' : a ≤ 1000000000) (hb : -1000000000 ≤ b) (hb' : b ≤ 1000000000) (ha0 : 0 < a) (hb0 : 0 < b) :
    Calls Try.prog 4 #[.int .i64 a, .int .i64 b] w (Says (.bool true) w) := by
  have hg := G_pos (a := a) (b := b) (.inl (by omega))
  have hl := G_le 1000000000 ha ha' hb hb'
  have fa : (a == 0) = false := by simp; omega
  have fb : (b == 0) = false := by simp; omega
  have HL := Lib.hid (says_L (a := a) (b := b) (A := a) (B := b) (by omega) (by omega) (by omega) (by omega) (by omega) (by omega))
  have HB : Hid ([a, b].any bigB = false) := by show _ = _; simp [bigB_no ha ha', bigB_no hb hb']
  go_enter Try.func4, Try.ntmps4
  go_wp2_with (first
    | (go_at_call 10; refine (gcd_ok _ _ _ (by omega) (by omega) (by omega) (by omega)).mono ?_; rintro e w2 ⟨rfl, hw2⟩)
    | (go_at_call 11; refine (lcm_ok _ _ _ (by omega) (by omega) (by omega) (by omega) (by omega)).mono ?_; rintro e w2 ⟨rfl, hw2⟩)
    | (go_at_call 12; refine (bezout_ok _ _ _ (by omega) (by omega) (by omega) (by omega) (by omega)).mono ?_; rintro e w2 ⟨x, y, hx0, hx1, hxy, rfl, hw2⟩; have HXY := Lib.hid hxy; have HX := Lib.hid hx1; clear hxy hx1)
    | (go_at_call 13; refine (steps_okk _ _ _ (by omega)).mono ?_; rintro e w2 ⟨rfl, hw2⟩)
    | (go_at_call 15; refine (gcdOf_any _ _ _ (by omega) (by omega) (by omega) (by omega)).mono ?_; rintro e w2 ⟨rfl, hw2⟩)
    | (go_at_call 14; refine (big_new [a, b] (by simp) _ rfl false HB.out _ rfl _ _).mono ?_; rintro e w2 ⟨rfl, hw2⟩))
  have hx1 := HX.out
  rw [show (b.natAbs : Int) = b from (by omega)] at hx1
  obtain ⟨l1, l2, l3, l4, l5, l6, l7, l8, l9, l10⟩ := HL.out
  have hxa := abs_mul_le (B := 1000000000) (C := 1000000000) (a := x) (b := a) (by omega) (by omega) (by omega) (by omega)
  have hxy := HXY.out
  have hyb : -1000000000000000000 ≤ y * b ∧ y * b ≤ 1000000001000000000 := by omega
  have l11 : decide (L a b < 1) = false := by simp; omega
  clear HX HL HXY
  refine wp_region_wo (by kernel_rfl) (by kernel_rfl) ?_
  repeat (go_big_quiet_step (fail))
  refine wpQuiet_nil ?_
  rintro _ ⟨⟨w9, hw9⟩, rfl⟩
  go_wp2
  have HS : Hid (St a.toNat b.toNat ≤ b.toNat) := St_le _ _
  go_loopg [0, 1, 15] (b.toNat) (fun k v0 v1 v15 wr => ∃ (x y c : Int), 0 ≤ x ∧ x ≤ 1000000000 ∧ 0 ≤ y ∧ y ≤ 1000000000 ∧ 0 ≤ c ∧ c ≤ 1000000000 ∧ Hid (c + (St x.toNat y.toNat : Nat) = (St a.toNat b.toNat : Nat)) ∧ v0 = .int .i64 x ∧ v1 = .int .i64 y ∧ v15 = .int .i64 c ∧ Hid (k = y.toNat) ∧ Ex w wr)
  case atStart => exact ⟨_, _, _, by omega, by omega, by omega, by omega, by omega, by omega, Lib.hid (by simp), rfl, rfl, rfl, Lib.hid rfl, (by repeat (first | assumption | exact Ex.refl _ | refine Ex.trans ?_ (by assumption)))⟩
  case round =>
    obtain ⟨x, y, c, hx0, hx1, hy0, hy1, hc0, hc1, hS, rfl, rfl, rfl, hk, hw⟩ := hrel
    by_cases hy : y = 0
    · subst hy
      have hS := hS.out
      simp only [St_zero, Int.toNat_zero] at hS
      have hS2 : ((St a.toNat b.toNat : Nat) : Int) = c := by omega
      clear hS
      go_wp2
      go_ret
      exact ⟨by simp, hw⟩
    · have h1 := Int.emod_nonneg x hy
      have h2 := Int.emod_lt_of_pos x (b := y) (by omega)
      have h3 := Int.ediv_mul_le x hy
      have h4 : 0 ≤ x / y * y := Int.mul_nonneg (Int.ediv_nonneg hx0 hy0) hy0
      have h5 : x - x / y * y = x % y := by rw [Int.emod_def, Int.mul_comm]
      have h6 : x / y ≤ x := Int.ediv_le_self _ hx0
      have h7 : 0 ≤ x / y := Int.ediv_nonneg hx0 hy0
      go_wp2
      refine wp_region_wo (by kernel_rfl) (by kernel_rfl) ?_
      repeat (go_big_quiet_step (fail))
      refine wpQuiet_nil ?_
      rintro _ ⟨⟨w8, hw8⟩, rfl⟩
      go_wp2
      have hk := hk.out
      have hS := hS.out
      have hL := HS.out
      have e3 : (x % y).toNat = x.toNat % y.toNat := by
        have : ((x.toNat % y.toNat : Nat) : Int) = x % y := by rw [Int.natCast_emod]; congr 1 <;> omega
        omega
      rw [St_step _ _ (by omega), ← e3] at hS
      go_roundg (x % y).toNat
      case measure => omega
      case rel => exact ⟨y, x % y, c + 1, hy0, hy1, h1, by omega, by omega, by omega, Lib.hid (by omega), rfl, rfl, rfl, Lib.hid rfl, hw.trans hw8⟩

set_option maxRecDepth 100000 in
set_option maxHeartbeats 1000000 in
theorem euclidSays_np (a b c : Int) (w : World) (hn : -a = c) (ha : -1000000000 ≤ a) (ha' : a ≤ 1000000000) (hb : -1000000000 ≤ b) (hb' : b ≤ 1000000000) (ha0 : a < 0) (hb0 : 0 < b) :
    Calls Try.prog 4 #[.int .i64 a, .int .i64 b] w (Says (.bool true) w) := by
  have hg := G_pos (a := a) (b := b) (.inl (by omega))
  have hl := G_le 1000000000 ha ha' hb hb'
  have fa : (a == 0) = false := by simp; omega
  have fb : (b == 0) = false := by simp; omega
  have HL := Lib.hid (says_L (a := a) (b := b) (A := c) (B := b) (by omega) (by omega) (by omega) (by omega) (by omega) (by omega))
  have HB : Hid ([a, b].any bigB = false) := by show _ = _; simp [bigB_no ha ha', bigB_no hb hb']
  go_enter Try.func4, Try.ntmps4
  go_wp2_with (first
    | (go_at_call 10; refine (gcd_ok _ _ _ (by omega) (by omega) (by omega) (by omega)).mono ?_; rintro e w2 ⟨rfl, hw2⟩)
    | (go_at_call 11; refine (lcm_ok _ _ _ (by omega) (by omega) (by omega) (by omega) (by omega)).mono ?_; rintro e w2 ⟨rfl, hw2⟩)
    | (go_at_call 12; refine (bezout_ok _ _ _ (by omega) (by omega) (by omega) (by omega) (by omega)).mono ?_; rintro e w2 ⟨x, y, hx0, hx1, hxy, rfl, hw2⟩; have HXY := Lib.hid hxy; have HX := Lib.hid hx1; clear hxy hx1)
    | (go_at_call 13; refine (steps_noo _ _ _ (by omega)).mono ?_; rintro e w2 ⟨rfl, hw2⟩)
    | (go_at_call 15; refine (gcdOf_any _ _ _ (by omega) (by omega) (by omega) (by omega)).mono ?_; rintro e w2 ⟨rfl, hw2⟩)
    | (go_at_call 14; refine (big_new [a, b] (by simp) _ rfl false HB.out _ rfl _ _).mono ?_; rintro e w2 ⟨rfl, hw2⟩))
  have hx1 := HX.out
  rw [show (b.natAbs : Int) = b from (by omega)] at hx1
  obtain ⟨l1, l2, l3, l4, l5, l6, l7, l8, l9, l10⟩ := HL.out
  have hxa := abs_mul_le (B := 1000000000) (C := 1000000000) (a := x) (b := a) (by omega) (by omega) (by omega) (by omega)
  have hxy := HXY.out
  have hyb : -1000000000000000000 ≤ y * b ∧ y * b ≤ 1000000001000000000 := by omega
  have l11 : decide (L a b < 1) = false := by simp; omega
  clear HX HL HXY
  refine wp_region_wo (by kernel_rfl) (by kernel_rfl) ?_
  repeat (go_big_quiet_step (fail))
  refine wpQuiet_nil ?_
  rintro _ ⟨⟨w9, hw9⟩, rfl⟩
  go_wp2
  (go_ret; exact ⟨rfl, (by repeat (first | assumption | exact Ex.refl _ | refine Ex.trans ?_ (by assumption)))⟩)

set_option maxRecDepth 100000 in
set_option maxHeartbeats 1000000 in
theorem euclidSays_pn (a b d : Int) (w : World) (hm : -b = d) (ha : -1000000000 ≤ a) (ha' : a ≤ 1000000000) (hb : -1000000000 ≤ b) (hb' : b ≤ 1000000000) (ha0 : 0 < a) (hb0 : b < 0) :
    Calls Try.prog 4 #[.int .i64 a, .int .i64 b] w (Says (.bool true) w) := by
  have hg := G_pos (a := a) (b := b) (.inl (by omega))
  have hl := G_le 1000000000 ha ha' hb hb'
  have fa : (a == 0) = false := by simp; omega
  have fb : (b == 0) = false := by simp; omega
  have HL := Lib.hid (says_L (a := a) (b := b) (A := a) (B := d) (by omega) (by omega) (by omega) (by omega) (by omega) (by omega))
  have HB : Hid ([a, b].any bigB = false) := by show _ = _; simp [bigB_no ha ha', bigB_no hb hb']
  go_enter Try.func4, Try.ntmps4
  go_wp2_with (first
    | (go_at_call 10; refine (gcd_ok _ _ _ (by omega) (by omega) (by omega) (by omega)).mono ?_; rintro e w2 ⟨rfl, hw2⟩)
    | (go_at_call 11; refine (lcm_ok _ _ _ (by omega) (by omega) (by omega) (by omega) (by omega)).mono ?_; rintro e w2 ⟨rfl, hw2⟩)
    | (go_at_call 12; refine (bezout_ok _ _ _ (by omega) (by omega) (by omega) (by omega) (by omega)).mono ?_; rintro e w2 ⟨x, y, hx0, hx1, hxy, rfl, hw2⟩; have HXY := Lib.hid hxy; have HX := Lib.hid hx1; clear hxy hx1)
    | (go_at_call 13; refine (steps_noo _ _ _ (by omega)).mono ?_; rintro e w2 ⟨rfl, hw2⟩)
    | (go_at_call 15; refine (gcdOf_any _ _ _ (by omega) (by omega) (by omega) (by omega)).mono ?_; rintro e w2 ⟨rfl, hw2⟩)
    | (go_at_call 14; refine (big_new [a, b] (by simp) _ rfl false HB.out _ rfl _ _).mono ?_; rintro e w2 ⟨rfl, hw2⟩))
  have hx1 := HX.out
  rw [show (b.natAbs : Int) = d from (by omega)] at hx1
  obtain ⟨l1, l2, l3, l4, l5, l6, l7, l8, l9, l10⟩ := HL.out
  have hxa := abs_mul_le (B := 1000000000) (C := 1000000000) (a := x) (b := a) (by omega) (by omega) (by omega) (by omega)
  have hxy := HXY.out
  have hyb : -1000000000000000000 ≤ y * b ∧ y * b ≤ 1000000001000000000 := by omega
  have l11 : decide (L a b < 1) = false := by simp; omega
  clear HX HL HXY
  refine wp_region_wo (by kernel_rfl) (by kernel_rfl) ?_
  repeat (go_big_quiet_step (fail))
  refine wpQuiet_nil ?_
  rintro _ ⟨⟨w9, hw9⟩, rfl⟩
  go_wp2
  (go_ret; exact ⟨rfl, (by repeat (first | assumption | exact Ex.refl _ | refine Ex.trans ?_ (by assumption)))⟩)

set_option maxRecDepth 100000 in
set_option maxHeartbeats 1000000 in
theorem euclidSays_nn (a b c d : Int) (w : World) (hn : -a = c) (hm : -b = d) (ha : -1000000000 ≤ a) (ha' : a ≤ 1000000000) (hb : -1000000000 ≤ b) (hb' : b ≤ 1000000000) (ha0 : a < 0) (hb0 : b < 0) :
    Calls Try.prog 4 #[.int .i64 a, .int .i64 b] w (Says (.bool true) w) := by
  have hg := G_pos (a := a) (b := b) (.inl (by omega))
  have hl := G_le 1000000000 ha ha' hb hb'
  have fa : (a == 0) = false := by simp; omega
  have fb : (b == 0) = false := by simp; omega
  have HL := Lib.hid (says_L (a := a) (b := b) (A := c) (B := d) (by omega) (by omega) (by omega) (by omega) (by omega) (by omega))
  have HB : Hid ([a, b].any bigB = false) := by show _ = _; simp [bigB_no ha ha', bigB_no hb hb']
  go_enter Try.func4, Try.ntmps4
  go_wp2_with (first
    | (go_at_call 10; refine (gcd_ok _ _ _ (by omega) (by omega) (by omega) (by omega)).mono ?_; rintro e w2 ⟨rfl, hw2⟩)
    | (go_at_call 11; refine (lcm_ok _ _ _ (by omega) (by omega) (by omega) (by omega) (by omega)).mono ?_; rintro e w2 ⟨rfl, hw2⟩)
    | (go_at_call 12; refine (bezout_ok _ _ _ (by omega) (by omega) (by omega) (by omega) (by omega)).mono ?_; rintro e w2 ⟨x, y, hx0, hx1, hxy, rfl, hw2⟩; have HXY := Lib.hid hxy; have HX := Lib.hid hx1; clear hxy hx1)
    | (go_at_call 13; refine (steps_noo _ _ _ (by omega)).mono ?_; rintro e w2 ⟨rfl, hw2⟩)
    | (go_at_call 15; refine (gcdOf_any _ _ _ (by omega) (by omega) (by omega) (by omega)).mono ?_; rintro e w2 ⟨rfl, hw2⟩)
    | (go_at_call 14; refine (big_new [a, b] (by simp) _ rfl false HB.out _ rfl _ _).mono ?_; rintro e w2 ⟨rfl, hw2⟩))
  have hx1 := HX.out
  rw [show (b.natAbs : Int) = d from (by omega)] at hx1
  obtain ⟨l1, l2, l3, l4, l5, l6, l7, l8, l9, l10⟩ := HL.out
  have hxa := abs_mul_le (B := 1000000000) (C := 1000000000) (a := x) (b := a) (by omega) (by omega) (by omega) (by omega)
  have hxy := HXY.out
  have hyb : -1000000000000000000 ≤ y * b ∧ y * b ≤ 1000000001000000000 := by omega
  have l11 : decide (L a b < 1) = false := by simp; omega
  clear HX HL HXY
  refine wp_region_wo (by kernel_rfl) (by kernel_rfl) ?_
  repeat (go_big_quiet_step (fail))
  refine wpQuiet_nil ?_
  rintro _ ⟨⟨w9, hw9⟩, rfl⟩
  go_wp2
  (go_ret; exact ⟨rfl, (by repeat (first | assumption | exact Ex.refl _ | refine Ex.trans ?_ (by assumption)))⟩)

end Go.Proofs.Ytgnpchmglkabnaa
