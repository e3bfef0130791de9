/-
  Package binom, walked: Of, check, Mod, inFactorial, Times; the document's ChooseOf and Often.
-/
import Derived.Test.YthlnbomapfjphaaDoorGma
import Derived.Test.YthlnbomapfjphaaDoorGnu
namespace Go.Proofs.YthlnbomapfjphaaDoor
open Go.RowKit
open Eu Pr Rs Bi


-- check.
/-- What Mod and Times take. -/
def OkB (n k p : Int) : Prop := 0 ≤ n ∧ n ≤ 1000000000 ∧ 0 ≤ k ∧ k ≤ n ∧ p ≤ 1000 ∧ Prm p

set_option maxHeartbeats 1000000 in
theorem bcheck_ok (n k p : Int) (w : World) (h : OkB n k p) : Calls Tryd.prog 31 #[.int .i64 n, .int .i64 k, .int .i64 p] w (Says (.int .i64 0) w) := by
  obtain ⟨h1, h2, h3, h4, h5, hp⟩ := h
  have h6 := hp.1
  have hb := (pb_iff p).mpr hp
  clear hp
  go_enter Tryd.func31, Tryd.ntmps31
  go_wp2_with ((go_at_call 6; (with_reducible refine (is_ok p _ (by omega) (by omega)).mono ?_); rintro e w1 ⟨rfl, hw1⟩; rw [hb]))
  go_ret
  exact ⟨rfl, hw1⟩

set_option maxHeartbeats 1000000 in
theorem bcheck_no (n k p : Int) (w : World) (h : ¬ OkB n k p) : Calls Tryd.prog 31 #[.int .i64 n, .int .i64 k, .int .i64 p] w (Says (.int .i64 1) w) := by
  by_cases h1 : n < 0
  · clear h
    go_enter Tryd.func31, Tryd.ntmps31
    go_wp2
    go_ret
    exact .same
  by_cases h2 : 1000000000 < n
  · clear h
    go_enter Tryd.func31, Tryd.ntmps31
    go_wp2
    go_ret
    exact .same
  by_cases h3 : k < 0
  · clear h
    go_enter Tryd.func31, Tryd.ntmps31
    go_wp2
    go_ret
    exact .same
  by_cases h4 : n < k
  · clear h
    go_enter Tryd.func31, Tryd.ntmps31
    go_wp2
    go_ret
    exact .same
  by_cases h5 : 1000 < p
  · clear h
    go_enter Tryd.func31, Tryd.ntmps31
    go_wp2
    go_ret
    exact .same
  by_cases h6 : p < 0
  · clear h
    go_enter Tryd.func31, Tryd.ntmps31
    go_wp2_with ((go_at_call 6; (with_reducible refine (is_no p _ (by omega)).mono ?_); rintro e w1 ⟨rfl, hw1⟩))
    go_ret
    exact ⟨rfl, hw1⟩
  · have hb := pb_no (n := p) (fun hp => h ⟨by omega, by omega, by omega, by omega, by omega, hp⟩)
    clear h
    go_enter Tryd.func31, Tryd.ntmps31
    go_wp2_with ((go_at_call 6; (with_reducible refine (is_ok p _ (by omega) (by omega)).mono ?_); rintro e w1 ⟨rfl, hw1⟩; rw [hb]))
    go_ret
    exact ⟨rfl, hw1⟩

set_option maxHeartbeats 1000000 in
theorem bmod_no (n k p : Int) (w : World) (h : ¬ OkB n k p) : Calls Tryd.prog 13 #[.int .i64 n, .int .i64 k, .int .i64 p] w (Says (.tuple #[.int .i64 0, .int .i64 1]) w) := by
  have HC := Lib.hid fun w => bcheck_no n k p w h
  clear h
  go_enter Tryd.func13, Tryd.ntmps13
  go_wp2_with ((go_at_call 31; (with_reducible refine (HC.out _).mono ?_); rintro e w1 ⟨rfl, hw1⟩))
  go_ret2
  exact ⟨rfl, hw1⟩

-- Mod.
set_option maxHeartbeats 4000000 in
theorem bmod_ok (n k p : Nat) (w : World) (h : OkB n k p) : Calls Tryd.prog 13 #[.int .i64 n, .int .i64 k, .int .i64 p] w (Says (.tuple #[.int .i64 ((ch n k : Int) % (p : Int)), .int .i64 0]) w) := by
  have HC := Lib.hid fun w => bcheck_ok n k p w h
  obtain ⟨h1, h2, h3, h4, h5, hp⟩ := h
  have h6 := hp.1
  have HP := Lib.hid hp
  obtain ⟨C, hC⟩ : ∃ C : Int, (ch n k : Int) = C := ⟨_, rfl⟩
  have HI0 : Hid ((1 : Int) * (ch n k : Int) % p = 1 * C % p) := Lib.hid (by rw [hC])
  have HB0 : Hid (¬ (p : Int) ∣ 1) := Lib.hid (not_one hp)
  rw [hC]
  clear hp hC
  go_enter Tryd.func13, Tryd.ntmps13
  go_wp2_with ((go_at_call 31; (with_reducible refine (HC.out _).mono ?_); rintro e w1 ⟨rfl, hw1⟩))
  go_loopg [0, 1, 9, 10] k (fun m v0 v1 v9 v10 wr => ∃ (a b : Nat) (t u : Int), a ≤ n ∧ b ≤ k ∧ 0 ≤ t ∧ t < p ∧ 0 ≤ u ∧ u < p ∧ v0 = .int .i64 a ∧ v1 = .int .i64 b ∧ v9 = .int .i64 t ∧ v10 = .int .i64 u ∧ Hid (t * (ch a b : Int) % p = u * C % p) ∧ Hid (¬ (p : Int) ∣ u) ∧ Hid (m = b) ∧ Ex w wr)
  case atStart => exact ⟨n, k, 1, 1, by omega, by omega, by omega, by omega, by omega, by omega, rfl, rfl, rfl, rfl, HI0, HB0, Lib.hid rfl, hw1⟩
  case round =>
    rename World => wo
    obtain ⟨a, b, t, u, ha, hb, t0, t1, u0, u1, rfl, rfl, rfl, rfl, hI, hu, hm, hx⟩ := hrel
    by_cases h0 : 0 < b
    · obtain ⟨A, hA⟩ : ∃ A, a % p = A := ⟨_, rfl⟩
      obtain ⟨B, hB⟩ : ∃ B, b % p = B := ⟨_, rfl⟩
      have eA : (a : Int) % (p : Int) = (A : Int) := by rw [← hA]; exact (Int.natCast_emod a p).symm
      have eB : (b : Int) % (p : Int) = (B : Int) := by rw [← hB]; exact (Int.natCast_emod b p).symm
      have lA : A < p := by rw [← hA]; exact Nat.mod_lt _ (by omega)
      have lB : B < p := by rw [← hB]; exact Nat.mod_lt _ (by omega)
      have HA := Lib.hid hA
      have HB := Lib.hid hB
      clear hA hB
      have HT0 : Hid (t % p = t * (ff A 0 : Int) % p) := Lib.hid (by show _ = t * ((1 : Nat) : Int) % p; rw [show ((1 : Nat) : Int) = 1 from rfl, Int.mul_one])
      have HU0 : Hid (u % p = u * (fa 0 : Int) % p) := Lib.hid (by show _ = u * ((1 : Nat) : Int) % p; rw [show ((1 : Nat) : Int) = 1 from rfl, Int.mul_one])
      go_wp2
      go_loopg [9, 10, 26] B (fun m v9 v10 v26 wr => ∃ (i : Nat) (x y : Int), i ≤ B ∧ 0 ≤ x ∧ x < p ∧ 0 ≤ y ∧ y < p ∧ v9 = .int .i64 x ∧ v10 = .int .i64 y ∧ v26 = .int .i64 i ∧ Hid (x % p = t * (ff A i : Int) % p) ∧ Hid (y % p = u * (fa i : Int) % p) ∧ Hid (m = B - i) ∧ Ex w wr)
      case atStart => exact ⟨0, t, u, by omega, by omega, by omega, by omega, by omega, rfl, rfl, rfl, HT0, HU0, Lib.hid rfl, hx⟩
      case round =>
        obtain ⟨i, x, y, hi, x0, x1, y0, y1, rfl, rfl, rfl, hX, hY, hm2, hy⟩ := hrel
        by_cases hlt : i < B
        · have m2 := Eu.mul_le (a := y) (b := (i : Int) + 1) (A := 1000000) (B := 1000000) (by omega) (by omega) (by omega) (by omega)
          obtain ⟨m2a, m2b⟩ := m2
          have e1 := Int.emod_nonneg (y * ((i : Int) + 1)) (b := (p : Int)) (by omega)
          have e2 := Int.emod_lt_of_pos (y * ((i : Int) + 1)) (b := (p : Int)) (by omega)
          have HY2 := Lib.hid (fa_step hY.out)
          by_cases hiA : i ≤ A
          · have m1 := Eu.mul_le (a := x) (b := (A : Int) - i) (A := 1000000) (B := 1000000) (by omega) (by omega) (by omega) (by omega)
            obtain ⟨m1a, m1b⟩ := m1
            have d1 := Int.emod_nonneg (x * ((A : Int) - i)) (b := (p : Int)) (by omega)
            have d2 := Int.emod_lt_of_pos (x * ((A : Int) - i)) (b := (p : Int)) (by omega)
            have HX2 := Lib.hid (ff_step hiA hX.out)
            go_wp2
            go_roundg (B - (i + 1))
            case measure => have := hm2.out; omega
            case rel => exact ⟨i + 1, _, _, by omega, d1, d2, e1, e2, by first | rfl | go_num, by first | rfl | go_num, by first | rfl | go_num, HX2, HY2, Lib.hid rfl, hy⟩
          · obtain rfl : x = 0 := by
              have := hX.out
              rw [ff_over (by omega), show ((0 : Nat) : Int) = 0 from rfl, Int.mul_zero, Int.zero_emod, Int.emod_eq_of_lt x0 x1] at this
              exact this
            have HX2 : Hid ((0 : Int) % p = t * (ff A (i + 1) : Int) % p) := Lib.hid (by rw [ff_over (by omega), show ((0 : Nat) : Int) = 0 from rfl, Int.mul_zero])
            have z1 : (0 : Int) * ((A : Int) - i) = 0 := Int.zero_mul _
            go_wp2
            go_roundg (B - (i + 1))
            case measure => have := hm2.out; omega
            case rel => exact ⟨i + 1, 0, _, by omega, by omega, by omega, e1, e2, by first | rfl | (simp; done) | go_num, by first | rfl | go_num, by first | rfl | go_num, HX2, HY2, Lib.hid rfl, hy⟩
        · have e : i = B := by omega
          subst e
          have HI2 : Hid (x * (ch (a / p) (b / p) : Int) % p = y * C % p) := Lib.hid (mod_round HP.out hI.out (by rw [HA.out, HB.out]; exact hX.out) (by rw [HB.out]; exact hY.out))
          have HU2 : Hid (¬ (p : Int) ∣ y) := Lib.hid (not_next HP.out lB hu.out hY.out)
          have hlt2 := Nat.div_lt_self h0 (show 1 < p by omega)
          have hle2 := Nat.div_le_self a p
          have eq1 : (a : Int) / (p : Int) = ((a / p : Nat) : Int) := (Int.natCast_ediv a p).symm
          have eq2 : (b : Int) / (p : Int) = ((b / p : Nat) : Int) := (Int.natCast_ediv b p).symm
          obtain ⟨a2, ha2⟩ : ∃ q, a / p = q := ⟨_, rfl⟩
          obtain ⟨b2, hb2⟩ : ∃ q, b / p = q := ⟨_, rfl⟩
          rw [ha2, hb2] at HI2
          rw [ha2] at hle2 eq1
          rw [hb2] at hlt2 eq2
          clear ha2 hb2
          go_wp2
          go_region
          go_wp2
          go_roundg b2
          case measure => have := hm.out; omega
          case rel => exact ⟨a2, b2, x, y, by omega, by omega, by omega, by omega, by omega, by omega, by first | rfl | go_num, by first | rfl | go_num, rfl, rfl, HI2, HU2, Lib.hid rfl, hy.drew⟩
    · obtain rfl : b = 0 := by omega
      have HE : Hid (t * 1 % p = u * C % p) := Lib.hid (by have := hI.out; rwa [ch_zero] at this)
      have HINV := Lib.hid fun w => inverse_ok u p w (by omega) (by omega) (prm_G HP.out hu.out)
      go_wp2_with (
        (go_at_call 32; (with_reducible refine (HINV.out _).mono ?_); rintro e w4 ⟨x, x0, x1, hxu, rfl, hw4⟩
         obtain ⟨m1a, m1b⟩ := Eu.mul_le (a := t) (b := x) (A := 1000000) (B := 1000000) (by omega) (by omega) (by omega) (by omega)
         have d1 := Int.emod_nonneg (t * x) (b := (p : Int)) (by omega)
         have d2 := Int.emod_lt_of_pos (t * x) (b := (p : Int)) (by omega)
         have HF := Lib.hid (mod_end HE.out hxu.out)))
      go_ret2
      exact ⟨by rw [← HF.out]; rfl, hx.trans hw4⟩

-- The document's choice.


end Go.Proofs.YthlnbomapfjphaaDoor
