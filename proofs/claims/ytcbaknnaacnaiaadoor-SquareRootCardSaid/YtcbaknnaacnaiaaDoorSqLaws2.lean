/-
  SquareRoot, walked.
-/
import Derived.Test.YtcbaknnaacnaiaaDoorSqLaws
namespace Go.Proofs.YtcbaknnaacnaiaaDoor
open Go.RowKit
open Eu Pr Rs Sq

set_option maxHeartbeats 1000000 in
theorem squareRoot_walk (a n : Int) (w : World) (_ : I64 a) (_ : I64 n) (hT : Tab w) : Calls Tryd.prog 8 #[.int .i64 a, .int .i64 n] w (Says (.bool true) w) := by
  obtain ⟨N, hN⟩ : ∃ N, n % 900000 = N := ⟨_, rfl⟩
  have n0 : 0 ≤ N := by omega
  have n1 : N < 900000 := by omega
  obtain ⟨q, hq, hb⟩ := next_below' (n := 3 + N) (by omega)
  have HN := Lib.hid fun w => next_ok (3 + N) q w (by omega) hq (by omega)
  have q3 : 3 ≤ q := by have := hq.1; omega
  have hp := hq.2.1
  obtain ⟨p, rfl⟩ : ∃ p : Nat, q = p := ⟨q.toNat, by omega⟩
  obtain ⟨ho, h3⟩ := prm_odd hp (by omega)
  have HS := Lib.hid fun w => symbol_ok a p w (by omega) (by omega) (by omega)
  rw [Int.toNat_natCast, jac_prime hp (by omega)] at HS
  have HSQ := Lib.hid (squares_yes w hT)
  have b1 := Int.emod_nonneg a (b := (p : Int)) (by omega)
  have b2 := Int.emod_lt_of_pos a (b := (p : Int)) (by omega)
  by_cases hs : IsSq a p
  · obtain ⟨r, hr⟩ := root_of (by omega) hs
    have HR : Hid (∀ w2, Ex w w2 → Calls Tryd.prog 10 #[.int .i64 a, .int .i64 p] w2 (Says (.tuple #[.int .i64 r, .int .i64 0]) w2)) := Lib.hid fun w2 hx =>
      root_ok a p r w2 hp (by omega) hr (hT.ex hx)
    have hh := hr.half ho
    have r0 := hr.1
    have r1 := hr.2.1
    have he := dvd_same.mp hr.2.2.1
    have ge : (r * r % (p : Int) == a % (p : Int)) = true := by simp [he]
    have mm := Eu.mul_le (a := r) (b := r) (A := 1000000) (B := 1000000) (by omega) (by omega) (by omega) (by omega)
    obtain ⟨mm0, mm1⟩ := mm
    have hl : leg a p ≠ -1 := fun h => (leg_minus.mp h) hs
    have ls := leg_sign a p
    obtain ⟨s, hs2⟩ : ∃ s, leg a p = s := ⟨_, rfl⟩
    rw [hs2] at HS hl ls
    have s0 : 0 ≤ s := by omega
    have s1 : s ≤ 1 := by omega
    have gp : ((p : Int) == 0) = false := by simp; omega
    have d1 : decide (0 ≤ s) = true := decide_eq_true s0
    have d2 : decide (0 ≤ r) = true := decide_eq_true r0
    have d3 : decide (2 * r < (p : Int)) = true := decide_eq_true hh
    clear hq hp hT ho hs hr he hl ls hs2
    go_enter Tryd.func8, Tryd.ntmps8
    go_wp2_with (first
      | (go_at_call 15; (with_reducible refine (HSQ.out).mono ?_); rintro e w1 ⟨rfl, hw1⟩)
      | (go_at_call 17; (with_reducible refine (within_any n _ _ (by omega) (by omega)).mono ?_); rintro e w' ⟨rfl, rfl⟩; rw [hN])
      | (go_at_call 16; (with_reducible refine (HN.out _).mono ?_); rintro e w2 ⟨rfl, hw2⟩)
      | (go_at_call 10; (with_reducible refine (HR.out _ (hw1.trans hw2)).mono ?_); rintro e w3 ⟨rfl, hw3⟩)
      | (go_at_call 9; (with_reducible refine (HS.out _).mono ?_); rintro e w4 ⟨rfl, hw4⟩)
      | (go_at_call 19; refine (good_zeros 2 (by omega) _ rfl _ _).mono ?_; rintro e w5 ⟨rfl, hw5⟩)
      | (go_at_call 17; fail))
    refine wp_region_wo (by kernel_rfl) (by kernel_rfl) ?_
    repeat (go_big_quiet_step ((go_at_call 17; exact says_wo (says_same (within_any a p _ (by omega) (by omega))))))
    refine wpQuiet_nil ?_
    rintro _ ⟨⟨w6, hw6⟩, rfl⟩
    go_wp2
    go_ret
    exact ⟨by first | rfl | (simp; done), (show Ex w w5 from (by repeat (first | assumption | exact Ex.refl _ | refine Ex.trans ?_ (by assumption)))).trans hw6⟩
  · have hl := leg_minus.mpr hs
    rw [hl] at HS
    have HR := Lib.hid fun w => root_none a p w hp (by omega) hs
    clear hq hp hT ho hs hl
    go_enter Tryd.func8, Tryd.ntmps8
    go_wp2_with (first
      | (go_at_call 15; (with_reducible refine (HSQ.out).mono ?_); rintro e w1 ⟨rfl, hw1⟩)
      | (go_at_call 17; (with_reducible refine (within_any n _ _ (by omega) (by omega)).mono ?_); rintro e w' ⟨rfl, rfl⟩; rw [hN])
      | (go_at_call 16; (with_reducible refine (HN.out _).mono ?_); rintro e w2 ⟨rfl, hw2⟩)
      | (go_at_call 10; (with_reducible refine (HR.out _).mono ?_); rintro e w3 ⟨rfl, hw3⟩)
      | (go_at_call 9; (with_reducible refine (HS.out _).mono ?_); rintro e w4 ⟨rfl, hw4⟩)
      | (go_at_call 19; refine (good_zeros 2 (by omega) _ rfl _ _).mono ?_; rintro e w5 ⟨rfl, hw5⟩))
    go_ret
    exact ⟨by first | rfl | (simp; done), (by repeat (first | assumption | exact Ex.refl _ | refine Ex.trans ?_ (by assumption)))⟩

end Go.Proofs.YtcbaknnaacnaiaaDoor
