/-
  EuclidSame, walked.
-/
import Derived.Test.YtgnpchmglkabnaaKeep
import Derived.Test.YtgnpchmglkabnaaLib
namespace Go.Proofs.Ytgnpchmglkabnaa
open Go.RowKit
open Eu

set_option maxHeartbeats 400000 in
theorem euclidSame_walk (a b k : Int) (w : World) (_ : I64 a) (_ : I64 b) (_ : I64 k) :
    Calls Try.prog 6 #[.int .i64 a, .int .i64 b, .int .i64 k] w (Says (.bool true) w) := by
  by_cases hF : Fit a ∧ Fit b
  · obtain ⟨⟨ha1, ha2⟩, hb1, hb2⟩ := hF
    have hkb := abs_mul_le (B := 1000) (C := 1000000000) (a := k % 2001 - 1000) (b := b) (by omega) (by omega) (by omega) (by omega)
    have e1 := G_comm b a
    have e2 : G (-a) b = G a b := by unfold G; rw [Int.neg_gcd]
    have e3 := G_add b a (k % 2001 - 1000)
    by_cases hc : -1000000000 ≤ a + (k % 2001 - 1000) * b ∧ a + (k % 2001 - 1000) * b ≤ 1000000000
    · obtain ⟨hc1, hc2⟩ := hc
      go_enter Try.func6, Try.ntmps6
      go_wp2_with (first
        | (go_at_call 16; refine (gcds_yes _).mono ?_; rintro e w2 ⟨rfl, hw2⟩)
        | (go_at_call 10; refine (gcd_ok _ _ _ (by omega) (by omega) (by omega) (by omega)).mono ?_; rintro e w3 ⟨rfl, hw3⟩)
        | (go_at_call 19; refine (good_zeros 2 (by omega) _ rfl _ _).mono ?_; rintro e w3 ⟨rfl, hw3⟩)
        | (go_at_call 18; refine (small_any _ _).mono ?_; rintro e w' ⟨rfl, rfl⟩))
      go_ret
      exact ⟨by simp, (by repeat (first | assumption | exact Ex.refl _ | refine Ex.trans ?_ (by assumption)))⟩
    · have hc' : ¬ (Fit (a + (k % 2001 - 1000) * b) ∧ Fit b) := fun h => hc h.1
      have HC := Lib.hid hc'
      clear hc'
      go_enter Try.func6, Try.ntmps6
      go_wp2_with (first
        | (go_at_call 16; refine (gcds_yes _).mono ?_; rintro e w2 ⟨rfl, hw2⟩)
        | (go_at_call 10; refine (gcd_ok _ _ _ (by omega) (by omega) (by omega) (by omega)).mono ?_; rintro e w3 ⟨rfl, hw3⟩)
        | (go_at_call 10; refine (gcd_no _ _ _ HC.out).mono ?_; rintro e w3 ⟨rfl, hw3⟩)
        | (go_at_call 19; refine (good_zeros 2 (by omega) _ rfl _ _).mono ?_; rintro e w3 ⟨rfl, hw3⟩)
        | (go_at_call 18; refine (small_any _ _).mono ?_; rintro e w' ⟨rfl, rfl⟩))
      all_goals go_ret
      all_goals refine ⟨?_, (by repeat (first | assumption | exact Ex.refl _ | refine Ex.trans ?_ (by assumption)))⟩
      all_goals first | (simp; omega) | rfl
  · have hF' : ¬ (Fit b ∧ Fit a) := fun h => hF ⟨h.2, h.1⟩
    have HF := Lib.hid hF
    have HF' := Lib.hid hF'
    clear hF hF'
    go_enter Try.func6, Try.ntmps6
    go_wp2_with (first
      | (go_at_call 16; refine (gcds_yes _).mono ?_; rintro e w2 ⟨rfl, hw2⟩)
      | (go_at_call 10; (with_reducible refine (gcd_no a b _ HF.out).mono ?_); rintro e w3 ⟨rfl, hw3⟩)
      | (go_at_call 10; (with_reducible refine (gcd_no b a _ HF'.out).mono ?_); rintro e w3 ⟨rfl, hw3⟩)
      | (go_at_call 18; refine (small_any _ _).mono ?_; rintro e w' ⟨rfl, rfl⟩))
    go_ret
    exact ⟨rfl, (by repeat (first | assumption | exact Ex.refl _ | refine Ex.trans ?_ (by assumption)))⟩

end Go.Proofs.Ytgnpchmglkabnaa
