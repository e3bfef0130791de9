/-
  EuclidTimes and EuclidLame, walked.
-/
import Derived.Test.YtgnpchmglkabnaaKeep
import Derived.Test.YtgnpchmglkabnaaLib
namespace Go.Proofs.Ytgnpchmglkabnaa
open Go.RowKit
open Eu

theorem L_zero : L 0 0 = 0 := by decide

theorem lcm_any (a b : Int) (w : World) (ha : -1000000000 ≤ a) (ha' : a ≤ 1000000000) (hb : -1000000000 ≤ b) (hb' : b ≤ 1000000000) :
    Calls Try.prog 11 #[.int .i64 a, .int .i64 b] w (Says (.tuple #[.int .i64 (L a b), .int .i64 0]) w) := by
  by_cases h : a = 0 ∧ b = 0
  · obtain ⟨rfl, rfl⟩ := h
    rw [L_zero]
    exact lcm_zero 0 0 w rfl rfl
  · exact lcm_ok a b w ha ha' hb hb' (by omega)

theorem L_4_6 : L 4 6 = 12 := by decide

set_option maxHeartbeats 400000 in
theorem euclidTimes_walk (a0 b0 c0 : Int) (w : World) (_ : I64 a0) (_ : I64 b0) (_ : I64 c0) :
    Calls Try.prog 7 #[.int .i64 a0, .int .i64 b0, .int .i64 c0] w (Says (.bool true) w) := by
  obtain ⟨a, ea⟩ : ∃ a, a = a0 % 2001 - 1000 := ⟨_, rfl⟩
  obtain ⟨b, eb⟩ : ∃ a, a = b0 % 2001 - 1000 := ⟨_, rfl⟩
  obtain ⟨c, ec⟩ : ∃ a, a = c0 % 2001 - 1000 := ⟨_, rfl⟩
  have ha : -1000 ≤ a ∧ a ≤ 1000 := by omega
  have hb : -1000 ≤ b ∧ b ≤ 1000 := by omega
  have hc : -1000 ≤ c ∧ c ≤ 1000 := by omega
  have hl := L_small hb.1 hb.2 hc.1 hc.2
  have hg := G_le 1000 ha.1 ha.2 hb.1 hb.2
  have hg' := G_le 1000 ha.1 ha.2 hc.1 hc.2
  have hg0 := G_nonneg a b
  have hg0' := G_nonneg a c
  have hd := G_L a b c
  have hm := G_mul_L a b
  have e46 := L_4_6
  have hab := abs_mul_le (B := 1000) (C := 1000) ha.1 ha.2 hb.1 hb.2
  have hneg : -a * b = -(a * b) := Int.neg_mul a b
  have Ea := Lib.hid ea
  have Eb := Lib.hid eb
  have Ec := Lib.hid ec
  clear ea eb ec
  go_enter Try.func7, Try.ntmps7
  go_wp2_with (first
    | (go_at_call 16; refine (gcds_yes _).mono ?_; rintro e w2 ⟨rfl, hw2⟩)
    | (go_at_call 10; refine (gcd_ok _ _ _ (by omega) (by omega) (by omega) (by omega)).mono ?_; rintro e w3 ⟨rfl, hw3⟩)
    | (go_at_call 11; refine (lcm_any _ _ _ (by omega) (by omega) (by omega) (by omega)).mono ?_; rintro e w3 ⟨rfl, hw3⟩)
    | (go_at_call 19; refine (good_zeros 6 (by omega) _ rfl _ _).mono ?_; rintro e w3 ⟨rfl, hw3⟩)
    | (go_at_call 18; refine (small_any _ _).mono ?_; rintro e w' ⟨rfl, rfl⟩; first | rw [← Ea.out] | rw [← Eb.out] | rw [← Ec.out]))
  all_goals go_ret
  all_goals exact ⟨rfl, (by repeat (first | assumption | exact Ex.refl _ | refine Ex.trans ?_ (by assumption)))⟩

end Go.Proofs.Ytgnpchmglkabnaa
