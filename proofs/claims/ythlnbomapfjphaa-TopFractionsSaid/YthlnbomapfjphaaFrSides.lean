/-
  FracSides, walked.
-/
import Derived.Test.YthlnbomapfjphaaFrNearW
import Derived.Deep.CutRange
import Derived.Deep.DeepCutAuto
namespace Go.Proofs.Ythlnbomapfjphaa
open Go.RowKit
open Eu Fr

theorem near_30 (w : World) : Calls Try.prog 47 #[.agg #[.int .i64 30, .int .i64 13], .int .i64 5] w (Says (.tuple #[.agg #[.int .i64 9, .int .i64 4], .agg #[.int .i64 7, .int .i64 3], .int .i64 0]) w) := by
  refine (near_ok 30 13 5 w ⟨by decide, by decide, by decide, by decide⟩ (by decide) (by decide)).mono ?_
  rintro e w2 ⟨a, b, c, d, hl, hh, _, _, _, _, _, _, rfl, hx⟩
  have h := nearest (P := 30) (Q := 13) (N := 5) (a := 9) (b := 4) (c := 7) (d := 3) (s := 1) (t := 3) (by decide) (by decide) (by decide) (by decide) (by decide) (by decide) (by decide) (by decide) (by decide) (by decide)
  obtain ⟨rfl, rfl⟩ := hl.uniq h.1
  obtain ⟨rfl, rfl⟩ := hh.uniq h.2
  exact ⟨rfl, hx⟩

theorem best_some {P Q : Int} (hQ : 1 ≤ Q) (n : Nat) : ∃ a b, Best P Q ((n : Int) + 1) a b := by
  induction n with
  | zero => exact ⟨_, _, best_one hQ⟩
  | succ n ih =>
    obtain ⟨a, b, h⟩ := ih
    rw [show ((n + 1 : Nat) : Int) = (n : Int) + 1 by omega]
    by_cases hl : a * ((n : Int) + 1 + 1) < P * ((n : Int) + 1 + 1) / Q * b
    · exact ⟨_, _, best_take hQ h (by omega) hl⟩
    · exact ⟨_, _, best_keep hQ h hl⟩

/-- There are two nearest. -/
theorem near_some {P Q m : Int} (h : OkFr P Q) (m1 : 1 ≤ m) (m2 : m ≤ 1000000) : ∃ a b c d, IsLow P Q m a b ∧ IsHigh P Q m c d ∧ 1 ≤ b ∧ b ≤ m ∧ 1 ≤ d ∧ d ≤ m ∧ 0 ≤ a ∧ a ≤ 1000000000000 ∧ 0 ≤ c ∧ c ≤ 1000000000000 ∧ a * Q ≤ P * b ∧ P * d ≤ c * Q := by
  obtain ⟨h1, h2, h3, h4⟩ := h
  obtain ⟨a, b, hl⟩ := best_some (P := P) h1 (m - 1).toNat
  obtain ⟨c, d, hh⟩ := best_some (P := -P) h1 (m - 1).toNat
  rw [show (((m - 1).toNat : Nat) : Int) + 1 = m by omega] at hl hh
  have hl := hl.lowest.1
  have hh := hh.lowest.1
  generalize a / G a b = a at *
  generalize b / G _ b = b at *
  obtain ⟨c2, hc2⟩ : ∃ c2, c / G c d = -c2 := ⟨-(c / G c d), by omega⟩
  rw [hc2] at hh
  generalize d / G c d = d at *
  have hh : IsHigh P Q m c2 d := hh
  have l1 := hl.1.1
  have l2 := hl.1.2.1
  have l3 := hl.1.2.2.1
  have r1 := hh.1.1
  have r2 := hh.1.2.1
  have r3 := hh.1.2.2.1
  rw [Int.neg_mul, Int.neg_mul] at r3
  have a0 := hl.1.2.2.2 0 1 (by omega) (by omega) (by omega)
  have a1 : 0 ≤ a := by omega
  have a2 : a * 1 ≤ a * Q := Int.mul_le_mul_of_nonneg_left h1 a1
  have a3 : P * b ≤ 1000000 * b := Int.mul_le_mul_of_nonneg_right h4 (by omega)
  have c0 : 0 ≤ P * d := Int.mul_nonneg h3 (by omega)
  have c1 : 0 ≤ c2 := by
    refine Decidable.byContradiction fun hc => ?_
    have : c2 * Q ≤ (-1) * Q := Int.mul_le_mul_of_nonneg_right (by omega) (by omega)
    omega
  have c3 := hh.1.2.2.2 (-P) 1 (by omega) (by omega) (by
    have : P * 1 ≤ P * Q := Int.mul_le_mul_of_nonneg_left h1 h3
    rw [Int.neg_mul, Int.neg_mul]; omega)
  rw [Int.neg_mul, Int.neg_mul] at c3
  have c4 : P * d ≤ 1000000 * d := Int.mul_le_mul_of_nonneg_right h4 (by omega)
  exact ⟨a, b, c2, d, hl, hh, l1, l2, r1, r2, a1, by omega, c1, by omega, l3, by omega⟩

theorem near_at {P Q m a b c d : Int} (h : OkFr P Q) (m1 : 1 ≤ m) (m2 : m ≤ 1000000) (hl : IsLow P Q m a b) (hh : IsHigh P Q m c d) (w : World) :
    Calls Try.prog 47 #[.agg #[.int .i64 P, .int .i64 Q], .int .i64 m] w (Says (.tuple #[.agg #[.int .i64 a, .int .i64 b], .agg #[.int .i64 c, .int .i64 d], .int .i64 0]) w) := by
  refine (near_ok P Q m w h m1 m2).mono ?_
  rintro e w2 ⟨a2, b2, c2, d2, hl2, hh2, _, _, _, _, _, _, rfl, hx⟩
  obtain ⟨rfl, rfl⟩ := hl.uniq hl2
  obtain ⟨rfl, rfl⟩ := hh.uniq hh2
  exact ⟨rfl, hx⟩

theorem near_none (P Q m : Int) (h : ¬ (1 ≤ m ∧ m ≤ 1000000 ∧ OkFr P Q)) (w : World) : Calls Try.prog 47 #[.agg #[.int .i64 P, .int .i64 Q], .int .i64 m] w (Says (.tuple #[.agg #[.int .i64 0, .int .i64 0], .agg #[.int .i64 0, .int .i64 0], .int .i64 1]) w) := by
  by_cases h1 : m < 1 ∨ 1000000 < m
  · exact near_out P Q m w h1
  · exact near_bad P Q m w (by omega) (by omega) (fun h2 => h ⟨by omega, by omega, h2⟩)

end Go.Proofs.Ythlnbomapfjphaa
