/-
  TopFractions' numbers: how long a fraction is; what is nearest where the fraction itself is allowed. No Go in sight.
-/
import Derived.Test.YthlnbomapfjphaaFrNear
import Derived.Test.YthlnbomapfjphaaFrMath
import Derived.Test.YthlnbomapfjphaaGma
namespace Go.Proofs.Ythlnbomapfjphaa
open Eu Fr

theorem cf_steps : ∀ (k : Nat) (p q : Int), q.toNat = k → 0 ≤ p → 0 ≤ q → (cf p q).length = St p.toNat q.toNat := by
  intro k
  induction k using Nat.strongRecOn with
  | _ k ih =>
    intro p q hk h0 h1
    by_cases hq : q = 0
    · subst hq
      rw [cf_none (by omega)]
      exact (St_zero _).symm
    · have hm0 := Int.emod_nonneg p hq
      have hm1 := Int.emod_lt_of_pos p (b := q) (by omega)
      have e : (p % q).toNat = p.toNat % q.toNat := by
        have : ((p.toNat % q.toNat : Nat) : Int) = p % q := by rw [Int.natCast_emod]; congr 1 <;> omega
        omega
      rw [cf_step (by omega), List.length_cons, ih (p % q).toNat (by omega) q (p % q) rfl (by omega) hm0, St_step p.toNat q.toNat (by omega), e]
      omega

/-- In lowest terms. -/
theorem low_div {P Q : Int} (hQ : 1 ≤ Q) : 1 ≤ G P Q ∧ 1 ≤ Q / G P Q ∧ P / G P Q * Q = P * (Q / G P Q) ∧ G (P / G P Q) (Q / G P Q) = 1 ∧ Q / G P Q * G P Q = Q ∧ P / G P Q * G P Q = P := by
  have hg : 1 ≤ G P Q := by
    have h1 : (0 : Int) ≤ G P Q := by unfold G; omega
    have h2 : G P Q ≠ 0 := by
      unfold G
      intro h
      have : Int.gcd P Q = 0 := by omega
      rw [Int.gcd_eq_zero_iff] at this
      omega
    omega
  have d1 : G P Q ∣ P := by unfold G; exact Int.gcd_dvd_left ..
  have d2 : G P Q ∣ Q := by unfold G; exact Int.gcd_dvd_right ..
  have e1 := Int.ediv_mul_cancel d1
  have e2 := Int.ediv_mul_cancel d2
  have hgd := Ch.G_div (M := Q) (m := P) hQ
  rw [G_comm Q P] at hgd
  generalize G P Q = g at *
  obtain ⟨a, ha⟩ : ∃ a, P / g = a := ⟨_, rfl⟩
  obtain ⟨b, hb⟩ : ∃ b, Q / g = b := ⟨_, rfl⟩
  rw [ha] at e1 hgd ⊢
  rw [hb] at e2 hgd ⊢
  refine ⟨hg, ?_, ?_, by rw [G_comm]; exact hgd, e2, e1⟩
  · refine Decidable.byContradiction fun hc => ?_
    have : b * g ≤ 0 * g := Int.mul_le_mul_of_nonneg_right (by omega) (by omega)
    omega
  · have x1 : a * Q = a * (b * g) := by rw [e2]
    have x2 : P * b = a * g * b := by rw [e1]
    rw [x1, x2]
    ac_rfl
theorem best_self {P Q N a b : Int} (hQ : 1 ≤ Q) (hb1 : 1 ≤ b) (hb2 : b ≤ N) (he : a * Q = P * b) : Best P Q N a b := by
  refine ⟨hb1, hb2, by omega, fun p q q1 _ hpq => ?_⟩
  refine Decidable.byContradiction fun hc => ?_
  have h1 : a * q * Q < p * b * Q := Int.mul_lt_mul_of_pos_right (by omega) (by omega)
  have h2 : p * Q * b ≤ P * q * b := Int.mul_le_mul_of_nonneg_right hpq (by omega)
  have e1 : a * q * Q = P * q * b := by
    rw [show a * q * Q = a * Q * q by ac_rfl, he]
    ac_rfl
  have e2 : p * b * Q = p * Q * b := by ac_rfl
  omega
theorem near_self {P Q N a b : Int} (hQ : 1 ≤ Q) (hb1 : 1 ≤ b) (hb2 : b ≤ N) (he : a * Q = P * b) (hg : G a b = 1) : IsLow P Q N a b ∧ IsHigh P Q N a b :=
  ⟨⟨best_self hQ hb1 hb2 he, hg⟩, best_self hQ hb1 hb2 (by rw [Int.neg_mul, Int.neg_mul, he]), by rw [G_neg]; exact hg⟩
/-- Where the fraction itself has too large a Q, the nearest ones are two. -/
theorem near_two {P Q N a b c d : Int} (hQ : 1 ≤ Q) (hl : IsLow P Q N a b) (hh : IsHigh P Q N c d) (hn : N < Q / G P Q) : ¬ (a = c ∧ b = d) := by
  rintro ⟨rfl, rfl⟩
  have hz := low_self hl hh
  obtain ⟨g1, g2, g3, g4, g5, g6⟩ := low_div (P := P) hQ
  have h1 := lowest_uniq hl.2 g4 hl.1.1 g2 (by
    refine Int.eq_of_mul_eq_mul_right (a := G P Q) (by omega) ?_
    rw [Int.mul_assoc, g5, Int.mul_right_comm, g6]
    exact hz)
  have h2 := hl.1.2.1
  omega

end Go.Proofs.Ythlnbomapfjphaa
