/-
  What is nearest, below and above (FAREY, LAGRANGE); fractions in lowest terms. No Go in sight.
-/
import Derived.Test.YthlnbomapfjphaaGma
namespace Go.Proofs.Ythlnbomapfjphaa.Fr
open Eu

/-- BEZOUT, by existence. -/
theorem bezout_some : ∀ (b : Nat) (a : Int), ∃ u v : Int, u * a + v * (b : Int) = G a b := by
  intro b
  induction b using Nat.strongRecOn with
  | _ b ih =>
    intro a
    by_cases hb : b = 0
    · subst hb
      have h : G a ((0 : Nat) : Int) = (a.natAbs : Int) := G_zero' a
      rw [h]
      by_cases ha : 0 ≤ a
      · exact ⟨1, 0, by omega⟩
      · exact ⟨-1, 0, by omega⟩
    · have m1 := Int.emod_lt_of_pos a (b := (b : Int)) (by omega)
      have m2 := Int.emod_nonneg a (b := (b : Int)) (by omega)
      obtain ⟨c, hc⟩ : ∃ c : Nat, a % (b : Int) = c := ⟨(a % (b : Int)).toNat, by omega⟩
      obtain ⟨u, v, h⟩ := ih c (by omega) b
      rw [← hc, G_step] at h
      have hd := Int.mul_ediv_add_emod a (b : Int)
      refine ⟨v, u - v * (a / (b : Int)), ?_⟩
      rw [← h]
      generalize a / (b : Int) = d at *
      generalize a % (b : Int) = r at *
      rw [← hd]
      grind

theorem coprime_dvd {a b d : Int} (h : G a b = 1) (hb : 1 ≤ b) (hd : b ∣ a * d) : b ∣ d := by
  obtain ⟨u, v, e⟩ := bezout_some b.toNat a
  rw [Int.toNat_of_nonneg (by omega), h] at e
  obtain ⟨k, hk⟩ := hd
  refine ⟨u * k + v * d, ?_⟩
  have : d = (u * a + v * b) * d := by rw [e, Int.one_mul]
  grind

/-- One fraction in lowest terms. -/
theorem lowest_uniq {a b c d : Int} (h1 : G a b = 1) (h2 : G c d = 1) (hb : 1 ≤ b) (hd : 1 ≤ d) (h : a * d = c * b) : a = c ∧ b = d := by
  have e1 : b ∣ d := coprime_dvd h1 hb ⟨c, by rw [h, Int.mul_comm]⟩
  have e2 : d ∣ b := coprime_dvd h2 hd ⟨a, by rw [← h, Int.mul_comm]⟩
  have e3 : b = d := Int.le_antisymm (Int.le_of_dvd (by omega) e1) (Int.le_of_dvd (by omega) e2)
  subst e3
  exact ⟨Int.eq_of_mul_eq_mul_right (by omega) h, rfl⟩

/-- a / b is the greatest that is at most P / Q, of all with denominators from 1 to N. -/
def Best (P Q N a b : Int) : Prop := 1 ≤ b ∧ b ≤ N ∧ a * Q ≤ P * b ∧ ∀ p q : Int, 1 ≤ q → q ≤ N → p * Q ≤ P * q → p * b ≤ a * q

/-- .. in lowest terms. -/
def IsLow (P Q N a b : Int) : Prop := Best P Q N a b ∧ G a b = 1
/-- The like from above. -/
def IsHigh (P Q N a b : Int) : Prop := IsLow (-P) Q N (-a) b

theorem Best.same {P Q N a b c d : Int} (h : Best P Q N a b) (k : Best P Q N c d) : a * d = c * b :=
  Int.le_antisymm (k.2.2.2 a b h.1 h.2.1 h.2.2.1) (h.2.2.2 c d k.1 k.2.1 k.2.2.1)

theorem IsLow.uniq {P Q N a b c d : Int} (h : IsLow P Q N a b) (k : IsLow P Q N c d) : a = c ∧ b = d :=
  lowest_uniq h.2 k.2 h.1.1 k.1.1 (h.1.same k.1)
theorem IsHigh.uniq {P Q N a b c d : Int} (h : IsHigh P Q N a b) (k : IsHigh P Q N c d) : a = c ∧ b = d := by
  have := IsLow.uniq h k
  omega

theorem G_neg (a b : Int) : G (-a) b = G a b := by unfold G; rw [Int.neg_gcd]

theorem Best.lowest {P Q N a b : Int} (h : Best P Q N a b) : IsLow P Q N (a / G a b) (b / G a b) ∧ 1 ≤ b / G a b ∧ b / G a b ≤ b := by
  obtain ⟨h1, h2, h3, h4⟩ := h
  have hg := G_pos (a := a) (b := b) (.inr (by omega))
  obtain ⟨x, hx⟩ := G_dvd_left a b
  obtain ⟨y, hy⟩ := G_dvd_right a b
  have hG : G a b = G (a / G a b) (b / G a b) * G a b := by
    have e1 : a / G a b * G a b = a := Int.ediv_mul_cancel (G_dvd_left a b)
    have e2 : b / G a b * G a b = b := Int.ediv_mul_cancel (G_dvd_right a b)
    have : G (a / G a b * G a b) (b / G a b * G a b) = G (a / G a b) (b / G a b) * G a b := by
      generalize G a b = g at *
      unfold G
      rw [Int.gcd_mul_right, Int.natCast_mul, Int.natAbs_of_nonneg (by omega)]
    rw [e1, e2] at this
    exact this
  generalize hgg : G a b = g at *
  have ex : a / g = x := by rw [hx]; exact Int.mul_ediv_cancel_left _ (by omega)
  have ey : b / g = y := by rw [hy]; exact Int.mul_ediv_cancel_left _ (by omega)
  rw [ex, ey] at hG ⊢
  have hG1 : G x y = 1 := by
    have : 1 * g = G x y * g := by omega
    exact (Int.eq_of_mul_eq_mul_right (by omega) this).symm
  have y1 : 1 ≤ y := by
    refine Decidable.byContradiction fun hc => ?_
    have : g * y ≤ g * 0 := Int.mul_le_mul_of_nonneg_left (by omega) (by omega)
    omega
  have y2 : y ≤ b := by
    have : 1 * y ≤ g * y := Int.mul_le_mul_of_nonneg_right (by omega) (by omega)
    omega
  refine ⟨⟨⟨y1, by omega, ?_, fun p q q1 q2 hpq => ?_⟩, hG1⟩, y1, y2⟩
  · subst hx hy
    refine Int.le_of_mul_le_mul_left (a := g) ?_ (by omega)
    rw [← Int.mul_assoc, ← Int.mul_assoc, Int.mul_comm g P, Int.mul_assoc P]
    exact h3
  · have := h4 p q q1 q2 hpq
    subst hx hy
    refine Int.le_of_mul_le_mul_left (a := g) ?_ (by omega)
    rw [← Int.mul_assoc, ← Int.mul_assoc, Int.mul_comm g p, Int.mul_assoc p]
    exact this

/-- Rounded down: the greatest with that denominator. -/
theorem floor_le {P Q q : Int} (hQ : 1 ≤ Q) : P * q / Q * Q ≤ P * q := Int.ediv_mul_le _ (by omega)
theorem floor_max {P Q q p : Int} (hQ : 1 ≤ Q) (h : p * Q ≤ P * q) : p ≤ P * q / Q := Int.le_ediv_of_mul_le (by omega) h

/-- Of denominators 1 alone. -/
theorem best_one {P Q : Int} (hQ : 1 ≤ Q) : Best P Q 1 (P / Q) 1 := by
  refine ⟨by omega, by omega, by rw [Int.mul_one]; exact Int.ediv_mul_le _ (by omega), fun p q q1 q2 h => ?_⟩
  obtain rfl : q = 1 := by omega
  rw [Int.mul_one] at h ⊢
  rw [Int.mul_one]
  exact Int.le_ediv_of_mul_le (by omega) h

/-- One denominator more: the new one is greater. -/
theorem best_take {P Q N a b : Int} (hQ : 1 ≤ Q) (h : Best P Q N a b) (hN : 1 ≤ N) (hl : a * (N + 1) < P * (N + 1) / Q * b) : Best P Q (N + 1) (P * (N + 1) / Q) (N + 1) := by
  obtain ⟨h1, h2, h3, h4⟩ := h
  refine ⟨by omega, by omega, floor_le hQ, fun p q q1 q2 hpq => ?_⟩
  by_cases hq : q ≤ N
  · have e1 := h4 p q q1 hq hpq
    -- p b ≤ a q, a (N+1) < f b
    generalize P * (N + 1) / Q = f at *
    refine Int.le_of_mul_le_mul_left (a := b) ?_ (by omega)
    have e2 : p * b * (N + 1) ≤ a * q * (N + 1) := Int.mul_le_mul_of_nonneg_right e1 (by omega)
    have e3 : a * (N + 1) * q ≤ f * b * q := Int.mul_le_mul_of_nonneg_right (by omega) (by omega)
    have e4 : b * (p * (N + 1)) = p * b * (N + 1) := by ac_rfl
    have e5 : b * (f * q) = f * b * q := by ac_rfl
    have e6 : a * q * (N + 1) = a * (N + 1) * q := by ac_rfl
    omega
  · obtain rfl : q = N + 1 := by omega
    exact Int.mul_le_mul_of_nonneg_right (floor_max hQ hpq) (by omega)

theorem best_keep {P Q N a b : Int} (hQ : 1 ≤ Q) (h : Best P Q N a b) (hl : ¬ a * (N + 1) < P * (N + 1) / Q * b) : Best P Q (N + 1) a b := by
  obtain ⟨h1, h2, h3, h4⟩ := h
  refine ⟨h1, by omega, h3, fun p q q1 q2 hpq => ?_⟩
  by_cases hq : q ≤ N
  · exact h4 p q q1 hq hpq
  · obtain rfl : q = N + 1 := by omega
    have := Int.mul_le_mul_of_nonneg_right (floor_max hQ hpq) (c := b) (by omega)
    omega

/-- Rounded up is rounded down, turned over. -/
theorem ceil_neg {n Q : Int} (hQ : 1 ≤ Q) : (n + Q - 1) / Q = -(-n / Q) := by
  have h1 := Int.mul_ediv_add_emod (-n) Q
  have h2 := Int.emod_lt_of_pos (-n) (b := Q) (by omega)
  have h3 := Int.emod_nonneg (-n) (b := Q) (by omega)
  generalize -n / Q = d at *
  generalize -n % Q = r at *
  have e : n + Q - 1 = (Q - 1 - r) + Q * (-d) := by rw [Int.mul_neg]; omega
  rw [e, Int.add_mul_ediv_left _ _ (by omega), Int.ediv_eq_zero_of_lt (by omega) (by omega)]
  omega

/-- FAREY, LAGRANGE: the two nearest differ by one part of both. -/
theorem sides {P Q N a b c d : Int} (hQ : 1 ≤ Q) (hl : IsLow P Q N a b) (hh : IsHigh P Q N c d) (hne : ¬ (a = c ∧ b = d)) : c * b - a * d = 1 := by
  obtain ⟨⟨b1, b2, ab, amax⟩, gab⟩ := hl
  obtain ⟨⟨d1, d2, cd, cmin⟩, gcd⟩ := hh
  rw [G_neg] at gcd
  have cd : P * d ≤ c * Q := by rw [Int.neg_mul, Int.neg_mul] at cd; omega
  have cmin : ∀ p q : Int, 1 ≤ q → q ≤ N → P * q ≤ p * Q → c * q ≤ p * d := fun p q q1 q2 h => by
    have := cmin (-p) q q1 q2 (by rw [Int.neg_mul, Int.neg_mul]; omega)
    rw [Int.neg_mul, Int.neg_mul] at this
    omega
  have hD0 : a * d ≤ c * b := by
    refine Int.le_of_mul_le_mul_left (a := Q) ?_ (by omega)
    have e1 : a * Q * d ≤ P * b * d := Int.mul_le_mul_of_nonneg_right ab (by omega)
    have e2 : P * d * b ≤ c * Q * b := Int.mul_le_mul_of_nonneg_right cd (by omega)
    have e3 : Q * (a * d) = a * Q * d := by ac_rfl
    have e4 : Q * (c * b) = c * Q * b := by ac_rfl
    have e5 : P * b * d = P * d * b := by ac_rfl
    omega
  have hD : 1 ≤ c * b - a * d := by
    refine Decidable.byContradiction fun hc => hne ?_
    exact lowest_uniq gab gcd b1 d1 (by omega)
  obtain ⟨y, x, e⟩ := bezout_some b.toNat a
  rw [Int.toNat_of_nonneg (by omega), gab] at e
  -- u b - a v = 1, N - b < v ≤ N
  have m1 := Int.emod_lt_of_pos (N + y) (b := b) (by omega)
  have m2 := Int.emod_nonneg (N + y) (b := b) (by omega)
  have m3 := Int.mul_ediv_add_emod (N + y) b
  obtain ⟨t, ht⟩ : ∃ t, (N + y) / b = t := ⟨_, rfl⟩
  rw [ht] at m3
  obtain ⟨v, hv⟩ : ∃ v, N - (N + y) % b = v := ⟨_, rfl⟩
  have hv2 : v = -y + t * b := by rw [Int.mul_comm t]; omega
  obtain ⟨u, hu⟩ : ∃ u, u = x + t * a := ⟨_, rfl⟩
  have huv : u * b - a * v = 1 := by rw [hu, hv2]; grind
  have v1 : 1 ≤ v := by omega
  have v2 : v ≤ N := by omega
  have v3 : N < b + v := by omega
  clear hu hv hv2 m1 m2 m3 ht e
  have hE : c * v ≤ u * d := by
    refine cmin u v v1 v2 ?_
    refine Decidable.byContradiction fun hc => ?_
    have := amax u v v1 v2 (by omega)
    omega
  by_cases hE0 : u * d = c * v
  · have guv : G u v = 1 := by
      have h1 := G_dvd_left u v
      have h2 := G_dvd_right u v
      have h3 : G u v ∣ 1 := by
        rw [← huv]
        exact Int.dvd_sub (Int.dvd_trans h1 (Int.dvd_mul_right _ _)) (Int.dvd_trans h2 (Int.dvd_mul_left _ _))
      have h4 := Int.le_of_dvd (by decide) h3
      have h5 := G_pos (a := u) (b := v) (.inr (by omega))
      omega
    obtain ⟨rfl, rfl⟩ := lowest_uniq guv gcd v1 d1 hE0
    exact huv
  · exfalso
    have hid : d = (u * d - c * v) * b + (c * b - a * d) * v := by grind
    have e1 : 1 * b ≤ (u * d - c * v) * b := Int.mul_le_mul_of_nonneg_right (by omega) (by omega)
    have e2 : 1 * v ≤ (c * b - a * d) * v := Int.mul_le_mul_of_nonneg_right hD (by omega)
    omega

/-- None lies between. -/
theorem between {P Q N a b c d p q : Int} (hl : IsLow P Q N a b) (hh : IsHigh P Q N c d) (q1 : 1 ≤ q) (q2 : q ≤ N) : p * b ≤ a * q ∨ c * q ≤ p * d := by
  by_cases h : p * Q ≤ P * q
  · exact .inl (hl.1.2.2.2 p q q1 q2 h)
  · have := hh.1.2.2.2 (-p) q q1 q2 (by rw [Int.neg_mul, Int.neg_mul]; omega)
    rw [Int.neg_mul, Int.neg_mul] at this
    exact .inr (by omega)

/-- The fraction itself, where its denominator is small enough. -/
theorem low_self {P Q N a b : Int} (hl : IsLow P Q N a b) (hh : IsHigh P Q N a b) : a * Q = P * b := by
  have h1 := hl.1.2.2.1
  have h2 := hh.1.2.2.1
  rw [Int.neg_mul, Int.neg_mul] at h2
  omega

end Go.Proofs.Ythlnbomapfjphaa.Fr
