/-
  The roads of package square: numbers that are no squares; TONELLI and SHANKS; the two numbers of a sum of squares, and the lesser root. No Go in sight.
-/
import Derived.Test.YthlnbomapfjphaaDoorSqTwo
namespace Go.Proofs.YthlnbomapfjphaaDoor.Sq
open Eu Pr Rs Dd

/-- Some number by an odd prime is no square. -/
theorem nonsq_some {p : Nat} (hp : Prm (p : Int)) (h2 : p ≠ 2) : ∃ z : Nat, 2 ≤ z ∧ z < p ∧ jac z p = -1 := by
  obtain ⟨ho, h3⟩ := prm_odd hp h2
  refine Classical.byContradiction fun hc => ?_
  have hall : ∀ x : Nat, 1 ≤ x → x < p → IsSq x p := fun x x1 x2 => by
    by_cases hx : x = 1
    · subst hx; exact ⟨1, by simp⟩
    · refine Classical.byContradiction fun hn => hc ⟨x, by omega, x2, ?_⟩
      rw [jac_prime hp h2]
      unfold leg
      rw [if_neg (small_not x1 x2), if_neg hn]
  have hex : ∀ x : Nat, ∃ r : Nat, x < p - 1 → (r < p / 2 ∧ ((p : Int) ∣ ((r + 1 : Nat) : Int) * ((r + 1 : Nat) : Int) - ((x + 1 : Nat) : Int))) := fun x => by
    by_cases hx : x < p - 1
    · obtain ⟨r, hr, hd⟩ := isSq_small (p := p) (by omega) (hall (x + 1) (by omega) (by omega))
      have hr0 : r ≠ 0 := fun h => by
        subst h
        have : (p : Int) ∣ ((x + 1 : Nat) : Int) := by
          have := Int.dvd_neg.mpr hd
          simpa using this
        exact small_not (by omega) (by omega) this
      by_cases hh : r ≤ p / 2
      · exact ⟨r - 1, fun _ => ⟨by omega, by rwa [show r - 1 + 1 = r by omega]⟩⟩
      · refine ⟨p - r - 1, fun _ => ⟨by omega, ?_⟩⟩
        rw [show p - r - 1 + 1 = p - r by omega]
        have e : ((p - r : Nat) : Int) = p - r := by omega
        rw [e]
        have e2 : ((p : Int) - r) * (p - r) - ((x + 1 : Nat) : Int) = p * (p - r - r) + ((r : Int) * r - ((x + 1 : Nat) : Int)) := by
          simp only [Int.sub_mul, Int.mul_sub]
          rw [Int.mul_comm (r : Int) p]
          omega
        rw [e2]
        exact Int.dvd_add (Int.dvd_mul_right _ _) hd
    · exact ⟨0, fun h => absurd h hx⟩
  have hch := Classical.axiomOfChoice hex
  obtain ⟨f, hf⟩ := hch
  obtain ⟨x, y, hxy, hy, he⟩ := pigeons (f := f) (n := p - 1) (m := p / 2) (fun x hx => (hf x hx).1) (by omega)
  have h4 := (hf x (by omega)).2
  have h5 := (hf y hy).2
  rw [he] at h4
  have h6 := Int.dvd_sub h4 h5
  have e : ((f y + 1 : Nat) : Int) * ((f y + 1 : Nat) : Int) - ((x + 1 : Nat) : Int) - (((f y + 1 : Nat) : Int) * ((f y + 1 : Nat) : Int) - ((y + 1 : Nat) : Int)) = ((y - x : Nat) : Int) := by omega
  rw [e] at h6
  exact small_not (by omega) (by omega) h6

/-- a and b leave the same by p. -/
theorem same_mul {p a b c d : Int} (h : a % p = b % p) (k : c % p = d % p) : a * c % p = b * d % p := by
  rw [Int.mul_emod, h, k, ← Int.mul_emod]
theorem same_pow {p a b : Int} (h : a % p = b % p) (n : Nat) : a ^ n % p = b ^ n % p := by
  rw [← pow_emod a, h, pow_emod]
theorem dvd_same {p a b : Int} : p ∣ a - b ↔ a % p = b % p := by
  rw [Int.emod_eq_emod_iff_emod_sub_eq_zero, Int.dvd_iff_emod_eq_zero]

/-- What TONELLI and SHANKS keep: root^2 = a * excess; excess, squared j times, is 1; turn, squared j times, is -1. -/
structure Ts (a p root excess turn : Int) (j : Nat) : Prop where
  r0 : 0 ≤ root
  r1 : root < p
  e0 : 0 ≤ excess
  e1 : excess < p
  t0 : 0 ≤ turn
  t1 : turn < p
  eq : root * root % p = a * excess % p
  one : excess ^ 2 ^ j % p = 1
  min : turn ^ 2 ^ j % p = p - 1

theorem Ts.ends {a p root excess turn : Int} (h : Ts a p root excess turn 0) : p ∣ root * root - a := by
  have h1 := h.one
  rw [Nat.pow_zero, Int.pow_succ, Int.pow_zero, Int.one_mul, Int.emod_eq_of_lt h.e0 h.e1] at h1
  have h2 := h.eq
  rw [h1, Int.mul_one] at h2
  exact dvd_same.mpr h2

theorem two_pow_succ (x : Int) (j : Nat) : x ^ 2 ^ (j + 1) = (x * x) ^ 2 ^ j := by
  rw [Nat.pow_succ, Nat.mul_comm, ipow_mul, show x ^ 2 = x * x by rw [Int.pow_succ, Int.pow_succ]; simp]

theorem two_pow_out (x : Int) (j : Nat) : x ^ 2 ^ (j + 1) = x ^ 2 ^ j * x ^ 2 ^ j := by
  rw [Nat.pow_succ, ipow_mul, Int.pow_succ, Int.pow_succ]; simp

theorem minus_sq {p : Int} (hp : 1 < p) : (p - 1) * (p - 1) % p = 1 := by
  have e : (p - 1) * (p - 1) = 1 + p * (p - 2) := by
    simp only [Int.sub_mul, Int.mul_sub]; omega
  rw [e, Int.add_mul_emod_self_left, Int.emod_eq_of_lt (by omega) hp]

/-- The excess is 1 already: the turn alone goes on. -/
theorem Ts.skip {a p root excess turn : Int} {j : Nat} (hp : 1 < p) (h : Ts a p root excess turn (j + 1)) (hs : Pw excess (2 ^ j) p = 1) : Ts a p root excess (turn * turn % p) j :=
  ⟨h.r0, h.r1, h.e0, h.e1, Int.emod_nonneg _ (by omega), Int.emod_lt_of_pos _ (by omega), h.eq, hs, by rw [pow_emod, ← two_pow_succ]; exact h.min⟩

/-- The excess is not 1: root and excess take the turn along. -/
theorem Ts.take {a p root excess turn : Int} {j : Nat} (hp : Prm p) (h : Ts a p root excess turn (j + 1)) (hs : Pw excess (2 ^ j) p ≠ 1) : Ts a p (root * turn % p) (excess * (turn * turn % p) % p) (turn * turn % p) j := by
  have hp1 := hp.1
  have hone := h.one
  have hm1 : excess ^ 2 ^ j % p = p - 1 := by
    unfold Pw at hs
    rw [two_pow_out] at hone
    have hd : p ∣ (excess ^ 2 ^ j - 1) * (excess ^ 2 ^ j + 1) := by
      rw [Int.sub_mul, Int.mul_add, Int.one_mul, Int.mul_one]
      have : p ∣ excess ^ 2 ^ j * excess ^ 2 ^ j - 1 := dvd_same.mpr (by rw [hone, Int.emod_eq_of_lt (by omega) (by omega)])
      rwa [show excess ^ 2 ^ j * excess ^ 2 ^ j + excess ^ 2 ^ j - (excess ^ 2 ^ j + 1) = excess ^ 2 ^ j * excess ^ 2 ^ j - 1 by omega]
    rcases euclid hp hd with h1 | h1
    · exact absurd (by rw [dvd_same.mp h1, Int.emod_eq_of_lt (by omega) (by omega)]) hs
    · have : p ∣ excess ^ 2 ^ j - (p - 1) := by
        rw [show excess ^ 2 ^ j - (p - 1) = excess ^ 2 ^ j + 1 - p by omega]
        exact Int.dvd_sub h1 (Int.dvd_refl p)
      rw [dvd_same.mp this, Int.emod_eq_of_lt (by omega) (by omega)]
  refine ⟨Int.emod_nonneg _ (by omega), Int.emod_lt_of_pos _ (by omega), Int.emod_nonneg _ (by omega), Int.emod_lt_of_pos _ (by omega), Int.emod_nonneg _ (by omega), Int.emod_lt_of_pos _ (by omega), ?_, ?_, ?_⟩
  · rw [mul_emod_both, mul_emod_right, ← Int.mul_assoc a, mul_emod_right, Int.mul_assoc a]
    have e : root * turn * (root * turn) = root * root * (turn * turn) := by ac_rfl
    have e2 : a * (excess * (turn * turn)) = a * excess * (turn * turn) := by ac_rfl
    rw [e, e2]
    exact same_mul h.eq rfl
  · rw [mul_emod_right, pow_emod, imul_pow, ← two_pow_succ]
    have := same_mul (p := p) (a := excess ^ 2 ^ j) (b := p - 1) (c := turn ^ 2 ^ (j + 1)) (d := p - 1) (by rw [hm1, Int.emod_eq_of_lt (by omega) (by omega)]) (by rw [h.min, Int.emod_eq_of_lt (by omega) (by omega)])
    rw [this]
    exact minus_sq (by omega)
  · rw [pow_emod, ← two_pow_succ]; exact h.min

/-- The start: p - 1 = d * 2^(t+1), d odd; a is a square, z is none. -/
theorem Ts.start {p : Nat} {a z : Int} {d t : Nat} (hp : Prm (p : Int)) (h2 : p ≠ 2) (ha : leg a p = 1) (hz : leg z p = -1) (hd : d % 2 = 1) (he : p - 1 = d * 2 ^ (t + 1)) :
    Ts a p (a * Pw a (d / 2) p % p) (a * Pw a (d / 2) p % p * Pw a (d / 2) p % p) (Pw z d p) t := by
  obtain ⟨ho, h3⟩ := prm_odd hp h2
  have e1 : p / 2 = d * 2 ^ t := by
    rw [Nat.pow_succ, ← Nat.mul_assoc] at he
    omega
  have ed : d / 2 + d / 2 + 1 = d := by omega
  have hh : Pw a (d / 2) p % p = a ^ (d / 2) % p := Int.emod_emod _ _
  have hroot : a * Pw a (d / 2) p % p % p = a * a ^ (d / 2) % p := by rw [Int.emod_emod]; exact same_mul rfl hh
  have hexc : a * Pw a (d / 2) p % p * Pw a (d / 2) p % p % p = a ^ d % p := by
    rw [Int.emod_emod, same_mul hroot hh]
    congr 1
    rw [show a ^ d = a ^ (d / 2 + d / 2 + 1) by rw [ed], Int.pow_succ, ipow_add]
    ac_rfl
  have hleg : ∀ x : Int, x ^ (p / 2) % p = leg x p % p := fun x => dvd_same.mp (leg_euler hp h2)
  refine ⟨Int.emod_nonneg _ (by omega), Int.emod_lt_of_pos _ (by omega), Int.emod_nonneg _ (by omega), Int.emod_lt_of_pos _ (by omega), Int.emod_nonneg _ (by omega), Int.emod_lt_of_pos _ (by omega), ?_, ?_, ?_⟩
  · rw [same_mul hroot hroot, same_mul (rfl : a % p = a % p) hexc]
    congr 1
    rw [show a ^ d = a ^ (d / 2 + d / 2 + 1) by rw [ed], Int.pow_succ, ipow_add]
    ac_rfl
  · rw [same_pow hexc, ← ipow_mul, ← e1, hleg, ha, Int.emod_eq_of_lt (by omega) (by omega)]
  · have e3 : Pw z d p % p = z ^ d % p := Int.emod_emod _ _
    rw [same_pow e3, ← ipow_mul, ← e1, hleg, hz, show (-1 : Int) = (p - 1) + p * (-1) by omega, Int.add_mul_emod_self_left, Int.emod_eq_of_lt (by omega) (by omega)]

theorem least_nat {P : Nat → Prop} (h : ∃ n, P n) : ∃ n, P n ∧ ∀ m, m < n → ¬ P m := by
  obtain ⟨n, hn⟩ := h
  induction n using Nat.strongRecOn with
  | ind n ih =>
    by_cases hc : ∃ m, m < n ∧ P m
    · obtain ⟨m, hm, hp⟩ := hc
      exact ih m hm hp
    · exact ⟨n, hn, fun m hm hp => hc ⟨m, hm, hp⟩⟩

/-- x is the least root of a by p. -/
def IsRoot (a p x : Int) : Prop := 0 ≤ x ∧ x < p ∧ p ∣ x * x - a ∧ ∀ y : Int, 0 ≤ y → y < x → ¬ p ∣ y * y - a

theorem root_of {a : Int} {p : Nat} (hp : 0 < p) (h : IsSq a p) : ∃ x : Int, IsRoot a p x := by
  obtain ⟨x, ⟨hx, hd⟩, hl⟩ := least_nat (isSq_small hp h)
  refine ⟨x, by omega, by omega, hd, fun y y0 y1 hy => hl y.toNat (by omega) ⟨by omega, ?_⟩⟩
  rwa [Int.toNat_of_nonneg y0]

theorem IsRoot.isSq {a x : Int} {p : Nat} (h : IsRoot a p x) : IsSq a p := ⟨x, h.2.2.1⟩

theorem IsRoot.uniq {a p x y : Int} (hx : IsRoot a p x) (hy : IsRoot a p y) : x = y := by
  by_cases h : x < y
  · exact absurd hx.2.2.1 (hy.2.2.2 x hx.1 h)
  · by_cases h2 : y < x
    · exact absurd hy.2.2.1 (hx.2.2.2 y hy.1 h2)
    · omega

theorem root_zero {a p : Int} (hp : 1 ≤ p) (h : a % p = 0) : IsRoot a p 0 :=
  ⟨by omega, by omega, by
    have : p ∣ a := Int.dvd_of_emod_eq_zero h
    simpa using Int.dvd_neg.mpr this, fun y h1 h2 => by omega⟩

theorem root_two {a : Int} (h : a % 2 = 1) : IsRoot a 2 1 :=
  ⟨by omega, by omega, by omega, fun y h1 h2 => by
    obtain rfl : y = 0 := by omega
    omega⟩

/-- The lesser of the two roots. -/
theorem root_min {p : Nat} (hp : Prm (p : Int)) {a r : Int} (r0 : 0 < r) (r1 : r < p) (hd : (p : Int) ∣ r * r - a) : IsRoot a p (min r (p - r)) := by
  have hmin : min r (p - r) = r ∨ min r (p - r) = p - r := by omega
  have hd2 : (p : Int) ∣ (p - r) * (p - r) - a := by
    have e2 : ((p : Int) - r) * (p - r) - a = p * (p - r - r) + (r * r - a) := by
      simp only [Int.sub_mul, Int.mul_sub]
      rw [Int.mul_comm r p]
      omega
    rw [e2]
    exact Int.dvd_add (Int.dvd_mul_right _ _) hd
  refine ⟨by omega, by omega, ?_, fun y y0 y1 hy => ?_⟩
  · rcases hmin with e | e <;> rw [e]
    · exact hd
    · exact hd2
  · have h3 := Int.dvd_sub hd hy
    rw [show r * r - a - (y * y - a) = r * r - y * y by omega] at h3
    rcases two_roots hp h3 with h4 | h4
    · have := Int.le_of_dvd (by omega) h4; omega
    · have := Int.le_of_dvd (by omega) h4; omega

/-- Twice the least root is below an odd prime. -/
theorem IsRoot.half {p : Nat} {a r : Int} (ho : p % 2 = 1) (h : IsRoot a p r) : 2 * r < p := by
  refine Decidable.byContradiction fun hc => ?_
  obtain ⟨r0, r1, hd, hl⟩ := h
  refine hl (p - r) (by omega) (by omega) ?_
  have e2 : ((p : Int) - r) * (p - r) - a = p * (p - r - r) + (r * r - a) := by
    simp only [Int.sub_mul, Int.mul_sub]
    rw [Int.mul_comm r p]
    omega
  rw [e2]
  exact Int.dvd_add (Int.dvd_mul_right _ _) hd

theorem leg_one {a : Int} {p : Nat} : leg a p = 1 ↔ ¬ (p : Int) ∣ a ∧ IsSq a p := by
  unfold leg
  by_cases h : (p : Int) ∣ a
  · simp [h]
  · by_cases h2 : IsSq a p <;> simp [h, h2]

theorem leg_minus {a : Int} {p : Nat} : leg a p = -1 ↔ ¬ IsSq a p := by
  unfold leg
  by_cases h : (p : Int) ∣ a
  · have : IsSq a p := ⟨0, by simpa using Int.dvd_neg.mpr h⟩
    simp [h, this]
  · by_cases h2 : IsSq a p <;> simp [h, h2]

theorem leg_zero {a : Int} {p : Nat} : leg a p = 0 ↔ (p : Int) ∣ a := by
  unfold leg
  by_cases h : (p : Int) ∣ a
  · simp [h]
  · by_cases h2 : IsSq a p <;> simp [h, h2]

/-- x and y are the two numbers whose squares have the sum n, the first as small as can be. -/
def IsTwo (n x y : Int) : Prop := 0 ≤ x ∧ x ≤ y ∧ x * x + y * y = n ∧ ∀ i k : Int, 0 ≤ i → i ≤ k → i * i + k * k = n → x ≤ i
def NoTwo (n : Int) : Prop := ∀ i k : Int, 0 ≤ i → i ≤ k → i * i + k * k ≠ n

theorem two_or (n : Int) : (∃ x y, IsTwo n x y) ∨ NoTwo n := by
  by_cases h : ∃ x : Nat, ∃ y : Int, (x : Int) ≤ y ∧ (x : Int) * x + y * y = n
  · obtain ⟨x, ⟨y, h1, h2⟩, hl⟩ := least_nat h
    refine .inl ⟨x, y, by omega, h1, h2, fun i k i0 ik hs => ?_⟩
    refine Decidable.byContradiction fun hc => hl i.toNat (by omega) ⟨k, by omega, ?_⟩
    rwa [Int.toNat_of_nonneg i0]
  · refine .inr fun i k i0 ik hs => h ⟨i.toNat, k, by omega, ?_⟩
    rwa [Int.toNat_of_nonneg i0]

theorem sq_abs (a : Int) : (a.natAbs : Int) * (a.natAbs : Int) = a * a := Int.natAbs_mul_self

theorem NoTwo.all {n : Int} (h : NoTwo n) (i k : Int) : i * i + k * k ≠ n := fun he => by
  rw [← sq_abs i, ← sq_abs k] at he
  by_cases hk : (i.natAbs : Int) ≤ (k.natAbs : Int)
  · exact h _ _ (by omega) hk he
  · exact h (k.natAbs : Int) (i.natAbs : Int) (by omega) (by omega) (by omega)

theorem sq_lt {a b : Int} (ha : 0 ≤ a) (h : a < b) : a * a < b * b := by
  have h1 : a * a ≤ a * b := Int.mul_le_mul_of_nonneg_left (by omega) ha
  have h2 : a * b < b * b := Int.mul_lt_mul_of_pos_right h (by omega)
  omega

theorem sq_mono {a b : Int} (ha : 0 ≤ a) (h : a ≤ b) : a * a ≤ b * b := by
  by_cases he : a = b
  · rw [he]; exact Int.le_refl _
  · have := sq_lt ha (show a < b by omega); omega

theorem sq_bound {a n : Int} (_ : 0 ≤ a) (h : a * a < n) (hn : n ≤ 1000000) : a ≤ 999 := by
  refine Decidable.byContradiction fun hc => ?_
  have : 1000 * 1000 ≤ a * a := sq_mono (by omega) (show (1000 : Int) ≤ a by omega)
  omega

/-- Of a pair with the sum n the second number is told by the first. -/
theorem IsTwo.second {n x y k : Int} (h : IsTwo n x y) (hk : x ≤ k) (he : x * x + k * k = n) : k = y := by
  obtain ⟨x0, xy, hs, _⟩ := h
  by_cases h1 : k < y
  · have := sq_lt (a := k) (b := y) (by omega) h1; omega
  · by_cases h2 : y < k
    · have := sq_lt (a := y) (b := k) (by omega) h2; omega
    · omega

/-- JACOBI's symbol, as the code goes: by two; the places changed; at the end. -/
theorem jac_half {x : Int} {y : Nat} (hx : x % 2 = 0) (hy : y % 2 = 1) : jac x y = (if y % 8 = 3 ∨ y % 8 = 5 then -1 else 1) * jac (x / 2) y := by
  rw [← jac_two hy, ← jac_mul hy]
  congr 1
  omega

theorem jac_flip {x y : Nat} (hx : x % 2 = 1) (hy : y % 2 = 1) : jac x y = (if x % 4 = 3 ∧ y % 4 = 3 then -1 else 1) * jac ((y : Int) % (x : Int)) x := by
  rw [jac_turn hx hy, jac_emod _ hx]

theorem jac_end {y : Nat} : jac 0 y = if y = 1 then 1 else 0 := by
  by_cases h : y = 1
  · subst h; rw [jac_one]; rfl
  · rw [if_neg h, jac_no]
    rw [Int.gcd_zero_right]
    omega

end Go.Proofs.YthlnbomapfjphaaDoor.Sq
