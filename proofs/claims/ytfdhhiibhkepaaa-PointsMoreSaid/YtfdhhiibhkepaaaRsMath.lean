/-
  Reckoning with remainders, and nothing of the program: powers by a number, FERMAT, EULER, orders, inverses.
-/
import Derived.Test.YtfdhhiibhkepaaaEuMath
import Derived.Test.YtfdhhiibhkepaaaPrMath
namespace Go.Proofs.Ytfdhhiibhkepaaa.Rs
open Pr Eu

/-- a, n times, by m. -/
def Pw (a : Int) (n : Nat) (m : Int) : Int := a ^ n % m

theorem mul_emod_left (a b m : Int) : (a % m) * b % m = a * b % m := by rw [Int.mul_emod, Int.emod_emod, ← Int.mul_emod]
theorem mul_emod_right (a b m : Int) : a * (b % m) % m = a * b % m := by rw [Int.mul_emod, Int.emod_emod, ← Int.mul_emod]
theorem mul_emod_both (a b m : Int) : (a % m) * (b % m) % m = a * b % m := by rw [← Int.mul_emod]

theorem pow_emod (a m : Int) (n : Nat) : (a % m) ^ n % m = a ^ n % m := by
  induction n with
  | zero => rw [Int.pow_zero, Int.pow_zero]
  | succ n ih => rw [Int.pow_succ, Int.pow_succ, Int.mul_emod, ih, Int.emod_emod, ← Int.mul_emod]

theorem Pw_mod (a m : Int) (n : Nat) : Pw (a % m) n m = Pw a n m := pow_emod a m n
theorem Pw_zero (a m : Int) : Pw a 0 m = 1 % m := by simp [Pw]
theorem Pw_one (a m : Int) : Pw a 1 m = a % m := by unfold Pw; rw [Int.pow_succ, Int.pow_zero, Int.one_mul]
theorem Pw_nonneg (a : Int) (n : Nat) {m : Int} (h : 0 < m) : 0 ≤ Pw a n m := Int.emod_nonneg _ (by omega)
theorem Pw_lt (a : Int) (n : Nat) {m : Int} (h : 0 < m) : Pw a n m < m := Int.emod_lt_of_pos _ h
theorem ipow_add (a : Int) (n k : Nat) : a ^ (n + k) = a ^ n * a ^ k := by
  induction k with
  | zero => simp
  | succ k ih => rw [← Nat.add_assoc, Int.pow_succ, ih, Int.pow_succ, Int.mul_assoc]
theorem ipow_mul (a : Int) (n k : Nat) : a ^ (n * k) = (a ^ n) ^ k := by
  induction k with
  | zero => simp
  | succ k ih => rw [Nat.mul_succ, ipow_add, ih, Int.pow_succ]
theorem imul_pow (a b : Int) (n : Nat) : (a * b) ^ n = a ^ n * b ^ n := by
  induction n with
  | zero => simp
  | succ n ih => simp only [Int.pow_succ, ih]; ac_rfl
theorem one_ipow (n : Nat) : (1 : Int) ^ n = 1 := by
  induction n with
  | zero => rfl
  | succ n ih => rw [Int.pow_succ, ih]; rfl

theorem Pw_add (a : Int) (n k : Nat) (m : Int) : Pw a (n + k) m = Pw a n m * Pw a k m % m := by
  unfold Pw; rw [ipow_add, mul_emod_both]
theorem Pw_mul (a : Int) (n k : Nat) (m : Int) : Pw a (n * k) m = Pw (Pw a n m) k m := by
  unfold Pw; rw [ipow_mul, pow_emod]
theorem Pw_succ (a : Int) (n : Nat) (m : Int) : Pw a (n + 1) m = Pw a n m * a % m := by
  unfold Pw; rw [Int.pow_succ, mul_emod_left]

/-- A round of the road by squares. -/
theorem sq_even (x : Int) (n : Nat) (m : Int) (h : n % 2 = 0) : (x * x % m) ^ (n / 2) % m = x ^ n % m := by
  rw [pow_emod, imul_pow, ← ipow_add]
  congr 2; omega
theorem sq_odd (p x : Int) (n : Nat) (m : Int) (h : n % 2 = 1) : (p * x % m) * (x * x % m) ^ (n / 2) % m = p * x ^ n % m := by
  rw [mul_emod_left, ← mul_emod_right, pow_emod, imul_pow, ← ipow_add, mul_emod_right, Int.mul_assoc]
  congr 2
  rw [Int.mul_comm, ← Int.pow_succ]
  congr 1; omega
theorem sq_even' (p x : Int) (n : Nat) (m : Int) (h : n % 2 = 0) : p * (x * x % m) ^ (n / 2) % m = p * x ^ n % m := by
  rw [← mul_emod_right, sq_even x n m h, mul_emod_right]

/-- The document's road, from the front: of n / 2 to n. -/
theorem front_even (a : Int) (n : Nat) (m : Int) (h : n % 2 = 0) : Pw a (n / 2) m * Pw a (n / 2) m % m = Pw a n m := by
  rw [← Pw_add]; congr 1; omega
theorem front_odd (a : Int) (n : Nat) (m : Int) (h : n % 2 = 1) : Pw a (n / 2) m * Pw a (n / 2) m % m * (a % m) % m = Pw a n m := by
  rw [← Pw_add, mul_emod_right, ← Pw_succ]; congr 1; omega

-- CHOICES, and FERMAT.
/-- k of n. -/
def ch : Nat → Nat → Nat
  | _, 0 => 1
  | 0, _ + 1 => 0
  | n + 1, k + 1 => ch n k + ch n (k + 1)

theorem ch_zero (n : Nat) : ch n 0 = 1 := by cases n <;> rfl
theorem ch_big : ∀ (n k : Nat), n < k → ch n k = 0 := by
  intro n
  induction n with
  | zero => intro k h; match k, h with | k + 1, _ => rfl
  | succ n ih => intro k h; match k, h with | k + 1, h => show ch n k + ch n (k + 1) = 0; rw [ih k (by omega), ih (k + 1) (by omega)]
theorem ch_self (n : Nat) : ch n n = 1 := by
  induction n with
  | zero => rfl
  | succ n ih => show ch n n + ch n (n + 1) = 1; rw [ih, ch_big n (n + 1) (by omega)]
theorem ch_mul : ∀ (n k : Nat), (k + 1) * ch (n + 1) (k + 1) = (n + 1) * ch n k := by
  intro n
  induction n with
  | zero =>
    intro k
    match k with
    | 0 => rfl
    | k + 1 => show (k + 1 + 1) * (ch 0 (k + 1) + ch 0 (k + 2)) = (0 + 1) * ch 0 (k + 1); rw [ch_big 0 (k + 1) (by omega), ch_big 0 (k + 2) (by omega)]; simp
  | succ n ih =>
    intro k
    match k with
    | 0 =>
      show (0 + 1) * (ch (n + 1) 0 + ch (n + 1) 1) = (n + 1 + 1) * ch (n + 1) 0
      have h : (0 + 1) * ch (n + 1) 1 = (n + 1) * ch n 0 := ih 0
      simp only [ch_zero] at h ⊢
      omega
    | k + 1 =>
      have h1 := ih k
      have h2 := ih (k + 1)
      have e2 : ch (n + 1) (k + 1) = ch n k + ch n (k + 1) := rfl
      show (k + 1 + 1) * (ch (n + 1) (k + 1) + ch (n + 1) (k + 1 + 1)) = (n + 1 + 1) * ch (n + 1) (k + 1)
      rw [Nat.mul_add, h2, Nat.succ_mul (k + 1), h1, Nat.succ_mul (n + 1), e2, Nat.mul_add]
      omega

/-- The sum of the first j terms of (a + 1) to the n. -/
def bsum (a : Int) (n : Nat) : Nat → Int
  | 0 => 0
  | j + 1 => bsum a n j + (ch n j : Nat) * a ^ j

theorem bsum_step (a : Int) (n : Nat) : ∀ j : Nat, bsum a (n + 1) (j + 1) = a * bsum a n j + bsum a n (j + 1) := by
  intro j
  induction j with
  | zero => simp [bsum, ch_zero]
  | succ j ih =>
    have e : bsum a (n + 1) (j + 1 + 1) = bsum a (n + 1) (j + 1) + (ch (n + 1) (j + 1) : Nat) * a ^ (j + 1) := rfl
    have e1 : bsum a n (j + 1 + 1) = bsum a n (j + 1) + (ch n (j + 1) : Nat) * a ^ (j + 1) := rfl
    have e2 : bsum a n (j + 1) = bsum a n j + (ch n j : Nat) * a ^ j := rfl
    have e3 : ch (n + 1) (j + 1) = ch n j + ch n (j + 1) := rfl
    rw [e, ih, e1, e3, Int.natCast_add, Int.add_mul]
    have e4 : a * bsum a n (j + 1) = a * bsum a n j + (ch n j : Nat) * a ^ (j + 1) := by
      rw [e2, Int.mul_add, Int.pow_succ]; congr 1; ac_rfl
    rw [e4]; omega

theorem bsum_over (a : Int) (n : Nat) : ∀ j : Nat, n + 1 ≤ j → bsum a n j = bsum a n (n + 1) := by
  intro j h
  induction j with
  | zero => omega
  | succ j ih =>
    by_cases e : j = n
    · subst e; rfl
    · show bsum a n j + (ch n j : Nat) * a ^ j = _
      rw [ih (by omega), ch_big n j (by omega)]; simp

theorem binomial (a : Int) (n : Nat) : (a + 1) ^ n = bsum a n (n + 1) := by
  induction n with
  | zero => simp [bsum, ch]
  | succ n ih =>
    rw [Int.pow_succ, ih, bsum_step, bsum_over a n (n + 1 + 1) (by omega), Int.mul_add, Int.mul_one, Int.mul_comm]

theorem prm_dvd_ch {p : Nat} (hp : Prm p) {k : Nat} (h1 : 1 ≤ k) (h2 : k < p) : (p : Int) ∣ (ch p k : Nat) := by
  obtain ⟨k, rfl⟩ : ∃ j, k = j + 1 := ⟨k - 1, by omega⟩
  obtain ⟨p, rfl⟩ : ∃ j, p = j + 1 := ⟨p - 1, by omega⟩
  have h := ch_mul p k
  have hd : ((p + 1 : Nat) : Int) ∣ ((k + 1 : Nat) : Int) * (ch (p + 1) (k + 1) : Nat) := by
    rw [← Int.natCast_mul, h, Int.natCast_mul]; exact Int.dvd_mul_right _ _
  rcases euclid hp hd with h3 | h3
  · have := Int.le_of_dvd (by omega) h3; omega
  · exact h3

theorem bsum_mod {p : Nat} (hp : Prm p) (a : Int) : ∀ j : Nat, 1 ≤ j → j ≤ p → bsum a p j % p = 1 % p := by
  intro j h1 h2
  induction j with
  | zero => omega
  | succ j ih =>
    by_cases e : j = 0
    · subst e; simp [bsum, ch_zero]
    · show (bsum a p j + (ch p j : Nat) * a ^ j) % p = _
      rw [Int.add_emod, Int.emod_eq_zero_of_dvd (Int.dvd_trans (prm_dvd_ch hp (k := j) (by omega) (by omega)) (Int.dvd_mul_right _ _)), Int.add_zero, Int.emod_emod, ih (by omega) (by omega)]

theorem fermat_step {p : Nat} (hp : Prm p) (a : Int) : (a + 1) ^ p % p = (a ^ p + 1) % p := by
  have h2 := hp.1
  rw [binomial]
  show (bsum a p p + (ch p p : Nat) * a ^ p) % p = _
  rw [ch_self, Int.add_emod, bsum_mod hp a p (by omega) (Nat.le_refl _), ← Int.add_emod, Int.add_comm]
  simp

theorem fermat_nat {p : Nat} (hp : Prm p) (a : Nat) : (a : Int) ^ p % p = (a : Int) % p := by
  have h2 := hp.1
  induction a with
  | zero =>
    obtain ⟨q, rfl⟩ : ∃ q, p = q + 1 := ⟨p - 1, by omega⟩
    simp [Int.pow_succ]
  | succ a ih => rw [Int.natCast_add, Int.natCast_one, fermat_step hp, Int.add_emod, ih, ← Int.add_emod]

/-- FERMAT. -/
theorem fermat {p : Int} (hp : Prm p) (a : Int) : Pw a p.toNat p = a % p := by
  have h2 := hp.1
  obtain ⟨q, rfl⟩ : ∃ q : Nat, p = q := ⟨p.toNat, by omega⟩
  rw [← Pw_mod]
  have h3 := Int.emod_nonneg a (b := (q : Int)) (by omega)
  obtain ⟨b, hb⟩ : ∃ b : Nat, a % (q : Int) = b := ⟨(a % q).toNat, by omega⟩
  have h4 := fermat_nat hp b
  rw [hb]
  show (b : Int) ^ (q : Int).toNat % q = b
  rw [Int.toNat_natCast, h4, ← hb, Int.emod_emod]

-- ONE by m.
/-- a is 1, by m. -/
def One (a m : Int) : Prop := m ∣ a - 1
theorem one_iff {a m : Int} : One a m ↔ a % m = 1 % m := by
  unfold One
  rw [Int.emod_eq_emod_iff_emod_sub_eq_zero]
  exact ⟨fun h => Int.emod_eq_zero_of_dvd h, fun h => Int.dvd_of_emod_eq_zero h⟩
theorem One.mul {a b m : Int} (h : One a m) (k : One b m) : One (a * b) m := by
  unfold One at *
  have e : a * b - 1 = a * (b - 1) + (a - 1) := by rw [Int.mul_sub]; omega
  rw [e]
  exact Int.dvd_add (Int.dvd_trans k (Int.dvd_mul_left _ _)) h
theorem One.self (m : Int) : One 1 m := by unfold One; simp
theorem One.pow {a m : Int} (h : One a m) (n : Nat) : One (a ^ n) m := by
  induction n with
  | zero => simpa using One.self m
  | succ n ih => rw [Int.pow_succ]; exact ih.mul h
theorem One.pw {a : Int} {n k : Nat} {m : Int} (h : One (a ^ n) m) (hd : n ∣ k) : One (a ^ k) m := by
  obtain ⟨j, rfl⟩ := hd
  rw [ipow_mul]; exact h.pow j
theorem pw_one {a : Int} {n : Nat} {m : Int} : One (a ^ n) m ↔ Pw a n m = 1 % m := one_iff

/-- From 1 by p to the j to 1 by p to the j + 1: to the p. -/
theorem one_lift {p : Nat} {x : Int} {j : Nat} (hj : 1 ≤ j) (h : One x ((p : Int) ^ j)) : One (x ^ p) ((p : Int) ^ (j + 1)) := by
  obtain ⟨t, ht⟩ := h
  -- x ^ n - 1 - n (x - 1) is divided by (x - 1)²
  have key : ∀ n : Nat, ∃ s : Int, x ^ n - 1 = n * (x - 1) + (x - 1) * (x - 1) * s := by
    intro n
    induction n with
    | zero => exact ⟨0, by simp⟩
    | succ n ih =>
      obtain ⟨s, hs⟩ := ih
      refine ⟨s * x + n, ?_⟩
      have e : x ^ (n + 1) - 1 = (x ^ n - 1) * x + (x - 1) := by rw [Int.pow_succ, Int.sub_mul]; omega
      rw [e, hs]
      generalize hy : x - 1 = y
      have hx : x = y + 1 := by omega
      subst hx
      rw [Int.natCast_add]
      simp only [Int.add_mul, Int.mul_add, Int.mul_one, Int.one_mul, Int.natCast_one]
      have e1 : (n : Int) * y * y = y * y * n := by ac_rfl
      have e2 : y * y * s * y = y * y * (s * y) := by ac_rfl
      rw [e1, e2]; omega
  obtain ⟨s, hs⟩ := key p
  show (p : Int) ^ (j + 1) ∣ x ^ p - 1
  rw [hs, ht]
  refine Int.dvd_add ?_ ?_
  · rw [Int.pow_succ]
    exact ⟨t, by ac_rfl⟩
  · obtain ⟨i, rfl⟩ : ∃ i, j = i + 1 := ⟨j - 1, by omega⟩
    refine ⟨t * t * s * (p : Int) ^ i, ?_⟩
    rw [Int.pow_succ _ (i + 1), Int.pow_succ _ i]
    ac_rfl

/-- How many numbers below the number of these powers have nothing in common with it. -/
def phiL : List (Int × Nat) → Nat
  | [] => 1
  | (p, k) :: l => p.toNat ^ (k - 1) * (p.toNat - 1) * phiL l

theorem phiL_pos {n : Int} {l : List (Int × Nat)} (h : Fac n l) : 1 ≤ phiL l := by
  induction l generalizing n with
  | nil => exact Nat.le_refl 1
  | cons x l ih =>
    obtain ⟨p, k⟩ := x
    obtain ⟨hq, hk, m, hm, hn, hnd, hF⟩ := h
    have h1 := hq.1
    exact Nat.mul_pos (Nat.mul_pos (Nat.pow_pos (by omega)) (by omega)) (ih hF)

theorem cancel_one {p a x : Int} (hp : Prm p) (ha : ¬ p ∣ a) (h : a * x % p = a % p) : One x p := by
  have h1 : p ∣ a * x - a := Int.dvd_of_emod_eq_zero (Int.emod_eq_emod_iff_emod_sub_eq_zero.mp h)
  have e : a * x - a = a * (x - 1) := by rw [Int.mul_sub]; omega
  rw [e] at h1
  rcases euclid hp h1 with h2 | h2
  · exact absurd h2 ha
  · exact h2

theorem fermat_one {p a : Int} (hp : Prm p) (ha : ¬ p ∣ a) : One (a ^ (p.toNat - 1)) p := by
  have h2 := hp.1
  refine cancel_one hp ha ?_
  have := fermat hp a
  unfold Pw at this
  rw [← this, Int.mul_comm, ← Int.pow_succ]
  congr 2; omega

theorem one_ppow {p a : Int} (hp : Prm p) (ha : ¬ p ∣ a) (k : Nat) (hk : 1 ≤ k) : One (a ^ (p.toNat ^ (k - 1) * (p.toNat - 1))) (p ^ k) := by
  have h2 := hp.1
  obtain ⟨q, rfl⟩ : ∃ q : Nat, p = q := ⟨p.toNat, by omega⟩
  obtain ⟨k, rfl⟩ : ∃ j, k = j + 1 := ⟨k - 1, by omega⟩
  rw [Int.toNat_natCast, Nat.add_sub_cancel]
  clear hk
  induction k with
  | zero => rw [Int.pow_succ, Int.pow_zero, Int.one_mul, Nat.pow_zero, Nat.one_mul]; exact fermat_one hp ha
  | succ k ih =>
    have h3 := one_lift (p := q) (j := k + 1) (by omega) ih
    rw [← ipow_mul] at h3
    have e : q ^ (k + 1) * (q - 1) = q ^ k * (q - 1) * q := by rw [Nat.pow_succ]; ac_rfl
    rw [e]; exact h3

/-- What divides two with nothing in common divides their product: here told by the powers. -/
theorem dvd_ppow_mul {p m x : Int} (hp : Prm p) (hnd : ¬ p ∣ m) : ∀ k : Nat, p ^ k ∣ x → m ∣ x → p ^ k * m ∣ x := by
  intro k
  induction k with
  | zero => intro _ h; simpa using h
  | succ k ih =>
    intro h1 h2
    have h3 : p ^ k ∣ x := Int.dvd_trans ⟨p, by rw [Int.pow_succ]⟩ h1
    obtain ⟨t, ht⟩ := ih h3 h2
    obtain ⟨s, hs⟩ := h1
    have hpk : p ^ k ≠ 0 := pow_ne (by have := hp.1; omega) k
    have e : m * t = p * s := by
      have : p ^ k * (m * t) = p ^ k * (p * s) := by rw [← Int.mul_assoc, ← ht, hs, Int.pow_succ]; ac_rfl
      exact Int.eq_of_mul_eq_mul_left hpk this
    have hd : p ∣ m * t := ⟨s, e⟩
    rcases euclid hp hd with h4 | h4
    · exact absurd h4 hnd
    · obtain ⟨u, rfl⟩ := h4
      exact ⟨u, by rw [ht, Int.pow_succ]; ac_rfl⟩

/-- EULER, by the powers. -/
theorem euler {n a : Int} {l : List (Int × Nat)} (h : Fac n l) (ha : ∀ p : Int, Prm p → p ∣ n → ¬ p ∣ a) : One (a ^ phiL l) n := by
  induction l generalizing n with
  | nil =>
    have : n = 1 := h
    subst this
    exact ⟨_, (Int.one_mul _).symm⟩
  | cons x l ih =>
    obtain ⟨p, k⟩ := x
    obtain ⟨hq, hk, m, hm, hn, hnd, hF⟩ := h
    have hp := hq.prm
    have h1 := one_ppow hp (ha p hp hq.2.1) k hk
    have h2 := ih hF (fun q hq2 hd => ha q hq2 (by rw [hn]; exact Int.dvd_trans hd (Int.dvd_mul_left _ _)))
    rw [hn]
    exact dvd_ppow_mul hp hnd k (h1.pw (Nat.dvd_mul_right _ _)) (h2.pw (Nat.dvd_mul_left _ _))

/-- Nothing in common: no prime divides both. -/
theorem coprime_prm {a n : Int} (h : G a n = 1) : ∀ p : Int, Prm p → p ∣ n → ¬ p ∣ a := by
  intro p hp h1 h2
  have h3 := dvd_G h2 h1
  rw [h] at h3
  have := Int.le_of_dvd (by omega) h3
  have := hp.1
  omega

-- ORDERS.
/-- o is the order of a by m. -/
def IsOrd (a m : Int) (o : Nat) : Prop := 1 ≤ o ∧ One (a ^ o) m ∧ ∀ q : Int, Prm q → q ∣ (o : Int) → ¬ One (a ^ (o / q.toNat)) m

theorem IsOrd.least {a m : Int} {o d : Nat} (h : IsOrd a m o) (hd : d ∣ o) (hlt : d < o) : ¬ One (a ^ d) m := by
  intro h1
  obtain ⟨e, rfl⟩ := hd
  have he : 2 ≤ e := by
    rcases Nat.lt_or_ge e 2 with h2 | h2
    · obtain h3 | h3 : e = 0 ∨ e = 1 := by omega
      · subst h3; simp at hlt
      · subst h3; simp at hlt
    · exact h2
  obtain ⟨q, hq⟩ := mf_some (n := (e : Int)) (by omega)
  have hp := hq.prm
  have h2 := hp.1
  obtain ⟨r, rfl⟩ : ∃ r : Nat, q = r := ⟨q.toNat, by omega⟩
  obtain ⟨f, hf⟩ := Int.natCast_dvd_natCast.mp hq.2.1
  subst hf
  refine h.2.2 r hp (by rw [Int.natCast_dvd_natCast]; exact ⟨d * f, by ac_rfl⟩) ?_
  rw [Int.toNat_natCast]
  have e1 : d * (r * f) / r = d * f := by
    rw [show d * (r * f) = r * (d * f) by ac_rfl, Nat.mul_div_cancel_left _ (by omega)]
  rw [e1]
  exact h1.pw (Nat.dvd_mul_right _ _)

-- INVERSES.
theorem inv_uniq {x c y m : Int} (hc : 0 ≤ c) (hc2 : c < m) (hy : 0 ≤ y) (hy2 : y < m) (h1 : x * c % m = 1 % m) (h2 : y * x % m = 1 % m) : y = c := by
  have e1 : y * x * c % m = c % m := by rw [← mul_emod_left, h2, mul_emod_left, Int.one_mul]
  have e2 : y * x * c % m = y % m := by rw [Int.mul_assoc, ← mul_emod_right, h1, mul_emod_right, Int.mul_one]
  rw [e1, Int.emod_eq_of_lt hc hc2, Int.emod_eq_of_lt hy hy2] at e2
  exact e2.symm

theorem bezout_inv {x y a m : Int} (h : x * (a % m) + y * m = 1) : x * (a % m) % m = 1 % m := by
  rw [← h, Int.add_mul_emod_self_right]

theorem G_mod (a m : Int) : G (a % m) m = G a m := by rw [← G_step a m, G_comm]

theorem G_one_of_inv {x a m : Int} (hm : 0 < m) (h : x * a % m = 1 % m) : G a m = 1 := by
  have h1 : m ∣ x * a - 1 := Int.dvd_of_emod_eq_zero (Int.emod_eq_emod_iff_emod_sub_eq_zero.mp h)
  have h2 : G a m ∣ 1 := by
    have h3 := Int.dvd_trans (G_dvd_right a m) h1
    have h4 : G a m ∣ x * a := Int.dvd_trans (G_dvd_left a m) (Int.dvd_mul_left _ _)
    have h5 := Int.dvd_sub h4 h3
    have e : x * a - (x * a - 1) = 1 := by omega
    rw [e] at h5; exact h5
  have h3 := Int.le_of_dvd (by omega) h2
  have h4 := G_pos (a := a) (b := m) (.inr (by omega))
  omega

end Go.Proofs.Ytfdhhiibhkepaaa.Rs
