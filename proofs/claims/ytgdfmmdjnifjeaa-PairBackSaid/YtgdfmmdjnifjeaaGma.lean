/-
  Several texts in one:
  - Plain mathematics of primes on integers: the smallest divisor, factorisations, WILSON below 2002, BERTRAND below 500001. No Go in sight.
  - Polynomials as lists of numbers: sums, products, values; what is alike by p; the one list in lowest form. No Go in sight.
  - Plain mathematics for package euclid: Euclid's algorithm on integers. No Go in sight.
  - Reckoning with remainders, and nothing of the program: powers by a number, FERMAT, EULER, orders, inverses.
  - Polynomials: division with what is left, told of one way alone (EUCLID); divisors; the greatest common one (BEZOUT); roots (RUFFINI, LAGRANGE). No Go in sight.
  - Polynomials through points: alike where they agree at as many places as numbers; what LAGRANGE sums; NEWTON's step. No Go in sight.
  - Polynomials: what the loops do: noughts struck at the end, so many times another so much higher, products and values number by number, one step of a division. No Go in sight.
  - Choices: VANDERMONDE, rows, symmetry, factorials; LEGENDRE, KUMMER; LUCAS. No Go in sight.
  - Choices by a prime, by falling products; what the walks of package binom keep. No Go in sight.
  - Plain mathematics for package chinese: systems of remainders. No Go in sight.
-/
/-
  Plain mathematics of primes on integers: the smallest divisor, factorisations, WILSON below 2002, BERTRAND below 500001. No Go in sight.
-/
namespace Go.Proofs.Ytgdfmmdjnifjeaa.Pr

/-- n is prime. -/
def Prm (n : Int) : Prop := 2 ≤ n ∧ ∀ d : Int, 2 ≤ d → d < n → ¬ d ∣ n

/-- q is the smallest divisor of n above 1. -/
def IsMf (n q : Int) : Prop := 2 ≤ q ∧ q ∣ n ∧ ∀ d : Int, 2 ≤ d → d < q → ¬ d ∣ n

theorem IsMf.le {n q : Int} (h : IsMf n q) (hn : 1 ≤ n) : q ≤ n := Int.le_of_dvd (by omega) h.2.1

theorem mf_below (n : Int) : ∀ (k : Nat) (m : Int), m.toNat = k → 2 ≤ m → m ∣ n → ∃ q, IsMf n q := by
  intro k
  induction k using Nat.strongRecOn with
  | _ k ih =>
    intro m hk h2 hd
    by_cases h : ∃ d : Int, 2 ≤ d ∧ d < m ∧ d ∣ n
    · obtain ⟨d, hd1, hd2, hd3⟩ := h
      exact ih d.toNat (by omega) d rfl hd1 hd3
    · exact ⟨m, h2, hd, fun d h1 h3 h4 => h ⟨d, h1, h3, h4⟩⟩

theorem mf_some {n : Int} (h : 2 ≤ n) : ∃ q, IsMf n q := mf_below n n.toNat n rfl h (Int.dvd_refl n)

theorem IsMf.prm {n q : Int} (h : IsMf n q) : Prm q :=
  ⟨h.1, fun d h1 h2 h3 => h.2.2 d h1 h2 (Int.dvd_trans h3 h.2.1)⟩

theorem prm_iff_mf {n q : Int} (hn : 2 ≤ n) (h : IsMf n q) : Prm n ↔ q = n := by
  constructor
  · intro hp
    have := h.le (by omega)
    refine Decidable.byContradiction fun hne => hp.2 q h.1 (by omega) h.2.1
  · intro e; subst e; exact h.prm

/-- Behind the square root nothing is left to find. -/
theorem sq_mf {n q d : Int} (hn : 2 ≤ n) (hd : 2 ≤ d) (h : IsMf n q) (hno : ∀ e : Int, 2 ≤ e → e < d → ¬ e ∣ n) (hsq : n < d * d) : q = n := by
  have hle := h.le (by omega)
  refine Decidable.byContradiction fun hne => ?_
  obtain ⟨c, hc⟩ := h.2.1
  have hq := h.1
  have hdq : d ≤ q := by
    refine Decidable.byContradiction fun hlt => hno q hq (by omega) h.2.1
  have hc2 : 2 ≤ c := by
    refine Decidable.byContradiction fun hlt => ?_
    rcases Int.lt_or_le c 1 with h1 | h1
    · have : q * c ≤ q * 0 := Int.mul_le_mul_of_nonneg_left (by omega) (by omega)
      omega
    · obtain rfl : c = 1 := by omega
      omega
  have hcq : q ≤ c := by
    refine Decidable.byContradiction fun hlt => h.2.2 c hc2 (by omega) ⟨q, by rw [Int.mul_comm]; exact hc⟩
  have h1 : d * d ≤ q * d := Int.mul_le_mul_of_nonneg_right hdq (by omega)
  have h2 : q * d ≤ q * c := Int.mul_le_mul_of_nonneg_left (by omega) (by omega)
  omega

theorem hit_mf {n q d : Int} (hd : 2 ≤ d) (h : IsMf n q) (hno : ∀ e : Int, 2 ≤ e → e < d → ¬ e ∣ n) (hdv : d ∣ n) : q = d := by
  rcases Int.lt_or_le q d with h1 | h1
  · exact absurd h.2.1 (hno q h.1 h1)
  · rcases Int.lt_or_le d q with h2 | h2
    · exact absurd hdv (h.2.2 d hd h2)
    · omega

/-- Is n prime? (Only here to be named: nobody runs it.) -/
def pb (n : Int) : Bool := decide (2 ≤ n) && (List.range n.toNat).all fun d => decide (d < 2) || decide (¬ (d : Int) ∣ n)

theorem pb_iff (n : Int) : pb n = true ↔ Prm n := by
  unfold pb Prm
  simp only [Bool.and_eq_true, decide_eq_true_eq, List.all_eq_true, List.mem_range, Bool.or_eq_true]
  constructor
  · rintro ⟨h1, h2⟩
    refine ⟨h1, fun d hd hlt => ?_⟩
    have := h2 d.toNat (by omega)
    have e : ((d.toNat : Nat) : Int) = d := by omega
    rw [e] at this
    rcases this with h | h
    · omega
    · exact h
  · rintro ⟨h1, h2⟩
    refine ⟨h1, fun d hd => ?_⟩
    rcases Nat.lt_or_ge d 2 with h | h
    · exact .inl h
    · exact .inr (h2 d (by omega) (by omega))

theorem pb_no {n : Int} (h : ¬ Prm n) : pb n = false := by
  cases e : pb n
  · rfl
  · exact absurd ((pb_iff n).mp e) h

theorem pb_small {n : Int} (h : n < 2) : pb n = false := pb_no fun hp => by have := hp.1; omega

theorem pb_mf {n q : Int} (hn : 2 ≤ n) (h : IsMf n q) : (q == n) = pb n := by
  by_cases e : q = n
  · rw [(pb_iff n).mpr ((prm_iff_mf hn h).mpr e), e]; simp
  · rw [pb_no fun hp => e ((prm_iff_mf hn h).mp hp)]; simp [e]

/-- EUCLID's lemma. -/
theorem euclid {p a b : Int} (hp : Prm p) (h : p ∣ a * b) : p ∣ a ∨ p ∣ b := by
  by_cases ha : p ∣ a
  · exact .inl ha
  · right
    have h2 := hp.1
    have hg : Int.gcd p a = 1 := by
      have g1 : ((Int.gcd p a : Nat) : Int) ∣ p := Int.gcd_dvd_left p a
      have g2 : ((Int.gcd p a : Nat) : Int) ∣ a := Int.gcd_dvd_right p a
      have g3 := Int.le_of_dvd (by omega) g1
      have g0 : Int.gcd p a ≠ 0 := fun h0 => by
        rw [h0] at g1
        have := Int.zero_dvd.mp g1
        omega
      refine Decidable.byContradiction fun hne => ?_
      rcases Int.lt_or_le ((Int.gcd p a : Nat) : Int) p with h3 | h3
      · exact hp.2 _ (by omega) h3 g1
      · have e : ((Int.gcd p a : Nat) : Int) = p := by omega
        rw [e] at g2
        exact ha g2
    have h1 := Int.dvd_gcd_mul_iff_dvd_mul.mpr h
    rw [hg] at h1
    simpa using h1

theorem not_dvd_pow {p q : Int} (hp : Prm p) (hq : Prm q) (hne : p ≠ q) : ¬ p ∣ q := by
  intro h
  have h1 := hp.1
  have h2 := hq.1
  have := Int.le_of_dvd (by omega) h
  exact hq.2 p h1 (by omega) h

theorem dvd_pow {p q : Int} (hp : Prm p) : ∀ k : Nat, p ∣ q ^ k → p ∣ q := by
  intro k
  induction k with
  | zero =>
    intro h
    rw [Int.pow_zero] at h
    have := Int.le_of_dvd (by decide) h
    have := hp.1
    omega
  | succ k ih =>
    intro h
    rw [Int.pow_succ] at h
    rcases euclid hp h with h1 | h1
    · exact ih h1
    · exact h1

/-- How often p divides n. -/
def Vp (p n : Int) (k : Nat) : Prop := ∃ m : Int, n = p ^ k * m ∧ ¬ p ∣ m

theorem pow_ne {p : Int} (h : p ≠ 0) (k : Nat) : p ^ k ≠ 0 := by
  induction k with
  | zero => simp
  | succ k ih => rw [Int.pow_succ]; exact Int.mul_ne_zero ih h

theorem Vp.le {p n : Int} {i j : Nat} (hp : p ≠ 0) (hi : Vp p n i) (hj : Vp p n j) : i ≤ j := by
  refine Decidable.byContradiction fun hlt => ?_
  obtain ⟨a, ha, _⟩ := hi
  obtain ⟨b, hb, hbn⟩ := hj
  apply hbn
  obtain ⟨k, rfl⟩ : ∃ k, i = j + (k + 1) := ⟨i - j - 1, by omega⟩
  rw [Int.pow_add, Int.mul_assoc] at ha
  have : b = p ^ (k + 1) * a := Int.eq_of_mul_eq_mul_left (pow_ne hp j) (by rw [← hb, ha])
  rw [this, Int.pow_succ, Int.mul_right_comm]
  exact Int.dvd_mul_left _ _

theorem Vp.uniq {p n : Int} {i j : Nat} (hp : p ≠ 0) (hi : Vp p n i) (hj : Vp p n j) : i = j := Nat.le_antisymm (hi.le hp hj) (hj.le hp hi)

theorem Vp.mul {p a b : Int} {i j : Nat} (hp : Prm p) (hi : Vp p a i) (hj : Vp p b j) : Vp p (a * b) (i + j) := by
  obtain ⟨x, rfl, hx⟩ := hi
  obtain ⟨y, rfl, hy⟩ := hj
  refine ⟨x * y, ?_, fun h => ?_⟩
  · rw [Int.pow_add]
    rw [Int.mul_assoc, Int.mul_left_comm x, ← Int.mul_assoc]
  · rcases euclid hp h with h | h
    · exact hx h
    · exact hy h

/-- The factorisation of n: primes with their exponents, the smallest first. -/
def Fac (n : Int) : List (Int × Nat) → Prop
  | [] => n = 1
  | (q, k) :: l => IsMf n q ∧ 1 ≤ k ∧ ∃ m : Int, 1 ≤ m ∧ n = q ^ k * m ∧ ¬ q ∣ m ∧ Fac m l

theorem Fac.dvd {n : Int} {l : List (Int × Nat)} (h : Fac n l) : ∀ p k, (p, k) ∈ l → Prm p ∧ 1 ≤ k ∧ p ∣ n ∧ (∀ d : Int, 2 ≤ d → d ∣ n → d < p → ¬ Prm d ∨ ∃ j, (d, j) ∈ l) := by
  induction l generalizing n with
  | nil => intro p k hm; cases hm
  | cons x l ih =>
    obtain ⟨q, j⟩ := x
    obtain ⟨hq, hj, m, hm1, hn, hnd, hF⟩ := h
    intro p k hm
    have hdv : ∀ d : Int, 2 ≤ d → d ∣ n → d = q ∨ d ≠ q := fun d _ _ => by omega
    have key : ∀ d : Int, Prm d → d ∣ n → d ≠ q → d ∣ m := by
      intro d hd h1 h2
      rw [hn] at h1
      rcases euclid hd h1 with h3 | h3
      · exact absurd (dvd_pow hd j h3) (not_dvd_pow hd hq.prm h2)
      · exact h3
    rcases List.mem_cons.mp hm with h1 | h1
    · obtain ⟨rfl, rfl⟩ := Prod.mk.inj h1
      refine ⟨hq.prm, hj, hq.2.1, fun d h2 h3 h4 => absurd h3 (hq.2.2 d h2 h4)⟩
    · obtain ⟨a1, a2, a3, a4⟩ := ih hF p k h1
      refine ⟨a1, a2, ?_, fun d h2 h3 h4 => ?_⟩
      · rw [hn]; exact Int.dvd_trans a3 (Int.dvd_mul_left _ _)
      · by_cases hdp : Prm d
        · right
          by_cases e : d = q
          · subst e; exact ⟨j, List.mem_cons_self ..⟩
          · rcases a4 d h2 (key d hdp h3 e) h4 with h5 | ⟨i, h5⟩
            · exact absurd hdp h5
            · exact ⟨i, List.mem_cons_of_mem _ h5⟩
        · exact .inl hdp

/-- Each prime that divides n stands in the list. -/
theorem Fac.has {n : Int} {l : List (Int × Nat)} (h : Fac n l) (p : Int) (hp : Prm p) (hd : p ∣ n) : ∃ k, (p, k) ∈ l := by
  induction l generalizing n with
  | nil =>
    have h1 : n = 1 := h
    subst h1
    have := Int.le_of_dvd (by decide) hd
    have := hp.1
    omega
  | cons x l ih =>
    obtain ⟨q, j⟩ := x
    obtain ⟨hq, hj, m, hm1, hn, hnd, hF⟩ := h
    by_cases e : p = q
    · subst e; exact ⟨j, List.mem_cons_self ..⟩
    · rw [hn] at hd
      rcases euclid hp hd with h3 | h3
      · exact absurd (dvd_pow hp j h3) (not_dvd_pow hp hq.prm e)
      · obtain ⟨k, hk⟩ := ih hF h3
        exact ⟨k, List.mem_cons_of_mem _ hk⟩

theorem vp_zero {p n : Int} (h : ¬ p ∣ n) : Vp p n 0 := ⟨n, by simp, h⟩

/-- How often p stands in the list. -/
def cnt (p : Int) : List (Int × Nat) → Nat
  | [] => 0
  | (q, k) :: l => (if q = p then k else 0) + cnt p l

theorem cnt_append (p : Int) (l m : List (Int × Nat)) : cnt p (l ++ m) = cnt p l + cnt p m := by
  induction l with
  | nil => simp [cnt]
  | cons x l ih => obtain ⟨q, k⟩ := x; simp only [List.cons_append, cnt, ih]; omega

theorem cnt_none {p : Int} {l : List (Int × Nat)} (h : ∀ k, (p, k) ∉ l) : cnt p l = 0 := by
  induction l with
  | nil => rfl
  | cons x l ih =>
    obtain ⟨q, k⟩ := x
    have h1 : q ≠ p := fun e => h k (by subst e; exact List.mem_cons_self ..)
    have h2 := ih fun j hj => h j (List.mem_cons_of_mem _ hj)
    simp [cnt, h1, h2]

theorem Fac.vp {n : Int} {l : List (Int × Nat)} (h : Fac n l) (p : Int) (hp : Prm p) : Vp p n (cnt p l) := by
  induction l generalizing n with
  | nil =>
    have h1 : n = 1 := h
    subst h1
    refine vp_zero fun h2 => ?_
    have := Int.le_of_dvd (by decide) h2
    have := hp.1
    omega
  | cons x l ih =>
    obtain ⟨q, j⟩ := x
    obtain ⟨hq, hj, m, hm1, hn, hnd, hF⟩ := h
    by_cases e : q = p
    · subst e
      have hz : cnt q l = 0 := cnt_none fun k hk => hnd (hF.dvd q k hk).2.2.1
      simp only [cnt, if_true, hz, Nat.add_zero]
      exact ⟨m, hn, hnd⟩
    · simp only [cnt, if_neg e]
      rw [hn]
      refine Vp.mul hp (vp_zero fun h2 => ?_) (ih hF)
      exact not_dvd_pow hp hq.prm (fun e2 => e e2.symm) (dvd_pow hp j h2)

theorem Fac.mem_cnt {n : Int} {l : List (Int × Nat)} (h : Fac n l) {p : Int} {k : Nat} (hm : (p, k) ∈ l) : cnt p l = k := by
  induction l generalizing n with
  | nil => cases hm
  | cons x l ih =>
    obtain ⟨q, j⟩ := x
    obtain ⟨hq, hj, m, hm1, hn, hnd, hF⟩ := h
    rcases List.mem_cons.mp hm with h1 | h1
    · obtain ⟨rfl, rfl⟩ := Prod.mk.inj h1
      have hz : cnt p l = 0 := cnt_none fun i hi => hnd (hF.dvd p i hi).2.2.1
      simp [cnt, hz]
    · have e : q ≠ p := fun e => hnd (by rw [e]; exact (hF.dvd p k h1).2.2.1)
      simp only [cnt, if_neg e, ih hF h1, Nat.zero_add]

/-- GAUSS: the primes of a product are those of both, together. -/
theorem gauss {a b : Int} {x y z : List (Int × Nat)} (hx : Fac a x) (hy : Fac b y) (hz : Fac (a * b) z) {p : Int} {k : Nat} (hm : (p, k) ∈ z) : cnt p (x ++ y) = k := by
  have hp := (hz.dvd p k hm).1
  have h1 := Vp.mul hp (hx.vp p hp) (hy.vp p hp)
  have h2 := hz.vp p hp
  rw [hz.mem_cnt hm] at h2
  rw [cnt_append]
  have := hp.1
  exact Vp.uniq (by omega) h1 h2

theorem gauss_has {a b : Int} {x y z : List (Int × Nat)} (hx : Fac a x) (hy : Fac b y) (hz : Fac (a * b) z) {p : Int} {k : Nat} (hm : (p, k) ∈ x ++ y) : ∃ j, (p, j) ∈ z := by
  rcases List.mem_append.mp hm with h | h
  · have := hx.dvd p k h
    exact hz.has p this.1 (Int.dvd_trans this.2.2.1 (Int.dvd_mul_right _ _))
  · have := hy.dvd p k h
    exact hz.has p this.1 (Int.dvd_trans this.2.2.1 (Int.dvd_mul_left _ _))

/-- Seen from the list's head on: what was gathered, and what is left. -/
def FacS (n0 : Int) (done : List (Int × Nat)) (n : Int) : Prop := ∀ l, Fac n l → Fac n0 (done ++ l)

theorem FacS.start (n : Int) : FacS n [] n := fun _ h => h

theorem FacS.step {n0 n q m : Int} {k : Nat} {done : List (Int × Nat)} (h : FacS n0 done n) (hq : IsMf n q) (hk : 1 ≤ k) (hm : 1 ≤ m) (hn : n = q ^ k * m) (hnd : ¬ q ∣ m) : FacS n0 (done ++ [(q, k)]) m := by
  intro l hl
  rw [List.append_assoc]
  exact h _ ⟨hq, hk, m, hm, hn, hnd, hl⟩

theorem FacS.all {n0 : Int} {done : List (Int × Nat)} (h : FacS n0 done 1) : Fac n0 done := by
  have := h [] rfl
  rwa [List.append_nil] at this

/-- Divided by q. -/
theorem divided {n q n0 : Int} {j : Nat} (hq : 2 ≤ q) (hn : 1 ≤ n) (h0 : n0 = q ^ j * n) (hd : q ∣ n) : n0 = q ^ (j + 1) * (n / q) ∧ 1 ≤ n / q ∧ n / q + 1 ≤ n := by
  obtain ⟨c, rfl⟩ := hd
  have e : q * c / q = c := Int.mul_ediv_cancel_left c (by omega)
  have hc : 1 ≤ c := by
    refine Decidable.byContradiction fun hlt => ?_
    have : q * c ≤ q * 0 := Int.mul_le_mul_of_nonneg_left (by omega) (by omega)
    omega
  have h2 : 2 * c ≤ q * c := Int.mul_le_mul_of_nonneg_right hq (by omega)
  rw [e]
  refine ⟨?_, hc, by omega⟩
  rw [h0, Int.pow_succ, Int.mul_assoc]

/-! ### by sixes -/

theorem step6 {n d : Int} (h2 : ¬ (2 : Int) ∣ n) (h3 : ¬ (3 : Int) ∣ n) (hm : d % 6 = 5) (hno : ∀ e : Int, 2 ≤ e → e < d → ¬ e ∣ n) (hd : ¬ d ∣ n) (hd2 : ¬ (d + 2) ∣ n) :
    ∀ e : Int, 2 ≤ e → e < d + 6 → ¬ e ∣ n := by
  intro e he hlt
  rcases Int.lt_or_le e d with h | h
  · exact hno e he h
  · intro hdv
    have c : e = d ∨ e = d + 1 ∨ e = d + 2 ∨ e = d + 3 ∨ e = d + 4 ∨ e = d + 5 := by omega
    rcases c with rfl | rfl | rfl | rfl | rfl | rfl
    · exact hd hdv
    · exact h2 (Int.dvd_trans (by omega) hdv)
    · exact hd2 hdv
    · exact h2 (Int.dvd_trans (by omega) hdv)
    · exact h3 (Int.dvd_trans (by omega) hdv)
    · exact h2 (Int.dvd_trans (by omega) hdv)

theorem prm_sq {n d : Int} (hn : 2 ≤ n) (hd : 2 ≤ d) (hno : ∀ e : Int, 2 ≤ e → e < d → ¬ e ∣ n) (hsq : n < d * d) : Prm n := by
  obtain ⟨q, hq⟩ := mf_some hn
  exact (prm_iff_mf hn hq).mpr (sq_mf hn hd hq hno hsq)

theorem not_prm {n d : Int} (hd : 2 ≤ d) (hlt : d < n) (h : d ∣ n) : ¬ Prm n := fun hp => hp.2 d hd hlt h

theorem prm_two : Prm 2 := by
  refine ⟨by omega, fun d h1 h2 => ?_⟩
  have : False := by omega
  exact this.elim
theorem prm_three : Prm 3 := by
  refine ⟨by omega, fun d h1 h2 => ?_⟩
  obtain rfl : d = 2 := by omega
  omega

/-! ### reckoned -/

def noDiv : Nat → Nat → Nat → Bool
  | 0, d, n => decide (n < d * d)
  | k + 1, d, n => decide (n < d * d) || (decide (n % d ≠ 0) && noDiv k (d + 1) n)

theorem noDiv_prm : ∀ (k d n : Nat), 2 ≤ n → 2 ≤ d → (∀ e : Int, 2 ≤ e → e < d → ¬ e ∣ (n : Int)) → noDiv k d n = true → Prm (n : Int) := by
  intro k
  induction k with
  | zero =>
    intro d n hn hd hno h
    simp only [noDiv, decide_eq_true_eq] at h
    exact prm_sq (d := (d : Int)) (by omega) (by omega) hno (by rw [← Int.natCast_mul]; omega)
  | succ k ih =>
    intro d n hn hd hno h
    simp only [noDiv, Bool.or_eq_true, Bool.and_eq_true, decide_eq_true_eq] at h
    rcases h with h | ⟨h1, h2⟩
    · exact prm_sq (d := (d : Int)) (by omega) (by omega) hno (by rw [← Int.natCast_mul]; omega)
    · refine ih (d + 1) n hn (by omega) (fun e he hlt => ?_) h2
      rcases Int.lt_or_le e d with h3 | h3
      · exact hno e he h3
      · obtain rfl : e = (d : Int) := by omega
        intro hdv
        exact h1 (Nat.mod_eq_zero_of_dvd (Int.natCast_dvd_natCast.mp hdv))

/-- A prime by trial. -/
def isP (n : Nat) : Bool := decide (2 ≤ n) && noDiv 1000 2 n

theorem isP_prm {n : Nat} (h : isP n = true) : Prm (n : Int) := by
  simp only [isP, Bool.and_eq_true, decide_eq_true_eq] at h
  exact noDiv_prm 1000 2 n h.1 (by omega) (fun e h1 h2 => by omega) h.2

theorem prm_97 : Prm 97 := isP_prm (n := 97) (by decide +kernel)
theorem not_prm_91 : ¬ Prm 91 := not_prm (d := 7) (by omega) (by omega) (by omega)

theorem noDiv_of_prm : ∀ (k d n : Nat), 2 ≤ d → n < (d + k) * (d + k) → Prm (n : Int) → noDiv k d n = true := by
  intro k
  induction k with
  | zero => intro d n _ h _; simp only [noDiv, decide_eq_true_eq]; simpa using h
  | succ k ih =>
    intro d n hd h hp
    simp only [noDiv, Bool.or_eq_true, Bool.and_eq_true, decide_eq_true_eq]
    by_cases hs : n < d * d
    · exact .inl hs
    · right
      refine ⟨fun h0 => ?_, ih (d + 1) n (by omega) (by rw [show d + 1 + k = d + (k + 1) by omega]; exact h) hp⟩
      have h2 : 2 * d ≤ d * d := Nat.mul_le_mul_right d hd
      exact hp.2 (d : Int) (by omega) (by omega) (Int.natCast_dvd_natCast.mpr (Nat.dvd_of_mod_eq_zero h0))

theorem isP_of_prm {n : Nat} (hn : n ≤ 1000000) (hp : Prm (n : Int)) : isP n = true := by
  have := hp.1
  simp only [isP, Bool.and_eq_true, decide_eq_true_eq]
  exact ⟨by omega, noDiv_of_prm 1000 2 n (by omega) (by omega) hp⟩

/-! ### BERTRAND, by a chain of primes -/

def chainOk : Nat → List Nat → Bool
  | a, [] => decide (500001 ≤ a)
  | a, b :: l => isP b && decide (a < b) && decide (b < 2 * a) && chainOk b l

theorem chain_next : ∀ (l : List Nat) (a n : Nat), chainOk a l = true → a ≤ n → n < 500001 → ∃ p : Int, Prm p ∧ (n : Int) < p ∧ p < 2 * n := by
  intro l
  induction l with
  | nil => intro a n h h1 h2; simp only [chainOk, decide_eq_true_eq] at h; omega
  | cons b l ih =>
    intro a n h h1 h2
    simp only [chainOk, Bool.and_eq_true, decide_eq_true_eq] at h
    obtain ⟨⟨⟨hp, hab⟩, hb⟩, hc⟩ := h
    by_cases hn : b ≤ n
    · exact ih b n hc hn h2
    · exact ⟨b, isP_prm hp, by omega, by omega⟩

theorem bertrand {n : Int} (h1 : 2 ≤ n) (h2 : n < 500001) : ∃ p : Int, Prm p ∧ n < p ∧ p < 2 * n := by
  have h := chain_next [3, 5, 7, 13, 23, 43, 83, 163, 317, 631, 1259, 2503, 5003, 9973, 19937, 39869, 79699, 159389, 318751, 637499] 2 n.toNat (by decide +kernel) (by omega) (by omega)
  have e : ((n.toNat : Nat) : Int) = n := by omega
  rw [e] at h
  exact h

/-- The smallest prime from n on. -/
def IsNext (n p : Int) : Prop := n ≤ p ∧ Prm p ∧ ∀ k : Int, n ≤ k → k < p → ¬ Prm k

theorem next_some {n : Int} : ∀ (k : Nat) (p : Int), (p - n).toNat = k → n ≤ p → Prm p → ∃ q, IsNext n q ∧ q ≤ p := by
  intro k
  induction k using Nat.strongRecOn with
  | _ k ih =>
    intro p hk hle hp
    by_cases h : ∃ d : Int, n ≤ d ∧ d < p ∧ Prm d
    · obtain ⟨d, h1, h2, h3⟩ := h
      obtain ⟨q, h4, h5⟩ := ih (d - n).toNat (by omega) d rfl h1 h3
      exact ⟨q, h4, by omega⟩
    · exact ⟨p, ⟨hle, hp, fun d h1 h2 h3 => h ⟨d, h1, h2, h3⟩⟩, by omega⟩

theorem next_97 : IsNext 90 97 := by
  refine ⟨by omega, prm_97, fun k h1 h2 => ?_⟩
  have c : k = 90 ∨ k = 91 ∨ k = 92 ∨ k = 93 ∨ k = 94 ∨ k = 95 ∨ k = 96 := by omega
  rcases c with rfl | rfl | rfl | rfl | rfl | rfl | rfl
  · exact not_prm (d := 2) (by omega) (by omega) (by omega)
  · exact not_prm (d := 7) (by omega) (by omega) (by omega)
  · exact not_prm (d := 2) (by omega) (by omega) (by omega)
  · exact not_prm (d := 3) (by omega) (by omega) (by omega)
  · exact not_prm (d := 2) (by omega) (by omega) (by omega)
  · exact not_prm (d := 5) (by omega) (by omega) (by omega)
  · exact not_prm (d := 2) (by omega) (by omega) (by omega)

theorem fac_12 {l : List (Int × Nat)} (h : Fac 12 l) : l = [(2, 2), (3, 1)] := by
  have t2 : IsMf 12 2 := ⟨by omega, by omega, fun d h1 h2 => by omega⟩
  have t3 : IsMf 3 3 := by
    refine ⟨by omega, by omega, fun d h1 h2 => ?_⟩
    obtain rfl : d = 2 := by omega
    omega
  have mfu : ∀ {n p q : Int}, IsMf n p → IsMf n q → p = q := fun {n p q} hp hq => by
    rcases Int.lt_or_le p q with h1 | h1
    · exact absurd hp.2.1 (hq.2.2 p hp.1 h1)
    · rcases Int.lt_or_le q p with h2 | h2
      · exact absurd hq.2.1 (hp.2.2 q hq.1 h2)
      · omega
  match l, h with
  | [], h => exact absurd (show (12 : Int) = 1 from h) (by decide)
  | (q, k) :: l, h =>
    obtain ⟨hq, hk, m, hm1, hn, hnd, hF⟩ := h
    obtain rfl := mfu t2 hq
    have e : k = 2 ∧ m = 3 := by
      have u := Vp.uniq (p := 2) (n := 12) (i := k) (j := 2) (by decide) ⟨m, hn, hnd⟩ ⟨3, by decide, by decide⟩
      subst u
      exact ⟨rfl, by omega⟩
    obtain ⟨rfl, rfl⟩ := e
    match l, hF with
    | [], h => exact absurd (show (3 : Int) = 1 from h) (by decide)
    | (q, k) :: l, h =>
      obtain ⟨hq, hk, m, hm1, hn, hnd, hF⟩ := h
      obtain rfl := mfu t3 hq
      have e : k = 1 ∧ m = 1 := by
        have u := Vp.uniq (p := 3) (n := 3) (i := k) (j := 1) (by decide) ⟨m, hn, hnd⟩ ⟨1, by decide, by decide⟩
        subst u
        exact ⟨rfl, by omega⟩
      obtain ⟨rfl, rfl⟩ := e
      match l, hF with
      | [], _ => rfl
      | (q, k) :: l, h =>
        obtain ⟨hq, _⟩ := h
        have := hq.le (by omega)
        have := hq.1
        omega

end Go.Proofs.Ytgdfmmdjnifjeaa.Pr

namespace Go.Proofs.Ytgdfmmdjnifjeaa.Po
open Pr

/-- The number at place i. -/
def c (f : List Int) (i : Nat) : Int := f.getD i 0

theorem c_nil (i : Nat) : c [] i = 0 := rfl
theorem c_zero (a : Int) (f : List Int) : c (a :: f) 0 = a := rfl
theorem c_succ (a : Int) (f : List Int) (i : Nat) : c (a :: f) (i + 1) = c f i := by simp [c]
theorem c_over {f : List Int} {i : Nat} (h : f.length ≤ i) : c f i = 0 := by simp [c, h]
theorem c_at {f : List Int} {i : Nat} (h : i < f.length) : c f i = f[i] := by simp [c, h]
theorem c_mem {f : List Int} {i : Nat} (h : i < f.length) : c f i ∈ f := by rw [c_at h]; exact List.getElem_mem h

/-- One place on. -/
def pre (h : Nat → Int) : Nat → Int
  | 0 => 0
  | i + 1 => h i
theorem c_sh (f : List Int) (i : Nat) : c (0 :: f) i = pre (c f) i := by cases i <;> simp [pre, c]

def add : List Int → List Int → List Int
  | [], g => g
  | a :: f, [] => a :: f
  | a :: f, b :: g => (a + b) :: add f g

theorem c_add : ∀ (f g : List Int) (i : Nat), c (add f g) i = c f i + c g i := by
  intro f
  induction f with
  | nil => intro g i; simp [add, c_nil]
  | cons a f ih =>
    intro g i
    cases g with
    | nil => simp [add, c_nil]
    | cons b g =>
      cases i with
      | zero => rfl
      | succ i => rw [add, c_succ, c_succ, c_succ, ih]

theorem add_length : ∀ (f g : List Int), (add f g).length = max f.length g.length := by
  intro f
  induction f with
  | nil => intro g; simp [add]
  | cons a f ih =>
    intro g
    cases g with
    | nil => simp [add]
    | cons b g => rw [add, List.length_cons, List.length_cons, List.length_cons, ih]; omega

/-- So many times. -/
def sc (a : Int) (f : List Int) : List Int := f.map (a * ·)
theorem c_sc (a : Int) (f : List Int) (i : Nat) : c (sc a f) i = a * c f i := by
  by_cases h : i < f.length
  · rw [c_at h, c_at (by simpa [sc] using h)]; simp [sc]
  · rw [c_over (f := f) (by omega), c_over (f := sc a f) (by simp [sc]; omega), Int.mul_zero]
theorem sc_length (a : Int) (f : List Int) : (sc a f).length = f.length := by simp [sc]

def mul : List Int → List Int → List Int
  | [], _ => []
  | a :: f, g => add (sc a g) (0 :: mul f g)

theorem c_mul (a : Int) (f g : List Int) (i : Nat) : c (mul (a :: f) g) i = a * c g i + pre (c (mul f g)) i := by rw [mul, c_add, c_sc, c_sh]
theorem c_mul_nil (g : List Int) (i : Nat) : c (mul [] g) i = 0 := rfl

theorem c_mul_nil_right : ∀ (f : List Int) (i : Nat), c (mul f []) i = 0 := by
  intro f
  induction f with
  | nil => intro i; rfl
  | cons a f ih =>
    intro i
    rw [c_mul, c_nil]
    cases i with
    | zero => simp [pre]
    | succ i => simp [pre, ih]

theorem c_mul_right : ∀ (f : List Int) (b : Int) (g : List Int) (i : Nat), c (mul f (b :: g)) i = b * c f i + pre (c (mul f g)) i := by
  intro f
  induction f with
  | nil => intro b g i; cases i <;> simp [c_mul_nil, c_nil, pre]
  | cons a f ih =>
    intro b g i
    rw [c_mul]
    cases i with
    | zero => simp only [c_zero, pre]; rw [Int.mul_comm]
    | succ i =>
      simp only [c_succ, pre]
      rw [ih, c_mul]
      omega

theorem mul_comm : ∀ (f g : List Int) (i : Nat), c (mul f g) i = c (mul g f) i := by
  intro f
  induction f with
  | nil => intro g i; rw [c_mul_nil_right, c_mul_nil]
  | cons a f ih =>
    intro g i
    rw [c_mul, c_mul_right]
    cases i with
    | zero => rfl
    | succ i => simp only [pre]; rw [ih]

theorem mul_add : ∀ (f g h : List Int) (i : Nat), c (mul f (add g h)) i = c (mul f g) i + c (mul f h) i := by
  intro f
  induction f with
  | nil => intro g h i; simp [c_mul_nil]
  | cons a f ih =>
    intro g h i
    rw [c_mul, c_mul, c_mul, c_add, Int.mul_add]
    cases i with
    | zero => simp only [pre]; omega
    | succ i => simp only [pre]; rw [ih]; omega

theorem add_mul (f g h : List Int) (i : Nat) : c (mul (add f g) h) i = c (mul f h) i + c (mul g h) i := by
  rw [mul_comm, mul_add, mul_comm h f, mul_comm h g]

theorem sc_mul : ∀ (f : List Int) (a : Int) (g : List Int) (i : Nat), c (mul (sc a f) g) i = a * c (mul f g) i := by
  intro f
  induction f with
  | nil => intro a g i; simp [sc, c_mul_nil]
  | cons b f ih =>
    intro a g i
    have e : sc a (b :: f) = (a * b) :: sc a f := rfl
    rw [e, c_mul, c_mul, Int.mul_add, Int.mul_assoc]
    cases i with
    | zero => simp [pre]
    | succ i => simp only [pre]; rw [ih]

theorem mul_sc (f : List Int) (a : Int) (g : List Int) (i : Nat) : c (mul f (sc a g)) i = a * c (mul f g) i := by
  rw [mul_comm, sc_mul, mul_comm]

theorem sh_mul (f g : List Int) (i : Nat) : c (mul (0 :: f) g) i = pre (c (mul f g)) i := by rw [c_mul]; omega

/-- Alike by p. -/
def Cg (p : Int) (f g : List Int) : Prop := ∀ i, p ∣ c f i - c g i

theorem Cg.refl (p : Int) (f : List Int) : Cg p f f := fun i => by rw [Int.sub_self]; exact Int.dvd_zero p
theorem Cg.symm {p : Int} {f g : List Int} (h : Cg p f g) : Cg p g f := fun i => by
  have := Int.dvd_neg.mpr (h i)
  rwa [Int.neg_sub] at this
theorem Cg.trans {p : Int} {f g h : List Int} (a : Cg p f g) (b : Cg p g h) : Cg p f h := fun i => by
  have := Int.dvd_add (a i) (b i)
  rwa [show c f i - c g i + (c g i - c h i) = c f i - c h i by omega] at this
theorem Cg.of_eq {p : Int} {f g : List Int} (h : ∀ i, c f i = c g i) : Cg p f g := fun i => by rw [h i, Int.sub_self]; exact Int.dvd_zero p

theorem Cg.add {p : Int} {f g f' g' : List Int} (a : Cg p f f') (b : Cg p g g') : Cg p (add f g) (add f' g') := fun i => by
  rw [c_add, c_add]
  have := Int.dvd_add (a i) (b i)
  rwa [show c f i - c f' i + (c g i - c g' i) = c f i + c g i - (c f' i + c g' i) by omega] at this

theorem Cg.sc {p : Int} {f f' : List Int} (a : Int) (h : Cg p f f') : Cg p (sc a f) (sc a f') := fun i => by
  rw [c_sc, c_sc, ← Int.mul_sub]
  exact Int.dvd_mul_of_dvd_right (h i)

theorem Cg.sh {p : Int} {f f' : List Int} (h : Cg p f f') : Cg p (0 :: f) (0 :: f') := fun i => by
  rw [c_sh, c_sh]
  cases i with
  | zero => simp [pre]
  | succ i => exact h i

theorem Cg.mul_right {p : Int} : ∀ (f : List Int) {g g' : List Int}, Cg p g g' → Cg p (mul f g) (mul f g') := by
  intro f
  induction f with
  | nil => intro g g' _; exact Cg.refl _ _
  | cons a f ih => intro g g' h; exact Cg.add (h.sc a) (ih h).sh

theorem Cg.comm (p : Int) (f g : List Int) : Cg p (mul f g) (mul g f) := Cg.of_eq (mul_comm f g)

theorem Cg.mul {p : Int} {f g f' g' : List Int} (a : Cg p f f') (b : Cg p g g') : Cg p (mul f g) (mul f' g') :=
  (Cg.mul_right f b).trans ((Cg.comm p f g').trans ((Cg.mul_right g' a).trans (Cg.comm p g' f')))

theorem mul_assoc : ∀ (f g h : List Int) (i : Nat), c (mul (mul f g) h) i = c (mul f (mul g h)) i := by
  intro f
  induction f with
  | nil => intro g h i; rfl
  | cons a f ih =>
    intro g h i
    rw [mul, add_mul, sc_mul, sh_mul, c_mul]
    cases i with
    | zero => rfl
    | succ i => simp only [pre]; rw [ih]

/-- Beyond the numbers of a product there is none. -/
theorem mul_over : ∀ (f g : List Int) (j : Nat), f.length + g.length ≤ j + 1 → c (mul f g) j = 0 := by
  intro f
  induction f with
  | nil => intro g j _; rfl
  | cons a f ih =>
    intro g j h
    rw [List.length_cons] at h
    rw [c_mul, c_over (by omega), Int.mul_zero, Int.zero_add]
    cases j with
    | zero => rfl
    | succ j => exact ih g j (by omega)

/-- The last number of a product. -/
theorem mul_last : ∀ (m : Nat) (f g : List Int) (n : Nat), f.length = m + 1 → g.length = n + 1 → c (mul f g) (m + n) = c f m * c g n := by
  intro m
  induction m with
  | zero =>
    intro f g n hf hg
    match f, hf with
    | [a], _ =>
      rw [c_mul, c_zero, Nat.zero_add]
      have : pre (c (mul [] g)) n = 0 := by cases n <;> rfl
      rw [this, Int.add_zero]
  | succ m ih =>
    intro f g n hf hg
    match f, hf with
    | a :: f, hf =>
      rw [c_mul, c_over (f := g) (by omega), Int.mul_zero, Int.zero_add, show m + 1 + n = (m + n) + 1 by omega]
      show c (mul f g) (m + n) = _
      rw [ih f g n (by simpa using hf) hg, c_succ]

/-- In lowest form: numbers from 0 to p - 1, the last not 0. -/
def Can (p : Int) (f : List Int) : Prop := (∀ x ∈ f, 0 ≤ x ∧ x < p) ∧ (f ≠ [] → c f (f.length - 1) ≠ 0)

theorem Can.nil (p : Int) : Can p [] := ⟨fun x h => (by cases h), fun h => absurd rfl h⟩
theorem Can.bound {p : Int} {f : List Int} (h : Can p f) (hp : 0 < p) (i : Nat) : 0 ≤ c f i ∧ c f i < p := by
  by_cases hi : i < f.length
  · exact h.1 _ (c_mem hi)
  · rw [c_over (by omega)]; omega

theorem c_ext {f g : List Int} (hl : f.length = g.length) (h : ∀ i, c f i = c g i) : f = g :=
  List.ext_getElem hl fun i h1 h2 => by have := h i; rwa [c_at h1, c_at h2] at this

theorem Can.ext {p : Int} {f g : List Int} (hp : 0 < p) (hf : Can p f) (hg : Can p g) (h : Cg p f g) : f = g := by
  have he : ∀ i, c f i = c g i := fun i => by
    have h1 := hf.bound hp i
    have h2 := hg.bound hp i
    obtain ⟨k, hk⟩ := h i
    have : k = 0 := by
      refine Decidable.byContradiction fun hc => ?_
      rcases Int.lt_or_gt_of_ne hc with h3 | h3
      · have : p * k ≤ p * (-1) := Int.mul_le_mul_of_nonneg_left (by omega) (by omega)
        omega
      · have : p * 1 ≤ p * k := Int.mul_le_mul_of_nonneg_left (by omega) (by omega)
        omega
    subst this
    omega
  refine c_ext ?_ he
  refine Decidable.byContradiction fun hc => ?_
  rcases Nat.lt_or_gt_of_ne hc with h3 | h3
  · have hne : g ≠ [] := fun e => by subst e; simp at h3
    have := he (g.length - 1)
    rw [c_over (by omega)] at this
    exact hg.2 hne this.symm
  · have hne : f ≠ [] := fun e => by subst e; simp at h3
    have := he (f.length - 1)
    rw [c_over (f := g) (by omega)] at this
    exact hf.2 hne this

/-- Without noughts at the end. -/
def short : List Int → List Int
  | [] => []
  | a :: f => if short f = [] ∧ a = 0 then [] else a :: short f

theorem c_short : ∀ (f : List Int) (i : Nat), c (short f) i = c f i := by
  intro f
  induction f with
  | nil => intro i; rfl
  | cons a f ih =>
    intro i
    unfold short
    by_cases h : short f = [] ∧ a = 0
    · rw [if_pos h]
      cases i with
      | zero => rw [c_nil, c_zero, h.2]
      | succ i => rw [c_nil, c_succ, ← ih i, h.1, c_nil]
    · rw [if_neg h]
      cases i with
      | zero => rfl
      | succ i => rw [c_succ, c_succ, ih]

theorem short_last : ∀ (f : List Int), short f ≠ [] → c (short f) ((short f).length - 1) ≠ 0 := by
  intro f
  induction f with
  | nil => intro h; exact absurd rfl h
  | cons a f ih =>
    intro hne
    unfold short at hne ⊢
    by_cases h : short f = [] ∧ a = 0
    · rw [if_pos h] at hne; exact absurd rfl hne
    · rw [if_neg h]
      by_cases h2 : short f = []
      · rw [h2]
        show a ≠ 0
        exact fun e => h ⟨h2, e⟩
      · have h3 : 0 < (short f).length := List.length_pos_iff.mpr h2
        rw [List.length_cons, show (short f).length + 1 - 1 = ((short f).length - 1) + 1 by omega, c_succ]
        exact ih h2

theorem short_mem : ∀ (f : List Int) (x : Int), x ∈ short f → x ∈ f := by
  intro f
  induction f with
  | nil => intro x h; exact h
  | cons a f ih =>
    intro x h
    unfold short at h
    by_cases h2 : short f = [] ∧ a = 0
    · rw [if_pos h2] at h; cases h
    · rw [if_neg h2] at h
      rcases List.mem_cons.mp h with rfl | h
      · exact List.mem_cons_self
      · exact List.mem_cons_of_mem _ (ih x h)

theorem short_length : ∀ (f : List Int), (short f).length ≤ f.length := by
  intro f
  induction f with
  | nil => simp [short]
  | cons a f ih =>
    unfold short
    by_cases h : short f = [] ∧ a = 0
    · rw [if_pos h]; simp
    · rw [if_neg h]; simp; exact ih

/-- In lowest form by p. -/
def red (p : Int) (f : List Int) : List Int := short (f.map (· % p))

theorem c_map_mod (p : Int) (f : List Int) (i : Nat) : c (f.map (· % p)) i = c f i % p := by
  by_cases h : i < f.length
  · rw [c_at h, c_at (by simpa using h)]; simp
  · rw [c_over (f := f) (by omega), c_over (f := f.map (· % p)) (by simp; omega), Int.zero_emod]

theorem c_red (p : Int) (f : List Int) (i : Nat) : c (red p f) i = c f i % p := by rw [red, c_short, c_map_mod]

theorem can_red {p : Int} (hp : 0 < p) (f : List Int) : Can p (red p f) := by
  refine ⟨fun x hx => ?_, short_last _⟩
  have := short_mem _ _ hx
  simp only [List.mem_map] at this
  obtain ⟨y, _, rfl⟩ := this
  exact ⟨Int.emod_nonneg _ (by omega), Int.emod_lt_of_pos _ hp⟩

theorem cg_red (p : Int) (f : List Int) : Cg p (red p f) f := fun i => by
  rw [c_red]
  have := Int.mul_ediv_add_emod (c f i) p
  exact ⟨-(c f i / p), by rw [Int.mul_neg]; omega⟩

theorem red_length (p : Int) (f : List Int) : (red p f).length ≤ f.length := by
  have := short_length (f.map (· % p))
  rw [List.length_map] at this
  exact this

theorem red_can {p : Int} {f : List Int} (hp : 0 < p) (h : Can p f) : red p f = f := (can_red hp f).ext hp h (cg_red p f)
theorem red_cg {p : Int} {f g : List Int} (hp : 0 < p) (h : Cg p f g) : red p f = red p g := (can_red hp f).ext hp (can_red hp g) ((cg_red p f).trans (h.trans (cg_red p g).symm))

/-- A product of two that are not 0 has as many numbers as both, less one. -/
theorem red_mul_length {p : Int} {f g : List Int} (hp : Prm p) (hf : Can p f) (hg : Can p g) (h1 : f ≠ []) (h2 : g ≠ []) : (red p (mul f g)).length = f.length + g.length - 1 := by
  have p0 := hp.1
  have l1 := List.length_pos_iff.mpr h1
  have l2 := List.length_pos_iff.mpr h2
  have hl := mul_last (f.length - 1) f g (g.length - 1) (by omega) (by omega)
  have hne : ¬ p ∣ c (mul f g) (f.length - 1 + (g.length - 1)) := by
    rw [hl]
    intro hd
    have b1 := hf.bound (by omega) (f.length - 1)
    have b2 := hg.bound (by omega) (g.length - 1)
    rcases euclid hp hd with h | h
    · have := Int.le_of_dvd (by have := hf.2 h1; omega) h; omega
    · have := Int.le_of_dvd (by have := hg.2 h2; omega) h; omega
  have hc : c (red p (mul f g)) (f.length - 1 + (g.length - 1)) ≠ 0 := by
    rw [c_red]
    exact fun e => hne (Int.dvd_of_emod_eq_zero e)
  have g1 : f.length - 1 + (g.length - 1) < (red p (mul f g)).length := by
    refine Decidable.byContradiction fun h => hc (c_over (by omega))
  have hcr := can_red (p := p) (by omega) (mul f g)
  have hne2 : red p (mul f g) ≠ [] := fun e => by rw [e] at g1; simp at g1
  have hlast := hcr.2 hne2
  refine Decidable.byContradiction fun h => hlast ?_
  rw [c_red, mul_over f g _ (by omega), Int.zero_emod]

-- Values.
def ev : List Int → Int → Int
  | [], _ => 0
  | a :: f, x => a + x * ev f x

theorem ev_add : ∀ (f g : List Int) (x : Int), ev (add f g) x = ev f x + ev g x := by
  intro f
  induction f with
  | nil => intro g x; simp [add, ev]
  | cons a f ih =>
    intro g x
    cases g with
    | nil => simp [add, ev]
    | cons b g =>
      simp only [add, ev]
      rw [ih, Int.mul_add]
      omega

theorem ev_sc : ∀ (f : List Int) (a x : Int), ev (sc a f) x = a * ev f x := by
  intro f
  induction f with
  | nil => intro a x; simp [sc, ev]
  | cons b f ih =>
    intro a x
    have e : sc a (b :: f) = (a * b) :: sc a f := rfl
    rw [e]
    simp only [ev]
    rw [ih]
    grind

theorem ev_mul : ∀ (f g : List Int) (x : Int), ev (mul f g) x = ev f x * ev g x := by
  intro f
  induction f with
  | nil => intro g x; simp [mul, ev]
  | cons a f ih =>
    intro g x
    rw [mul, ev_add, ev_sc]
    simp only [ev]
    rw [ih]
    grind

theorem ev_none {p : Int} : ∀ (f : List Int) (x : Int), (∀ i, p ∣ c f i) → p ∣ ev f x := by
  intro f
  induction f with
  | nil => intro x _; exact Int.dvd_zero p
  | cons a f ih =>
    intro x h
    exact Int.dvd_add (h 0) (Int.dvd_mul_of_dvd_right (ih x fun i => by have := h (i + 1); rwa [c_succ] at this))

theorem ev_cg {p : Int} {f g : List Int} (h : Cg p f g) (x : Int) : p ∣ ev f x - ev g x := by
  have := ev_none (p := p) (add f (sc (-1) g)) x fun i => by
    rw [c_add, c_sc]
    have := h i
    rwa [show c f i + -1 * c g i = c f i - c g i by omega]
  rw [ev_add, ev_sc] at this
  rwa [show ev f x + -1 * ev g x = ev f x - ev g x by omega] at this

theorem ev_at {p : Int} : ∀ (f : List Int) {x y : Int}, p ∣ x - y → p ∣ ev f x - ev f y := by
  intro f
  induction f with
  | nil => intro x y _; simp [ev]
  | cons a f ih =>
    intro x y h
    simp only [ev]
    have h1 := Int.dvd_mul_of_dvd_left (c := ev f x) h
    have h2 := Int.dvd_mul_of_dvd_right (b := y) (ih h)
    have := Int.dvd_add h1 h2
    rwa [show (x - y) * ev f x + y * (ev f x - ev f y) = a + x * ev f x - (a + y * ev f y) by grind] at this

end Go.Proofs.Ytgdfmmdjnifjeaa.Po

/-
  Plain mathematics for package euclid: Euclid's algorithm on integers. No Go in sight.
-/
namespace Go.Proofs.Ytgdfmmdjnifjeaa.Eu

/-- The common divisor, as a whole number. -/
def G (a b : Int) : Int := (Int.gcd a b : Int)

theorem G_nonneg (a b : Int) : 0 ≤ G a b := by unfold G; omega

theorem G_zero (a : Int) (h : 0 ≤ a) : G a 0 = a := by
  unfold G; rw [Int.gcd_zero_right]; omega

theorem G_zero' (a : Int) : G a 0 = (a.natAbs : Int) := by
  unfold G; rw [Int.gcd_zero_right]

theorem G_comm (a b : Int) : G a b = G b a := by unfold G; rw [Int.gcd_comm]

theorem G_add_mul (a b k : Int) : G b (a + b * k) = G b a := by
  unfold G; rw [Int.gcd_add_mul_left_right]

theorem G_add (b a k : Int) : G (a + k * b) b = G a b := by
  rw [G_comm, Int.mul_comm, G_add_mul, G_comm]

theorem G_step (a b : Int) : G b (a % b) = G a b := by
  have e : a % b = a + b * (-(a / b)) := by
    have := Int.emod_add_mul_ediv a b
    rw [Int.mul_neg]; omega
  rw [e, G_add_mul, G_comm]

theorem G_natAbs (a b : Int) : G (a.natAbs : Int) (b.natAbs : Int) = G a b := by
  unfold G; simp [Int.gcd]

theorem G_dvd_left (a b : Int) : G a b ∣ a := Int.gcd_dvd_left a b
theorem G_dvd_right (a b : Int) : G a b ∣ b := Int.gcd_dvd_right a b
theorem dvd_G {a b c : Int} (h : c ∣ a) (k : c ∣ b) : c ∣ G a b := Int.dvd_coe_gcd h k

theorem G_eq_zero {a b : Int} (h : G a b = 0) : a = 0 ∧ b = 0 := by
  unfold G at h
  have : Int.gcd a b = 0 := by omega
  exact Int.gcd_eq_zero_iff.mp this

theorem G_pos {a b : Int} (h : a ≠ 0 ∨ b ≠ 0) : 0 < G a b := by
  rcases Int.lt_or_eq_of_le (G_nonneg a b) with h1 | h1
  · exact h1
  · have := G_eq_zero h1.symm; omega

theorem G_le {a b : Int} (B : Int) (ha : -B ≤ a) (ha' : a ≤ B) (hb : -B ≤ b) (hb' : b ≤ B) : G a b ≤ B := by
  by_cases h : a = 0 ∧ b = 0
  · obtain ⟨rfl, rfl⟩ := h; unfold G; simp; omega
  · by_cases ha0 : a = 0
    · subst ha0
      have hb0 : b ≠ 0 := by omega
      have := Int.le_of_dvd (a := G 0 b) (b := (b.natAbs : Int)) (by omega) (Int.dvd_natAbs.mpr (G_dvd_right 0 b))
      omega
    · have := Int.le_of_dvd (a := G a b) (b := (a.natAbs : Int)) (by omega) (Int.dvd_natAbs.mpr (G_dvd_left a b))
      omega

/-- What the least common multiple is. -/
def L (a b : Int) : Int := (Int.lcm a b : Int)

theorem L_val (a b : Int) : L a b = (a.natAbs : Int) / G a b * (b.natAbs : Int) := by
  unfold L G Int.lcm
  rw [Nat.lcm, ← Int.gcd_eq_natAbs_gcd_natAbs]
  have h : Int.gcd a b ∣ a.natAbs := by rw [Int.gcd_eq_natAbs_gcd_natAbs]; exact Nat.gcd_dvd_left _ _
  rw [← Nat.div_mul_right_comm h]
  simp

theorem mul_le {a b A B : Int} (ha : 0 ≤ a) (hb : 0 ≤ b) (hA : a ≤ A) (hB : b ≤ B) : 0 ≤ a * b ∧ a * b ≤ A * B :=
  ⟨Int.mul_nonneg ha hb, Int.mul_le_mul hA hB hb (by omega)⟩

theorem abs_mul_le {a b B C : Int} (ha : -B ≤ a) (ha' : a ≤ B) (hb : -C ≤ b) (hb' : b ≤ C) : -(B * C) ≤ a * b ∧ a * b ≤ B * C := by
  have hB : 0 ≤ B := by omega
  have hC : 0 ≤ C := by omega
  have h : ((a * b).natAbs : Int) ≤ B * C := by
    rw [Int.natAbs_mul]
    have := mul_le (a := (a.natAbs : Int)) (b := (b.natAbs : Int)) (A := B) (B := C) (by omega) (by omega) (by omega) (by omega)
    simpa using this.2
  omega

theorem abs_le_mul {b y : Int} (hb : b ≠ 0) : -((b * y).natAbs : Int) ≤ y ∧ y ≤ ((b * y).natAbs : Int) := by
  have h : y.natAbs ≤ (b * y).natAbs := by
    rw [Int.natAbs_mul]
    exact Nat.le_mul_of_pos_left _ (by omega)
  omega

theorem L_bound (a b : Int) (ha : -1000000000 ≤ a) (ha' : a ≤ 1000000000) (hb : -1000000000 ≤ b) (hb' : b ≤ 1000000000) :
    0 ≤ (a.natAbs : Int) / G a b ∧ (a.natAbs : Int) / G a b ≤ 1000000000 ∧ 0 ≤ L a b ∧ L a b ≤ 1000000000000000000 := by
  have h1 : 0 ≤ (a.natAbs : Int) / G a b := Int.ediv_nonneg (by omega) (G_nonneg a b)
  have h2 : (a.natAbs : Int) / G a b ≤ 1000000000 := Int.le_trans (Int.ediv_le_self _ (by omega)) (by omega)
  have := mul_le h1 (b := (b.natAbs : Int)) (by omega) h2 (B := 1000000000) (by omega)
  rw [L_val]
  exact ⟨h1, h2, this.1, by omega⟩

theorem L_small {a b : Int} (ha : -1000 ≤ a) (ha' : a ≤ 1000) (hb : -1000 ≤ b) (hb' : b ≤ 1000) : 0 ≤ L a b ∧ L a b ≤ 1000000 := by
  have h1 : 0 ≤ (a.natAbs : Int) / G a b := Int.ediv_nonneg (by omega) (G_nonneg a b)
  have h2 : (a.natAbs : Int) / G a b ≤ 1000 := Int.le_trans (Int.ediv_le_self _ (by omega)) (by omega)
  have := mul_le h1 (b := (b.natAbs : Int)) (by omega) h2 (B := 1000) (by omega)
  rw [L_val]
  exact ⟨this.1, by omega⟩

theorem G_mul_L (a b : Int) : G a b * L a b = ((a * b).natAbs : Int) := by
  unfold G L
  have := Int.gcd_mul_lcm a b
  rw [← Int.natCast_mul, this, Int.natAbs_mul]

/-- Of three numbers the one goes over the other. -/
theorem nat_distrib (a b c : Nat) : Nat.gcd a (Nat.lcm b c) = Nat.lcm (Nat.gcd a b) (Nat.gcd a c) := by
  apply Nat.dvd_antisymm
  · by_cases h0 : Nat.gcd (Nat.gcd a b) (Nat.gcd a c) = 0
    · have h1 := Nat.eq_zero_of_gcd_eq_zero_left h0
      have h2 := Nat.eq_zero_of_gcd_eq_zero_right h0
      have h3 := Nat.eq_zero_of_gcd_eq_zero_left h1
      have h4 := Nat.eq_zero_of_gcd_eq_zero_right h1
      subst h3; subst h4
      simp
    · apply Nat.dvd_of_mul_dvd_mul_left (k := Nat.gcd (Nat.gcd a b) (Nat.gcd a c)) (by omega)
      rw [Nat.gcd_mul_lcm]
      have ha : Nat.gcd (Nat.gcd a b) (Nat.gcd a c) ∣ a := Nat.dvd_trans (Nat.gcd_dvd_left _ _) (Nat.gcd_dvd_left _ _)
      have hb : Nat.gcd (Nat.gcd a b) (Nat.gcd a c) ∣ b := Nat.dvd_trans (Nat.gcd_dvd_left _ _) (Nat.gcd_dvd_right _ _)
      have hc : Nat.gcd (Nat.gcd a b) (Nat.gcd a c) ∣ c := Nat.dvd_trans (Nat.gcd_dvd_right _ _) (Nat.gcd_dvd_right _ _)
      have hg : Nat.gcd (Nat.gcd a b) (Nat.gcd a c) ∣ Nat.gcd b c := Nat.dvd_gcd hb hc
      have k1 : Nat.gcd a (Nat.lcm b c) ∣ a := Nat.gcd_dvd_left _ _
      have k2 : Nat.gcd a (Nat.lcm b c) ∣ Nat.lcm b c := Nat.gcd_dvd_right _ _
      have e : Nat.gcd a b * Nat.gcd a c = Nat.gcd (Nat.gcd (a * a) (b * a)) (Nat.gcd (a * c) (b * c)) := by
        rw [Nat.gcd_mul_right, Nat.gcd_mul_right, Nat.gcd_mul_left]
      rw [e]
      refine Nat.dvd_gcd (Nat.dvd_gcd ?_ ?_) (Nat.dvd_gcd ?_ ?_)
      · exact Nat.mul_dvd_mul ha k1
      · exact Nat.mul_dvd_mul hb k1
      · rw [Nat.mul_comm a c]; exact Nat.mul_dvd_mul hc k1
      · rw [← Nat.gcd_mul_lcm b c]; exact Nat.mul_dvd_mul hg k2
  · apply Nat.lcm_dvd
    · exact Nat.dvd_gcd (Nat.gcd_dvd_left _ _) (Nat.dvd_trans (Nat.gcd_dvd_right _ _) (Nat.dvd_lcm_left _ _))
    · exact Nat.dvd_gcd (Nat.gcd_dvd_left _ _) (Nat.dvd_trans (Nat.gcd_dvd_right _ _) (Nat.dvd_lcm_right _ _))

theorem G_L (a b c : Int) : G a (L b c) = L (G a b) (G a c) := by
  unfold G L Int.gcd Int.lcm
  simp only [Int.natAbs_natCast]
  rw [nat_distrib]

/-- How often EUCLID divides. -/
def St (a b : Nat) : Nat := if h : b = 0 then 0 else 1 + St b (a % b)
termination_by b
decreasing_by exact Nat.mod_lt _ (by omega)

theorem St_zero (a : Nat) : St a 0 = 0 := by unfold St; simp
theorem St_step (a b : Nat) (h : b ≠ 0) : St a b = 1 + St b (a % b) := by rw [St]; simp [h]
theorem St_le (a b : Nat) : St a b ≤ b := by
  induction b using Nat.strongRecOn generalizing a with
  | _ b ih =>
    by_cases h : b = 0
    · subst h; rw [St_zero]; omega
    · have h1 := Nat.mod_lt a (y := b) (by omega)
      have := ih (a % b) h1 b
      rw [St_step a b h]
      have := ih (a % b) h1 b
      omega

/-- What holds at each round of 'factor'. -/
structure FInv (m a r s x y : Int) : Prop where
  r0 : 0 < r
  rm : r ≤ m
  s0 : 0 ≤ s
  sr : s ≤ r
  e1 : ∃ k, r = x * a + k * m
  e2 : ∃ k, s = y * a + k * m
  g : G r s = G a m
  sg : (x ≤ 0 ∧ 0 ≤ y ∧ y * r - x * s = m) ∨ (0 ≤ x ∧ y ≤ 0 ∧ x * s - y * r = m)
  bx : -m ≤ x ∧ x ≤ m
  bY : -m ≤ y ∧ y ≤ m

theorem FInv.start {m a : Int} (h0 : 0 ≤ a) (h1 : a ≤ m) (hm : 0 < m) : FInv m a m a 0 1 :=
  ⟨hm, Int.le_refl _, h0, h1, ⟨1, by omega⟩, ⟨0, by omega⟩, G_comm _ _, .inl ⟨by omega, by omega, by omega⟩, by omega, by omega⟩

theorem le_mul_pos {z s : Int} (hz : 0 ≤ z) (hs : 1 ≤ s) : z ≤ z * s := by
  have := Int.mul_le_mul_of_nonneg_left hs hz
  omega

theorem FInv.round {m a r s x y : Int} (h : FInv m a r s x y) (hs : 0 < s) :
    FInv m a s (r - r / s * s) y (x - r / s * y) ∧ 0 ≤ r / s ∧ r / s ≤ m ∧ 0 ≤ r / s * s ∧ r / s * s ≤ m ∧ -m ≤ r / s * y ∧ r / s * y ≤ m := by
  obtain ⟨r0, rm, s0, sr, ⟨k1, e1⟩, ⟨k2, e2⟩, g, sg, bx, bY⟩ := h
  have hq0 : 0 ≤ r / s := Int.ediv_nonneg (by omega) s0
  have hq1 : r / s ≤ r := Int.ediv_le_self _ (by omega)
  have hqs := Int.ediv_mul_le r (b := s) (by omega)
  have hem : r - r / s * s = r % s := by rw [Int.emod_def, Int.mul_comm]
  have hem0 := Int.emod_nonneg r (b := s) (by omega)
  have hem1 := Int.emod_lt_of_pos r hs
  have hqs0 : 0 ≤ r / s * s := Int.mul_nonneg hq0 s0
  have hg : G s (r - r / s * s) = G a m := by rw [hem, G_step]; exact g
  generalize r / s = q at *
  have key : (y ≤ 0 ∧ 0 ≤ x - q * y ∧ (x - q * y) * s - y * (r - q * s) = m) ∨ (0 ≤ y ∧ x - q * y ≤ 0 ∧ y * (r - q * s) - (x - q * y) * s = m) := by
    rcases sg with ⟨a1, a2, a3⟩ | ⟨a1, a2, a3⟩
    · refine .inr ⟨a2, ?_, ?_⟩
      · have := Int.mul_nonneg hq0 a2; omega
      · rw [Int.mul_sub, Int.sub_mul, Int.mul_assoc q y s, Int.mul_left_comm y q s]; omega
    · refine .inl ⟨a2, ?_, ?_⟩
      · have := Int.mul_nonneg hq0 (b := -y) (by omega)
        rw [Int.mul_neg] at this; omega
      · rw [Int.mul_sub, Int.sub_mul, Int.mul_assoc q y s, Int.mul_left_comm y q s]; omega
  have bnd : -m ≤ x - q * y ∧ x - q * y ≤ m ∧ -m ≤ q * y ∧ q * y ≤ m := by
    rcases key with ⟨a1, a2, a3⟩ | ⟨a1, a2, a3⟩
    · have b1 : 0 ≤ (-y) * (r - q * s) := Int.mul_nonneg (by omega) (by omega)
      rw [Int.neg_mul] at b1
      have b2 := le_mul_pos a2 (s := s) (by omega)
      have b3 : 0 ≤ q * (-y) := Int.mul_nonneg hq0 (by omega)
      rw [Int.mul_neg] at b3
      have sgx : 0 ≤ x := by
        rcases sg with ⟨c1, c2, c3⟩ | ⟨c1, c2, c3⟩
        · have hy : y = 0 := by omega
          subst hy; simp at c3 a2; omega
        · exact c1
      omega
    · have b1 : 0 ≤ y * (r - q * s) := Int.mul_nonneg (by omega) (by omega)
      have b2 := le_mul_pos (z := -(x - q * y)) (by omega) (s := s) (by omega)
      rw [Int.neg_mul] at b2
      have b3 : 0 ≤ q * y := Int.mul_nonneg hq0 (by omega)
      have sgx : x ≤ 0 := by
        rcases sg with ⟨c1, c2, c3⟩ | ⟨c1, c2, c3⟩
        · exact c1
        · have hy : y = 0 := by omega
          subst hy; simp at c3 a2; omega
      omega
  refine ⟨⟨hs, by omega, by omega, by omega, ⟨k2, e2⟩, ⟨k1 - q * k2, ?_⟩, hg, key, bY, by omega⟩, hq0, by omega, hqs0, by omega, by omega, by omega⟩
  rw [e1, e2]; grind

/-- The first factor of BEZOUT, made least: b not 0. -/
theorem bezout_dvd {a b x0 : Int} (hb : b ≠ 0) (hx : ∃ k, G (a % (b.natAbs : Int)) (b.natAbs : Int) = x0 * (a % (b.natAbs : Int)) + k * (b.natAbs : Int)) :
    b ∣ G a b - x0 % ((b.natAbs : Int) / G a b) * a := by
  obtain ⟨k, hk⟩ := hx
  have hg : G (a % (b.natAbs : Int)) (b.natAbs : Int) = G a b := by
    rw [G_comm, G_step]; unfold G; simp [Int.gcd]
  rw [hg] at hk
  have hmb : b ∣ (b.natAbs : Int) := Int.dvd_natAbs.mpr (Int.dvd_refl b)
  refine Int.dvd_trans hmb ?_
  have hgm : G a b ∣ (b.natAbs : Int) := Int.dvd_natAbs.mpr (G_dvd_right a b)
  have hga := G_dvd_left a b
  have hgp := G_pos (a := a) (.inr hb)
  generalize (b.natAbs : Int) = m at *
  generalize G a b = g at *
  obtain ⟨n, rfl⟩ := hgm
  obtain ⟨c, rfl⟩ := hga
  have hn : g * n / g = n := Int.mul_ediv_cancel_left n (by omega)
  rw [hn]
  have h1 := Int.emod_add_mul_ediv (g * c) (g * n)
  have h2 := Int.emod_add_mul_ediv x0 n
  generalize g * c % (g * n) = a' at *
  generalize g * c / (g * n) = u at *
  generalize x0 % n = x at *
  generalize x0 / n = t at *
  refine ⟨k - x0 * u + t * c, ?_⟩
  have e1 : a' = g * c - g * n * u := by omega
  have e2 : x = x0 - n * t := by omega
  subst e1 e2
  have e3 : g = x0 * (g * c - g * n * u) + k * (g * n) := hk
  grind

theorem tmod_mod (n m : Int) : (n.tmod m + m) % m = n % m := by
  rw [Int.add_emod_right, Int.tmod_def, Int.sub_mul_emod_self_left]

theorem tmod_mod' (n m : Int) : n.tmod m % m = n % m := by
  rw [Int.tmod_def, Int.sub_mul_emod_self_left]

/-! STEIN's steps. -/
theorem stein_both {x y : Int} (hx : x % 2 = 0) (hy : y % 2 = 0) : G x y = 2 * G (x / 2) (y / 2) := by
  have e1 : x = 2 * (x / 2) := by omega
  have e2 : y = 2 * (y / 2) := by omega
  have : G (2 * (x / 2)) (2 * (y / 2)) = 2 * G (x / 2) (y / 2) := by unfold G; rw [Int.gcd_mul_left]; simp
  rw [← e1, ← e2] at this; exact this

theorem stein_left {x y : Int} (hx : x % 2 = 0) (ho : G x y % 2 = 1) : G (x / 2) y = G x y := by
  have e1 : x = 2 * (x / 2) := by omega
  have h1 : G (x / 2) y ∣ G x y := dvd_G (Int.dvd_trans (G_dvd_left _ _) ⟨2, by omega⟩) (G_dvd_right _ _)
  have h2 : G x y ∣ x / 2 := by
    have h3 : G x y ∣ 2 * (x / 2) := by rw [← e1]; exact G_dvd_left x y
    obtain ⟨c, hc⟩ := h3
    have h4 := Int.mul_emod (G x y) c 2
    rw [← hc, ho] at h4
    have h5 : c % 2 = 0 := by omega
    refine ⟨c / 2, ?_⟩
    have h6 : G x y * c = G x y * (c / 2) * 2 := by rw [Int.mul_assoc]; congr 1; omega
    omega
  have h3 := dvd_G h2 (G_dvd_right x y)
  exact Int.dvd_antisymm (G_nonneg _ _) (G_nonneg _ _) h1 h3

theorem stein_right {x y : Int} (hy : y % 2 = 0) (ho : G x y % 2 = 1) : G x (y / 2) = G x y := by
  rw [G_comm x y] at ho ⊢
  rw [G_comm x]
  exact stein_left hy ho

theorem stein_sub (x y : Int) : G x (y - x) = G x y := by
  have : y - x = y + x * (-1) := by omega
  rw [this, G_add_mul]

theorem stein_odd {x y : Int} (h : ¬ (x % 2 = 0 ∧ y % 2 = 0)) : G x y % 2 = 1 := by
  have h1 := G_dvd_left x y
  have h2 := G_dvd_right x y
  by_cases ho : G x y % 2 = 0
  · exfalso
    have h3 : (2 : Int) ∣ G x y := Int.dvd_of_emod_eq_zero ho
    have := Int.dvd_trans h3 h1
    have := Int.dvd_trans h3 h2
    omega
  · omega

theorem pow_le {g t B : Nat} (h : 1 ≤ g) (hb : g * 2 ^ t ≤ B) (hB : B < 2 ^ 30) : t < 30 := by
  rcases Nat.lt_or_ge t 30 with h1 | h1
  · exact h1
  · have h2 : 2 ^ 30 ≤ 2 ^ t := Nat.pow_le_pow_right (by omega) h1
    have h3 : 1 * 2 ^ t ≤ g * 2 ^ t := Nat.mul_le_mul_right _ h
    omega

end Go.Proofs.Ytgdfmmdjnifjeaa.Eu

namespace Go.Proofs.Ytgdfmmdjnifjeaa.Rs
open Pr Eu

/-- a, n times, by m. -/
def Pw (a : Int) (n : Nat) (m : Int) : Int := a ^ n % m

theorem mul_emod_left (a b m : Int) : (a % m) * b % m = a * b % m := by rw [Int.mul_emod, Int.emod_emod, ← Int.mul_emod]
theorem mul_emod_right (a b m : Int) : a * (b % m) % m = a * b % m := by rw [Int.mul_emod, Int.emod_emod, ← Int.mul_emod]
theorem mul_emod_both (a b m : Int) : (a % m) * (b % m) % m = a * b % m := by rw [← Int.mul_emod]

theorem pow_emod (a m : Int) (n : Nat) : (a % m) ^ n % m = a ^ n % m := by
  induction n with
  | zero => rw [Int.pow_zero, Int.pow_zero]
  | succ n ih => rw [Int.pow_succ, Int.pow_succ, Int.mul_emod, ih, Int.emod_emod, ← Int.mul_emod]

theorem Pw_mod (a m : Int) (n : Nat) : Pw (a % m) n m = Pw a n m := pow_emod a m n
theorem Pw_zero (a m : Int) : Pw a 0 m = 1 % m := by simp [Pw]
theorem Pw_one (a m : Int) : Pw a 1 m = a % m := by unfold Pw; rw [Int.pow_succ, Int.pow_zero, Int.one_mul]
theorem Pw_nonneg (a : Int) (n : Nat) {m : Int} (h : 0 < m) : 0 ≤ Pw a n m := Int.emod_nonneg _ (by omega)
theorem Pw_lt (a : Int) (n : Nat) {m : Int} (h : 0 < m) : Pw a n m < m := Int.emod_lt_of_pos _ h
theorem ipow_add (a : Int) (n k : Nat) : a ^ (n + k) = a ^ n * a ^ k := by
  induction k with
  | zero => simp
  | succ k ih => rw [← Nat.add_assoc, Int.pow_succ, ih, Int.pow_succ, Int.mul_assoc]
theorem ipow_mul (a : Int) (n k : Nat) : a ^ (n * k) = (a ^ n) ^ k := by
  induction k with
  | zero => simp
  | succ k ih => rw [Nat.mul_succ, ipow_add, ih, Int.pow_succ]
theorem imul_pow (a b : Int) (n : Nat) : (a * b) ^ n = a ^ n * b ^ n := by
  induction n with
  | zero => simp
  | succ n ih => simp only [Int.pow_succ, ih]; ac_rfl
theorem one_ipow (n : Nat) : (1 : Int) ^ n = 1 := by
  induction n with
  | zero => rfl
  | succ n ih => rw [Int.pow_succ, ih]; rfl

theorem Pw_add (a : Int) (n k : Nat) (m : Int) : Pw a (n + k) m = Pw a n m * Pw a k m % m := by
  unfold Pw; rw [ipow_add, mul_emod_both]
theorem Pw_mul (a : Int) (n k : Nat) (m : Int) : Pw a (n * k) m = Pw (Pw a n m) k m := by
  unfold Pw; rw [ipow_mul, pow_emod]
theorem Pw_succ (a : Int) (n : Nat) (m : Int) : Pw a (n + 1) m = Pw a n m * a % m := by
  unfold Pw; rw [Int.pow_succ, mul_emod_left]

/-- A round of the road by squares. -/
theorem sq_even (x : Int) (n : Nat) (m : Int) (h : n % 2 = 0) : (x * x % m) ^ (n / 2) % m = x ^ n % m := by
  rw [pow_emod, imul_pow, ← ipow_add]
  congr 2; omega
theorem sq_odd (p x : Int) (n : Nat) (m : Int) (h : n % 2 = 1) : (p * x % m) * (x * x % m) ^ (n / 2) % m = p * x ^ n % m := by
  rw [mul_emod_left, ← mul_emod_right, pow_emod, imul_pow, ← ipow_add, mul_emod_right, Int.mul_assoc]
  congr 2
  rw [Int.mul_comm, ← Int.pow_succ]
  congr 1; omega
theorem sq_even' (p x : Int) (n : Nat) (m : Int) (h : n % 2 = 0) : p * (x * x % m) ^ (n / 2) % m = p * x ^ n % m := by
  rw [← mul_emod_right, sq_even x n m h, mul_emod_right]

/-- The document's road, from the front: of n / 2 to n. -/
theorem front_even (a : Int) (n : Nat) (m : Int) (h : n % 2 = 0) : Pw a (n / 2) m * Pw a (n / 2) m % m = Pw a n m := by
  rw [← Pw_add]; congr 1; omega
theorem front_odd (a : Int) (n : Nat) (m : Int) (h : n % 2 = 1) : Pw a (n / 2) m * Pw a (n / 2) m % m * (a % m) % m = Pw a n m := by
  rw [← Pw_add, mul_emod_right, ← Pw_succ]; congr 1; omega

-- CHOICES, and FERMAT.
/-- k of n. -/
def ch : Nat → Nat → Nat
  | _, 0 => 1
  | 0, _ + 1 => 0
  | n + 1, k + 1 => ch n k + ch n (k + 1)

theorem ch_zero (n : Nat) : ch n 0 = 1 := by cases n <;> rfl
theorem ch_big : ∀ (n k : Nat), n < k → ch n k = 0 := by
  intro n
  induction n with
  | zero => intro k h; match k, h with | k + 1, _ => rfl
  | succ n ih => intro k h; match k, h with | k + 1, h => show ch n k + ch n (k + 1) = 0; rw [ih k (by omega), ih (k + 1) (by omega)]
theorem ch_self (n : Nat) : ch n n = 1 := by
  induction n with
  | zero => rfl
  | succ n ih => show ch n n + ch n (n + 1) = 1; rw [ih, ch_big n (n + 1) (by omega)]
theorem ch_mul : ∀ (n k : Nat), (k + 1) * ch (n + 1) (k + 1) = (n + 1) * ch n k := by
  intro n
  induction n with
  | zero =>
    intro k
    match k with
    | 0 => rfl
    | k + 1 => show (k + 1 + 1) * (ch 0 (k + 1) + ch 0 (k + 2)) = (0 + 1) * ch 0 (k + 1); rw [ch_big 0 (k + 1) (by omega), ch_big 0 (k + 2) (by omega)]; simp
  | succ n ih =>
    intro k
    match k with
    | 0 =>
      show (0 + 1) * (ch (n + 1) 0 + ch (n + 1) 1) = (n + 1 + 1) * ch (n + 1) 0
      have h : (0 + 1) * ch (n + 1) 1 = (n + 1) * ch n 0 := ih 0
      simp only [ch_zero] at h ⊢
      omega
    | k + 1 =>
      have h1 := ih k
      have h2 := ih (k + 1)
      have e2 : ch (n + 1) (k + 1) = ch n k + ch n (k + 1) := rfl
      show (k + 1 + 1) * (ch (n + 1) (k + 1) + ch (n + 1) (k + 1 + 1)) = (n + 1 + 1) * ch (n + 1) (k + 1)
      rw [Nat.mul_add, h2, Nat.succ_mul (k + 1), h1, Nat.succ_mul (n + 1), e2, Nat.mul_add]
      omega

/-- The sum of the first j terms of (a + 1) to the n. -/
def bsum (a : Int) (n : Nat) : Nat → Int
  | 0 => 0
  | j + 1 => bsum a n j + (ch n j : Nat) * a ^ j

theorem bsum_step (a : Int) (n : Nat) : ∀ j : Nat, bsum a (n + 1) (j + 1) = a * bsum a n j + bsum a n (j + 1) := by
  intro j
  induction j with
  | zero => simp [bsum, ch_zero]
  | succ j ih =>
    have e : bsum a (n + 1) (j + 1 + 1) = bsum a (n + 1) (j + 1) + (ch (n + 1) (j + 1) : Nat) * a ^ (j + 1) := rfl
    have e1 : bsum a n (j + 1 + 1) = bsum a n (j + 1) + (ch n (j + 1) : Nat) * a ^ (j + 1) := rfl
    have e2 : bsum a n (j + 1) = bsum a n j + (ch n j : Nat) * a ^ j := rfl
    have e3 : ch (n + 1) (j + 1) = ch n j + ch n (j + 1) := rfl
    rw [e, ih, e1, e3, Int.natCast_add, Int.add_mul]
    have e4 : a * bsum a n (j + 1) = a * bsum a n j + (ch n j : Nat) * a ^ (j + 1) := by
      rw [e2, Int.mul_add, Int.pow_succ]; congr 1; ac_rfl
    rw [e4]; omega

theorem bsum_over (a : Int) (n : Nat) : ∀ j : Nat, n + 1 ≤ j → bsum a n j = bsum a n (n + 1) := by
  intro j h
  induction j with
  | zero => omega
  | succ j ih =>
    by_cases e : j = n
    · subst e; rfl
    · show bsum a n j + (ch n j : Nat) * a ^ j = _
      rw [ih (by omega), ch_big n j (by omega)]; simp

theorem binomial (a : Int) (n : Nat) : (a + 1) ^ n = bsum a n (n + 1) := by
  induction n with
  | zero => simp [bsum, ch]
  | succ n ih =>
    rw [Int.pow_succ, ih, bsum_step, bsum_over a n (n + 1 + 1) (by omega), Int.mul_add, Int.mul_one, Int.mul_comm]

theorem prm_dvd_ch {p : Nat} (hp : Prm p) {k : Nat} (h1 : 1 ≤ k) (h2 : k < p) : (p : Int) ∣ (ch p k : Nat) := by
  obtain ⟨k, rfl⟩ : ∃ j, k = j + 1 := ⟨k - 1, by omega⟩
  obtain ⟨p, rfl⟩ : ∃ j, p = j + 1 := ⟨p - 1, by omega⟩
  have h := ch_mul p k
  have hd : ((p + 1 : Nat) : Int) ∣ ((k + 1 : Nat) : Int) * (ch (p + 1) (k + 1) : Nat) := by
    rw [← Int.natCast_mul, h, Int.natCast_mul]; exact Int.dvd_mul_right _ _
  rcases euclid hp hd with h3 | h3
  · have := Int.le_of_dvd (by omega) h3; omega
  · exact h3

theorem bsum_mod {p : Nat} (hp : Prm p) (a : Int) : ∀ j : Nat, 1 ≤ j → j ≤ p → bsum a p j % p = 1 % p := by
  intro j h1 h2
  induction j with
  | zero => omega
  | succ j ih =>
    by_cases e : j = 0
    · subst e; simp [bsum, ch_zero]
    · show (bsum a p j + (ch p j : Nat) * a ^ j) % p = _
      rw [Int.add_emod, Int.emod_eq_zero_of_dvd (Int.dvd_trans (prm_dvd_ch hp (k := j) (by omega) (by omega)) (Int.dvd_mul_right _ _)), Int.add_zero, Int.emod_emod, ih (by omega) (by omega)]

theorem fermat_step {p : Nat} (hp : Prm p) (a : Int) : (a + 1) ^ p % p = (a ^ p + 1) % p := by
  have h2 := hp.1
  rw [binomial]
  show (bsum a p p + (ch p p : Nat) * a ^ p) % p = _
  rw [ch_self, Int.add_emod, bsum_mod hp a p (by omega) (Nat.le_refl _), ← Int.add_emod, Int.add_comm]
  simp

theorem fermat_nat {p : Nat} (hp : Prm p) (a : Nat) : (a : Int) ^ p % p = (a : Int) % p := by
  have h2 := hp.1
  induction a with
  | zero =>
    obtain ⟨q, rfl⟩ : ∃ q, p = q + 1 := ⟨p - 1, by omega⟩
    simp [Int.pow_succ]
  | succ a ih => rw [Int.natCast_add, Int.natCast_one, fermat_step hp, Int.add_emod, ih, ← Int.add_emod]

/-- FERMAT. -/
theorem fermat {p : Int} (hp : Prm p) (a : Int) : Pw a p.toNat p = a % p := by
  have h2 := hp.1
  obtain ⟨q, rfl⟩ : ∃ q : Nat, p = q := ⟨p.toNat, by omega⟩
  rw [← Pw_mod]
  have h3 := Int.emod_nonneg a (b := (q : Int)) (by omega)
  obtain ⟨b, hb⟩ : ∃ b : Nat, a % (q : Int) = b := ⟨(a % q).toNat, by omega⟩
  have h4 := fermat_nat hp b
  rw [hb]
  show (b : Int) ^ (q : Int).toNat % q = b
  rw [Int.toNat_natCast, h4, ← hb, Int.emod_emod]

-- ONE by m.
/-- a is 1, by m. -/
def One (a m : Int) : Prop := m ∣ a - 1
theorem one_iff {a m : Int} : One a m ↔ a % m = 1 % m := by
  unfold One
  rw [Int.emod_eq_emod_iff_emod_sub_eq_zero]
  exact ⟨fun h => Int.emod_eq_zero_of_dvd h, fun h => Int.dvd_of_emod_eq_zero h⟩
theorem One.mul {a b m : Int} (h : One a m) (k : One b m) : One (a * b) m := by
  unfold One at *
  have e : a * b - 1 = a * (b - 1) + (a - 1) := by rw [Int.mul_sub]; omega
  rw [e]
  exact Int.dvd_add (Int.dvd_trans k (Int.dvd_mul_left _ _)) h
theorem One.self (m : Int) : One 1 m := by unfold One; simp
theorem One.pow {a m : Int} (h : One a m) (n : Nat) : One (a ^ n) m := by
  induction n with
  | zero => simpa using One.self m
  | succ n ih => rw [Int.pow_succ]; exact ih.mul h
theorem One.pw {a : Int} {n k : Nat} {m : Int} (h : One (a ^ n) m) (hd : n ∣ k) : One (a ^ k) m := by
  obtain ⟨j, rfl⟩ := hd
  rw [ipow_mul]; exact h.pow j
theorem pw_one {a : Int} {n : Nat} {m : Int} : One (a ^ n) m ↔ Pw a n m = 1 % m := one_iff

/-- From 1 by p to the j to 1 by p to the j + 1: to the p. -/
theorem one_lift {p : Nat} {x : Int} {j : Nat} (hj : 1 ≤ j) (h : One x ((p : Int) ^ j)) : One (x ^ p) ((p : Int) ^ (j + 1)) := by
  obtain ⟨t, ht⟩ := h
  -- x ^ n - 1 - n (x - 1) is divided by (x - 1)²
  have key : ∀ n : Nat, ∃ s : Int, x ^ n - 1 = n * (x - 1) + (x - 1) * (x - 1) * s := by
    intro n
    induction n with
    | zero => exact ⟨0, by simp⟩
    | succ n ih =>
      obtain ⟨s, hs⟩ := ih
      refine ⟨s * x + n, ?_⟩
      have e : x ^ (n + 1) - 1 = (x ^ n - 1) * x + (x - 1) := by rw [Int.pow_succ, Int.sub_mul]; omega
      rw [e, hs]
      generalize hy : x - 1 = y
      have hx : x = y + 1 := by omega
      subst hx
      rw [Int.natCast_add]
      simp only [Int.add_mul, Int.mul_add, Int.mul_one, Int.one_mul, Int.natCast_one]
      have e1 : (n : Int) * y * y = y * y * n := by ac_rfl
      have e2 : y * y * s * y = y * y * (s * y) := by ac_rfl
      rw [e1, e2]; omega
  obtain ⟨s, hs⟩ := key p
  show (p : Int) ^ (j + 1) ∣ x ^ p - 1
  rw [hs, ht]
  refine Int.dvd_add ?_ ?_
  · rw [Int.pow_succ]
    exact ⟨t, by ac_rfl⟩
  · obtain ⟨i, rfl⟩ : ∃ i, j = i + 1 := ⟨j - 1, by omega⟩
    refine ⟨t * t * s * (p : Int) ^ i, ?_⟩
    rw [Int.pow_succ _ (i + 1), Int.pow_succ _ i]
    ac_rfl

/-- How many numbers below the number of these powers have nothing in common with it. -/
def phiL : List (Int × Nat) → Nat
  | [] => 1
  | (p, k) :: l => p.toNat ^ (k - 1) * (p.toNat - 1) * phiL l

theorem phiL_pos {n : Int} {l : List (Int × Nat)} (h : Fac n l) : 1 ≤ phiL l := by
  induction l generalizing n with
  | nil => exact Nat.le_refl 1
  | cons x l ih =>
    obtain ⟨p, k⟩ := x
    obtain ⟨hq, hk, m, hm, hn, hnd, hF⟩ := h
    have h1 := hq.1
    exact Nat.mul_pos (Nat.mul_pos (Nat.pow_pos (by omega)) (by omega)) (ih hF)

theorem cancel_one {p a x : Int} (hp : Prm p) (ha : ¬ p ∣ a) (h : a * x % p = a % p) : One x p := by
  have h1 : p ∣ a * x - a := Int.dvd_of_emod_eq_zero (Int.emod_eq_emod_iff_emod_sub_eq_zero.mp h)
  have e : a * x - a = a * (x - 1) := by rw [Int.mul_sub]; omega
  rw [e] at h1
  rcases euclid hp h1 with h2 | h2
  · exact absurd h2 ha
  · exact h2

theorem fermat_one {p a : Int} (hp : Prm p) (ha : ¬ p ∣ a) : One (a ^ (p.toNat - 1)) p := by
  have h2 := hp.1
  refine cancel_one hp ha ?_
  have := fermat hp a
  unfold Pw at this
  rw [← this, Int.mul_comm, ← Int.pow_succ]
  congr 2; omega

theorem one_ppow {p a : Int} (hp : Prm p) (ha : ¬ p ∣ a) (k : Nat) (hk : 1 ≤ k) : One (a ^ (p.toNat ^ (k - 1) * (p.toNat - 1))) (p ^ k) := by
  have h2 := hp.1
  obtain ⟨q, rfl⟩ : ∃ q : Nat, p = q := ⟨p.toNat, by omega⟩
  obtain ⟨k, rfl⟩ : ∃ j, k = j + 1 := ⟨k - 1, by omega⟩
  rw [Int.toNat_natCast, Nat.add_sub_cancel]
  clear hk
  induction k with
  | zero => rw [Int.pow_succ, Int.pow_zero, Int.one_mul, Nat.pow_zero, Nat.one_mul]; exact fermat_one hp ha
  | succ k ih =>
    have h3 := one_lift (p := q) (j := k + 1) (by omega) ih
    rw [← ipow_mul] at h3
    have e : q ^ (k + 1) * (q - 1) = q ^ k * (q - 1) * q := by rw [Nat.pow_succ]; ac_rfl
    rw [e]; exact h3

/-- What divides two with nothing in common divides their product: here told by the powers. -/
theorem dvd_ppow_mul {p m x : Int} (hp : Prm p) (hnd : ¬ p ∣ m) : ∀ k : Nat, p ^ k ∣ x → m ∣ x → p ^ k * m ∣ x := by
  intro k
  induction k with
  | zero => intro _ h; simpa using h
  | succ k ih =>
    intro h1 h2
    have h3 : p ^ k ∣ x := Int.dvd_trans ⟨p, by rw [Int.pow_succ]⟩ h1
    obtain ⟨t, ht⟩ := ih h3 h2
    obtain ⟨s, hs⟩ := h1
    have hpk : p ^ k ≠ 0 := pow_ne (by have := hp.1; omega) k
    have e : m * t = p * s := by
      have : p ^ k * (m * t) = p ^ k * (p * s) := by rw [← Int.mul_assoc, ← ht, hs, Int.pow_succ]; ac_rfl
      exact Int.eq_of_mul_eq_mul_left hpk this
    have hd : p ∣ m * t := ⟨s, e⟩
    rcases euclid hp hd with h4 | h4
    · exact absurd h4 hnd
    · obtain ⟨u, rfl⟩ := h4
      exact ⟨u, by rw [ht, Int.pow_succ]; ac_rfl⟩

/-- EULER, by the powers. -/
theorem euler {n a : Int} {l : List (Int × Nat)} (h : Fac n l) (ha : ∀ p : Int, Prm p → p ∣ n → ¬ p ∣ a) : One (a ^ phiL l) n := by
  induction l generalizing n with
  | nil =>
    have : n = 1 := h
    subst this
    exact ⟨_, (Int.one_mul _).symm⟩
  | cons x l ih =>
    obtain ⟨p, k⟩ := x
    obtain ⟨hq, hk, m, hm, hn, hnd, hF⟩ := h
    have hp := hq.prm
    have h1 := one_ppow hp (ha p hp hq.2.1) k hk
    have h2 := ih hF (fun q hq2 hd => ha q hq2 (by rw [hn]; exact Int.dvd_trans hd (Int.dvd_mul_left _ _)))
    rw [hn]
    exact dvd_ppow_mul hp hnd k (h1.pw (Nat.dvd_mul_right _ _)) (h2.pw (Nat.dvd_mul_left _ _))

/-- Nothing in common: no prime divides both. -/
theorem coprime_prm {a n : Int} (h : G a n = 1) : ∀ p : Int, Prm p → p ∣ n → ¬ p ∣ a := by
  intro p hp h1 h2
  have h3 := dvd_G h2 h1
  rw [h] at h3
  have := Int.le_of_dvd (by omega) h3
  have := hp.1
  omega

-- ORDERS.
/-- o is the order of a by m. -/
def IsOrd (a m : Int) (o : Nat) : Prop := 1 ≤ o ∧ One (a ^ o) m ∧ ∀ q : Int, Prm q → q ∣ (o : Int) → ¬ One (a ^ (o / q.toNat)) m

theorem IsOrd.least {a m : Int} {o d : Nat} (h : IsOrd a m o) (hd : d ∣ o) (hlt : d < o) : ¬ One (a ^ d) m := by
  intro h1
  obtain ⟨e, rfl⟩ := hd
  have he : 2 ≤ e := by
    rcases Nat.lt_or_ge e 2 with h2 | h2
    · obtain h3 | h3 : e = 0 ∨ e = 1 := by omega
      · subst h3; simp at hlt
      · subst h3; simp at hlt
    · exact h2
  obtain ⟨q, hq⟩ := mf_some (n := (e : Int)) (by omega)
  have hp := hq.prm
  have h2 := hp.1
  obtain ⟨r, rfl⟩ : ∃ r : Nat, q = r := ⟨q.toNat, by omega⟩
  obtain ⟨f, hf⟩ := Int.natCast_dvd_natCast.mp hq.2.1
  subst hf
  refine h.2.2 r hp (by rw [Int.natCast_dvd_natCast]; exact ⟨d * f, by ac_rfl⟩) ?_
  rw [Int.toNat_natCast]
  have e1 : d * (r * f) / r = d * f := by
    rw [show d * (r * f) = r * (d * f) by ac_rfl, Nat.mul_div_cancel_left _ (by omega)]
  rw [e1]
  exact h1.pw (Nat.dvd_mul_right _ _)

-- INVERSES.
theorem inv_uniq {x c y m : Int} (hc : 0 ≤ c) (hc2 : c < m) (hy : 0 ≤ y) (hy2 : y < m) (h1 : x * c % m = 1 % m) (h2 : y * x % m = 1 % m) : y = c := by
  have e1 : y * x * c % m = c % m := by rw [← mul_emod_left, h2, mul_emod_left, Int.one_mul]
  have e2 : y * x * c % m = y % m := by rw [Int.mul_assoc, ← mul_emod_right, h1, mul_emod_right, Int.mul_one]
  rw [e1, Int.emod_eq_of_lt hc hc2, Int.emod_eq_of_lt hy hy2] at e2
  exact e2.symm

theorem bezout_inv {x y a m : Int} (h : x * (a % m) + y * m = 1) : x * (a % m) % m = 1 % m := by
  rw [← h, Int.add_mul_emod_self_right]

theorem G_mod (a m : Int) : G (a % m) m = G a m := by rw [← G_step a m, G_comm]

theorem G_one_of_inv {x a m : Int} (hm : 0 < m) (h : x * a % m = 1 % m) : G a m = 1 := by
  have h1 : m ∣ x * a - 1 := Int.dvd_of_emod_eq_zero (Int.emod_eq_emod_iff_emod_sub_eq_zero.mp h)
  have h2 : G a m ∣ 1 := by
    have h3 := Int.dvd_trans (G_dvd_right a m) h1
    have h4 : G a m ∣ x * a := Int.dvd_trans (G_dvd_left a m) (Int.dvd_mul_left _ _)
    have h5 := Int.dvd_sub h4 h3
    have e : x * a - (x * a - 1) = 1 := by omega
    rw [e] at h5; exact h5
  have h3 := Int.le_of_dvd (by omega) h2
  have h4 := G_pos (a := a) (b := m) (.inr (by omega))
  omega

end Go.Proofs.Ytgdfmmdjnifjeaa.Rs

namespace Go.Proofs.Ytgdfmmdjnifjeaa.Po
open Pr

theorem Cg.add_comm (p : Int) (f g : List Int) : Cg p (Po.add f g) (Po.add g f) := Cg.of_eq fun i => by rw [c_add, c_add, Int.add_comm]

theorem can_last {p : Int} {f : List Int} (hp : Prm p) (hf : Can p f) (h : f ≠ []) : ¬ p ∣ c f (f.length - 1) := by
  intro hd
  have p0 := hp.1
  have b := hf.bound (by omega) (f.length - 1)
  have := Int.le_of_dvd (by have := hf.2 h; omega) hd
  omega

/-- A product with something that is not nought has a number beyond the other's. -/
theorem mul_far {p : Int} {f g : List Int} (hp : Prm p) (hg : Can p g) (h2 : g ≠ []) (hf : ¬ ∀ i, p ∣ c f i) : ∃ j, g.length ≤ j + 1 ∧ ¬ p ∣ c (mul f g) j := by
  have p0 := hp.1
  have hcr := can_red (p := p) (by omega) f
  have hne : red p f ≠ [] := fun e => hf fun i => by
    have := c_red p f i
    rw [e, c_nil] at this
    exact Int.dvd_of_emod_eq_zero this.symm
  have l1 := List.length_pos_iff.mpr hne
  have l2 := List.length_pos_iff.mpr h2
  have hl := mul_last ((red p f).length - 1) (red p f) g (g.length - 1) (by omega) (by omega)
  refine ⟨(red p f).length - 1 + (g.length - 1), by omega, fun hd => ?_⟩
  have h3 := (Cg.mul (cg_red p f) (Cg.refl p g)) ((red p f).length - 1 + (g.length - 1))
  rw [hl] at h3
  have h4 := Int.dvd_add h3 hd
  rw [show c (red p f) ((red p f).length - 1) * c g (g.length - 1) - c (mul f g) ((red p f).length - 1 + (g.length - 1)) + c (mul f g) ((red p f).length - 1 + (g.length - 1)) = c (red p f) ((red p f).length - 1) * c g (g.length - 1) by omega] at h4
  rcases euclid hp h4 with h5 | h5
  · exact can_last hp hcr hne h5
  · exact can_last hp hg h2 h5

/-- What f is: q times g, and r. -/
def Dv (p : Int) (f g q r : List Int) : Prop := Cg p (add (mul q g) r) f

/-- One way alone. -/
theorem div_uniq {p : Int} {f g q r q' r' : List Int} (hp : Prm p) (hg : Can p g) (h0 : g ≠ []) (hq : Can p q) (hr : Can p r) (hq' : Can p q') (hr' : Can p r') (hl : r.length < g.length) (hl' : r'.length < g.length)
    (h : Dv p f g q r) (h' : Dv p f g q' r') : q = q' ∧ r = r' := by
  have p0 := hp.1
  have hE : ∀ i, p ∣ c (mul q g) i + c r i - (c (mul q' g) i + c r' i) := fun i => by
    have := (h.trans h'.symm) i
    rwa [c_add, c_add] at this
  have hD : ∀ i, c (mul (add q (sc (-1) q')) g) i = c (mul q g) i - c (mul q' g) i := fun i => by rw [add_mul, sc_mul]; omega
  have hq2 : ∀ i, p ∣ c (add q (sc (-1) q')) i := by
    refine Classical.byContradiction fun hc => ?_
    obtain ⟨j, hj, hn⟩ := mul_far hp hg h0 hc
    apply hn
    rw [hD]
    have := hE j
    rwa [c_over (f := r) (by omega), c_over (f := r') (by omega), Int.add_zero, Int.add_zero] at this
  have hqq : q = q' := hq.ext (by omega) hq' fun i => by
    have := hq2 i
    rw [c_add, c_sc] at this
    rwa [show c q i + -1 * c q' i = c q i - c q' i by omega] at this
  subst hqq
  refine ⟨rfl, hr.ext (by omega) hr' fun i => ?_⟩
  have := hE i
  rwa [show c (mul q g) i + c r i - (c (mul q g) i + c r' i) = c r i - c r' i by omega] at this

/-- d divides f. -/
def Di (p : Int) (d f : List Int) : Prop := ∃ q, Cg p (mul q d) f

theorem Di.cg {p : Int} {d f f' : List Int} (h : Di p d f) (k : Cg p f f') : Di p d f' := by
  obtain ⟨q, hq⟩ := h
  exact ⟨q, hq.trans k⟩

theorem one_mul (f : List Int) (i : Nat) : c (mul [1] f) i = c f i := by
  rw [c_mul]
  have : pre (c (mul [] f)) i = 0 := by cases i <;> rfl
  omega

theorem Di.self (p : Int) (f : List Int) : Di p f f := ⟨[1], Cg.of_eq (one_mul f)⟩
theorem Di.none (p : Int) (d : List Int) : Di p d [] := ⟨[], Cg.refl _ _⟩

theorem Di.add {p : Int} {d f g : List Int} (h : Di p d f) (k : Di p d g) : Di p d (Po.add f g) := by
  obtain ⟨q, hq⟩ := h
  obtain ⟨r, hr⟩ := k
  exact ⟨Po.add q r, (Cg.of_eq fun i => by rw [add_mul, c_add]).trans (hq.add hr)⟩

theorem Di.times {p : Int} {d f : List Int} (h : Di p d f) (g : List Int) : Di p d (mul g f) := by
  obtain ⟨q, hq⟩ := h
  exact ⟨mul g q, (Cg.of_eq (mul_assoc g q d)).trans (Cg.mul_right g hq)⟩

theorem Di.trans {p : Int} {d e f : List Int} (h : Di p d e) (k : Di p e f) : Di p d f := by
  obtain ⟨q, hq⟩ := k
  exact (h.times q).cg hq

theorem Di.both {p : Int} {d f : List Int} (h : Di p d f) (g : List Int) : Di p (mul d g) (mul f g) := by
  obtain ⟨q, hq⟩ := h
  exact ⟨q, (Cg.of_eq fun i => (mul_assoc q d g i).symm).trans (hq.mul (Cg.refl p g))⟩

/-- Something that divides what is not nought has no more numbers. -/
theorem Di.length {p : Int} {d f : List Int} (hp : Prm p) (hd : Can p d) (hf : Can p f) (h0 : f ≠ []) (h : Di p d f) : ∃ q, Can p q ∧ q ≠ [] ∧ d ≠ [] ∧ Cg p (mul q d) f ∧ f.length = q.length + d.length - 1 := by
  have p0 := hp.1
  obtain ⟨q, hq⟩ := h
  have hq2 : Cg p (mul (red p q) d) f := ((cg_red p q).mul (Cg.refl p d)).trans hq
  have hfr : f = red p (mul (red p q) d) := hf.ext (by omega) (can_red (by omega) _) (hq2.symm.trans (cg_red p _).symm)
  have nz : ∀ g : List Int, (∀ i, c g i = 0) → red p g = [] := fun g hg => (can_red (by omega) g).ext (by omega) (Can.nil p) fun i => by rw [c_red, hg i, Int.zero_emod, c_nil]; exact Int.dvd_zero p
  have h1 : red p q ≠ [] := fun e => h0 (by rw [hfr, e]; exact nz _ fun i => rfl)
  have h2 : d ≠ [] := fun e => h0 (by rw [hfr, e]; exact nz _ fun i => c_mul_nil_right _ i)
  exact ⟨red p q, can_red (by omega) q, h1, h2, hq2, by
    have := red_mul_length hp (can_red (by omega) q) hd h1 h2
    rwa [← hfr] at this⟩

/-- In lowest form, and nought or with 1 at the end. -/
def Mon (p : Int) (d : List Int) : Prop := Can p d ∧ (d ≠ [] → c d (d.length - 1) = 1)

/-- The greatest common divisor. -/
structure IsG (p : Int) (d f g : List Int) : Prop where
  mon : Mon p d
  l : Di p d f
  r : Di p d g
  bez : ∃ u v, Cg p (add (mul u f) (mul v g)) d

theorem IsG.great {p : Int} {d f g e : List Int} (h : IsG p d f g) (h1 : Di p e f) (h2 : Di p e g) : Di p e d := by
  obtain ⟨u, v, hb⟩ := h.bez
  exact ((h1.times u).add (h2.times v)).cg hb

theorem mon_uniq {p : Int} {d e : List Int} (hp : Prm p) (hd : Mon p d) (he : Mon p e) (h1 : Di p d e) (h2 : Di p e d) : d = e := by
  have p0 := hp.1
  by_cases hd0 : d = []
  · subst hd0
    refine Decidable.byContradiction fun hc => ?_
    obtain ⟨q, _, _, h, _⟩ := h1.length hp hd.1 he.1 (fun e2 => hc e2.symm)
    exact h rfl
  · by_cases he0 : e = []
    · subst he0
      obtain ⟨q, _, _, h, _⟩ := h2.length hp he.1 hd.1 hd0
      exact absurd rfl h
    · obtain ⟨q, q1, q2, _, q4, q5⟩ := h1.length hp hd.1 he.1 he0
      obtain ⟨r, r1, r2, _, r4, r5⟩ := h2.length hp he.1 hd.1 hd0
      have a1 := List.length_pos_iff.mpr q2
      have a2 := List.length_pos_iff.mpr r2
      have a3 := List.length_pos_iff.mpr hd0
      have a4 := List.length_pos_iff.mpr he0
      have hq1 : q.length = 1 := by omega
      match q, hq1 with
      | [a], _ =>
        have hc : ∀ i, c (mul [a] d) i = a * c d i := fun i => by
          rw [c_mul]
          have : pre (c (mul [] d)) i = 0 := by cases i <;> rfl
          omega
        have hlen : e.length = d.length := by simp at q5; omega
        have h3 := q4 (d.length - 1)
        rw [hc, hd.2 hd0, ← hlen, he.2 he0, Int.mul_one] at h3
        have ha := q1.1 a List.mem_cons_self
        have ha1 : a = 1 := by
          obtain ⟨k, hk⟩ := h3
          have : k = 0 := by
            refine Decidable.byContradiction fun hc2 => ?_
            rcases Int.lt_or_gt_of_ne hc2 with h5 | h5
            · have : p * k ≤ p * (-1) := Int.mul_le_mul_of_nonneg_left (by omega) (by omega)
              omega
            · have : p * 1 ≤ p * k := Int.mul_le_mul_of_nonneg_left (by omega) (by omega)
              omega
          subst this
          omega
        subst ha1
        exact hd.1.ext (by omega) he.1 ((Cg.of_eq fun i => (one_mul d i).symm).trans q4)

theorem IsG.uniq {p : Int} {d e f g : List Int} (hp : Prm p) (h : IsG p d f g) (k : IsG p e f g) : d = e :=
  mon_uniq hp h.mon k.mon (k.great h.l h.r) (h.great k.l k.r)

/-- EUCLID: one step. -/
theorem IsG.step {p : Int} {d f g q r : List Int} (hD : Dv p f g q r) (h : IsG p d g r) : IsG p d f g := by
  refine ⟨h.mon, ((h.l.times q).add h.r).cg hD, h.l, ?_⟩
  obtain ⟨u, v, hb⟩ := h.bez
  refine ⟨v, add u (sc (-1) (mul v q)), Cg.trans ?_ hb⟩
  have h1 : Cg p (mul v f) (mul v (add (mul q g) r)) := Cg.mul_right v hD.symm
  refine (h1.add (Cg.refl p _)).trans (Cg.of_eq fun i => ?_)
  rw [c_add, c_add, mul_add, add_mul, sc_mul, mul_assoc]
  omega

/-- The last one, with 1 at its end. -/
theorem IsG.last {p a : Int} {f : List Int} (hm : Mon p (red p (mul [a] f))) (ha : ∃ b, p ∣ b * a - 1) : IsG p (red p (mul [a] f)) f [] := by
  obtain ⟨b, hb⟩ := ha
  have hc : ∀ i, c (mul [a] f) i = a * c f i := fun i => by
    rw [c_mul]
    have : pre (c (mul [] f)) i = 0 := by cases i <;> rfl
    omega
  refine ⟨hm, ⟨[b], fun i => ?_⟩, Di.none _ _, ⟨[a], [], fun i => ?_⟩⟩
  · have h1 : c (mul [b] (red p (mul [a] f))) i = b * c (red p (mul [a] f)) i := by
      rw [c_mul]
      have : pre (c (mul [] (red p (mul [a] f)))) i = 0 := by cases i <;> rfl
      omega
    have h2 := cg_red p (mul [a] f) i
    rw [hc] at h2
    rw [h1]
    have h3 := Int.dvd_mul_of_dvd_right (b := b) h2
    have h4 := Int.dvd_mul_of_dvd_left (c := c f i) hb
    have := Int.dvd_add h3 h4
    rwa [show b * (c (red p (mul [a] f)) i - a * c f i) + (b * a - 1) * c f i = b * c (red p (mul [a] f)) i - c f i by grind] at this
  · have := (cg_red p (mul [a] f)).symm i
    rw [c_add]
    rwa [show c (mul [] []) i = 0 by rfl, Int.add_zero]

theorem isG_none {p : Int} : IsG p [] [] [] := ⟨⟨Can.nil p, fun h => absurd rfl h⟩, Di.none _ _, Di.none _ _, ⟨[], [], Cg.refl _ _⟩⟩

/-- Times a third one. -/
theorem IsG.times {p : Int} {d f g h z : List Int} (hp : Prm p) (hd : IsG p d f g) (hh : Can p h) (h0 : h ≠ []) (hd0 : d ≠ []) (hz : IsG p z (mul f h) (mul g h)) : Di p h z ∧ z.length = d.length + h.length - 1 ∧ z ≠ [] := by
  have p0 := hp.1
  have h1 : Di p (mul d h) z := hz.great (hd.l.both h) (hd.r.both h)
  have h2 : Di p z (mul d h) := by
    obtain ⟨u, v, hb⟩ := hd.bez
    refine ((hz.l.times u).add (hz.r.times v)).cg ?_
    refine (Cg.of_eq fun i => ?_).trans (hb.mul (Cg.refl p h))
    rw [c_add, add_mul, mul_assoc, mul_assoc]
  have hh2 : Di p h z := by
    have : Di p h (mul d h) := (Di.self p h).times d
    exact this.trans h1
  have hl := red_mul_length hp hd.mon.1 hh hd0 h0
  have hne : red p (mul d h) ≠ [] := fun e => by
    rw [e] at hl
    have a1 := List.length_pos_iff.mpr hd0
    have a2 := List.length_pos_iff.mpr h0
    simp at hl
    omega
  have hcan := can_red (p := p) (by omega) (mul d h)
  have h3 : Di p z (red p (mul d h)) := h2.cg (cg_red p _).symm
  have hzne : z ≠ [] := by
    obtain ⟨q, _, _, hz0, _⟩ := h3.length hp hz.mon.1 hcan hne
    exact hz0
  have h4 : Di p (red p (mul d h)) z := by
    obtain ⟨q, hq⟩ := h1
    exact ⟨q, (Cg.mul_right q (cg_red p _)).trans hq⟩
  obtain ⟨q, _, q2, _, _, q5⟩ := h3.length hp hz.mon.1 hcan hne
  obtain ⟨r, _, r2, _, _, r5⟩ := h4.length hp hcan hz.mon.1 hzne
  have a1 := List.length_pos_iff.mpr q2
  have a2 := List.length_pos_iff.mpr r2
  have a3 := List.length_pos_iff.mpr hzne
  have a4 := List.length_pos_iff.mpr hne
  exact ⟨hh2, by omega, hzne⟩

-- Roots.
/-- RUFFINI: f, less its value at a, by x less a. -/
def ruf (a : Int) : List Int → List Int
  | [] => []
  | _ :: f => add f (sc a (ruf a f))

theorem ruf_length (a : Int) : ∀ f : List Int, (ruf a f).length = f.length - 1 := by
  intro f
  induction f with
  | nil => rfl
  | cons b f ih => rw [ruf, add_length, sc_length, ih, List.length_cons]; omega

theorem ruf_ev (a : Int) : ∀ (f : List Int) (x : Int), ev f x - ev f a = (x - a) * ev (ruf a f) x := by
  intro f
  induction f with
  | nil => intro x; simp [ev, ruf]
  | cons b f ih =>
    intro x
    rw [ruf, ev_add, ev_sc]
    simp only [ev]
    have := ih x
    grind

theorem ruf_c (a : Int) : ∀ (f : List Int) (i : Nat), c f i = pre (c (ruf a f)) i - a * c (ruf a f) i + (if i = 0 then ev f a else 0) := by
  intro f
  induction f with
  | nil => intro i; cases i <;> simp [ruf, c_nil, pre, ev]
  | cons b f ih =>
    intro i
    rw [ruf, c_add, c_sc]
    cases i with
    | zero =>
      simp only [c_zero, pre, ev, if_true]
      have := ih 0
      simp only [pre, if_true] at this
      grind
    | succ i =>
      rw [if_neg (by omega), c_succ]
      simp only [pre]
      rw [c_add, c_sc]
      have := ih (i + 1)
      rw [if_neg (by omega)] at this
      simp only [pre] at this
      grind

/-- No more roots than numbers, less one. -/
theorem roots_le {p : Int} (hp : Prm p) : ∀ (n : Nat) (f : List Int), f.length ≤ n + 1 → (¬ ∀ i, p ∣ c f i) → ∀ Z : List Int, Z.Nodup → (∀ x ∈ Z, 0 ≤ x ∧ x < p ∧ p ∣ ev f x) → Z.length ≤ n := by
  intro n
  induction n with
  | zero =>
    intro f hl hne Z _ hZ
    match Z, hZ with
    | [], _ => simp
    | a :: Z, hZ =>
      exfalso
      have := (hZ a List.mem_cons_self).2.2
      match f, hl with
      | [], _ => exact hne fun i => by rw [c_nil]; exact Int.dvd_zero p
      | [b], _ =>
        simp only [ev, Int.mul_zero, Int.add_zero] at this
        exact hne fun i => by
          cases i with
          | zero => exact this
          | succ i => rw [c_succ, c_nil]; exact Int.dvd_zero p
      | b :: b2 :: f, hl => simp at hl
  | succ n ih =>
    intro f hl hne Z hnd hZ
    match Z, hnd, hZ with
    | [], _, _ => simp
    | a :: Z, hnd, hZ =>
      obtain ⟨ha0, ha1, hfa⟩ := hZ a List.mem_cons_self
      rw [List.nodup_cons] at hnd
      have h1 : ¬ ∀ i, p ∣ c (ruf a f) i := fun h => hne fun i => by
        rw [ruf_c a f i]
        refine Int.dvd_add (Int.dvd_sub ?_ (Int.dvd_mul_of_dvd_right (h i))) ?_
        · cases i with
          | zero => exact Int.dvd_zero p
          | succ i => exact h i
        · split
          · exact hfa
          · exact Int.dvd_zero p
      have := ih (ruf a f) (by rw [ruf_length]; omega) h1 Z hnd.2 fun x hx => by
        obtain ⟨x0, x1, hfx⟩ := hZ x (List.mem_cons_of_mem _ hx)
        refine ⟨x0, x1, ?_⟩
        have h2 := Int.dvd_sub hfx hfa
        rw [ruf_ev] at h2
        rcases euclid hp h2 with h3 | h3
        · exfalso
          have hne2 : x ≠ a := fun e => hnd.1 (e ▸ hx)
          obtain ⟨k, hk⟩ := h3
          have : k = 0 := by
            refine Decidable.byContradiction fun hc2 => ?_
            rcases Int.lt_or_gt_of_ne hc2 with h5 | h5
            · have : p * k ≤ p * (-1) := Int.mul_le_mul_of_nonneg_left (by omega) (by omega)
              omega
            · have : p * 1 ≤ p * k := Int.mul_le_mul_of_nonneg_left (by omega) (by omega)
              omega
          subst this
          omega
        · exact h3
      rw [List.length_cons]
      omega

end Go.Proofs.Ytgdfmmdjnifjeaa.Po

namespace Go.Proofs.Ytgdfmmdjnifjeaa.Po
open Pr

/-- Places told apart. -/
def Apart (p : Int) (X : Nat → Int) (n : Nat) : Prop := (∀ i, i < n → 0 ≤ X i ∧ X i < p) ∧ ∀ i j, i < n → j < n → i ≠ j → X i ≠ X j

theorem Apart.less {p : Int} {X : Nat → Int} {m n : Nat} (h : Apart p X n) (hm : m ≤ n) : Apart p X m :=
  ⟨fun i hi => h.1 i (by omega), fun i j hi hj => h.2 i j (by omega) (by omega)⟩

theorem Apart.not {p : Int} {X : Nat → Int} {n : Nat} (h : Apart p X n) {i j : Nat} (hi : i < n) (hj : j < n) (hne : i ≠ j) : ¬ p ∣ X i - X j := by
  intro ⟨k, hk⟩
  have h1 := h.1 i hi
  have h2 := h.1 j hj
  have h3 := h.2 i j hi hj hne
  have : k = 0 := by
    refine Decidable.byContradiction fun hc2 => ?_
    rcases Int.lt_or_gt_of_ne hc2 with h5 | h5
    · have : p * k ≤ p * (-1) := Int.mul_le_mul_of_nonneg_left (by omega) (by omega)
      omega
    · have : p * 1 ≤ p * k := Int.mul_le_mul_of_nonneg_left (by omega) (by omega)
      omega
  subst this
  omega

/-- Two that agree at as many places as they have numbers are alike. -/
theorem alike {p : Int} (hp : Prm p) {f g : List Int} {X : Nat → Int} {n : Nat} (hX : Apart p X n) (hf : f.length ≤ n) (hg : g.length ≤ n) (h : ∀ i, i < n → p ∣ ev f (X i) - ev g (X i)) : Cg p f g := by
  intro i
  refine Decidable.byContradiction fun hc => ?_
  have hlen : (add f (sc (-1) g)).length ≤ n := by rw [add_length, sc_length]; omega
  have hn : 0 < n := by
    refine Nat.pos_of_ne_zero fun h0 => hc ?_
    subst h0
    rw [c_over (f := f) (by omega), c_over (f := g) (by omega)]
    exact Int.dvd_zero p
  have hne : ¬ ∀ i, p ∣ c (add f (sc (-1) g)) i := fun hall => hc (by
    have := hall i
    rw [c_add, c_sc] at this
    rwa [show c f i - c g i = c f i + -1 * c g i from by omega])
  have := roots_le hp (n - 1) (add f (sc (-1) g)) (by omega) hne ((List.range n).map X) (by
    rw [List.Nodup, List.pairwise_map]
    refine List.Pairwise.imp_of_mem ?_ (List.nodup_range (n := n))
    intro a b ha hb hab
    exact hX.2 a b (List.mem_range.mp ha) (List.mem_range.mp hb) hab) (by
    intro x hx
    obtain ⟨k, hk, rfl⟩ := List.mem_map.mp hx
    have hk := List.mem_range.mp hk
    refine ⟨(hX.1 k hk).1, (hX.1 k hk).2, ?_⟩
    rw [ev_add, ev_sc, show ev f (X k) + -1 * ev g (X k) = ev f (X k) - ev g (X k) from by omega]
    exact h k hk)
  rw [List.length_map, List.length_range] at this
  omega

/-- So they are one, in lowest form. -/
theorem alike_one {p : Int} (hp : Prm p) {f g : List Int} {X : Nat → Int} {n : Nat} (hX : Apart p X n) (cf : Can p f) (cg : Can p g) (hf : f.length ≤ n) (hg : g.length ≤ n) (h : ∀ i, i < n → p ∣ ev f (X i) - ev g (X i)) : f = g :=
  cf.ext (by have := hp.1; omega) cg (alike hp hX hf hg h)

/-- And what they are at any place is one. -/
theorem alike_at {p : Int} (hp : Prm p) {f g : List Int} {X : Nat → Int} {n : Nat} (hX : Apart p X n) (hf : f.length ≤ n) (hg : g.length ≤ n) (h : ∀ i, i < n → p ∣ ev f (X i) - ev g (X i)) (x : Int) : p ∣ ev f x - ev g x :=
  ev_cg (alike hp hX hf hg h) x

/-- What vanishes at the places before k, but not at i. -/
def bs (X : Nat → Int) (i : Nat) : Nat → List Int
  | 0 => [1]
  | k + 1 => if k = i then bs X i k else mul [- X k, 1] (bs X i k)

/-- Its value: a product. -/
def bv (X : Nat → Int) (i : Nat) (x : Int) : Nat → Int
  | 0 => 1
  | k + 1 => if k = i then bv X i x k else bv X i x k * (x - X k)

theorem line_length (a : Int) {g : List Int} (h : g ≠ []) : (mul [a, 1] g).length = g.length + 1 := by
  have : 0 < g.length := List.length_pos_iff.mpr h
  simp only [mul, add_length, sc_length, List.length_cons, List.length_nil]
  omega

theorem line_ev (a : Int) (g : List Int) (x : Int) : ev (mul [- a, 1] g) x = (x - a) * ev g x := by
  rw [ev_mul]
  simp only [ev, Int.mul_zero, Int.add_zero, Int.mul_one]
  grind

theorem bs_ne (X : Nat → Int) (i : Nat) : ∀ k, bs X i k ≠ [] := by
  intro k
  induction k with
  | zero => simp [bs]
  | succ k ih =>
    rw [bs]
    split
    · exact ih
    · exact fun h => by
        have := line_length (- X k) ih
        rw [h] at this
        simp at this

theorem bs_length (X : Nat → Int) (i : Nat) : ∀ k, (bs X i k).length = if i < k then k else k + 1 := by
  intro k
  induction k with
  | zero => simp [bs]
  | succ k ih =>
    rw [bs]
    split
    · rename_i h
      subst h
      rw [ih, if_neg (by omega), if_pos (by omega)]
    · rw [line_length _ (bs_ne X i k), ih]
      split <;> split <;> omega

theorem bs_ev (X : Nat → Int) (i : Nat) (x : Int) : ∀ k, ev (bs X i k) x = bv X i x k := by
  intro k
  induction k with
  | zero => simp [bs, bv, ev]
  | succ k ih =>
    rw [bs, bv]
    split
    · exact ih
    · rw [line_ev, ih, Int.mul_comm]

theorem bv_zero {X : Nat → Int} {i j : Nat} (hne : j ≠ i) : ∀ k, j < k → bv X i (X j) k = 0 := by
  intro k
  induction k with
  | zero => intro h; omega
  | succ k ih =>
    intro h
    rw [bv]
    by_cases hk : j = k
    · subst hk
      rw [if_neg hne, Int.sub_self, Int.mul_zero]
    · have := ih (by omega)
      split
      · exact this
      · rw [this, Int.zero_mul]

theorem bv_not {p : Int} (hp : Prm p) {X : Nat → Int} {n i : Nat} (hX : Apart p X n) (hi : i < n) : ∀ k, k ≤ n → ¬ p ∣ bv X i (X i) k := by
  intro k
  induction k with
  | zero =>
    intro _ h
    have h1 := Int.le_of_dvd (by omega) (show p ∣ 1 from h)
    have := hp.1
    omega
  | succ k ih =>
    intro hk h
    rw [bv] at h
    split at h
    · exact ih (by omega) h
    · rcases euclid hp h with h | h
      · exact ih (by omega) h
      · exact hX.not hi (by omega) (by omega) h

/-- What is summed. -/
def su (g : Nat → Int) : Nat → Int
  | 0 => 0
  | k + 1 => su g k + g k

theorem su_congr {p : Int} {g h : Nat → Int} : ∀ k, (∀ i, i < k → p ∣ g i - h i) → p ∣ su g k - su h k := by
  intro k
  induction k with
  | zero => intro _; simp [su]
  | succ k ih =>
    intro hh
    have h1 := ih fun i hi => hh i (by omega)
    have h2 := hh k (by omega)
    rw [su, su, show su g k + g k - (su h k + h k) = (su g k - su h k) + (g k - h k) from by omega]
    exact Int.dvd_add h1 h2

theorem su_one {p : Int} {g : Nat → Int} {j : Nat} : ∀ k, (∀ i, i < k → i ≠ j → p ∣ g i) → p ∣ su g k - (if j < k then g j else 0) := by
  intro k
  induction k with
  | zero => intro _; simp [su]
  | succ k ih =>
    intro hh
    have h1 := ih fun i hi => hh i (by omega)
    rw [su]
    by_cases hk : j = k
    · subst hk
      rw [if_neg (by omega)] at h1
      rw [if_pos (by omega), show su g j + g j - g j = su g j - 0 from by omega]
      exact h1
    · have h2 := hh k (by omega) (by omega)
      have : (if j < k + 1 then g j else 0) = (if j < k then g j else 0) := by split <;> split <;> first | rfl | omega
      rw [this, show su g k + g k - (if j < k then g j else 0) = (su g k - (if j < k then g j else 0)) + g k from by omega]
      exact Int.dvd_add h1 h2

/-- LAGRANGE's sum, as numbers in a row. -/
def lg (X t : Nat → Int) (n : Nat) : Nat → List Int
  | 0 => []
  | k + 1 => add (lg X t n k) (sc (t k) (bs X k n))

theorem lg_length (X t : Nat → Int) (n : Nat) : ∀ k, k ≤ n → (lg X t n k).length ≤ n := by
  intro k
  induction k with
  | zero => intro _; simp [lg]
  | succ k ih =>
    intro hk
    have h1 := ih (by omega)
    have h2 := bs_length X k n
    rw [if_pos (by omega)] at h2
    rw [lg, add_length, sc_length, h2]
    omega

theorem lg_ev (X t : Nat → Int) (n : Nat) (x : Int) : ∀ k, ev (lg X t n k) x = su (fun i => t i * bv X i x n) k := by
  intro k
  induction k with
  | zero => rfl
  | succ k ih => rw [lg, ev_add, ev_sc, bs_ev, ih, su]

/-- It goes through the points. -/
theorem lg_through {p : Int} {X Y t : Nat → Int} {n : Nat} (ht : ∀ i, i < n → p ∣ t i * bv X i (X i) n - Y i) {j : Nat} (hj : j < n) : p ∣ ev (lg X t n n) (X j) - Y j := by
  rw [lg_ev]
  have h1 := su_one (p := p) (g := fun i => t i * bv X i (X j) n) (j := j) n fun i _ hne => by
    show p ∣ t i * bv X i (X j) n
    rw [bv_zero (Ne.symm hne) n hj, Int.mul_zero]
    exact Int.dvd_zero p
  rw [if_pos hj] at h1
  have h2 := Int.dvd_add h1 (ht j hj)
  rwa [show su (fun i => t i * bv X i (X j) n) n - t j * bv X j (X j) n + (t j * bv X j (X j) n - Y j) = su (fun i => t i * bv X i (X j) n) n - Y j from by omega] at h2

/-- LAGRANGE: whatever goes through the points, and has no more numbers than points, is at any place what is summed. -/
theorem lagrange {p : Int} (hp : Prm p) {f : List Int} {X Y t : Nat → Int} {n : Nat} (hX : Apart p X n) (hf : f.length ≤ n) (hY : ∀ i, i < n → p ∣ ev f (X i) - Y i) (ht : ∀ i, i < n → p ∣ t i * bv X i (X i) n - Y i) (x : Int) : p ∣ ev f x - su (fun i => t i * bv X i x n) n := by
  rw [← lg_ev]
  refine alike_at hp hX hf (lg_length X t n n (Nat.le_refl n)) (fun i hi => ?_) x
  have h1 := hY i hi
  have h2 := lg_through (X := X) (Y := Y) ht hi
  have := Int.dvd_sub h1 h2
  rwa [show ev f (X i) - Y i - (ev (lg X t n n) (X i) - Y i) = ev f (X i) - ev (lg X t n n) (X i) from by omega] at this

/-- The product one factor at a time, each with what turns its other round. -/
def bq (X : Nat → Int) (v : Nat → Int) (i : Nat) (y x : Int) : Nat → Int
  | 0 => y
  | k + 1 => if k = i then bq X v i y x k else bq X v i y x k * (x - X k) * v k

theorem bq_bv (X v : Nat → Int) (i : Nat) (y x : Int) : ∀ k, ∃ w, bq X v i y x k = y * w * bv X i x k ∧ (∀ x', bq X v i y x' k = y * w * bv X i x' k) := by
  intro k
  induction k with
  | zero => exact ⟨1, by simp [bq, bv], fun x' => by simp [bq, bv]⟩
  | succ k ih =>
    obtain ⟨w, h1, h2⟩ := ih
    by_cases hk : k = i
    · exact ⟨w, by rw [bq, bv, if_pos hk, if_pos hk, h1], fun x' => by rw [bq, bv, if_pos hk, if_pos hk, h2]⟩
    · refine ⟨w * v k, ?_, fun x' => ?_⟩
      · rw [bq, bv, if_neg hk, if_neg hk, h1]; grind
      · rw [bq, bv, if_neg hk, if_neg hk, h2]; grind

theorem bq_self {p : Int} {X v : Nat → Int} {i n : Nat} {y : Int} (hv : ∀ k, k < n → k ≠ i → p ∣ (X i - X k) * v k - 1) : ∀ k, k ≤ n → p ∣ bq X v i y (X i) k - y := by
  intro k
  induction k with
  | zero => intro _; simp [bq]
  | succ k ih =>
    intro hk
    have h1 := ih (by omega)
    rw [bq]
    split
    · exact h1
    · rename_i hne
      have h2 : p ∣ bq X v i y (X i) k * ((X i - X k) * v k - 1) + (bq X v i y (X i) k - y) := Int.dvd_add (Int.dvd_mul_of_dvd_right (hv k (by omega) hne)) h1
      rwa [show bq X v i y (X i) k * ((X i - X k) * v k - 1) + (bq X v i y (X i) k - y) = bq X v i y (X i) k * (X i - X k) * v k - y from by grind] at h2

/-- LAGRANGE, as it is summed with what turns each round: v i k for X i - X k. -/
theorem lagrange_sum {p : Int} (hp : Prm p) {f : List Int} {X Y : Nat → Int} {v : Nat → Nat → Int} {n : Nat} (hX : Apart p X n) (hf : f.length ≤ n) (hY : ∀ i, i < n → p ∣ ev f (X i) - Y i) (hv : ∀ i, i < n → ∀ k, k < n → k ≠ i → p ∣ (X i - X k) * v i k - 1) (x : Int) : p ∣ ev f x - su (fun i => bq X (v i) i (Y i) x n) n := by
  have hw : ∀ i, ∃ w, ∀ x', bq X (v i) i (Y i) x' n = Y i * w * bv X i x' n := fun i => by
    obtain ⟨w, _, h⟩ := bq_bv X (v i) i (Y i) 0 n
    exact ⟨w, h⟩
  have hw' := Classical.axiomOfChoice hw
  obtain ⟨w, hw'⟩ := hw'
  have h1 := lagrange hp (t := fun i => Y i * w i) hX hf hY (fun i hi => by
    have := bq_self (y := Y i) (hv i hi) n (Nat.le_refl n)
    rw [hw'] at this
    exact this) x
  have h2 : (fun i => bq X (v i) i (Y i) x n) = fun i => Y i * w i * bv X i x n := by
    funext i
    exact hw' i x
  rw [h2]
  exact h1

/-- NEWTON's step: one more point. -/
theorem newton {p : Int} {f : List Int} {X Y : Nat → Int} {n : Nat} (hf : f.length ≤ n) (hY : ∀ i, i < n → p ∣ ev f (X i) - Y i) {t : Int} (ht : p ∣ t * bv X (n + 1) (X n) n - (Y n - ev f (X n))) : (add f (sc t (bs X (n + 1) n))).length ≤ n + 1 ∧ ∀ i, i < n + 1 → p ∣ ev (add f (sc t (bs X (n + 1) n))) (X i) - Y i := by
  refine ⟨?_, fun i hi => ?_⟩
  · have := bs_length X (n + 1) n
    rw [if_neg (by omega)] at this
    rw [add_length, sc_length]
    omega
  · rw [ev_add, ev_sc, bs_ev]
    by_cases h : i = n
    · subst h
      rwa [show ev f (X i) + t * bv X (i + 1) (X i) i - Y i = t * bv X (i + 1) (X i) i - (Y i - ev f (X i)) from by omega]
    · rw [bv_zero (by omega) n (by omega), Int.mul_zero, Int.add_zero]
      exact hY i (by omega)

/-- Points of a sum. -/
theorem sums_at {p : Int} {f g : List Int} {x y z : Int} (hf : p ∣ ev f x - y) (hg : p ∣ ev g x - z) : p ∣ ev (add f g) x - (y + z) := by
  rw [ev_add, show ev f x + ev g x - (y + z) = (ev f x - y) + (ev g x - z) from by omega]
  exact Int.dvd_add hf hg

end Go.Proofs.Ytgdfmmdjnifjeaa.Po

namespace Go.Proofs.Ytgdfmmdjnifjeaa.Po
open Pr Rs

theorem short_snoc (l : List Int) (x : Int) : short (l ++ [x]) = if x = 0 then short l else l ++ [x] := by
  induction l with
  | nil =>
    by_cases h : x = 0
    · simp [short, h]
    · simp [short, h]
  | cons a l ih =>
    rw [List.cons_append, short, ih]
    by_cases h : x = 0
    · simp only [h, if_true]
      rw [short]
    · simp [h]

theorem short_take : ∀ f : List Int, short f = f.take (short f).length := by
  intro f
  induction f with
  | nil => rfl
  | cons a f ih =>
    unfold short
    by_cases h : short f = [] ∧ a = 0
    · rw [if_pos h]; rfl
    · rw [if_neg h, List.length_cons, List.take_succ_cons, ← ih]

/-- How many numbers are left of the first k. -/
theorem short_step {f : List Int} {k : Nat} (h : k < f.length) : (short (f.take (k + 1))).length = if c f k = 0 then (short (f.take k)).length else k + 1 := by
  have e : f.take (k + 1) = f.take k ++ [c f k] := by rw [c_at h, List.take_append_getElem h]
  rw [e, short_snoc]
  by_cases h0 : c f k = 0
  · rw [if_pos h0, if_pos h0]
  · rw [if_neg h0, if_neg h0, List.length_append, List.length_take]
    simp
    omega

theorem short_id {f : List Int} (h : f ≠ [] → c f (f.length - 1) ≠ 0) : short f = f := by
  by_cases hf : f = []
  · subst hf; rfl
  · have hl := List.length_pos_iff.mpr hf
    have e : f = f.take (f.length - 1) ++ [c f (f.length - 1)] := by
      have h1 : f.length - 1 < f.length := by omega
      have h2 : f.take (f.length - 1 + 1) = f.take (f.length - 1) ++ [c f (f.length - 1)] := by rw [c_at h1, List.take_append_getElem h1]
      rw [show f.length - 1 + 1 = f.length by omega, List.take_length] at h2
      exact h2
    have h3 := short_snoc (f.take (f.length - 1)) (c f (f.length - 1))
    rw [← e, if_neg (h hf)] at h3
    exact h3

/-- So much higher. -/
def shn (n : Nat) (g : List Int) : List Int := List.replicate n 0 ++ g
theorem shn_length (n : Nat) (g : List Int) : (shn n g).length = n + g.length := by simp [shn]
theorem shn_succ (n : Nat) (g : List Int) : shn (n + 1) g = 0 :: shn n g := rfl
theorem c_shn : ∀ (n : Nat) (g : List Int) (i : Nat), c (shn n g) i = if i < n then 0 else c g (i - n) := by
  intro n
  induction n with
  | zero => intro g i; simp [shn]
  | succ n ih =>
    intro g i
    rw [shn_succ]
    cases i with
    | zero => simp [c_zero]
    | succ i =>
      rw [c_succ, ih]
      by_cases h : i < n
      · rw [if_pos h, if_pos (by omega)]
      · rw [if_neg h, if_neg (by omega), Nat.add_sub_add_right]

theorem shn_mul : ∀ (n : Nat) (f g : List Int) (i : Nat), c (mul (shn n f) g) i = c (shn n (mul f g)) i := by
  intro n
  induction n with
  | zero => intro f g i; rfl
  | succ n ih =>
    intro f g i
    rw [shn_succ, shn_succ, sh_mul, c_sh]
    cases i with
    | zero => rfl
    | succ i => simp only [pre]; rw [ih]

/-- One number more: a product grows by so many times the other, so much higher. -/
theorem mul_snoc : ∀ (f : List Int) (x : Int) (g : List Int) (i : Nat), c (mul (f ++ [x]) g) i = c (mul f g) i + x * c (shn f.length g) i := by
  intro f
  induction f with
  | nil =>
    intro x g i
    rw [List.nil_append, c_mul]
    have : pre (c (mul [] g)) i = 0 := by cases i <;> rfl
    rw [this, c_mul_nil]
    simp [shn]
  | cons a f ih =>
    intro x g i
    rw [List.cons_append, c_mul, c_mul, List.length_cons, shn_succ, c_sh]
    cases i with
    | zero => simp [pre]
    | succ i => simp only [pre]; rw [ih]; omega

/-- f, and so many times g so much higher. -/
def plus (f : List Int) (by_ : Int) (g : List Int) (high : Nat) : List Int := add f (sc by_ (shn high g))
theorem c_plus (f : List Int) (b : Int) (g : List Int) (h i : Nat) : c (plus f b g h) i = c f i + b * (if i < h then 0 else c g (i - h)) := by rw [plus, c_add, c_sc, c_shn]

theorem plus_prod {p : Int} (hp : 0 < p) {f g : List Int} {k : Nat} (h : k < f.length) : red p (plus (red p (mul (f.take k) g)) (c f k) g k) = red p (mul (f.take (k + 1)) g) := by
  refine red_cg hp fun i => ?_
  have e : f.take (k + 1) = f.take k ++ [c f k] := by rw [c_at h, List.take_append_getElem h]
  have hl : (f.take k).length = k := by simp; omega
  rw [e, mul_snoc, hl, plus, c_add, c_sc]
  have := cg_red p (mul (f.take k) g) i
  rwa [show c (red p (mul (f.take k) g)) i + c f k * c (shn k g) i - (c (mul (f.take k) g) i + c f k * c (shn k g) i) = c (red p (mul (f.take k) g)) i - c (mul (f.take k) g) i by omega]

/-- One step of a division: so many times g, so much higher, goes over. -/
theorem dv_step {p : Int} {f g q r : List Int} (h : Dv p f g q r) (a : Int) (k : Nat) : Dv p f g (plus q a [1] k) (plus r (-a) g k) := by
  refine Cg.trans (Cg.of_eq fun i => ?_) h
  rw [c_add, plus, plus, add_mul, sc_mul, shn_mul, c_add, c_sc, c_add]
  have e : c (shn k (mul [1] g)) i = c (shn k g) i := by rw [c_shn, c_shn, one_mul]
  rw [e]
  grind

theorem Dv.cg {p : Int} {f g q r q' r' : List Int} (h : Dv p f g q r) (hq : Cg p q' q) (hr : Cg p r' r) : Dv p f g q' r' := ((hq.mul (Cg.refl p g)).add hr).trans h

theorem dv_start (p : Int) (f g : List Int) : Dv p f g [] f := Cg.of_eq fun i => by rw [c_add, c_mul_nil, Int.zero_add]

/-- The step strikes the last number. -/
theorem step_less {p a : Int} {r g : List Int} (hp : 0 < p) (hr : r ≠ []) (hg : g ≠ []) (hl : g.length ≤ r.length) (ha : p ∣ a * c g (g.length - 1) - c r (r.length - 1)) : (red p (plus r (-a) g (r.length - g.length))).length < r.length := by
  have l1 := List.length_pos_iff.mpr hr
  have l2 := List.length_pos_iff.mpr hg
  have hc : ∀ i, r.length - 1 ≤ i → c (red p (plus r (-a) g (r.length - g.length))) i = 0 := fun i hi => by
    have hni : ¬ i < r.length - g.length := by omega
    rw [c_red, c_plus, if_neg hni]
    refine Int.emod_eq_zero_of_dvd ?_
    by_cases h : i = r.length - 1
    · subst h
      have e1 : r.length - 1 - (r.length - g.length) = g.length - 1 := by omega
      rw [e1]
      have := Int.dvd_neg.mpr ha
      rwa [show -(a * c g (g.length - 1) - c r (r.length - 1)) = c r (r.length - 1) + -a * c g (g.length - 1) by grind] at this
    · rw [c_over (f := r) (i := i) (by omega), c_over (f := g) (i := i - (r.length - g.length)) (by omega), Int.mul_zero, Int.add_zero]
      exact Int.dvd_zero p
  have hcr := can_red (p := p) hp (plus r (-a) g (r.length - g.length))
  refine Decidable.byContradiction fun h => ?_
  have hne : red p (plus r (-a) g (r.length - g.length)) ≠ [] := fun e => h (by rw [e]; exact l1)
  exact hcr.2 hne (hc _ (by omega))

-- Values, number by number.
theorem ev_snoc : ∀ (f : List Int) (a x : Int), ev (f ++ [a]) x = ev f x + a * x ^ f.length := by
  intro f
  induction f with
  | nil => intro a x; simp [ev]
  | cons b f ih =>
    intro a x
    rw [List.cons_append]
    simp only [ev]
    rw [ih, List.length_cons, Int.pow_succ]
    grind

theorem ev_take {f : List Int} {k : Nat} (h : k < f.length) (x : Int) : ev (f.take (k + 1)) x = ev (f.take k) x + c f k * x ^ k := by
  have e : f.take (k + 1) = f.take k ++ [c f k] := by rw [c_at h, List.take_append_getElem h]
  have hl : (f.take k).length = k := by simp; omega
  rw [e, ev_snoc, hl]

theorem ev_drop {f : List Int} {k : Nat} (h : k < f.length) (x : Int) : ev (f.drop k) x = c f k + x * ev (f.drop (k + 1)) x := by
  rw [List.drop_eq_getElem_cons h, c_at h]
  rfl

/-- One step of HORNER's. -/
theorem horner {p y : Int} {f : List Int} {k : Nat} (h : k < f.length) (x : Int) (hy : y = ev (f.drop (k + 1)) x % p) : (y * x + c f k) % p = ev (f.drop k) x % p ∧ (c f k + y * x) % p = ev (f.drop k) x % p ∧ (y * (x % p) + c f k) % p = ev (f.drop k) x % p := by
  have e1 : (y * x + c f k) % p = ev (f.drop k) x % p := by
    rw [ev_drop h, hy, Int.add_emod, Rs.mul_emod_left, ← Int.add_emod, Int.mul_comm, Int.add_comm]
  refine ⟨e1, by rw [Int.add_comm]; exact e1, ?_⟩
  rw [← e1, Int.add_emod, Rs.mul_emod_right, ← Int.add_emod]

/-- The inverse of what is not nought. -/
theorem inv_some {p a : Int} (hp : Prm p) (ha : ¬ p ∣ a) : ∃ b, 1 ≤ b ∧ b < p ∧ p ∣ b * a - 1 := by
  have p0 := hp.1
  have h := fermat_one hp ha
  refine ⟨a ^ (p.toNat - 2) % p, ?_, Int.emod_lt_of_pos _ (by omega), ?_⟩
  · have h1 := Int.emod_nonneg (a ^ (p.toNat - 2)) (b := p) (by omega)
    refine Decidable.byContradiction fun hc => ?_
    have hz : a ^ (p.toNat - 2) % p = 0 := by omega
    have hd := Int.dvd_of_emod_eq_zero hz
    have h2 : p ∣ a ^ (p.toNat - 1) := by
      rw [show p.toNat - 1 = (p.toNat - 2) + 1 by omega, Int.pow_succ]
      exact Int.dvd_mul_of_dvd_left hd
    have h3 : p ∣ 1 := by
      have := Int.dvd_sub h2 h
      rwa [show a ^ (p.toNat - 1) - (a ^ (p.toNat - 1) - 1) = 1 by omega] at this
    have := Int.le_of_dvd (by decide) h3
    omega
  · have e : a ^ (p.toNat - 1) = a ^ (p.toNat - 2) * a := by
      rw [show p.toNat - 1 = (p.toNat - 2) + 1 by omega, Int.pow_succ]
    unfold Rs.One at h
    rw [e] at h
    have h2 := Int.mul_ediv_add_emod (a ^ (p.toNat - 2)) p
    obtain ⟨k, hk⟩ := h
    refine ⟨k - a ^ (p.toNat - 2) / p * a, ?_⟩
    generalize a ^ (p.toNat - 2) = t at *
    generalize t / p = d at *
    generalize t % p = s at *
    rw [← h2] at hk
    grind

end Go.Proofs.Ytgdfmmdjnifjeaa.Po

namespace Go.Proofs.Ytgdfmmdjnifjeaa.Bi
open Pr Eu Rs

theorem ch_step (n k : Nat) : ch (n + 1) (k + 1) = ch n k + ch n (k + 1) := rfl

-- VANDERMONDE.
/-- The first t terms of VANDERMONDE's sum. -/
def vs (m n k : Nat) : Nat → Nat
  | 0 => 0
  | t + 1 => vs m n k t + ch m t * ch n (k - t)

theorem vs_zero (n k : Nat) : ∀ t : Nat, vs 0 n k (t + 1) = ch n k := by
  intro t
  induction t with
  | zero => simp [vs, ch_zero]
  | succ t ih => show vs 0 n k (t + 1) + ch 0 (t + 1) * ch n (k - (t + 1)) = _; rw [ih, ch_big 0 (t + 1) (by omega)]; simp

theorem vs_succ (m n k : Nat) : ∀ t : Nat, vs (m + 1) n (k + 1) (t + 1) = vs m n (k + 1) (t + 1) + vs m n k t := by
  intro t
  induction t with
  | zero => simp [vs, ch_zero]
  | succ t ih =>
    show vs (m + 1) n (k + 1) (t + 1) + ch (m + 1) (t + 1) * ch n (k + 1 - (t + 1)) = (vs m n (k + 1) (t + 1) + ch m (t + 1) * ch n (k + 1 - (t + 1))) + (vs m n k t + ch m t * ch n (k - t))
    rw [ih, ch_step, Nat.add_mul, show k + 1 - (t + 1) = k - t by omega]
    omega

theorem vander (m n : Nat) : ∀ k : Nat, vs m n k (k + 1) = ch (m + n) k := by
  induction m with
  | zero => intro k; rw [vs_zero, Nat.zero_add]
  | succ m ih =>
    intro k
    match k with
    | 0 => simp [vs, ch_zero]
    | k + 1 => rw [vs_succ, ih, ih, show m + 1 + n = m + n + 1 by omega, ch_step, Nat.add_comm]

/-- The first t of a row. -/
def rs (n : Nat) : Nat → Nat
  | 0 => 0
  | t + 1 => rs n t + ch n t

theorem rs_succ (n : Nat) : ∀ t : Nat, rs (n + 1) (t + 1) = rs n (t + 1) + rs n t := by
  intro t
  induction t with
  | zero => simp [rs, ch_zero]
  | succ t ih =>
    show rs (n + 1) (t + 1) + ch (n + 1) (t + 1) = (rs n (t + 1) + ch n (t + 1)) + (rs n t + ch n t)
    rw [ih, ch_step]; omega

/-- A whole row is a power of two. -/
theorem rs_all (n : Nat) : rs n (n + 1) = 2 ^ n := by
  induction n with
  | zero => rfl
  | succ n ih =>
    rw [rs_succ]
    show rs n (n + 1) + ch n (n + 1) + rs n (n + 1) = _
    rw [ch_big n (n + 1) (by omega), ih, Nat.pow_succ]; omega

theorem ch_sym : ∀ (n k : Nat), k ≤ n → ch n (n - k) = ch n k := by
  intro n
  induction n with
  | zero => intro k hk; obtain rfl : k = 0 := by omega
            rfl
  | succ n ih =>
    intro k hk
    match k, hk with
    | 0, _ => rw [Nat.sub_zero, ch_self, ch_zero]
    | k + 1, hk =>
      by_cases he : k = n
      · subst he; rw [Nat.sub_self, ch_self, ch_zero]
      · obtain ⟨j, hj⟩ : ∃ j, n - k = j + 1 := ⟨n - k - 1, by omega⟩
        have h1 := ih k (by omega)
        have h2 := ih (k + 1) (by omega)
        rw [show n + 1 - (k + 1) = j + 1 by omega, ch_step, ch_step, ← h1, ← h2, hj, show n - (k + 1) = j by omega, Nat.add_comm]

/-- From one of a row to the next. -/
theorem ch_next {n i : Nat} (h : i ≤ n) : ch n (i + 1) * (i + 1) = ch n i * (n - i) := by
  have h1 := ch_mul n i
  rw [ch_step, Nat.mul_add] at h1
  obtain ⟨d, rfl⟩ : ∃ d, n = i + d := ⟨n - i, by omega⟩
  rw [show i + d + 1 = (i + 1) + d by omega, Nat.add_mul (i + 1)] at h1
  rw [show i + d - i = d by omega, Nat.mul_comm, Nat.mul_comm (ch (i + d) i)]
  omega

theorem ch_pos {n k : Nat} : k ≤ n → 1 ≤ ch n k := by
  induction n generalizing k with
  | zero => intro h; obtain rfl : k = 0 := by omega
            exact Nat.le_refl 1
  | succ n ih =>
    intro h
    match k, h with
    | 0, _ => rw [ch_zero]; exact Nat.le_refl 1
    | k + 1, h => have := ih (k := k) (by omega); rw [ch_step]; omega

-- How great they are, up to 60.
def nrow (l : List Nat) : List Nat := List.zipWith (· + ·) (0 :: l) (l ++ [0])
def rowsOk : Nat → List Nat → Bool
  | 0, _ => true
  | k + 1, l => l.all (fun x => decide (x ≤ 118264581564861424)) && rowsOk k (nrow l)

def rowN (n : Nat) : List Nat := (List.range (n + 1)).map (ch n)
theorem nrow_row (n : Nat) : nrow (rowN n) = rowN (n + 1) := by
  unfold nrow rowN
  apply List.ext_getElem
  · simp
  · intro i h1 h2
    simp at h1 h2
    rw [List.getElem_zipWith, List.getElem_map, List.getElem_range]
    match i with
    | 0 => simp [ch_zero]
    | i + 1 =>
      rw [List.getElem_cons_succ, List.getElem_map, List.getElem_range, ch_step]
      by_cases h : i + 1 < n + 1
      · rw [List.getElem_append_left (by simpa using h), List.getElem_map, List.getElem_range]
      · rw [List.getElem_append_right (by simp; omega), ch_big n (i + 1) (by omega)]
        simp

theorem rowsOk_at : ∀ (c n : Nat), rowsOk c (rowN n) = true → ∀ d, d < c → ∀ k, k ≤ n + d → ch (n + d) k ≤ 118264581564861424 := by
  intro c
  induction c with
  | zero => intro n _ d hd; omega
  | succ c ih =>
    intro n h d hd k hk
    unfold rowsOk at h
    rw [Bool.and_eq_true] at h
    match d, hd with
    | 0, _ =>
      have := List.all_eq_true.mp h.1 (ch n k) (List.mem_map.mpr ⟨k, List.mem_range.mpr (by omega), rfl⟩)
      simpa using this
    | d + 1, hd =>
      have := ih (n + 1) (by rw [← nrow_row]; exact h.2) d (by omega) k (by omega)
      rwa [show n + 1 + d = n + (d + 1) by omega] at this

theorem ch_bound {n k : Nat} (h : n ≤ 60) : ch n k ≤ 118264581564861424 := by
  by_cases hk : k ≤ n
  · have := rowsOk_at 61 0 (by decide +kernel) n (by omega) k (by omega)
    rwa [Nat.zero_add] at this
  · rw [ch_big n k (by omega)]; omega

-- Factorials, LEGENDRE, KUMMER.
def fa : Nat → Nat
  | 0 => 1
  | n + 1 => (n + 1) * fa n

theorem ch_fa : ∀ (n k : Nat), k ≤ n → ch n k * (fa k * fa (n - k)) = fa n := by
  intro n
  induction n with
  | zero => intro k hk; obtain rfl : k = 0 := by omega
            rfl
  | succ n ih =>
    intro k hk
    match k, hk with
    | 0, _ => rw [ch_zero, Nat.sub_zero]; show 1 * (1 * fa (n + 1)) = _; omega
    | k + 1, hk =>
      have h1 := ih k (by omega)
      rw [show n + 1 - (k + 1) = n - k by omega]
      show ch (n + 1) (k + 1) * ((k + 1) * fa k * fa (n - k)) = (n + 1) * fa n
      rw [← h1, Nat.mul_assoc (k + 1), ← Nat.mul_assoc, Nat.mul_comm (ch (n + 1) (k + 1)), ch_mul, Nat.mul_assoc]

/-- How often p divides what n things can be ordered in: LEGENDRE. -/
def often (p n : Nat) : Nat := if _h : 2 ≤ p ∧ 0 < n then n / p + often p (n / p) else 0
termination_by n
decreasing_by exact Nat.div_lt_self _h.2 (by omega)

theorem often_zero (p : Nat) : often p 0 = 0 := by rw [often, dif_neg (by omega)]
theorem often_step {p : Nat} (hp : 2 ≤ p) (n : Nat) : often p n = n / p + often p (n / p) := by
  by_cases h : 0 < n
  · rw [often, dif_pos ⟨hp, h⟩]
  · obtain rfl : n = 0 := by omega
    rw [often_zero, Nat.zero_div, often_zero]

theorem vp_some {p : Nat} (hp : 2 ≤ p) : ∀ n : Nat, 1 ≤ n → ∃ k, Vp p n k := by
  intro n
  induction n using Nat.strongRecOn with
  | ind n ih =>
    intro hn
    by_cases hd : p ∣ n
    · obtain ⟨m, rfl⟩ := hd
      have hm : 1 ≤ m := by
        refine Decidable.byContradiction fun h => ?_
        obtain rfl : m = 0 := by omega
        omega
      have hlt : m < p * m := by
        have : 2 * m ≤ p * m := Nat.mul_le_mul_right m hp
        omega
      obtain ⟨k, x, hx, hnx⟩ := ih m hlt hm
      exact ⟨k + 1, x, by rw [Int.natCast_mul, hx, Int.pow_succ]; ac_rfl, hnx⟩
    · exact ⟨0, vp_zero (fun h => hd (Int.natCast_dvd_natCast.mp h))⟩

theorem div_pred {p n : Nat} (hp : 2 ≤ p) (h : n % p ≠ 0) : (n - 1) / p = n / p := by
  have h3 := Nat.div_add_mod n p
  have h4 := Nat.mod_lt n (y := p) (by omega)
  generalize n % p = r at *
  generalize n / p = q at *
  subst h3
  rw [show p * q + r - 1 = (r - 1) + p * q by omega, Nat.add_mul_div_left _ _ (by omega), Nat.div_eq_of_lt (by omega), Nat.zero_add]

theorem often_vp {p : Nat} (hp : Prm p) : ∀ n : Nat, 1 ≤ n → ∀ k, Vp p n k → often p n = often p (n - 1) + k := by
  have hp2 : 2 ≤ p := by have := hp.1; omega
  intro n
  induction n using Nat.strongRecOn with
  | ind n ih =>
    intro hn k hk
    by_cases hd : p ∣ n
    · obtain ⟨m, rfl⟩ := hd
      have hm : 1 ≤ m := by
        refine Decidable.byContradiction fun h => ?_
        obtain rfl : m = 0 := by omega
        omega
      have hlt : m < p * m := by
        have : 2 * m ≤ p * m := Nat.mul_le_mul_right m hp2
        omega
      obtain ⟨j, hj⟩ := vp_some hp2 m hm
      have hj1 : Vp p ((p * m : Nat) : Int) (j + 1) := by
        obtain ⟨x, hx, hnx⟩ := hj
        exact ⟨x, by rw [Int.natCast_mul, hx, Int.pow_succ]; ac_rfl, hnx⟩
      have hkj := hk.uniq (by omega) hj1
      have h1 := ih m hlt hm j hj
      have e1 : p * m / p = m := Nat.mul_div_cancel_left m (by omega)
      have e2 : (p * m - 1) / p = m - 1 := by
        obtain ⟨q, rfl⟩ : ∃ q, m = q + 1 := ⟨m - 1, by omega⟩
        rw [Nat.mul_succ, show p * q + p - 1 = p - 1 + p * q by omega, Nat.add_mul_div_left _ _ (by omega), Nat.div_eq_of_lt (by omega)]
        omega
      rw [often_step hp2 (p * m), often_step hp2 (p * m - 1), e1, e2]
      omega
    · have hk0 := hk.uniq (by omega) (vp_zero (fun h => hd (Int.natCast_dvd_natCast.mp h)))
      have e : n / p = (n - 1) / p := by
        have hne : n % p ≠ 0 := fun h => hd (Nat.dvd_of_mod_eq_zero h)
        exact (div_pred hp2 hne).symm
      rw [often_step hp2 n, often_step hp2 (n - 1), e]
      omega

theorem vp_fa {p : Nat} (hp : Prm p) (n : Nat) : Vp p (fa n : Nat) (often p n) := by
  have hp2 : 2 ≤ p := by have := hp.1; omega
  induction n with
  | zero =>
    rw [often_zero]
    refine vp_zero fun h => ?_
    have := Int.le_of_dvd (by decide) h
    have e : ((fa 0 : Nat) : Int) = 1 := rfl
    omega
  | succ n ih =>
    obtain ⟨k, hk⟩ := vp_some hp2 (n + 1) (by omega)
    have h1 := often_vp hp (n + 1) (by omega) k hk
    rw [show n + 1 - 1 = n by omega] at h1
    have := Vp.mul hp hk ih
    rw [show often p (n + 1) = k + often p n by omega]
    show Vp p (((n + 1) * fa n : Nat) : Int) _
    rw [Int.natCast_mul]
    exact this

/-- LEGENDRE, of choices. -/
theorem kummer {p : Nat} (hp : Prm p) {n k : Nat} (hk : k ≤ n) : ∃ e, Vp p (ch n k : Nat) e ∧ e + (often p k + often p (n - k)) = often p n := by
  have hp2 : 2 ≤ p := by have := hp.1; omega
  obtain ⟨e, he⟩ := vp_some hp2 (ch n k) (ch_pos hk)
  have h1 := Vp.mul hp he (Vp.mul hp (vp_fa hp k) (vp_fa hp (n - k)))
  rw [← Int.natCast_mul, ← Int.natCast_mul, ch_fa n k hk] at h1
  exact ⟨e, he, h1.uniq (by omega) (vp_fa hp n)⟩

theorem vp_pos {p n : Int} {e : Nat} (h : Vp p n e) : 0 < e ↔ p ∣ n := by
  obtain ⟨m, hm, hnd⟩ := h
  constructor
  · intro he
    obtain ⟨j, rfl⟩ : ∃ j, e = j + 1 := ⟨e - 1, by omega⟩
    rw [hm, Int.pow_succ, Int.mul_comm (p ^ j), Int.mul_assoc]
    exact Int.dvd_mul_right _ _
  · intro hd
    refine Decidable.byContradiction fun hc => ?_
    obtain rfl : e = 0 := by omega
    rw [Int.pow_zero, Int.one_mul] at hm
    exact hnd (hm ▸ hd)

/-- What is carried: one place. -/
theorem carry_div {p k l c : Nat} (hp : 2 ≤ p) : (k + l + c) / p = k / p + l / p + (k % p + l % p + c) / p := by
  have h1 := Nat.div_add_mod k p
  have h2 := Nat.div_add_mod l p
  have e : k + l + c = (k % p + l % p + c) + p * (k / p + l / p) := by rw [Nat.mul_add]; omega
  rw [e, Nat.add_mul_div_left _ _ (by omega)]
  have h3 := Nat.mod_mod k p
  omega

theorem carry_often {p k l c : Nat} (hp : 2 ≤ p) {d : Nat} (hd : (k % p + l % p + c) / p = d) {T : Nat} (h : often p (k / p + l / p + d) = often p (k / p) + often p (l / p) + T) :
    often p (k + l + c) = often p k + often p l + (d + T) := by
  rw [often_step hp (k + l + c), often_step hp k, often_step hp l, carry_div hp, hd, h]
  omega

-- LUCAS.
theorem vs_mod {p : Nat} (hp : Prm p) (n k : Nat) : ∀ t : Nat, vs p n k (t + 1) % p = (ch n k + if p ≤ t then ch n (k - p) else 0) % p := by
  have hp2 : 2 ≤ p := by have := hp.1; omega
  intro t
  induction t with
  | zero => rw [if_neg (by omega)]; simp [vs, ch_zero]
  | succ t ih =>
    show (vs p n k (t + 1) + ch p (t + 1) * ch n (k - (t + 1))) % p = _
    rw [Nat.add_mod, ih]
    by_cases h1 : t + 1 < p
    · have hd : p ∣ ch p (t + 1) := Int.natCast_dvd_natCast.mp (prm_dvd_ch hp (by omega) h1)
      rw [if_neg (by omega), if_neg (by omega), Nat.mod_eq_zero_of_dvd (Nat.dvd_trans hd (Nat.dvd_mul_right _ _))]
      simp
    · by_cases h2 : t + 1 = p
      · rw [if_neg (by omega), if_pos (by omega), h2, ch_self, Nat.one_mul, Nat.add_zero, ← Nat.add_mod]
      · rw [if_pos (by omega), if_pos (by omega), ch_big p (t + 1) (by omega)]
        simp

theorem ch_add_p {p : Nat} (hp : Prm p) (n k : Nat) : ch (p + n) k % p = (ch n k + if p ≤ k then ch n (k - p) else 0) % p := by
  rw [← vander, vs_mod hp]

theorem lucas_ab {p : Nat} (hp : Prm p) {b d : Nat} (hb : b < p) (hd : d < p) : ∀ a c : Nat, ch (a * p + b) (c * p + d) % p = ch a c * ch b d % p := by
  intro a
  induction a with
  | zero =>
    intro c
    match c with
    | 0 => rw [Nat.zero_mul, Nat.zero_add, Nat.zero_add, ch_zero, Nat.one_mul]
    | c + 1 =>
      rw [Nat.zero_mul, Nat.zero_add, ch_big b _ (by rw [Nat.succ_mul]; omega), ch_big 0 (c + 1) (by omega), Nat.zero_mul]
  | succ a ih =>
    intro c
    rw [show (a + 1) * p + b = p + (a * p + b) by rw [Nat.succ_mul]; omega, ch_add_p hp]
    match c with
    | 0 =>
      have h := ih 0
      rw [Nat.zero_mul, Nat.zero_add, ch_zero] at h ⊢
      rw [if_neg (by omega), Nat.add_zero, h]
    | c + 1 =>
      have e : (c + 1) * p + d - p = c * p + d := by rw [Nat.succ_mul]; omega
      rw [if_pos (by rw [Nat.succ_mul]; omega), e, Nat.add_mod, ih, ih, ← Nat.add_mod, ch_step, Nat.add_mul, Nat.add_comm]

/-- LUCAS. -/
theorem lucas {p : Nat} (hp : Prm p) (n k : Nat) : ch n k % p = ch (n / p) (k / p) * ch (n % p) (k % p) % p := by
  have hp2 : 2 ≤ p := by have := hp.1; omega
  have := lucas_ab hp (Nat.mod_lt n (y := p) (by omega)) (Nat.mod_lt k (y := p) (by omega)) (n / p) (k / p)
  rwa [Nat.mul_comm (n / p), Nat.mul_comm (k / p), Nat.div_add_mod, Nat.div_add_mod] at this

end Go.Proofs.Ytgdfmmdjnifjeaa.Bi

namespace Go.Proofs.Ytgdfmmdjnifjeaa.Bi
open Pr Eu Rs

/-- a (a - 1) .. (a - i + 1). -/
def ff (a : Nat) : Nat → Nat
  | 0 => 1
  | i + 1 => ff a i * (a - i)

theorem ff_ch (a : Nat) : ∀ b : Nat, ff a b = ch a b * fa b := by
  intro b
  induction b with
  | zero => simp [ff, fa, ch_zero]
  | succ b ih =>
    show ff a b * (a - b) = ch a (b + 1) * ((b + 1) * fa b)
    rw [ih, ← Nat.mul_assoc]
    by_cases h : b ≤ a
    · rw [ch_next h]; ac_rfl
    · rw [ch_big a b (by omega), ch_big a (b + 1) (by omega)]; simp

theorem ff_over {a i : Nat} (h : a < i) : ff a i = 0 := by rw [ff_ch, ch_big a i h, Nat.zero_mul]

theorem same_mul {p a b c d : Int} (h : a % p = b % p) (k : c % p = d % p) : a * c % p = b * d % p := by
  rw [Int.mul_emod, h, k, ← Int.mul_emod]

theorem ff_step {p t T : Int} {a i : Nat} (ha : i ≤ a) (h : t % p = T * ff a i % p) : t * ((a : Int) - i) % p % p = T * ff a (i + 1) % p := by
  rw [Int.emod_emod, same_mul h rfl]
  have e : ((ff a (i + 1) : Nat) : Int) = ff a i * ((a : Int) - i) := by
    show ((ff a i * (a - i) : Nat) : Int) = _
    rw [Int.natCast_mul, Int.natCast_sub ha]
  rw [e, Int.mul_assoc]

theorem fa_step {p b B : Int} {i : Nat} (h : b % p = B * fa i % p) : b * ((i : Int) + 1) % p % p = B * fa (i + 1) % p := by
  rw [Int.emod_emod, same_mul h rfl]
  have e : ((fa (i + 1) : Nat) : Int) = fa i * ((i : Int) + 1) := by
    show (((i + 1) * fa i : Nat) : Int) = _
    rw [Int.natCast_mul]
    have : ((i + 1 : Nat) : Int) = (i : Int) + 1 := by omega
    rw [this, Int.mul_comm]
  rw [e, Int.mul_assoc]

theorem lucasZ {p : Nat} (hp : Prm p) (n k : Nat) : (ch n k : Int) % p = (ch (n / p) (k / p) : Int) * (ch (n % p) (k % p) : Int) % p := by
  have := congrArg (Nat.cast (R := Int)) (lucas hp n k)
  rwa [Int.natCast_emod, Int.natCast_emod, Int.natCast_mul] at this

/-- One place of LUCAS's product. -/
theorem mod_round {p : Nat} (hp : Prm p) {n k : Nat} {T B t b C : Int} (h : T * (ch n k : Int) % p = B * C % p)
    (ht : t % p = T * (ff (n % p) (k % p) : Int) % p) (hb : b % p = B * (fa (k % p) : Int) % p) : t * (ch (n / p) (k / p) : Int) % p = b * C % p := by
  rw [same_mul ht rfl, same_mul hb rfl, ff_ch, Int.natCast_mul]
  have e1 : T * ((ch (n % p) (k % p) : Int) * (fa (k % p) : Int)) * (ch (n / p) (k / p) : Int) = (T * ((ch (n / p) (k / p) : Int) * (ch (n % p) (k % p) : Int))) * (fa (k % p) : Int) := by ac_rfl
  have e2 : B * (fa (k % p) : Int) * C = (B * C) * (fa (k % p) : Int) := by ac_rfl
  rw [e1, e2]
  exact same_mul (by rw [← h]; exact same_mul rfl (lucasZ hp n k).symm) rfl

theorem mod_end {p T B C x : Int} (h : T * 1 % p = B * C % p) (hx : x * B % p = 1 % p) : T * x % p = C % p := by
  rw [Int.mul_one] at h
  rw [same_mul h rfl, show B * C * x = x * B * C by ac_rfl, same_mul hx rfl, Int.one_mul]

theorem fa_not {p : Nat} (hp : Prm p) : ∀ i : Nat, i < p → ¬ (p : Int) ∣ (fa i : Int) := by
  intro i
  induction i with
  | zero =>
    intro _ h
    have := Int.le_of_dvd (by decide) h
    have e : ((fa 0 : Nat) : Int) = 1 := rfl
    have := hp.1
    omega
  | succ i ih =>
    intro hi h
    have e : ((fa (i + 1) : Nat) : Int) = ((i + 1 : Nat) : Int) * fa i := by
      show (((i + 1) * fa i : Nat) : Int) = _
      rw [Int.natCast_mul]
    rw [e] at h
    rcases euclid hp h with h1 | h1
    · have := Int.le_of_dvd (by omega) h1
      omega
    · exact ih (by omega) h1

theorem not_next {p : Nat} (hp : Prm p) {b B : Int} {i : Nat} (hi : i < p) (hB : ¬ (p : Int) ∣ B) (h : b % p = B * (fa i : Int) % p) : ¬ (p : Int) ∣ b := fun hd => by
  have h1 := Int.emod_eq_zero_of_dvd hd
  rw [h] at h1
  rcases euclid hp (Int.dvd_of_emod_eq_zero h1) with h2 | h2
  · exact hB h2
  · exact fa_not hp i hi h2

theorem not_one {p : Nat} (hp : Prm p) : ¬ (p : Int) ∣ 1 := fun h => by
  have := Int.le_of_dvd (by decide) h
  have := hp.1
  omega

theorem prm_G {p b : Int} (hp : Prm p) (hb : ¬ p ∣ b) : G b p = 1 := by
  have h2 := hp.1
  have h1 := G_pos (a := b) (b := p) (.inr (by omega))
  have hd := G_dvd_right b p
  have hle := Int.le_of_dvd (by omega) hd
  refine Decidable.byContradiction fun hc => ?_
  by_cases h : G b p < p
  · exact hp.2 _ (by omega) h hd
  · have e : G b p = p := by omega
    exact hb (e ▸ G_dvd_left b p)

theorem often_le {p : Nat} (hp : 2 ≤ p) : ∀ n : Nat, often p n ≤ n := by
  intro n
  induction n using Nat.strongRecOn with
  | ind n ih =>
    by_cases h : 0 < n
    · rw [often_step hp]
      have h1 := Nat.div_lt_self h (show 1 < p by omega)
      have h2 := ih (n / p) h1
      have h3 : n / p * 2 ≤ n := Nat.le_trans (Nat.mul_le_mul_left _ hp) (Nat.div_mul_le_self n p)
      omega
    · obtain rfl : n = 0 := by omega
      rw [often_zero]; exact Nat.le_refl 0

/-- From one of a row to the next, divided. -/
theorem ch_div {n i : Nat} (h : i ≤ n) : (ch n i : Int) * ((n : Int) - i) / ((i : Int) + 1) = (ch n (i + 1) : Int) := by
  have h1 := congrArg (Nat.cast (R := Int)) (ch_next h)
  rw [Int.natCast_mul, Int.natCast_mul, Int.natCast_sub h] at h1
  rw [← h1, show ((i + 1 : Nat) : Int) = (i : Int) + 1 by omega, Int.mul_ediv_cancel _ (by omega)]

theorem ch_prod {n i : Nat} (hn : n ≤ 60) (h : i ≤ n) : 0 ≤ (ch n i : Int) * ((n : Int) - i) ∧ (ch n i : Int) * ((n : Int) - i) ≤ 7095874893891685440 := by
  have h1 := ch_bound (n := n) (k := i) hn
  have h2 : ch n i * (n - i) ≤ 118264581564861424 * 60 := Nat.mul_le_mul h1 (by omega)
  have e : (ch n i : Int) * ((n : Int) - i) = ((ch n i * (n - i) : Nat) : Int) := by rw [Int.natCast_mul, Int.natCast_sub h]
  rw [e]
  omega

/-- The other way round, by the document's road. -/
theorem ch_min {n k : Nat} (h : k ≤ n) : ch n (min k (n - k)) = ch n k := by
  by_cases hk : k ≤ n - k
  · rw [Nat.min_eq_left hk]
  · rw [Nat.min_eq_right (by omega), ch_sym n k h]

theorem vs_mono (m n k : Nat) : ∀ t s : Nat, t ≤ s → vs m n k t ≤ vs m n k s := by
  intro t s h
  induction s with
  | zero => obtain rfl : t = 0 := by omega
            exact Nat.le_refl _
  | succ s ih =>
    by_cases e : t = s + 1
    · subst e; exact Nat.le_refl _
    · have := ih (by omega)
      show _ ≤ vs m n k s + _
      omega
theorem rs_mono (n : Nat) : ∀ t s : Nat, t ≤ s → rs n t ≤ rs n s := by
  intro t s h
  induction s with
  | zero => obtain rfl : t = 0 := by omega
            exact Nat.le_refl _
  | succ s ih =>
    by_cases e : t = s + 1
    · subst e; exact Nat.le_refl _
    · have := ih (by omega)
      show _ ≤ rs n s + _
      omega

/-- A row by p, from the row before, from behind. -/
theorem row_step {p : Int} {j i : Nat} (hi : 1 ≤ i) {x y : Int} (hx : x = (ch j i : Int) % p) (hy : y = (ch j (i - 1) : Int) % p) : (x + y) % p = (ch (j + 1) i : Int) % p := by
  obtain ⟨i, rfl⟩ : ∃ k, i = k + 1 := ⟨i - 1, by omega⟩
  rw [Nat.add_sub_cancel] at hy
  subst hx hy
  rw [← Int.add_emod, ch_step, Int.natCast_add, Int.add_comm]

end Go.Proofs.Ytgdfmmdjnifjeaa.Bi

namespace Go.Proofs.Ytgdfmmdjnifjeaa.Ch
open Eu Rs

/-- A congruence (R, M) that Check lets through. -/
def OkR (r : Int × Int) : Prop := 1 ≤ r.2 ∧ r.2 ≤ 1000 ∧ 0 ≤ r.1 ∧ r.1 < r.2
/-- The same, the other way and by program. -/
def badR (r : Int × Int) : Bool := decide (r.2 < 1) || decide (1000 < r.2) || decide (r.1 < 0) || decide (r.2 ≤ r.1)
theorem badR_iff (r : Int × Int) : badR r = false ↔ OkR r := by
  unfold badR OkR
  simp only [Bool.or_eq_false_iff, decide_eq_false_iff_not]
  omega
/-- What Check answers. -/
def chk (l : List (Int × Int)) : Int := if 6 < l.length then 2 else if l.any badR then 1 else 0
theorem chk_zero {l : List (Int × Int)} : chk l = 0 ↔ l.length ≤ 6 ∧ ∀ r ∈ l, OkR r := by
  unfold chk
  by_cases h : 6 < l.length
  · rw [if_pos h]
    constructor
    · intro h2; omega
    · intro h2; omega
  · rw [if_neg h]
    cases h2 : l.any badR
    · simp only [Bool.false_eq_true, if_false, true_iff]
      refine ⟨by omega, fun r hr => (badR_iff r).mp ?_⟩
      have := List.any_eq_false.mp h2 r hr
      simpa using this
    · simp only [if_true]
      obtain ⟨r, hr, hb⟩ := List.any_eq_true.mp h2
      constructor
      · intro h3; omega
      · rintro ⟨_, h3⟩
        have := (badR_iff r).mpr (h3 r hr)
        rw [this] at hb; cases hb

/-- y leaves all these remainders. -/
def Sol (l : List (Int × Int)) (y : Int) : Prop := ∀ r ∈ l, y % r.2 = r.1

/-- The numbers that leave all these remainders are those that leave n by M. -/
def Joined (l : List (Int × Int)) (n M : Int) : Prop := 1 ≤ M ∧ 0 ≤ n ∧ n < M ∧ ∀ y, Sol l y ↔ y % M = n

/-- What all moduli divide. -/
def lcs (l : List (Int × Int)) : Int := l.foldl (fun M r => L M r.2) 1

theorem lcs_snoc (l : List (Int × Int)) (r : Int × Int) : lcs (l ++ [r]) = L (lcs l) r.2 := by simp [lcs]

theorem Sol.nil (y : Int) : Sol [] y := fun _ h => by cases h
theorem Sol.snoc {l : List (Int × Int)} {r : Int × Int} {y : Int} : Sol (l ++ [r]) y ↔ Sol l y ∧ y % r.2 = r.1 := by
  unfold Sol
  constructor
  · intro h
    exact ⟨fun q hq => h q (by simp [hq]), h r (by simp)⟩
  · rintro ⟨h1, h2⟩ q hq
    rcases List.mem_append.mp hq with h | h
    · exact h1 q h
    · obtain rfl := List.mem_singleton.mp h
      exact h2

theorem Joined.nil : Joined [] 0 1 := ⟨by omega, by omega, by omega, fun y => ⟨fun _ => Int.emod_one y, fun _ => Sol.nil y⟩⟩

theorem Joined.sol {l : List (Int × Int)} {n M : Int} (h : Joined l n M) : Sol l n := (h.2.2.2 n).mpr (Int.emod_eq_of_lt h.2.1 h.2.2.1)

/-- One set of numbers has one smallest number and one step. -/
theorem Joined.uniq {l k : List (Int × Int)} {n M x N : Int} (h : Joined l n M) (g : Joined k x N) (hs : ∀ y, Sol l y ↔ Sol k y) : n = x ∧ M = N := by
  have e : ∀ y, y % M = n ↔ y % N = x := fun y => by rw [← h.2.2.2 y, hs y, g.2.2.2 y]
  have h0 := h.1
  have g0 := g.1
  have e1 := (e n).mp (Int.emod_eq_of_lt h.2.1 h.2.2.1)
  have e2 := (e x).mpr (Int.emod_eq_of_lt g.2.1 g.2.2.1)
  have d1 := (e (n + M)).mp (by rw [Int.add_emod_right]; exact Int.emod_eq_of_lt h.2.1 h.2.2.1)
  have d2 := (e (x + N)).mpr (by rw [Int.add_emod_right]; exact Int.emod_eq_of_lt g.2.1 g.2.2.1)
  have hM : N ∣ M := by
    have : (n + M - n) % N = 0 := Int.emod_eq_emod_iff_emod_sub_eq_zero.mp (d1.trans e1.symm)
    exact Int.dvd_of_emod_eq_zero (by rw [show n + M - n = M by omega] at this; exact this)
  have hN : M ∣ N := by
    have : (x + N - x) % M = 0 := Int.emod_eq_emod_iff_emod_sub_eq_zero.mp (d2.trans e2.symm)
    exact Int.dvd_of_emod_eq_zero (by rw [show x + N - x = N by omega] at this; exact this)
  have l1 := Int.le_of_dvd (by omega) hM
  have l2 := Int.le_of_dvd (by omega) hN
  have eM : M = N := by omega
  subst eM
  refine ⟨?_, rfl⟩
  rw [← e1, Int.emod_eq_of_lt h.2.1 h.2.2.1]

theorem dvd_sub_of_mod {y m r : Int} (h : y % m = r) : m ∣ y - r := by
  have := Int.dvd_self_sub_emod (x := y) (m := m)
  rwa [h] at this

theorem mod_of_dvd {y m r : Int} (h : m ∣ y - r) (h0 : 0 ≤ r) (h1 : r < m) : y % m = r := by
  have := Int.emod_eq_emod_iff_emod_sub_eq_zero.mpr (Int.emod_eq_zero_of_dvd h)
  rw [this, Int.emod_eq_of_lt h0 h1]

/-- No number fits both. -/
theorem Joined.none {l : List (Int × Int)} {n M : Int} (h : Joined l n M) {r : Int × Int} (hd : ¬ G M r.2 ∣ r.1 - n) : ∀ y, ¬ Sol (l ++ [r]) y := by
  intro y hy
  obtain ⟨h1, h2⟩ := Sol.snoc.mp hy
  have h3 := dvd_sub_of_mod ((h.2.2.2 y).mp h1)
  have h4 := dvd_sub_of_mod h2
  have h5 := Int.dvd_sub (Int.dvd_trans (G_dvd_left M r.2) h3) (Int.dvd_trans (G_dvd_right M r.2) h4)
  exact hd (by rw [show y - n - (y - r.1) = r.1 - n by omega] at h5; exact h5)

theorem L_div {M m : Int} (hM : 1 ≤ M) (hm : 1 ≤ m) : L M m = M * (m / G M m) := by
  have hg := G_pos (a := M) (b := m) (.inl (by omega))
  obtain ⟨A, hA⟩ := G_dvd_left M m
  obtain ⟨B, hB⟩ := G_dvd_right M m
  rw [L_val]
  have e1 : (M.natAbs : Int) = M := by omega
  have e2 : (m.natAbs : Int) = m := by omega
  rw [e1, e2]
  have d1 : M / G M m = A := by
    refine Int.ediv_eq_of_eq_mul_right (by omega) hA
  have d2 : m / G M m = B := by
    refine Int.ediv_eq_of_eq_mul_right (by omega) hB
  rw [d1, d2]
  calc A * m = A * (G M m * B) := by rw [← hB]
    _ = G M m * A * B := by rw [← Int.mul_assoc, Int.mul_comm A]
    _ = M * B := by rw [← hA]

theorem dvd_L {a b c : Int} (h : a ∣ c) (k : b ∣ c) : L a b ∣ c := by unfold L; exact Int.coe_lcm_dvd h k
theorem dvd_L_left (a b : Int) : a ∣ L a b := by unfold L; exact Int.dvd_lcm_left a b
theorem dvd_L_right (a b : Int) : b ∣ L a b := by unfold L; exact Int.dvd_lcm_right a b

theorem G_div {M m : Int} (hM : 1 ≤ M) : G (M / G M m) (m / G M m) = 1 := by
  have hg := G_pos (a := M) (b := m) (.inl (by omega))
  unfold G at hg ⊢
  have := Int.gcd_ediv_gcd_ediv_gcd (i := M) (j := m) (by omega)
  omega

/-- The step: how often the first step is taken until the new remainder is met. -/
theorem met {M m n r x : Int} (hM : 1 ≤ M) (hd : G M m ∣ r - n) (hx : x * (M / G M m) % (m / G M m) = 1 % (m / G M m)) :
    m ∣ n + M * ((r - n) / G M m * x % (m / G M m)) - r := by
  have hg := G_pos (a := M) (b := m) (.inl (by omega))
  obtain ⟨g, hge⟩ : ∃ g, G M m = g := ⟨_, rfl⟩
  obtain ⟨A, hA⟩ := G_dvd_left M m
  obtain ⟨B, hB⟩ := G_dvd_right M m
  obtain ⟨e, he⟩ := hd
  rw [hge] at hA hB he hg
  have d1 : M / g = A := Int.ediv_eq_of_eq_mul_right (by omega) hA
  have d2 : m / g = B := Int.ediv_eq_of_eq_mul_right (by omega) hB
  have d3 : (r - n) / g = e := Int.ediv_eq_of_eq_mul_right (by omega) he
  rw [hge, d1, d2] at hx
  rw [hge, d2, d3]
  obtain ⟨s, hs⟩ : B ∣ x * A - 1 := Int.dvd_of_emod_eq_zero (Int.emod_eq_emod_iff_emod_sub_eq_zero.mp hx)
  obtain ⟨q, hq⟩ : B ∣ e * x - e * x % B := Int.dvd_self_sub_emod
  obtain ⟨k, hk⟩ : ∃ k, e * x % B = k := ⟨_, rfl⟩
  rw [hk] at hq ⊢
  have hk2 : k = e * x - B * q := by omega
  refine ⟨e * s - A * q, ?_⟩
  have hxa : x * A = 1 + B * s := by omega
  have e1 : M * k = g * (e * (x * A)) - (g * B) * (A * q) := by
    rw [hk2, hA, Int.mul_sub]
    congr 1
    · rw [Int.mul_assoc]; congr 1
      rw [Int.mul_left_comm, Int.mul_comm A]
    · rw [Int.mul_assoc, Int.mul_assoc]; congr 1
      rw [Int.mul_left_comm]
  rw [e1, hxa, Int.mul_add, Int.mul_one, Int.mul_add, ← he, ← hB, Int.mul_sub]
  have e2 : g * (e * (B * s)) = m * (e * s) := by
    rw [hB, Int.mul_assoc]; congr 1
    rw [Int.mul_left_comm]
  rw [e2]; omega

theorem lt_step {M B n k : Int} (hM : 1 ≤ M) (hn : 0 ≤ n) (hn1 : n < M) (hk : 0 ≤ k) (hk1 : k < B) : 0 ≤ n + M * k ∧ n + M * k < M * B := by
  have h1 : M * (k + 1) ≤ M * B := Int.mul_le_mul_of_nonneg_left (by omega) (by omega)
  have h2 : 0 ≤ M * k := Int.mul_nonneg (by omega) hk
  rw [Int.mul_add, Int.mul_one] at h1
  omega

theorem Joined.step {l : List (Int × Int)} {n M : Int} (h : Joined l n M) {r : Int × Int} (hr : OkR r) {k : Int} (hk : 0 ≤ k) (hk1 : k < r.2 / G M r.2) (hm : r.2 ∣ n + M * k - r.1) :
    Joined (l ++ [r]) (n + M * k) (M * (r.2 / G M r.2)) := by
  obtain ⟨h1, h2, h3, h4⟩ := h
  obtain ⟨r1, r2, r3, r4⟩ := hr
  have hl := L_div h1 r1
  have hb : 1 ≤ r.2 / G M r.2 := by omega
  have hs := lt_step h1 h2 h3 hk hk1
  have hM1 := (Eu.mul_le (a := 1) (b := 1) (A := M) (B := r.2 / G M r.2) (by omega) (by omega) h1 hb).2
  refine ⟨by omega, hs.1, hs.2, fun y => ?_⟩
  rw [Sol.snoc, h4]
  constructor
  · rintro ⟨a, b⟩
    refine mod_of_dvd ?_ hs.1 hs.2
    rw [← hl]
    refine dvd_L ?_ ?_
    · have := Int.dvd_sub (dvd_sub_of_mod a) (Int.dvd_mul_right M k)
      rw [show y - n - M * k = y - (n + M * k) by omega] at this
      exact this
    · have := Int.dvd_sub (dvd_sub_of_mod b) hm
      rw [show y - r.1 - (n + M * k - r.1) = y - (n + M * k) by omega] at this
      exact this
  · intro a
    have a2 := dvd_sub_of_mod a
    rw [← hl] at a2
    constructor
    · refine mod_of_dvd ?_ h2 h3
      have := Int.dvd_add (Int.dvd_trans (dvd_L_left M r.2) a2) (Int.dvd_mul_right M k)
      rw [show y - (n + M * k) + M * k = y - n by omega] at this
      exact this
    · refine mod_of_dvd ?_ r3 r4
      have := Int.dvd_add (Int.dvd_trans (dvd_L_right M r.2) a2) hm
      rw [show y - (n + M * k) + (n + M * k - r.1) = y - r.1 by omega] at this
      exact this

/-- Any two agree: then all do. -/
def Agree (l : List (Int × Int)) : Prop := ∀ a ∈ l, ∀ b ∈ l, G a.2 b.2 ∣ a.1 - b.1

theorem Sol.agree {l : List (Int × Int)} {y : Int} (h : Sol l y) : Agree l := by
  intro a ha b hb
  have h1 := dvd_sub_of_mod (h a ha)
  have h2 := dvd_sub_of_mod (h b hb)
  have := Int.dvd_sub (Int.dvd_trans (G_dvd_right a.2 b.2) h2) (Int.dvd_trans (G_dvd_left a.2 b.2) h1)
  rw [show y - b.1 - (y - a.1) = a.1 - b.1 by omega] at this
  exact this

/-- What divides all r - y by what m has in common with each modulus, by what it has in common with them all. -/
theorem G_lcs_dvd (m c : Int) : ∀ (l : List (Int × Int)) (M : Int), G m M ∣ c → (∀ r ∈ l, G m r.2 ∣ c) → G m (l.foldl (fun M r => L M r.2) M) ∣ c := by
  intro l
  induction l with
  | nil => intro M h _; exact h
  | cons r l ih =>
    intro M h hr
    refine ih _ ?_ (fun q hq => hr q (by simp [hq]))
    rw [G_L]
    exact dvd_L h (hr r (by simp))

theorem lcs_dvd {l : List (Int × Int)} {c : Int} : ∀ M : Int, M ∣ c → (∀ r ∈ l, r.2 ∣ c) → l.foldl (fun M r => L M r.2) M ∣ c := by
  induction l with
  | nil => intro M h _; exact h
  | cons r l ih => intro M h hr; exact ih _ (dvd_L h (hr r (by simp))) (fun q hq => hr q (by simp [hq]))

theorem dvd_lcs_start : ∀ (l : List (Int × Int)) (M : Int), M ∣ l.foldl (fun M r => L M r.2) M := by
  intro l
  induction l with
  | nil => intro M; exact Int.dvd_refl M
  | cons r l ih => intro M; exact Int.dvd_trans (dvd_L_left M r.2) (ih _)

theorem dvd_lcs : ∀ (l : List (Int × Int)) (M : Int) (r : Int × Int), r ∈ l → r.2 ∣ l.foldl (fun M r => L M r.2) M := by
  intro l
  induction l with
  | nil => intro M r h; cases h
  | cons q l ih =>
    intro M r h
    rcases List.mem_cons.mp h with h | h
    · subst h
      exact Int.dvd_trans (dvd_L_right M r.2) (dvd_lcs_start l _)
    · exact ih _ r h

/-- The step of a system that agrees goes on. -/
theorem Joined.goes {l : List (Int × Int)} {n : Int} (h : Joined l n (lcs l)) {r : Int × Int} (ha : ∀ b ∈ l, G r.2 b.2 ∣ r.1 - b.1) : G (lcs l) r.2 ∣ r.1 - n := by
  rw [G_comm]
  refine G_lcs_dvd r.2 (r.1 - n) l 1 ?_ (fun b hb => ?_)
  · have : G r.2 1 = 1 := by unfold G; simp
    rw [this]; exact Int.one_dvd _
  · have h1 := dvd_sub_of_mod (h.sol b hb)
    have := Int.dvd_sub (ha b hb) (Int.dvd_trans (G_dvd_right r.2 b.2) h1)
    rw [show r.1 - b.1 - (n - b.1) = r.1 - n by omega] at this
    exact this

theorem Sol.sub {l k : List (Int × Int)} {y : Int} (h : Sol l y) (hs : ∀ r ∈ k, r ∈ l) : Sol k y := fun r hr => h r (hs r hr)

/-- A front of the system: its step divides, its number is what is left. -/
theorem Joined.front {l k : List (Int × Int)} {n M z o : Int} (h : Joined l n M) (g : Joined k z o) (hs : ∀ r ∈ k, r ∈ l) : M % o = 0 ∧ n % o = z := by
  have e1 := (g.2.2.2 n).mp (h.sol.sub hs)
  have hn : Sol l (n + M) := (h.2.2.2 _).mpr (by rw [Int.add_emod_right]; exact Int.emod_eq_of_lt h.2.1 h.2.2.1)
  have e2 := (g.2.2.2 _).mp (hn.sub hs)
  have := Int.emod_eq_emod_iff_emod_sub_eq_zero.mp (e2.trans e1.symm)
  rw [show n + M - n = M by omega] at this
  exact ⟨this, e1⟩

theorem L_pos {a b : Int} (ha : 1 ≤ a) (hb : 1 ≤ b) : 1 ≤ L a b := by
  have hg := G_pos (a := a) (b := b) (.inl (by omega))
  rw [L_div ha hb]
  have h1 : 1 ≤ b / G a b := Int.ediv_pos_of_pos_of_dvd (by omega) (by omega) (G_dvd_right a b)
  have := (Eu.mul_le (a := 1) (b := 1) (A := a) (B := b / G a b) (by omega) (by omega) ha h1).2
  omega

theorem lcs_pos_from : ∀ (l : List (Int × Int)) (M : Int), 1 ≤ M → (∀ r ∈ l, OkR r) → 1 ≤ l.foldl (fun M r => L M r.2) M := by
  intro l
  induction l with
  | nil => intro M h _; exact h
  | cons r l ih => intro M h ho; exact ih _ (L_pos h (ho r (by simp)).1) (fun q hq => ho q (by simp [hq]))

theorem lcs_pos {l : List (Int × Int)} (ho : ∀ r ∈ l, OkR r) : 1 ≤ lcs l := lcs_pos_from l 1 (by omega) ho

/-- One number that fits: then the numbers that fit are told by the least common multiple. -/
theorem Joined.of_sol {l : List (Int × Int)} {y0 : Int} (ho : ∀ r ∈ l, OkR r) (h : Sol l y0) : Joined l (y0 % lcs l) (lcs l) := by
  have hp := lcs_pos ho
  refine ⟨hp, Int.emod_nonneg _ (by omega), Int.emod_lt_of_pos _ (by omega), fun y => ?_⟩
  constructor
  · intro hy
    refine Int.emod_eq_emod_iff_emod_sub_eq_zero.mpr (Int.emod_eq_zero_of_dvd (lcs_dvd 1 (Int.one_dvd _) fun r hr => ?_))
    exact Int.dvd_of_emod_eq_zero (Int.emod_eq_emod_iff_emod_sub_eq_zero.mp ((hy r hr).trans (h r hr).symm))
  · intro hy r hr
    have h1 := Int.dvd_of_emod_eq_zero (Int.emod_eq_emod_iff_emod_sub_eq_zero.mp hy)
    have h2 := Int.dvd_trans (dvd_lcs l 1 r hr) h1
    rw [← h r hr]
    exact Int.emod_eq_emod_iff_emod_sub_eq_zero.mpr (Int.emod_eq_zero_of_dvd h2)

/-- What Join answers. -/
def Jn (l : List (Int × Int)) (x M er : Int) : Prop :=
  (chk l ≠ 0 ∧ x = 0 ∧ M = 0 ∧ er = chk l) ∨ (chk l = 0 ∧ x = 0 ∧ M = 0 ∧ er = 4 ∧ ∀ y, ¬ Sol l y) ∨ (chk l = 0 ∧ er = 0 ∧ M = lcs l ∧ Joined l x M)

theorem jn_some (l : List (Int × Int)) : ∃ x M er, Jn l x M er := by
  by_cases hc : chk l = 0
  · by_cases hs : ∃ y, Sol l y
    · obtain ⟨y, hy⟩ := hs
      exact ⟨_, _, 0, .inr (.inr ⟨hc, rfl, rfl, Joined.of_sol (chk_zero.mp hc).2 hy⟩)⟩
    · exact ⟨0, 0, 4, .inr (.inl ⟨hc, rfl, rfl, rfl, fun y hy => hs ⟨y, hy⟩⟩)⟩
  · exact ⟨0, 0, chk l, .inl ⟨hc, rfl, rfl, rfl⟩⟩

theorem Jn.bad {l : List (Int × Int)} {x M er : Int} (h : Jn l x M er) (hc : chk l ≠ 0) : x = 0 ∧ M = 0 ∧ er = chk l := by
  rcases h with h | h | h
  · exact h.2
  · exact absurd h.1 hc
  · exact absurd h.1 hc

theorem Jn.no {l : List (Int × Int)} {x M er : Int} (h : Jn l x M er) (hc : chk l = 0) (hn : ∀ y, ¬ Sol l y) : x = 0 ∧ M = 0 ∧ er = 4 := by
  rcases h with h | h | h
  · exact absurd hc h.1
  · exact ⟨h.2.1, h.2.2.1, h.2.2.2.1⟩
  · exact absurd h.2.2.2.sol (hn x)

theorem Jn.yes {l : List (Int × Int)} {x M er n N : Int} (h : Jn l x M er) (hc : chk l = 0) (hn : Joined l n N) : x = n ∧ M = N ∧ er = 0 := by
  rcases h with h | h | h
  · exact absurd hc h.1
  · exact absurd hn.sol (h.2.2.2.2 n)
  · have := h.2.2.2.uniq hn (fun _ => Iff.rfl)
    exact ⟨this.1, this.2, h.2.1⟩

theorem Jn.ok {l : List (Int × Int)} {x M er : Int} (h : Jn l x M er) (he : er = 0) : chk l = 0 ∧ M = lcs l ∧ Joined l x M := by
  rcases h with h | h | h
  · exact absurd (h.2.2.2 ▸ he) h.1
  · have := h.2.2.2.1; omega
  · exact ⟨h.1, h.2.2⟩

theorem Jn.err {l : List (Int × Int)} {x M er : Int} (h : Jn l x M er) (he : er ≠ 0) : x = 0 ∧ M = 0 := by
  rcases h with h | h | h
  · exact ⟨h.2.1, h.2.2.1⟩
  · exact ⟨h.2.1, h.2.2.1⟩
  · exact absurd h.2.1 he

theorem p1000 {i : Nat} (h : i ≤ 5) : (1000 : Int) ^ i ≤ 1000000000000000 := by
  match i, h with
  | 0, _ | 1, _ | 2, _ | 3, _ | 4, _ | 5, _ => decide

theorem p1000_step {M B : Int} {i : Nat} (h : M ≤ 1000 ^ i) (hM : 1 ≤ M) (hB : 1 ≤ B) (hB2 : B ≤ 1000) : M * B ≤ 1000 ^ (i + 1) := by
  rw [Int.pow_succ]
  exact (Eu.mul_le (by omega) (by omega) h hB2).2

theorem L_le {M m : Int} (hM : 1 ≤ M) (hm : 1 ≤ m) : L M m ≤ M * m := by
  rw [L_div hM hm]
  have hg := G_pos (a := M) (b := m) (.inl (by omega))
  exact Int.mul_le_mul_of_nonneg_left (Int.ediv_le_self _ (by omega)) (by omega)

theorem lcs_le_from : ∀ (l : List (Int × Int)) (M : Int), 1 ≤ M → (∀ r ∈ l, OkR r) → l.foldl (fun M r => L M r.2) M ≤ M * 1000 ^ l.length := by
  intro l
  induction l with
  | nil => intro M h _; simp
  | cons r l ih =>
    intro M h ho
    have hr := ho r (by simp)
    have h1 := ih _ (L_pos h hr.1) (fun q hq => ho q (by simp [hq]))
    have h2 : L M r.2 ≤ M * 1000 := Int.le_trans (L_le h hr.1) (Int.mul_le_mul_of_nonneg_left hr.2.1 (by omega))
    have h3 : (0 : Int) ≤ 1000 ^ l.length := Int.le_of_lt (Int.pow_pos (by omega))
    have h4 := Int.mul_le_mul_of_nonneg_right h2 h3
    rw [List.length_cons, Int.pow_succ, Int.mul_comm (1000 ^ l.length), ← Int.mul_assoc]
    exact Int.le_trans h1 h4

theorem p1000' {i : Nat} (h : i ≤ 6) : (1000 : Int) ^ i ≤ 1000000000000000000 := by
  match i, h with
  | 0, _ | 1, _ | 2, _ | 3, _ | 4, _ | 5, _ | 6, _ => decide

theorem lcs_le {l : List (Int × Int)} (h : l.length ≤ 6) (ho : ∀ r ∈ l, OkR r) : lcs l ≤ 1000000000000000000 := by
  have h1 := lcs_le_from l 1 (by omega) ho
  rw [Int.one_mul] at h1
  exact Int.le_trans h1 (p1000' h)

theorem chk_reverse (l : List (Int × Int)) : chk l.reverse = chk l := by
  have : l.reverse.any badR = l.any badR := by
    rw [Bool.eq_iff_iff]
    simp only [List.any_eq_true, List.mem_reverse]
  unfold chk
  rw [this, List.length_reverse]

theorem Jn.rev {l : List (Int × Int)} {x M er : Int} (h : Jn l x M er) : Jn l.reverse x M er := by
  have hs : ∀ y, Sol l.reverse y ↔ Sol l y := fun y => ⟨fun g => g.sub fun r hr => by simpa using hr, fun g => g.sub fun r hr => by simpa using hr⟩
  obtain ⟨x', M', er', h'⟩ := jn_some l.reverse
  rcases h with ⟨hc, rfl, rfl, rfl⟩ | ⟨hc, rfl, rfl, rfl, hn⟩ | ⟨hc, rfl, hM, hj⟩
  · exact .inl ⟨by rw [chk_reverse]; exact hc, rfl, rfl, (chk_reverse l).symm⟩
  · exact .inr (.inl ⟨by rw [chk_reverse]; exact hc, rfl, rfl, rfl, fun y hy => hn y ((hs y).mp hy)⟩)
  · have hc2 : chk l.reverse = 0 := by rw [chk_reverse]; exact hc
    have hj2 := Joined.of_sol (chk_zero.mp hc2).2 ((hs x).mpr hj.sol)
    have hu := hj2.uniq hj hs
    rw [hu.1, hu.2] at hj2
    exact .inr (.inr ⟨hc2, rfl, hu.2.symm, hj2⟩)

/-- The front of a system that can be joined. -/
theorem Jn.front {l : List (Int × Int)} {x M z o g : Int} (h : Jn l x M 0) (k : Nat) (hk : Jn (l.take k) z o g) : g = 0 ∧ 1 ≤ o ∧ M % o = 0 ∧ x % o = z := by
  obtain ⟨hc, _, hj⟩ := h.ok rfl
  obtain ⟨h6, ho⟩ := chk_zero.mp hc
  have hc2 : chk (l.take k) = 0 := chk_zero.mpr ⟨by rw [List.length_take]; omega, fun r hr => ho r (List.mem_of_mem_take hr)⟩
  have hs : Sol (l.take k) x := hj.sol.sub fun r hr => List.mem_of_mem_take hr
  have hj2 := Joined.of_sol (chk_zero.mp hc2).2 hs
  have hy := hk.yes hc2 hj2
  rw [← hy.1, ← hy.2.1] at hj2
  have := hj.front hj2 (fun r hr => List.mem_of_mem_take hr)
  exact ⟨hy.2.2, hj2.1, this⟩

/-- Two numbers reach what they have in common (BEZOUT). -/
theorem bez : ∀ (b : Nat) (a : Int), ∃ u v : Int, u * a + v * (b : Int) = G a b := by
  intro b
  induction b using Nat.strongRecOn with
  | _ b ih =>
    intro a
    by_cases h : b = 0
    · subst h
      rw [show ((0 : Nat) : Int) = 0 from rfl, G_zero']
      by_cases ha : a < 0
      · exact ⟨-1, 0, by omega⟩
      · exact ⟨1, 0, by omega⟩
    · have h1 := Int.emod_nonneg a (b := (b : Int)) (by omega)
      have h2 := Int.emod_lt_of_pos a (b := (b : Int)) (by omega)
      obtain ⟨u, v, huv⟩ := ih (a % (b : Int)).toNat (by omega) b
      have e1 : (((a % (b : Int)).toNat : Nat) : Int) = a % (b : Int) := by omega
      rw [e1, G_step] at huv
      refine ⟨v, u - v * (a / (b : Int)), ?_⟩
      rw [← huv]
      have e2 := Int.emod_add_mul_ediv a (b : Int)
      have e3 : a % (b : Int) = a - (b : Int) * (a / (b : Int)) := by omega
      rw [e3, Int.mul_sub, Int.sub_mul, Int.mul_comm (b : Int), ← Int.mul_assoc]
      omega

/-- Any two agree, the later with each before it: then all have a number. -/
theorem solvable {l : List (Int × Int)} (ho : ∀ r ∈ l, OkR r) (hp : ∀ k r, l[k]? = some r → ∀ b ∈ l.take k, G r.2 b.2 ∣ r.1 - b.1) : ∃ y, Sol l y := by
  have H : ∀ i, i ≤ l.length → ∃ y, Sol (l.take i) y := by
    intro i
    induction i with
    | zero => intro _; exact ⟨0, by simp; exact Sol.nil 0⟩
    | succ i ih =>
      intro hi
      obtain ⟨y, hy⟩ := ih (by omega)
      have hj := Joined.of_sol (fun r hr => ho r (List.mem_of_mem_take hr)) hy
      have hget : l[i]? = some l[i] := List.getElem?_eq_getElem (by omega)
      have hgo := hj.goes (hp i l[i] hget)
      obtain ⟨r, hr⟩ : ∃ r, l[i] = r := ⟨_, rfl⟩
      rw [hr] at hgo hget
      have hrok : OkR r := ho r (by rw [← hr]; exact List.getElem_mem _)
      obtain ⟨e, he⟩ := hgo
      obtain ⟨n, hn⟩ : ∃ n, y % lcs (l.take i) = n := ⟨_, rfl⟩
      obtain ⟨M, hM⟩ : ∃ M, lcs (l.take i) = M := ⟨_, rfl⟩
      rw [hn, hM] at hj
      rw [hn, hM] at he
      obtain ⟨u, v, huv⟩ := bez r.2.toNat M
      have e2 : ((r.2.toNat : Nat) : Int) = r.2 := by have := hrok.1; omega
      rw [e2] at huv
      refine ⟨n + M * (u * e), ?_⟩
      rw [List.take_add_one, hget]
      refine Sol.snoc.mpr ⟨(hj.2.2.2 _).mpr ?_, ?_⟩
      · rw [Int.add_mul_emod_self_left]; exact Int.emod_eq_of_lt hj.2.1 hj.2.2.1
      · refine mod_of_dvd ⟨-(v * e), ?_⟩ hrok.2.2.1 hrok.2.2.2
        have e3 : M * (u * e) + r.2 * (v * e) = G M r.2 * e := by
          rw [← huv, Int.add_mul, Int.mul_comm u M, Int.mul_comm v r.2, Int.mul_assoc, Int.mul_assoc]
        rw [Int.mul_neg]
        omega
  have := H l.length (Nat.le_refl _)
  rwa [List.take_length] at this

end Go.Proofs.Ytgdfmmdjnifjeaa.Ch
