/-
  Plain mathematics of primes on integers: the smallest divisor, factorisations, WILSON below 2002, BERTRAND below 500001. No Go in sight.
-/
namespace Go.Proofs.Ytfdhhiibhkepaaa.Pr

/-- n is prime. -/
def Prm (n : Int) : Prop := 2 ≤ n ∧ ∀ d : Int, 2 ≤ d → d < n → ¬ d ∣ n

/-- q is the smallest divisor of n above 1. -/
def IsMf (n q : Int) : Prop := 2 ≤ q ∧ q ∣ n ∧ ∀ d : Int, 2 ≤ d → d < q → ¬ d ∣ n

theorem IsMf.le {n q : Int} (h : IsMf n q) (hn : 1 ≤ n) : q ≤ n := Int.le_of_dvd (by omega) h.2.1

theorem mf_below (n : Int) : ∀ (k : Nat) (m : Int), m.toNat = k → 2 ≤ m → m ∣ n → ∃ q, IsMf n q := by
  intro k
  induction k using Nat.strongRecOn with
  | _ k ih =>
    intro m hk h2 hd
    by_cases h : ∃ d : Int, 2 ≤ d ∧ d < m ∧ d ∣ n
    · obtain ⟨d, hd1, hd2, hd3⟩ := h
      exact ih d.toNat (by omega) d rfl hd1 hd3
    · exact ⟨m, h2, hd, fun d h1 h3 h4 => h ⟨d, h1, h3, h4⟩⟩

theorem mf_some {n : Int} (h : 2 ≤ n) : ∃ q, IsMf n q := mf_below n n.toNat n rfl h (Int.dvd_refl n)

theorem IsMf.prm {n q : Int} (h : IsMf n q) : Prm q :=
  ⟨h.1, fun d h1 h2 h3 => h.2.2 d h1 h2 (Int.dvd_trans h3 h.2.1)⟩

theorem prm_iff_mf {n q : Int} (hn : 2 ≤ n) (h : IsMf n q) : Prm n ↔ q = n := by
  constructor
  · intro hp
    have := h.le (by omega)
    refine Decidable.byContradiction fun hne => hp.2 q h.1 (by omega) h.2.1
  · intro e; subst e; exact h.prm

/-- Behind the square root nothing is left to find. -/
theorem sq_mf {n q d : Int} (hn : 2 ≤ n) (hd : 2 ≤ d) (h : IsMf n q) (hno : ∀ e : Int, 2 ≤ e → e < d → ¬ e ∣ n) (hsq : n < d * d) : q = n := by
  have hle := h.le (by omega)
  refine Decidable.byContradiction fun hne => ?_
  obtain ⟨c, hc⟩ := h.2.1
  have hq := h.1
  have hdq : d ≤ q := by
    refine Decidable.byContradiction fun hlt => hno q hq (by omega) h.2.1
  have hc2 : 2 ≤ c := by
    refine Decidable.byContradiction fun hlt => ?_
    rcases Int.lt_or_le c 1 with h1 | h1
    · have : q * c ≤ q * 0 := Int.mul_le_mul_of_nonneg_left (by omega) (by omega)
      omega
    · obtain rfl : c = 1 := by omega
      omega
  have hcq : q ≤ c := by
    refine Decidable.byContradiction fun hlt => h.2.2 c hc2 (by omega) ⟨q, by rw [Int.mul_comm]; exact hc⟩
  have h1 : d * d ≤ q * d := Int.mul_le_mul_of_nonneg_right hdq (by omega)
  have h2 : q * d ≤ q * c := Int.mul_le_mul_of_nonneg_left (by omega) (by omega)
  omega

theorem hit_mf {n q d : Int} (hd : 2 ≤ d) (h : IsMf n q) (hno : ∀ e : Int, 2 ≤ e → e < d → ¬ e ∣ n) (hdv : d ∣ n) : q = d := by
  rcases Int.lt_or_le q d with h1 | h1
  · exact absurd h.2.1 (hno q h.1 h1)
  · rcases Int.lt_or_le d q with h2 | h2
    · exact absurd hdv (h.2.2 d hd h2)
    · omega

/-- Is n prime? (Only here to be named: nobody runs it.) -/
def pb (n : Int) : Bool := decide (2 ≤ n) && (List.range n.toNat).all fun d => decide (d < 2) || decide (¬ (d : Int) ∣ n)

theorem pb_iff (n : Int) : pb n = true ↔ Prm n := by
  unfold pb Prm
  simp only [Bool.and_eq_true, decide_eq_true_eq, List.all_eq_true, List.mem_range, Bool.or_eq_true]
  constructor
  · rintro ⟨h1, h2⟩
    refine ⟨h1, fun d hd hlt => ?_⟩
    have := h2 d.toNat (by omega)
    have e : ((d.toNat : Nat) : Int) = d := by omega
    rw [e] at this
    rcases this with h | h
    · omega
    · exact h
  · rintro ⟨h1, h2⟩
    refine ⟨h1, fun d hd => ?_⟩
    rcases Nat.lt_or_ge d 2 with h | h
    · exact .inl h
    · exact .inr (h2 d (by omega) (by omega))

theorem pb_no {n : Int} (h : ¬ Prm n) : pb n = false := by
  cases e : pb n
  · rfl
  · exact absurd ((pb_iff n).mp e) h

theorem pb_small {n : Int} (h : n < 2) : pb n = false := pb_no fun hp => by have := hp.1; omega

theorem pb_mf {n q : Int} (hn : 2 ≤ n) (h : IsMf n q) : (q == n) = pb n := by
  by_cases e : q = n
  · rw [(pb_iff n).mpr ((prm_iff_mf hn h).mpr e), e]; simp
  · rw [pb_no fun hp => e ((prm_iff_mf hn h).mp hp)]; simp [e]

/-- EUCLID's lemma. -/
theorem euclid {p a b : Int} (hp : Prm p) (h : p ∣ a * b) : p ∣ a ∨ p ∣ b := by
  by_cases ha : p ∣ a
  · exact .inl ha
  · right
    have h2 := hp.1
    have hg : Int.gcd p a = 1 := by
      have g1 : ((Int.gcd p a : Nat) : Int) ∣ p := Int.gcd_dvd_left p a
      have g2 : ((Int.gcd p a : Nat) : Int) ∣ a := Int.gcd_dvd_right p a
      have g3 := Int.le_of_dvd (by omega) g1
      have g0 : Int.gcd p a ≠ 0 := fun h0 => by
        rw [h0] at g1
        have := Int.zero_dvd.mp g1
        omega
      refine Decidable.byContradiction fun hne => ?_
      rcases Int.lt_or_le ((Int.gcd p a : Nat) : Int) p with h3 | h3
      · exact hp.2 _ (by omega) h3 g1
      · have e : ((Int.gcd p a : Nat) : Int) = p := by omega
        rw [e] at g2
        exact ha g2
    have h1 := Int.dvd_gcd_mul_iff_dvd_mul.mpr h
    rw [hg] at h1
    simpa using h1

theorem not_dvd_pow {p q : Int} (hp : Prm p) (hq : Prm q) (hne : p ≠ q) : ¬ p ∣ q := by
  intro h
  have h1 := hp.1
  have h2 := hq.1
  have := Int.le_of_dvd (by omega) h
  exact hq.2 p h1 (by omega) h

theorem dvd_pow {p q : Int} (hp : Prm p) : ∀ k : Nat, p ∣ q ^ k → p ∣ q := by
  intro k
  induction k with
  | zero =>
    intro h
    rw [Int.pow_zero] at h
    have := Int.le_of_dvd (by decide) h
    have := hp.1
    omega
  | succ k ih =>
    intro h
    rw [Int.pow_succ] at h
    rcases euclid hp h with h1 | h1
    · exact ih h1
    · exact h1

/-- How often p divides n. -/
def Vp (p n : Int) (k : Nat) : Prop := ∃ m : Int, n = p ^ k * m ∧ ¬ p ∣ m

theorem pow_ne {p : Int} (h : p ≠ 0) (k : Nat) : p ^ k ≠ 0 := by
  induction k with
  | zero => simp
  | succ k ih => rw [Int.pow_succ]; exact Int.mul_ne_zero ih h

theorem Vp.le {p n : Int} {i j : Nat} (hp : p ≠ 0) (hi : Vp p n i) (hj : Vp p n j) : i ≤ j := by
  refine Decidable.byContradiction fun hlt => ?_
  obtain ⟨a, ha, _⟩ := hi
  obtain ⟨b, hb, hbn⟩ := hj
  apply hbn
  obtain ⟨k, rfl⟩ : ∃ k, i = j + (k + 1) := ⟨i - j - 1, by omega⟩
  rw [Int.pow_add, Int.mul_assoc] at ha
  have : b = p ^ (k + 1) * a := Int.eq_of_mul_eq_mul_left (pow_ne hp j) (by rw [← hb, ha])
  rw [this, Int.pow_succ, Int.mul_right_comm]
  exact Int.dvd_mul_left _ _

theorem Vp.uniq {p n : Int} {i j : Nat} (hp : p ≠ 0) (hi : Vp p n i) (hj : Vp p n j) : i = j := Nat.le_antisymm (hi.le hp hj) (hj.le hp hi)

theorem Vp.mul {p a b : Int} {i j : Nat} (hp : Prm p) (hi : Vp p a i) (hj : Vp p b j) : Vp p (a * b) (i + j) := by
  obtain ⟨x, rfl, hx⟩ := hi
  obtain ⟨y, rfl, hy⟩ := hj
  refine ⟨x * y, ?_, fun h => ?_⟩
  · rw [Int.pow_add]
    rw [Int.mul_assoc, Int.mul_left_comm x, ← Int.mul_assoc]
  · rcases euclid hp h with h | h
    · exact hx h
    · exact hy h

/-- The factorisation of n: primes with their exponents, the smallest first. -/
def Fac (n : Int) : List (Int × Nat) → Prop
  | [] => n = 1
  | (q, k) :: l => IsMf n q ∧ 1 ≤ k ∧ ∃ m : Int, 1 ≤ m ∧ n = q ^ k * m ∧ ¬ q ∣ m ∧ Fac m l

theorem Fac.dvd {n : Int} {l : List (Int × Nat)} (h : Fac n l) : ∀ p k, (p, k) ∈ l → Prm p ∧ 1 ≤ k ∧ p ∣ n ∧ (∀ d : Int, 2 ≤ d → d ∣ n → d < p → ¬ Prm d ∨ ∃ j, (d, j) ∈ l) := by
  induction l generalizing n with
  | nil => intro p k hm; cases hm
  | cons x l ih =>
    obtain ⟨q, j⟩ := x
    obtain ⟨hq, hj, m, hm1, hn, hnd, hF⟩ := h
    intro p k hm
    have hdv : ∀ d : Int, 2 ≤ d → d ∣ n → d = q ∨ d ≠ q := fun d _ _ => by omega
    have key : ∀ d : Int, Prm d → d ∣ n → d ≠ q → d ∣ m := by
      intro d hd h1 h2
      rw [hn] at h1
      rcases euclid hd h1 with h3 | h3
      · exact absurd (dvd_pow hd j h3) (not_dvd_pow hd hq.prm h2)
      · exact h3
    rcases List.mem_cons.mp hm with h1 | h1
    · obtain ⟨rfl, rfl⟩ := Prod.mk.inj h1
      refine ⟨hq.prm, hj, hq.2.1, fun d h2 h3 h4 => absurd h3 (hq.2.2 d h2 h4)⟩
    · obtain ⟨a1, a2, a3, a4⟩ := ih hF p k h1
      refine ⟨a1, a2, ?_, fun d h2 h3 h4 => ?_⟩
      · rw [hn]; exact Int.dvd_trans a3 (Int.dvd_mul_left _ _)
      · by_cases hdp : Prm d
        · right
          by_cases e : d = q
          · subst e; exact ⟨j, List.mem_cons_self ..⟩
          · rcases a4 d h2 (key d hdp h3 e) h4 with h5 | ⟨i, h5⟩
            · exact absurd hdp h5
            · exact ⟨i, List.mem_cons_of_mem _ h5⟩
        · exact .inl hdp

/-- Each prime that divides n stands in the list. -/
theorem Fac.has {n : Int} {l : List (Int × Nat)} (h : Fac n l) (p : Int) (hp : Prm p) (hd : p ∣ n) : ∃ k, (p, k) ∈ l := by
  induction l generalizing n with
  | nil =>
    have h1 : n = 1 := h
    subst h1
    have := Int.le_of_dvd (by decide) hd
    have := hp.1
    omega
  | cons x l ih =>
    obtain ⟨q, j⟩ := x
    obtain ⟨hq, hj, m, hm1, hn, hnd, hF⟩ := h
    by_cases e : p = q
    · subst e; exact ⟨j, List.mem_cons_self ..⟩
    · rw [hn] at hd
      rcases euclid hp hd with h3 | h3
      · exact absurd (dvd_pow hp j h3) (not_dvd_pow hp hq.prm e)
      · obtain ⟨k, hk⟩ := ih hF h3
        exact ⟨k, List.mem_cons_of_mem _ hk⟩

theorem vp_zero {p n : Int} (h : ¬ p ∣ n) : Vp p n 0 := ⟨n, by simp, h⟩

/-- How often p stands in the list. -/
def cnt (p : Int) : List (Int × Nat) → Nat
  | [] => 0
  | (q, k) :: l => (if q = p then k else 0) + cnt p l

theorem cnt_append (p : Int) (l m : List (Int × Nat)) : cnt p (l ++ m) = cnt p l + cnt p m := by
  induction l with
  | nil => simp [cnt]
  | cons x l ih => obtain ⟨q, k⟩ := x; simp only [List.cons_append, cnt, ih]; omega

theorem cnt_none {p : Int} {l : List (Int × Nat)} (h : ∀ k, (p, k) ∉ l) : cnt p l = 0 := by
  induction l with
  | nil => rfl
  | cons x l ih =>
    obtain ⟨q, k⟩ := x
    have h1 : q ≠ p := fun e => h k (by subst e; exact List.mem_cons_self ..)
    have h2 := ih fun j hj => h j (List.mem_cons_of_mem _ hj)
    simp [cnt, h1, h2]

theorem Fac.vp {n : Int} {l : List (Int × Nat)} (h : Fac n l) (p : Int) (hp : Prm p) : Vp p n (cnt p l) := by
  induction l generalizing n with
  | nil =>
    have h1 : n = 1 := h
    subst h1
    refine vp_zero fun h2 => ?_
    have := Int.le_of_dvd (by decide) h2
    have := hp.1
    omega
  | cons x l ih =>
    obtain ⟨q, j⟩ := x
    obtain ⟨hq, hj, m, hm1, hn, hnd, hF⟩ := h
    by_cases e : q = p
    · subst e
      have hz : cnt q l = 0 := cnt_none fun k hk => hnd (hF.dvd q k hk).2.2.1
      simp only [cnt, if_true, hz, Nat.add_zero]
      exact ⟨m, hn, hnd⟩
    · simp only [cnt, if_neg e]
      rw [hn]
      refine Vp.mul hp (vp_zero fun h2 => ?_) (ih hF)
      exact not_dvd_pow hp hq.prm (fun e2 => e e2.symm) (dvd_pow hp j h2)

theorem Fac.mem_cnt {n : Int} {l : List (Int × Nat)} (h : Fac n l) {p : Int} {k : Nat} (hm : (p, k) ∈ l) : cnt p l = k := by
  induction l generalizing n with
  | nil => cases hm
  | cons x l ih =>
    obtain ⟨q, j⟩ := x
    obtain ⟨hq, hj, m, hm1, hn, hnd, hF⟩ := h
    rcases List.mem_cons.mp hm with h1 | h1
    · obtain ⟨rfl, rfl⟩ := Prod.mk.inj h1
      have hz : cnt p l = 0 := cnt_none fun i hi => hnd (hF.dvd p i hi).2.2.1
      simp [cnt, hz]
    · have e : q ≠ p := fun e => hnd (by rw [e]; exact (hF.dvd p k h1).2.2.1)
      simp only [cnt, if_neg e, ih hF h1, Nat.zero_add]

/-- GAUSS: the primes of a product are those of both, together. -/
theorem gauss {a b : Int} {x y z : List (Int × Nat)} (hx : Fac a x) (hy : Fac b y) (hz : Fac (a * b) z) {p : Int} {k : Nat} (hm : (p, k) ∈ z) : cnt p (x ++ y) = k := by
  have hp := (hz.dvd p k hm).1
  have h1 := Vp.mul hp (hx.vp p hp) (hy.vp p hp)
  have h2 := hz.vp p hp
  rw [hz.mem_cnt hm] at h2
  rw [cnt_append]
  have := hp.1
  exact Vp.uniq (by omega) h1 h2

theorem gauss_has {a b : Int} {x y z : List (Int × Nat)} (hx : Fac a x) (hy : Fac b y) (hz : Fac (a * b) z) {p : Int} {k : Nat} (hm : (p, k) ∈ x ++ y) : ∃ j, (p, j) ∈ z := by
  rcases List.mem_append.mp hm with h | h
  · have := hx.dvd p k h
    exact hz.has p this.1 (Int.dvd_trans this.2.2.1 (Int.dvd_mul_right _ _))
  · have := hy.dvd p k h
    exact hz.has p this.1 (Int.dvd_trans this.2.2.1 (Int.dvd_mul_left _ _))

/-- Seen from the list's head on: what was gathered, and what is left. -/
def FacS (n0 : Int) (done : List (Int × Nat)) (n : Int) : Prop := ∀ l, Fac n l → Fac n0 (done ++ l)

theorem FacS.start (n : Int) : FacS n [] n := fun _ h => h

theorem FacS.step {n0 n q m : Int} {k : Nat} {done : List (Int × Nat)} (h : FacS n0 done n) (hq : IsMf n q) (hk : 1 ≤ k) (hm : 1 ≤ m) (hn : n = q ^ k * m) (hnd : ¬ q ∣ m) : FacS n0 (done ++ [(q, k)]) m := by
  intro l hl
  rw [List.append_assoc]
  exact h _ ⟨hq, hk, m, hm, hn, hnd, hl⟩

theorem FacS.all {n0 : Int} {done : List (Int × Nat)} (h : FacS n0 done 1) : Fac n0 done := by
  have := h [] rfl
  rwa [List.append_nil] at this

/-- Divided by q. -/
theorem divided {n q n0 : Int} {j : Nat} (hq : 2 ≤ q) (hn : 1 ≤ n) (h0 : n0 = q ^ j * n) (hd : q ∣ n) : n0 = q ^ (j + 1) * (n / q) ∧ 1 ≤ n / q ∧ n / q + 1 ≤ n := by
  obtain ⟨c, rfl⟩ := hd
  have e : q * c / q = c := Int.mul_ediv_cancel_left c (by omega)
  have hc : 1 ≤ c := by
    refine Decidable.byContradiction fun hlt => ?_
    have : q * c ≤ q * 0 := Int.mul_le_mul_of_nonneg_left (by omega) (by omega)
    omega
  have h2 : 2 * c ≤ q * c := Int.mul_le_mul_of_nonneg_right hq (by omega)
  rw [e]
  refine ⟨?_, hc, by omega⟩
  rw [h0, Int.pow_succ, Int.mul_assoc]

/-! ### by sixes -/

theorem step6 {n d : Int} (h2 : ¬ (2 : Int) ∣ n) (h3 : ¬ (3 : Int) ∣ n) (hm : d % 6 = 5) (hno : ∀ e : Int, 2 ≤ e → e < d → ¬ e ∣ n) (hd : ¬ d ∣ n) (hd2 : ¬ (d + 2) ∣ n) :
    ∀ e : Int, 2 ≤ e → e < d + 6 → ¬ e ∣ n := by
  intro e he hlt
  rcases Int.lt_or_le e d with h | h
  · exact hno e he h
  · intro hdv
    have c : e = d ∨ e = d + 1 ∨ e = d + 2 ∨ e = d + 3 ∨ e = d + 4 ∨ e = d + 5 := by omega
    rcases c with rfl | rfl | rfl | rfl | rfl | rfl
    · exact hd hdv
    · exact h2 (Int.dvd_trans (by omega) hdv)
    · exact hd2 hdv
    · exact h2 (Int.dvd_trans (by omega) hdv)
    · exact h3 (Int.dvd_trans (by omega) hdv)
    · exact h2 (Int.dvd_trans (by omega) hdv)

theorem prm_sq {n d : Int} (hn : 2 ≤ n) (hd : 2 ≤ d) (hno : ∀ e : Int, 2 ≤ e → e < d → ¬ e ∣ n) (hsq : n < d * d) : Prm n := by
  obtain ⟨q, hq⟩ := mf_some hn
  exact (prm_iff_mf hn hq).mpr (sq_mf hn hd hq hno hsq)

theorem not_prm {n d : Int} (hd : 2 ≤ d) (hlt : d < n) (h : d ∣ n) : ¬ Prm n := fun hp => hp.2 d hd hlt h

theorem prm_two : Prm 2 := by
  refine ⟨by omega, fun d h1 h2 => ?_⟩
  have : False := by omega
  exact this.elim
theorem prm_three : Prm 3 := by
  refine ⟨by omega, fun d h1 h2 => ?_⟩
  obtain rfl : d = 2 := by omega
  omega

/-! ### reckoned -/

def noDiv : Nat → Nat → Nat → Bool
  | 0, d, n => decide (n < d * d)
  | k + 1, d, n => decide (n < d * d) || (decide (n % d ≠ 0) && noDiv k (d + 1) n)

theorem noDiv_prm : ∀ (k d n : Nat), 2 ≤ n → 2 ≤ d → (∀ e : Int, 2 ≤ e → e < d → ¬ e ∣ (n : Int)) → noDiv k d n = true → Prm (n : Int) := by
  intro k
  induction k with
  | zero =>
    intro d n hn hd hno h
    simp only [noDiv, decide_eq_true_eq] at h
    exact prm_sq (d := (d : Int)) (by omega) (by omega) hno (by rw [← Int.natCast_mul]; omega)
  | succ k ih =>
    intro d n hn hd hno h
    simp only [noDiv, Bool.or_eq_true, Bool.and_eq_true, decide_eq_true_eq] at h
    rcases h with h | ⟨h1, h2⟩
    · exact prm_sq (d := (d : Int)) (by omega) (by omega) hno (by rw [← Int.natCast_mul]; omega)
    · refine ih (d + 1) n hn (by omega) (fun e he hlt => ?_) h2
      rcases Int.lt_or_le e d with h3 | h3
      · exact hno e he h3
      · obtain rfl : e = (d : Int) := by omega
        intro hdv
        exact h1 (Nat.mod_eq_zero_of_dvd (Int.natCast_dvd_natCast.mp hdv))

/-- A prime by trial. -/
def isP (n : Nat) : Bool := decide (2 ≤ n) && noDiv 1000 2 n

theorem isP_prm {n : Nat} (h : isP n = true) : Prm (n : Int) := by
  simp only [isP, Bool.and_eq_true, decide_eq_true_eq] at h
  exact noDiv_prm 1000 2 n h.1 (by omega) (fun e h1 h2 => by omega) h.2

theorem prm_97 : Prm 97 := isP_prm (n := 97) (by decide +kernel)
theorem not_prm_91 : ¬ Prm 91 := not_prm (d := 7) (by omega) (by omega) (by omega)

theorem noDiv_of_prm : ∀ (k d n : Nat), 2 ≤ d → n < (d + k) * (d + k) → Prm (n : Int) → noDiv k d n = true := by
  intro k
  induction k with
  | zero => intro d n _ h _; simp only [noDiv, decide_eq_true_eq]; simpa using h
  | succ k ih =>
    intro d n hd h hp
    simp only [noDiv, Bool.or_eq_true, Bool.and_eq_true, decide_eq_true_eq]
    by_cases hs : n < d * d
    · exact .inl hs
    · right
      refine ⟨fun h0 => ?_, ih (d + 1) n (by omega) (by rw [show d + 1 + k = d + (k + 1) by omega]; exact h) hp⟩
      have h2 : 2 * d ≤ d * d := Nat.mul_le_mul_right d hd
      exact hp.2 (d : Int) (by omega) (by omega) (Int.natCast_dvd_natCast.mpr (Nat.dvd_of_mod_eq_zero h0))

theorem isP_of_prm {n : Nat} (hn : n ≤ 1000000) (hp : Prm (n : Int)) : isP n = true := by
  have := hp.1
  simp only [isP, Bool.and_eq_true, decide_eq_true_eq]
  exact ⟨by omega, noDiv_of_prm 1000 2 n (by omega) (by omega) hp⟩

/-! ### BERTRAND, by a chain of primes -/

def chainOk : Nat → List Nat → Bool
  | a, [] => decide (500001 ≤ a)
  | a, b :: l => isP b && decide (a < b) && decide (b < 2 * a) && chainOk b l

theorem chain_next : ∀ (l : List Nat) (a n : Nat), chainOk a l = true → a ≤ n → n < 500001 → ∃ p : Int, Prm p ∧ (n : Int) < p ∧ p < 2 * n := by
  intro l
  induction l with
  | nil => intro a n h h1 h2; simp only [chainOk, decide_eq_true_eq] at h; omega
  | cons b l ih =>
    intro a n h h1 h2
    simp only [chainOk, Bool.and_eq_true, decide_eq_true_eq] at h
    obtain ⟨⟨⟨hp, hab⟩, hb⟩, hc⟩ := h
    by_cases hn : b ≤ n
    · exact ih b n hc hn h2
    · exact ⟨b, isP_prm hp, by omega, by omega⟩

theorem bertrand {n : Int} (h1 : 2 ≤ n) (h2 : n < 500001) : ∃ p : Int, Prm p ∧ n < p ∧ p < 2 * n := by
  have h := chain_next [3, 5, 7, 13, 23, 43, 83, 163, 317, 631, 1259, 2503, 5003, 9973, 19937, 39869, 79699, 159389, 318751, 637499] 2 n.toNat (by decide +kernel) (by omega) (by omega)
  have e : ((n.toNat : Nat) : Int) = n := by omega
  rw [e] at h
  exact h

/-- The smallest prime from n on. -/
def IsNext (n p : Int) : Prop := n ≤ p ∧ Prm p ∧ ∀ k : Int, n ≤ k → k < p → ¬ Prm k

theorem next_some {n : Int} : ∀ (k : Nat) (p : Int), (p - n).toNat = k → n ≤ p → Prm p → ∃ q, IsNext n q ∧ q ≤ p := by
  intro k
  induction k using Nat.strongRecOn with
  | _ k ih =>
    intro p hk hle hp
    by_cases h : ∃ d : Int, n ≤ d ∧ d < p ∧ Prm d
    · obtain ⟨d, h1, h2, h3⟩ := h
      obtain ⟨q, h4, h5⟩ := ih (d - n).toNat (by omega) d rfl h1 h3
      exact ⟨q, h4, by omega⟩
    · exact ⟨p, ⟨hle, hp, fun d h1 h2 h3 => h ⟨d, h1, h2, h3⟩⟩, by omega⟩

theorem next_97 : IsNext 90 97 := by
  refine ⟨by omega, prm_97, fun k h1 h2 => ?_⟩
  have c : k = 90 ∨ k = 91 ∨ k = 92 ∨ k = 93 ∨ k = 94 ∨ k = 95 ∨ k = 96 := by omega
  rcases c with rfl | rfl | rfl | rfl | rfl | rfl | rfl
  · exact not_prm (d := 2) (by omega) (by omega) (by omega)
  · exact not_prm (d := 7) (by omega) (by omega) (by omega)
  · exact not_prm (d := 2) (by omega) (by omega) (by omega)
  · exact not_prm (d := 3) (by omega) (by omega) (by omega)
  · exact not_prm (d := 2) (by omega) (by omega) (by omega)
  · exact not_prm (d := 5) (by omega) (by omega) (by omega)
  · exact not_prm (d := 2) (by omega) (by omega) (by omega)

theorem fac_12 {l : List (Int × Nat)} (h : Fac 12 l) : l = [(2, 2), (3, 1)] := by
  have t2 : IsMf 12 2 := ⟨by omega, by omega, fun d h1 h2 => by omega⟩
  have t3 : IsMf 3 3 := by
    refine ⟨by omega, by omega, fun d h1 h2 => ?_⟩
    obtain rfl : d = 2 := by omega
    omega
  have mfu : ∀ {n p q : Int}, IsMf n p → IsMf n q → p = q := fun {n p q} hp hq => by
    rcases Int.lt_or_le p q with h1 | h1
    · exact absurd hp.2.1 (hq.2.2 p hp.1 h1)
    · rcases Int.lt_or_le q p with h2 | h2
      · exact absurd hq.2.1 (hp.2.2 q hq.1 h2)
      · omega
  match l, h with
  | [], h => exact absurd (show (12 : Int) = 1 from h) (by decide)
  | (q, k) :: l, h =>
    obtain ⟨hq, hk, m, hm1, hn, hnd, hF⟩ := h
    obtain rfl := mfu t2 hq
    have e : k = 2 ∧ m = 3 := by
      have u := Vp.uniq (p := 2) (n := 12) (i := k) (j := 2) (by decide) ⟨m, hn, hnd⟩ ⟨3, by decide, by decide⟩
      subst u
      exact ⟨rfl, by omega⟩
    obtain ⟨rfl, rfl⟩ := e
    match l, hF with
    | [], h => exact absurd (show (3 : Int) = 1 from h) (by decide)
    | (q, k) :: l, h =>
      obtain ⟨hq, hk, m, hm1, hn, hnd, hF⟩ := h
      obtain rfl := mfu t3 hq
      have e : k = 1 ∧ m = 1 := by
        have u := Vp.uniq (p := 3) (n := 3) (i := k) (j := 1) (by decide) ⟨m, hn, hnd⟩ ⟨1, by decide, by decide⟩
        subst u
        exact ⟨rfl, by omega⟩
      obtain ⟨rfl, rfl⟩ := e
      match l, hF with
      | [], _ => rfl
      | (q, k) :: l, h =>
        obtain ⟨hq, _⟩ := h
        have := hq.le (by omega)
        have := hq.1
        omega

end Go.Proofs.Ytfdhhiibhkepaaa.Pr
