/-
  Plain mathematics for package euclid: Euclid's algorithm on integers. No Go in sight.
-/
namespace Go.Proofs.Ytfdhhiibhkepaaa.Eu

/-- The common divisor, as a whole number. -/
def G (a b : Int) : Int := (Int.gcd a b : Int)

theorem G_nonneg (a b : Int) : 0 ≤ G a b := by unfold G; omega

theorem G_zero (a : Int) (h : 0 ≤ a) : G a 0 = a := by
  unfold G; rw [Int.gcd_zero_right]; omega

theorem G_zero' (a : Int) : G a 0 = (a.natAbs : Int) := by
  unfold G; rw [Int.gcd_zero_right]

theorem G_comm (a b : Int) : G a b = G b a := by unfold G; rw [Int.gcd_comm]

theorem G_add_mul (a b k : Int) : G b (a + b * k) = G b a := by
  unfold G; rw [Int.gcd_add_mul_left_right]

theorem G_add (b a k : Int) : G (a + k * b) b = G a b := by
  rw [G_comm, Int.mul_comm, G_add_mul, G_comm]

theorem G_step (a b : Int) : G b (a % b) = G a b := by
  have e : a % b = a + b * (-(a / b)) := by
    have := Int.emod_add_mul_ediv a b
    rw [Int.mul_neg]; omega
  rw [e, G_add_mul, G_comm]

theorem G_natAbs (a b : Int) : G (a.natAbs : Int) (b.natAbs : Int) = G a b := by
  unfold G; simp [Int.gcd]

theorem G_dvd_left (a b : Int) : G a b ∣ a := Int.gcd_dvd_left a b
theorem G_dvd_right (a b : Int) : G a b ∣ b := Int.gcd_dvd_right a b
theorem dvd_G {a b c : Int} (h : c ∣ a) (k : c ∣ b) : c ∣ G a b := Int.dvd_coe_gcd h k

theorem G_eq_zero {a b : Int} (h : G a b = 0) : a = 0 ∧ b = 0 := by
  unfold G at h
  have : Int.gcd a b = 0 := by omega
  exact Int.gcd_eq_zero_iff.mp this

theorem G_pos {a b : Int} (h : a ≠ 0 ∨ b ≠ 0) : 0 < G a b := by
  rcases Int.lt_or_eq_of_le (G_nonneg a b) with h1 | h1
  · exact h1
  · have := G_eq_zero h1.symm; omega

theorem G_le {a b : Int} (B : Int) (ha : -B ≤ a) (ha' : a ≤ B) (hb : -B ≤ b) (hb' : b ≤ B) : G a b ≤ B := by
  by_cases h : a = 0 ∧ b = 0
  · obtain ⟨rfl, rfl⟩ := h; unfold G; simp; omega
  · by_cases ha0 : a = 0
    · subst ha0
      have hb0 : b ≠ 0 := by omega
      have := Int.le_of_dvd (a := G 0 b) (b := (b.natAbs : Int)) (by omega) (Int.dvd_natAbs.mpr (G_dvd_right 0 b))
      omega
    · have := Int.le_of_dvd (a := G a b) (b := (a.natAbs : Int)) (by omega) (Int.dvd_natAbs.mpr (G_dvd_left a b))
      omega

/-- What the least common multiple is. -/
def L (a b : Int) : Int := (Int.lcm a b : Int)

theorem L_val (a b : Int) : L a b = (a.natAbs : Int) / G a b * (b.natAbs : Int) := by
  unfold L G Int.lcm
  rw [Nat.lcm, ← Int.gcd_eq_natAbs_gcd_natAbs]
  have h : Int.gcd a b ∣ a.natAbs := by rw [Int.gcd_eq_natAbs_gcd_natAbs]; exact Nat.gcd_dvd_left _ _
  rw [← Nat.div_mul_right_comm h]
  simp

theorem mul_le {a b A B : Int} (ha : 0 ≤ a) (hb : 0 ≤ b) (hA : a ≤ A) (hB : b ≤ B) : 0 ≤ a * b ∧ a * b ≤ A * B :=
  ⟨Int.mul_nonneg ha hb, Int.mul_le_mul hA hB hb (by omega)⟩

theorem abs_mul_le {a b B C : Int} (ha : -B ≤ a) (ha' : a ≤ B) (hb : -C ≤ b) (hb' : b ≤ C) : -(B * C) ≤ a * b ∧ a * b ≤ B * C := by
  have hB : 0 ≤ B := by omega
  have hC : 0 ≤ C := by omega
  have h : ((a * b).natAbs : Int) ≤ B * C := by
    rw [Int.natAbs_mul]
    have := mul_le (a := (a.natAbs : Int)) (b := (b.natAbs : Int)) (A := B) (B := C) (by omega) (by omega) (by omega) (by omega)
    simpa using this.2
  omega

theorem abs_le_mul {b y : Int} (hb : b ≠ 0) : -((b * y).natAbs : Int) ≤ y ∧ y ≤ ((b * y).natAbs : Int) := by
  have h : y.natAbs ≤ (b * y).natAbs := by
    rw [Int.natAbs_mul]
    exact Nat.le_mul_of_pos_left _ (by omega)
  omega

theorem L_bound (a b : Int) (ha : -1000000000 ≤ a) (ha' : a ≤ 1000000000) (hb : -1000000000 ≤ b) (hb' : b ≤ 1000000000) :
    0 ≤ (a.natAbs : Int) / G a b ∧ (a.natAbs : Int) / G a b ≤ 1000000000 ∧ 0 ≤ L a b ∧ L a b ≤ 1000000000000000000 := by
  have h1 : 0 ≤ (a.natAbs : Int) / G a b := Int.ediv_nonneg (by omega) (G_nonneg a b)
  have h2 : (a.natAbs : Int) / G a b ≤ 1000000000 := Int.le_trans (Int.ediv_le_self _ (by omega)) (by omega)
  have := mul_le h1 (b := (b.natAbs : Int)) (by omega) h2 (B := 1000000000) (by omega)
  rw [L_val]
  exact ⟨h1, h2, this.1, by omega⟩

theorem L_small {a b : Int} (ha : -1000 ≤ a) (ha' : a ≤ 1000) (hb : -1000 ≤ b) (hb' : b ≤ 1000) : 0 ≤ L a b ∧ L a b ≤ 1000000 := by
  have h1 : 0 ≤ (a.natAbs : Int) / G a b := Int.ediv_nonneg (by omega) (G_nonneg a b)
  have h2 : (a.natAbs : Int) / G a b ≤ 1000 := Int.le_trans (Int.ediv_le_self _ (by omega)) (by omega)
  have := mul_le h1 (b := (b.natAbs : Int)) (by omega) h2 (B := 1000) (by omega)
  rw [L_val]
  exact ⟨this.1, by omega⟩

theorem G_mul_L (a b : Int) : G a b * L a b = ((a * b).natAbs : Int) := by
  unfold G L
  have := Int.gcd_mul_lcm a b
  rw [← Int.natCast_mul, this, Int.natAbs_mul]

/-- Of three numbers the one goes over the other. -/
theorem nat_distrib (a b c : Nat) : Nat.gcd a (Nat.lcm b c) = Nat.lcm (Nat.gcd a b) (Nat.gcd a c) := by
  apply Nat.dvd_antisymm
  · by_cases h0 : Nat.gcd (Nat.gcd a b) (Nat.gcd a c) = 0
    · have h1 := Nat.eq_zero_of_gcd_eq_zero_left h0
      have h2 := Nat.eq_zero_of_gcd_eq_zero_right h0
      have h3 := Nat.eq_zero_of_gcd_eq_zero_left h1
      have h4 := Nat.eq_zero_of_gcd_eq_zero_right h1
      subst h3; subst h4
      simp
    · apply Nat.dvd_of_mul_dvd_mul_left (k := Nat.gcd (Nat.gcd a b) (Nat.gcd a c)) (by omega)
      rw [Nat.gcd_mul_lcm]
      have ha : Nat.gcd (Nat.gcd a b) (Nat.gcd a c) ∣ a := Nat.dvd_trans (Nat.gcd_dvd_left _ _) (Nat.gcd_dvd_left _ _)
      have hb : Nat.gcd (Nat.gcd a b) (Nat.gcd a c) ∣ b := Nat.dvd_trans (Nat.gcd_dvd_left _ _) (Nat.gcd_dvd_right _ _)
      have hc : Nat.gcd (Nat.gcd a b) (Nat.gcd a c) ∣ c := Nat.dvd_trans (Nat.gcd_dvd_right _ _) (Nat.gcd_dvd_right _ _)
      have hg : Nat.gcd (Nat.gcd a b) (Nat.gcd a c) ∣ Nat.gcd b c := Nat.dvd_gcd hb hc
      have k1 : Nat.gcd a (Nat.lcm b c) ∣ a := Nat.gcd_dvd_left _ _
      have k2 : Nat.gcd a (Nat.lcm b c) ∣ Nat.lcm b c := Nat.gcd_dvd_right _ _
      have e : Nat.gcd a b * Nat.gcd a c = Nat.gcd (Nat.gcd (a * a) (b * a)) (Nat.gcd (a * c) (b * c)) := by
        rw [Nat.gcd_mul_right, Nat.gcd_mul_right, Nat.gcd_mul_left]
      rw [e]
      refine Nat.dvd_gcd (Nat.dvd_gcd ?_ ?_) (Nat.dvd_gcd ?_ ?_)
      · exact Nat.mul_dvd_mul ha k1
      · exact Nat.mul_dvd_mul hb k1
      · rw [Nat.mul_comm a c]; exact Nat.mul_dvd_mul hc k1
      · rw [← Nat.gcd_mul_lcm b c]; exact Nat.mul_dvd_mul hg k2
  · apply Nat.lcm_dvd
    · exact Nat.dvd_gcd (Nat.gcd_dvd_left _ _) (Nat.dvd_trans (Nat.gcd_dvd_right _ _) (Nat.dvd_lcm_left _ _))
    · exact Nat.dvd_gcd (Nat.gcd_dvd_left _ _) (Nat.dvd_trans (Nat.gcd_dvd_right _ _) (Nat.dvd_lcm_right _ _))

theorem G_L (a b c : Int) : G a (L b c) = L (G a b) (G a c) := by
  unfold G L Int.gcd Int.lcm
  simp only [Int.natAbs_natCast]
  rw [nat_distrib]

/-- How often EUCLID divides. -/
def St (a b : Nat) : Nat := if h : b = 0 then 0 else 1 + St b (a % b)
termination_by b
decreasing_by exact Nat.mod_lt _ (by omega)

theorem St_zero (a : Nat) : St a 0 = 0 := by unfold St; simp
theorem St_step (a b : Nat) (h : b ≠ 0) : St a b = 1 + St b (a % b) := by rw [St]; simp [h]
theorem St_le (a b : Nat) : St a b ≤ b := by
  induction b using Nat.strongRecOn generalizing a with
  | _ b ih =>
    by_cases h : b = 0
    · subst h; rw [St_zero]; omega
    · have h1 := Nat.mod_lt a (y := b) (by omega)
      have := ih (a % b) h1 b
      rw [St_step a b h]
      have := ih (a % b) h1 b
      omega

/-- What holds at each round of 'factor'. -/
structure FInv (m a r s x y : Int) : Prop where
  r0 : 0 < r
  rm : r ≤ m
  s0 : 0 ≤ s
  sr : s ≤ r
  e1 : ∃ k, r = x * a + k * m
  e2 : ∃ k, s = y * a + k * m
  g : G r s = G a m
  sg : (x ≤ 0 ∧ 0 ≤ y ∧ y * r - x * s = m) ∨ (0 ≤ x ∧ y ≤ 0 ∧ x * s - y * r = m)
  bx : -m ≤ x ∧ x ≤ m
  bY : -m ≤ y ∧ y ≤ m

theorem FInv.start {m a : Int} (h0 : 0 ≤ a) (h1 : a ≤ m) (hm : 0 < m) : FInv m a m a 0 1 :=
  ⟨hm, Int.le_refl _, h0, h1, ⟨1, by omega⟩, ⟨0, by omega⟩, G_comm _ _, .inl ⟨by omega, by omega, by omega⟩, by omega, by omega⟩

theorem le_mul_pos {z s : Int} (hz : 0 ≤ z) (hs : 1 ≤ s) : z ≤ z * s := by
  have := Int.mul_le_mul_of_nonneg_left hs hz
  omega

theorem FInv.round {m a r s x y : Int} (h : FInv m a r s x y) (hs : 0 < s) :
    FInv m a s (r - r / s * s) y (x - r / s * y) ∧ 0 ≤ r / s ∧ r / s ≤ m ∧ 0 ≤ r / s * s ∧ r / s * s ≤ m ∧ -m ≤ r / s * y ∧ r / s * y ≤ m := by
  obtain ⟨r0, rm, s0, sr, ⟨k1, e1⟩, ⟨k2, e2⟩, g, sg, bx, bY⟩ := h
  have hq0 : 0 ≤ r / s := Int.ediv_nonneg (by omega) s0
  have hq1 : r / s ≤ r := Int.ediv_le_self _ (by omega)
  have hqs := Int.ediv_mul_le r (b := s) (by omega)
  have hem : r - r / s * s = r % s := by rw [Int.emod_def, Int.mul_comm]
  have hem0 := Int.emod_nonneg r (b := s) (by omega)
  have hem1 := Int.emod_lt_of_pos r hs
  have hqs0 : 0 ≤ r / s * s := Int.mul_nonneg hq0 s0
  have hg : G s (r - r / s * s) = G a m := by rw [hem, G_step]; exact g
  generalize r / s = q at *
  have key : (y ≤ 0 ∧ 0 ≤ x - q * y ∧ (x - q * y) * s - y * (r - q * s) = m) ∨ (0 ≤ y ∧ x - q * y ≤ 0 ∧ y * (r - q * s) - (x - q * y) * s = m) := by
    rcases sg with ⟨a1, a2, a3⟩ | ⟨a1, a2, a3⟩
    · refine .inr ⟨a2, ?_, ?_⟩
      · have := Int.mul_nonneg hq0 a2; omega
      · rw [Int.mul_sub, Int.sub_mul, Int.mul_assoc q y s, Int.mul_left_comm y q s]; omega
    · refine .inl ⟨a2, ?_, ?_⟩
      · have := Int.mul_nonneg hq0 (b := -y) (by omega)
        rw [Int.mul_neg] at this; omega
      · rw [Int.mul_sub, Int.sub_mul, Int.mul_assoc q y s, Int.mul_left_comm y q s]; omega
  have bnd : -m ≤ x - q * y ∧ x - q * y ≤ m ∧ -m ≤ q * y ∧ q * y ≤ m := by
    rcases key with ⟨a1, a2, a3⟩ | ⟨a1, a2, a3⟩
    · have b1 : 0 ≤ (-y) * (r - q * s) := Int.mul_nonneg (by omega) (by omega)
      rw [Int.neg_mul] at b1
      have b2 := le_mul_pos a2 (s := s) (by omega)
      have b3 : 0 ≤ q * (-y) := Int.mul_nonneg hq0 (by omega)
      rw [Int.mul_neg] at b3
      have sgx : 0 ≤ x := by
        rcases sg with ⟨c1, c2, c3⟩ | ⟨c1, c2, c3⟩
        · have hy : y = 0 := by omega
          subst hy; simp at c3 a2; omega
        · exact c1
      omega
    · have b1 : 0 ≤ y * (r - q * s) := Int.mul_nonneg (by omega) (by omega)
      have b2 := le_mul_pos (z := -(x - q * y)) (by omega) (s := s) (by omega)
      rw [Int.neg_mul] at b2
      have b3 : 0 ≤ q * y := Int.mul_nonneg hq0 (by omega)
      have sgx : x ≤ 0 := by
        rcases sg with ⟨c1, c2, c3⟩ | ⟨c1, c2, c3⟩
        · exact c1
        · have hy : y = 0 := by omega
          subst hy; simp at c3 a2; omega
      omega
  refine ⟨⟨hs, by omega, by omega, by omega, ⟨k2, e2⟩, ⟨k1 - q * k2, ?_⟩, hg, key, bY, by omega⟩, hq0, by omega, hqs0, by omega, by omega, by omega⟩
  rw [e1, e2]; grind

/-- The first factor of BEZOUT, made least: b not 0. -/
theorem bezout_dvd {a b x0 : Int} (hb : b ≠ 0) (hx : ∃ k, G (a % (b.natAbs : Int)) (b.natAbs : Int) = x0 * (a % (b.natAbs : Int)) + k * (b.natAbs : Int)) :
    b ∣ G a b - x0 % ((b.natAbs : Int) / G a b) * a := by
  obtain ⟨k, hk⟩ := hx
  have hg : G (a % (b.natAbs : Int)) (b.natAbs : Int) = G a b := by
    rw [G_comm, G_step]; unfold G; simp [Int.gcd]
  rw [hg] at hk
  have hmb : b ∣ (b.natAbs : Int) := Int.dvd_natAbs.mpr (Int.dvd_refl b)
  refine Int.dvd_trans hmb ?_
  have hgm : G a b ∣ (b.natAbs : Int) := Int.dvd_natAbs.mpr (G_dvd_right a b)
  have hga := G_dvd_left a b
  have hgp := G_pos (a := a) (.inr hb)
  generalize (b.natAbs : Int) = m at *
  generalize G a b = g at *
  obtain ⟨n, rfl⟩ := hgm
  obtain ⟨c, rfl⟩ := hga
  have hn : g * n / g = n := Int.mul_ediv_cancel_left n (by omega)
  rw [hn]
  have h1 := Int.emod_add_mul_ediv (g * c) (g * n)
  have h2 := Int.emod_add_mul_ediv x0 n
  generalize g * c % (g * n) = a' at *
  generalize g * c / (g * n) = u at *
  generalize x0 % n = x at *
  generalize x0 / n = t at *
  refine ⟨k - x0 * u + t * c, ?_⟩
  have e1 : a' = g * c - g * n * u := by omega
  have e2 : x = x0 - n * t := by omega
  subst e1 e2
  have e3 : g = x0 * (g * c - g * n * u) + k * (g * n) := hk
  grind

theorem tmod_mod (n m : Int) : (n.tmod m + m) % m = n % m := by
  rw [Int.add_emod_right, Int.tmod_def, Int.sub_mul_emod_self_left]

theorem tmod_mod' (n m : Int) : n.tmod m % m = n % m := by
  rw [Int.tmod_def, Int.sub_mul_emod_self_left]

/-! STEIN's steps. -/
theorem stein_both {x y : Int} (hx : x % 2 = 0) (hy : y % 2 = 0) : G x y = 2 * G (x / 2) (y / 2) := by
  have e1 : x = 2 * (x / 2) := by omega
  have e2 : y = 2 * (y / 2) := by omega
  have : G (2 * (x / 2)) (2 * (y / 2)) = 2 * G (x / 2) (y / 2) := by unfold G; rw [Int.gcd_mul_left]; simp
  rw [← e1, ← e2] at this; exact this

theorem stein_left {x y : Int} (hx : x % 2 = 0) (ho : G x y % 2 = 1) : G (x / 2) y = G x y := by
  have e1 : x = 2 * (x / 2) := by omega
  have h1 : G (x / 2) y ∣ G x y := dvd_G (Int.dvd_trans (G_dvd_left _ _) ⟨2, by omega⟩) (G_dvd_right _ _)
  have h2 : G x y ∣ x / 2 := by
    have h3 : G x y ∣ 2 * (x / 2) := by rw [← e1]; exact G_dvd_left x y
    obtain ⟨c, hc⟩ := h3
    have h4 := Int.mul_emod (G x y) c 2
    rw [← hc, ho] at h4
    have h5 : c % 2 = 0 := by omega
    refine ⟨c / 2, ?_⟩
    have h6 : G x y * c = G x y * (c / 2) * 2 := by rw [Int.mul_assoc]; congr 1; omega
    omega
  have h3 := dvd_G h2 (G_dvd_right x y)
  exact Int.dvd_antisymm (G_nonneg _ _) (G_nonneg _ _) h1 h3

theorem stein_right {x y : Int} (hy : y % 2 = 0) (ho : G x y % 2 = 1) : G x (y / 2) = G x y := by
  rw [G_comm x y] at ho ⊢
  rw [G_comm x]
  exact stein_left hy ho

theorem stein_sub (x y : Int) : G x (y - x) = G x y := by
  have : y - x = y + x * (-1) := by omega
  rw [this, G_add_mul]

theorem stein_odd {x y : Int} (h : ¬ (x % 2 = 0 ∧ y % 2 = 0)) : G x y % 2 = 1 := by
  have h1 := G_dvd_left x y
  have h2 := G_dvd_right x y
  by_cases ho : G x y % 2 = 0
  · exfalso
    have h3 : (2 : Int) ∣ G x y := Int.dvd_of_emod_eq_zero ho
    have := Int.dvd_trans h3 h1
    have := Int.dvd_trans h3 h2
    omega
  · omega

theorem pow_le {g t B : Nat} (h : 1 ≤ g) (hb : g * 2 ^ t ≤ B) (hB : B < 2 ^ 30) : t < 30 := by
  rcases Nat.lt_or_ge t 30 with h1 | h1
  · exact h1
  · have h2 : 2 ^ 30 ≤ 2 ^ t := Nat.pow_le_pow_right (by omega) h1
    have h3 : 1 * 2 ^ t ≤ g * 2 ^ t := Nat.mul_le_mul_right _ h
    omega

end Go.Proofs.Ytfdhhiibhkepaaa.Eu
