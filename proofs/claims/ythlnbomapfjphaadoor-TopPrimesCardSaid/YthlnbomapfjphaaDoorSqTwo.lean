/-
  FERMAT's two squares (THUE's pairs); the root of a number; sums of two squares, multiplied. No Go in sight.
-/
import Derived.Test.YthlnbomapfjphaaDoorSqEuler
namespace Go.Proofs.YthlnbomapfjphaaDoor.Sq
open Eu Pr Rs Dd

theorem sq_mod4 (a : Int) : a * a % 4 = 0 ∨ a * a % 4 = 1 := by
  rcases (show a % 4 = 0 ∨ a % 4 = 1 ∨ a % 4 = 2 ∨ a % 4 = 3 by omega) with h | h | h | h <;> rw [Int.mul_emod, h] <;> simp

/-- What leaves 3, divided by 4, is no sum of two squares. -/
theorem two_no {n a b : Int} (h : n % 4 = 3) : a * a + b * b ≠ n := fun he => by
  have h1 := sq_mod4 a
  have h2 := sq_mod4 b
  omega

/-- BRAHMAGUPTA. -/
theorem two_mul (a b c d : Int) : (a * a + b * b) * (c * c + d * d) = (a * c - b * d) * (a * c - b * d) + (a * d + b * c) * (a * d + b * c) := by
  simp only [Int.sub_mul, Int.mul_sub, Int.add_mul, Int.mul_add]
  have e1 : a * c * (b * d) = a * d * (b * c) := by ac_rfl
  have e2 : b * d * (a * c) = b * c * (a * d) := by ac_rfl
  have e3 : a * a * (c * c) = a * c * (a * c) := by ac_rfl
  have e4 : a * a * (d * d) = a * d * (a * d) := by ac_rfl
  have e5 : b * b * (c * c) = b * c * (b * c) := by ac_rfl
  have e6 : b * b * (d * d) = b * d * (b * d) := by ac_rfl
  rw [e1, e2, e3, e4, e5, e6]
  have e7 : b * c * (a * d) = a * d * (b * c) := by ac_rfl
  rw [e7]
  omega

theorem nodup_len : ∀ (A B : List Nat), A.Nodup → (∀ x ∈ A, x ∈ B) → A.length ≤ B.length := by
  intro A
  induction A with
  | nil => intro B _ _; simp
  | cons x A ih =>
    intro B hn hs
    rw [List.nodup_cons] at hn
    have hx : x ∈ B := hs x (by simp)
    have h1 := ih (B.erase x) hn.2 (fun y hy => by
      have hne : y ≠ x := fun e => hn.1 (e ▸ hy)
      exact (List.mem_erase_of_ne hne).mpr (hs y (by simp [hy])))
    have h2 := List.length_erase_of_mem hx
    have h3 := List.length_pos_of_mem hx
    simp
    omega

/-- More numbers than places: two of one place. -/
theorem pigeons {f : Nat → Nat} {n m : Nat} (h : ∀ x, x < n → f x < m) (hlt : m < n) : ∃ x y, x < y ∧ y < n ∧ f x = f y := by
  refine Classical.byContradiction fun hc => ?_
  have hn : ((List.range n).map f).Nodup := by
    unfold List.Nodup
    rw [List.pairwise_map, List.pairwise_iff_getElem]
    intro i j hi hj hij he
    simp at hi hj he
    exact hc ⟨i, j, hij, hj, he⟩
  have := nodup_len _ (List.range m) hn (fun x hx => by
    obtain ⟨y, hy, rfl⟩ := List.mem_map.mp hx
    exact List.mem_range.mpr (h y (List.mem_range.mp hy)))
  simp at this
  omega

theorem root_some (n : Nat) : ∃ s : Nat, s * s ≤ n ∧ n < (s + 1) * (s + 1) := by
  induction n with
  | zero => exact ⟨0, by omega, by omega⟩
  | succ n ih =>
    obtain ⟨s, h1, h2⟩ := ih
    by_cases h : n + 1 < (s + 1) * (s + 1)
    · exact ⟨s, by omega, h⟩
    · refine ⟨s + 1, by omega, ?_⟩
      have : (s + 1) * (s + 1) < (s + 1 + 1) * (s + 1 + 1) := Nat.mul_self_lt_mul_self (by omega)
      omega

/-- THUE. -/
theorem thue {p : Nat} (hp : Prm (p : Int)) (x : Int) : ∃ a b : Int, (a ≠ 0 ∨ b ≠ 0) ∧ a * a < p ∧ b * b < p ∧ (p : Int) ∣ a - x * b := by
  have hp2 := hp.1
  obtain ⟨s, s1, s2⟩ := root_some p
  have hs : 1 ≤ s := by
    rcases Nat.eq_zero_or_pos s with h | h
    · subst h; omega
    · exact h
  have hne : s * s ≠ p := fun e => by
    have hd : ((s : Nat) : Int) ∣ p := ⟨s, by rw [← Int.natCast_mul, e]⟩
    rcases Nat.lt_or_ge s 2 with h | h
    · have : s = 1 := by omega
      subst this
      omega
    · have h3 : s * 2 ≤ s * s := Nat.mul_le_mul_left s h
      exact hp.2 s (by omega) (by omega) hd
  -- pair number t: (t / (s + 1), t % (s + 1))
  let f : Nat → Nat := fun t => ((((t / (s + 1) : Nat) : Int) - x * ((t % (s + 1) : Nat) : Int)) % p).toNat
  obtain ⟨t, u, htu, hu, he⟩ := pigeons (f := f) (n := (s + 1) * (s + 1)) (m := p) (fun t _ => by
    have h1 := Int.emod_nonneg (((t / (s + 1) : Nat) : Int) - x * ((t % (s + 1) : Nat) : Int)) (b := (p : Int)) (by omega)
    have h2 := Int.emod_lt_of_pos (((t / (s + 1) : Nat) : Int) - x * ((t % (s + 1) : Nat) : Int)) (b := (p : Int)) (by omega)
    show Int.toNat _ < p
    omega) (by omega)
  have h1 := Int.emod_nonneg (((t / (s + 1) : Nat) : Int) - x * ((t % (s + 1) : Nat) : Int)) (b := (p : Int)) (by omega)
  have h2 := Int.emod_nonneg (((u / (s + 1) : Nat) : Int) - x * ((u % (s + 1) : Nat) : Int)) (b := (p : Int)) (by omega)
  have he2 : (((t / (s + 1) : Nat) : Int) - x * ((t % (s + 1) : Nat) : Int)) % p = (((u / (s + 1) : Nat) : Int) - x * ((u % (s + 1) : Nat) : Int)) % p := by
    have : Int.toNat _ = Int.toNat _ := he
    omega
  have hd : (p : Int) ∣ (((t / (s + 1) : Nat) : Int) - x * ((t % (s + 1) : Nat) : Int)) - (((u / (s + 1) : Nat) : Int) - x * ((u % (s + 1) : Nat) : Int)) :=
    Int.dvd_of_emod_eq_zero (Int.emod_eq_emod_iff_emod_sub_eq_zero.mp he2)
  have q1 : t / (s + 1) ≤ s := by
    have : t / (s + 1) < s + 1 := Nat.div_lt_of_lt_mul (by omega)
    omega
  have q2 : u / (s + 1) ≤ s := by
    have : u / (s + 1) < s + 1 := Nat.div_lt_of_lt_mul (by omega)
    omega
  have q3 := Nat.mod_lt t (show 0 < s + 1 by omega)
  have q4 := Nat.mod_lt u (show 0 < s + 1 by omega)
  have q5 := Nat.div_add_mod t (s + 1)
  have q6 := Nat.div_add_mod u (s + 1)
  have sqle : ∀ z : Int, -(s : Int) ≤ z → z ≤ s → z * z < p := fun z z1 z2 => by
    have h3 := abs_mul_le (a := z) (b := z) (B := s) (C := s) z1 z2 z1 z2
    have h4 : (s : Int) * s = ((s * s : Nat) : Int) := (Int.natCast_mul s s).symm
    omega
  generalize t / (s + 1) = t1 at *
  generalize t % (s + 1) = t2 at *
  generalize u / (s + 1) = u1 at *
  generalize u % (s + 1) = u2 at *
  clear he he2 h1 h2
  refine ⟨(t1 : Int) - u1, (t2 : Int) - u2, ?_, sqle _ (by omega) (by omega), sqle _ (by omega) (by omega), ?_⟩
  · refine Classical.byContradiction fun hc => ?_
    have c1 : t1 = u1 := by omega
    have c2 : t2 = u2 := by omega
    rw [c1, c2] at q5
    omega
  · rw [Int.mul_sub]
    rw [show (t1 : Int) - u1 - (x * t2 - x * u2) = ((t1 : Int) - x * t2) - ((u1 : Int) - x * u2) by omega]
    exact hd

/-- FERMAT: a prime that does not leave 3 is two squares. -/
theorem two_yes {p : Nat} (hp : Prm (p : Int)) (h3 : p % 4 ≠ 3) : ∃ a b : Int, a * a + b * b = p := by
  have hp2 := hp.1
  by_cases h2 : p = 2
  · subst h2; exact ⟨1, 1, rfl⟩
  · obtain ⟨ho, hp3⟩ := prm_odd hp h2
    have hl := jac_prime (a := -1) hp h2
    rw [jac_neg ho, if_neg h3] at hl
    have hs : IsSq (-1) p := by
      refine Classical.byContradiction fun hc => ?_
      unfold leg at hl
      split at hl
      · exact absurd hl (by decide)
      · first
          | exact absurd hl (by decide)
          | (rw [if_neg hc] at hl; exact absurd hl (by decide))
    obtain ⟨x, hx⟩ := hs
    obtain ⟨a, b, hne, ha, hb, hd⟩ := thue hp x
    have hdd : (p : Int) ∣ a * a + b * b := by
      have e : a * a + b * b = (a - x * b) * (a + x * b) + (x * x - -1) * (b * b) := by
        simp only [Int.sub_mul, Int.mul_add]
        have e1 : x * b * (x * b) = x * x * (b * b) := by ac_rfl
        have e2 : a * (x * b) = x * b * a := by ac_rfl
        omega
      rw [e]
      exact Int.dvd_add (Int.dvd_trans hd (Int.dvd_mul_right _ _)) (Int.dvd_trans hx (Int.dvd_mul_right _ _))
    obtain ⟨k, hk⟩ := hdd
    have n1 : 0 ≤ a * a := by rcases Int.le_total 0 a with h | h; exact Int.mul_nonneg h h; exact Int.mul_nonneg_of_nonpos_of_nonpos h h
    have n2 : 0 ≤ b * b := by rcases Int.le_total 0 b with h | h; exact Int.mul_nonneg h h; exact Int.mul_nonneg_of_nonpos_of_nonpos h h
    have n3 : 0 < a * a + b * b := by
      rcases hne with h | h
      · have : 0 ≠ a * a := fun e => h (by have := Int.mul_eq_zero.mp e.symm; omega)
        omega
      · have : 0 ≠ b * b := fun e => h (by have := Int.mul_eq_zero.mp e.symm; omega)
        omega
    have k1 : k = 1 := by
      have k2 : 0 < k := by
        refine Decidable.byContradiction fun hc => ?_
        have := Int.mul_le_mul_of_nonneg_left (show k ≤ 0 by omega) (show 0 ≤ (p : Int) by omega)
        omega
      have k3 : k < 2 := by
        refine Decidable.byContradiction fun hc => ?_
        have := Int.mul_le_mul_of_nonneg_left (show 2 ≤ k by omega) (show 0 ≤ (p : Int) by omega)
        omega
      omega
    exact ⟨a, b, by rw [hk, k1, Int.mul_one]⟩

/-- The two roots of a square. -/
theorem two_roots {p : Nat} (hp : Prm (p : Int)) {x y : Int} (h : (p : Int) ∣ x * x - y * y) : (p : Int) ∣ x - y ∨ (p : Int) ∣ x + y := by
  have e : x * x - y * y = (x - y) * (x + y) := by rw [Int.sub_mul, Int.mul_add, Int.mul_add, Int.mul_comm y x]; omega
  rw [e] at h
  exact euclid hp h

end Go.Proofs.YthlnbomapfjphaaDoor.Sq
