/-
  Choices by a prime, by falling products; what the walks of package binom keep. No Go in sight.
-/
import Derived.Test.YtfdhhiibhkepaaaBiMath
namespace Go.Proofs.Ytfdhhiibhkepaaa.Bi
open Pr Eu Rs

/-- a (a - 1) .. (a - i + 1). -/
def ff (a : Nat) : Nat → Nat
  | 0 => 1
  | i + 1 => ff a i * (a - i)

theorem ff_ch (a : Nat) : ∀ b : Nat, ff a b = ch a b * fa b := by
  intro b
  induction b with
  | zero => simp [ff, fa, ch_zero]
  | succ b ih =>
    show ff a b * (a - b) = ch a (b + 1) * ((b + 1) * fa b)
    rw [ih, ← Nat.mul_assoc]
    by_cases h : b ≤ a
    · rw [ch_next h]; ac_rfl
    · rw [ch_big a b (by omega), ch_big a (b + 1) (by omega)]; simp

theorem ff_over {a i : Nat} (h : a < i) : ff a i = 0 := by rw [ff_ch, ch_big a i h, Nat.zero_mul]

theorem same_mul {p a b c d : Int} (h : a % p = b % p) (k : c % p = d % p) : a * c % p = b * d % p := by
  rw [Int.mul_emod, h, k, ← Int.mul_emod]

theorem ff_step {p t T : Int} {a i : Nat} (ha : i ≤ a) (h : t % p = T * ff a i % p) : t * ((a : Int) - i) % p % p = T * ff a (i + 1) % p := by
  rw [Int.emod_emod, same_mul h rfl]
  have e : ((ff a (i + 1) : Nat) : Int) = ff a i * ((a : Int) - i) := by
    show ((ff a i * (a - i) : Nat) : Int) = _
    rw [Int.natCast_mul, Int.natCast_sub ha]
  rw [e, Int.mul_assoc]

theorem fa_step {p b B : Int} {i : Nat} (h : b % p = B * fa i % p) : b * ((i : Int) + 1) % p % p = B * fa (i + 1) % p := by
  rw [Int.emod_emod, same_mul h rfl]
  have e : ((fa (i + 1) : Nat) : Int) = fa i * ((i : Int) + 1) := by
    show (((i + 1) * fa i : Nat) : Int) = _
    rw [Int.natCast_mul]
    have : ((i + 1 : Nat) : Int) = (i : Int) + 1 := by omega
    rw [this, Int.mul_comm]
  rw [e, Int.mul_assoc]

theorem lucasZ {p : Nat} (hp : Prm p) (n k : Nat) : (ch n k : Int) % p = (ch (n / p) (k / p) : Int) * (ch (n % p) (k % p) : Int) % p := by
  have := congrArg (Nat.cast (R := Int)) (lucas hp n k)
  rwa [Int.natCast_emod, Int.natCast_emod, Int.natCast_mul] at this

/-- One place of LUCAS's product. -/
theorem mod_round {p : Nat} (hp : Prm p) {n k : Nat} {T B t b C : Int} (h : T * (ch n k : Int) % p = B * C % p)
    (ht : t % p = T * (ff (n % p) (k % p) : Int) % p) (hb : b % p = B * (fa (k % p) : Int) % p) : t * (ch (n / p) (k / p) : Int) % p = b * C % p := by
  rw [same_mul ht rfl, same_mul hb rfl, ff_ch, Int.natCast_mul]
  have e1 : T * ((ch (n % p) (k % p) : Int) * (fa (k % p) : Int)) * (ch (n / p) (k / p) : Int) = (T * ((ch (n / p) (k / p) : Int) * (ch (n % p) (k % p) : Int))) * (fa (k % p) : Int) := by ac_rfl
  have e2 : B * (fa (k % p) : Int) * C = (B * C) * (fa (k % p) : Int) := by ac_rfl
  rw [e1, e2]
  exact same_mul (by rw [← h]; exact same_mul rfl (lucasZ hp n k).symm) rfl

theorem mod_end {p T B C x : Int} (h : T * 1 % p = B * C % p) (hx : x * B % p = 1 % p) : T * x % p = C % p := by
  rw [Int.mul_one] at h
  rw [same_mul h rfl, show B * C * x = x * B * C by ac_rfl, same_mul hx rfl, Int.one_mul]

theorem fa_not {p : Nat} (hp : Prm p) : ∀ i : Nat, i < p → ¬ (p : Int) ∣ (fa i : Int) := by
  intro i
  induction i with
  | zero =>
    intro _ h
    have := Int.le_of_dvd (by decide) h
    have e : ((fa 0 : Nat) : Int) = 1 := rfl
    have := hp.1
    omega
  | succ i ih =>
    intro hi h
    have e : ((fa (i + 1) : Nat) : Int) = ((i + 1 : Nat) : Int) * fa i := by
      show (((i + 1) * fa i : Nat) : Int) = _
      rw [Int.natCast_mul]
    rw [e] at h
    rcases euclid hp h with h1 | h1
    · have := Int.le_of_dvd (by omega) h1
      omega
    · exact ih (by omega) h1

theorem not_next {p : Nat} (hp : Prm p) {b B : Int} {i : Nat} (hi : i < p) (hB : ¬ (p : Int) ∣ B) (h : b % p = B * (fa i : Int) % p) : ¬ (p : Int) ∣ b := fun hd => by
  have h1 := Int.emod_eq_zero_of_dvd hd
  rw [h] at h1
  rcases euclid hp (Int.dvd_of_emod_eq_zero h1) with h2 | h2
  · exact hB h2
  · exact fa_not hp i hi h2

theorem not_one {p : Nat} (hp : Prm p) : ¬ (p : Int) ∣ 1 := fun h => by
  have := Int.le_of_dvd (by decide) h
  have := hp.1
  omega

theorem prm_G {p b : Int} (hp : Prm p) (hb : ¬ p ∣ b) : G b p = 1 := by
  have h2 := hp.1
  have h1 := G_pos (a := b) (b := p) (.inr (by omega))
  have hd := G_dvd_right b p
  have hle := Int.le_of_dvd (by omega) hd
  refine Decidable.byContradiction fun hc => ?_
  by_cases h : G b p < p
  · exact hp.2 _ (by omega) h hd
  · have e : G b p = p := by omega
    exact hb (e ▸ G_dvd_left b p)

theorem often_le {p : Nat} (hp : 2 ≤ p) : ∀ n : Nat, often p n ≤ n := by
  intro n
  induction n using Nat.strongRecOn with
  | ind n ih =>
    by_cases h : 0 < n
    · rw [often_step hp]
      have h1 := Nat.div_lt_self h (show 1 < p by omega)
      have h2 := ih (n / p) h1
      have h3 : n / p * 2 ≤ n := Nat.le_trans (Nat.mul_le_mul_left _ hp) (Nat.div_mul_le_self n p)
      omega
    · obtain rfl : n = 0 := by omega
      rw [often_zero]; exact Nat.le_refl 0

/-- From one of a row to the next, divided. -/
theorem ch_div {n i : Nat} (h : i ≤ n) : (ch n i : Int) * ((n : Int) - i) / ((i : Int) + 1) = (ch n (i + 1) : Int) := by
  have h1 := congrArg (Nat.cast (R := Int)) (ch_next h)
  rw [Int.natCast_mul, Int.natCast_mul, Int.natCast_sub h] at h1
  rw [← h1, show ((i + 1 : Nat) : Int) = (i : Int) + 1 by omega, Int.mul_ediv_cancel _ (by omega)]

theorem ch_prod {n i : Nat} (hn : n ≤ 60) (h : i ≤ n) : 0 ≤ (ch n i : Int) * ((n : Int) - i) ∧ (ch n i : Int) * ((n : Int) - i) ≤ 7095874893891685440 := by
  have h1 := ch_bound (n := n) (k := i) hn
  have h2 : ch n i * (n - i) ≤ 118264581564861424 * 60 := Nat.mul_le_mul h1 (by omega)
  have e : (ch n i : Int) * ((n : Int) - i) = ((ch n i * (n - i) : Nat) : Int) := by rw [Int.natCast_mul, Int.natCast_sub h]
  rw [e]
  omega

/-- The other way round, by the document's road. -/
theorem ch_min {n k : Nat} (h : k ≤ n) : ch n (min k (n - k)) = ch n k := by
  by_cases hk : k ≤ n - k
  · rw [Nat.min_eq_left hk]
  · rw [Nat.min_eq_right (by omega), ch_sym n k h]

theorem vs_mono (m n k : Nat) : ∀ t s : Nat, t ≤ s → vs m n k t ≤ vs m n k s := by
  intro t s h
  induction s with
  | zero => obtain rfl : t = 0 := by omega
            exact Nat.le_refl _
  | succ s ih =>
    by_cases e : t = s + 1
    · subst e; exact Nat.le_refl _
    · have := ih (by omega)
      show _ ≤ vs m n k s + _
      omega
theorem rs_mono (n : Nat) : ∀ t s : Nat, t ≤ s → rs n t ≤ rs n s := by
  intro t s h
  induction s with
  | zero => obtain rfl : t = 0 := by omega
            exact Nat.le_refl _
  | succ s ih =>
    by_cases e : t = s + 1
    · subst e; exact Nat.le_refl _
    · have := ih (by omega)
      show _ ≤ rs n s + _
      omega

/-- A row by p, from the row before, from behind. -/
theorem row_step {p : Int} {j i : Nat} (hi : 1 ≤ i) {x y : Int} (hx : x = (ch j i : Int) % p) (hy : y = (ch j (i - 1) : Int) % p) : (x + y) % p = (ch (j + 1) i : Int) % p := by
  obtain ⟨i, rfl⟩ : ∃ k, i = k + 1 := ⟨i - 1, by omega⟩
  rw [Nat.add_sub_cancel] at hy
  subst hx hy
  rw [← Int.add_emod, ch_step, Int.natCast_add, Int.add_comm]

end Go.Proofs.Ytfdhhiibhkepaaa.Bi
