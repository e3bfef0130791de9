/-
  All sums, made by doubling: as many places, and more. No Go in sight.
-/
import Derived.Test.YthlnbomapfjphaaDoorGln
namespace Go.Proofs.YthlnbomapfjphaaDoor.Ln

theorem bit_up {k i j : Nat} (h : i < k) : (2 ^ k + j) / 2 ^ i % 2 = j / 2 ^ i % 2 := by
  obtain ⟨d, rfl⟩ : ∃ d, k = i + (d + 1) := ⟨k - i - 1, by omega⟩
  have hp : 0 < 2 ^ i := Nat.pow_pos (by decide)
  rw [Nat.pow_add, Nat.mul_add_div hp, Nat.pow_succ]
  omega
theorem wk_up (l : List Nat) {k j : Nat} : ∀ i, i ≤ k → wk l (2 ^ k + j) i = wk l j i := by
  intro i
  induction i with
  | zero => intro _; rfl
  | succ i ih => intro hi; rw [wk, wk, ih (by omega), bit_up (by omega)]
/-- A generator more: once with it .. -/
theorem wk_with (l : List Nat) {k j : Nat} (hj : j < 2 ^ k) : wk l (2 ^ k + j) (k + 1) = wk l j k ^^^ l.getD k 0 := by
  have hp : 0 < 2 ^ k := Nat.pow_pos (by decide)
  have e : (2 ^ k + j) / 2 ^ k % 2 = 1 := by
    rw [Nat.add_div_left _ hp, Nat.div_eq_of_lt hj]
  rw [wk, wk_up l k (Nat.le_refl _), e, Nat.mul_one]
/-- .. once without. -/
theorem wk_bare (l : List Nat) {k j : Nat} (hj : j < 2 ^ k) : wk l j (k + 1) = wk l j k := by
  rw [wk, Nat.div_eq_of_lt hj, Nat.zero_mod, Nat.mul_zero, Nat.xor_zero]

end Go.Proofs.YthlnbomapfjphaaDoor.Ln
