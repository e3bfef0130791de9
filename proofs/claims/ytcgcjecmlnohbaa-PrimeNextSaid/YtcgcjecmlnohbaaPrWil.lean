/-
  WILSON's law below 2002, reckoned. No Go in sight.
-/
import Derived.Test.YtcgcjecmlnohbaaPrMath
namespace Go.Proofs.Ytcgcjecmlnohbaa.Pr

/-- (n - 1)!, modulo n: step by step. -/
def wil (n : Nat) : Nat → Nat → Nat → Nat
  | 0, _, x => x
  | c + 1, k, x => wil n c (k + 1) (x * k % n)

def wilOk (n : Nat) : Bool := !isP n || wil n (n - 2) 2 1 == n - 1

theorem wil_all : (List.range 2002).all wilOk = true := by decide +kernel

/-- WILSON, below 2002. -/
theorem wilson_prm {n : Nat} (hn : n < 2002) (h : isP n = true) : wil n (n - 2) 2 1 = n - 1 := by
  have := List.all_eq_true.mp wil_all n (List.mem_range.mpr hn)
  simp only [wilOk, h, Bool.not_true, Bool.false_or, beq_iff_eq] at this
  exact this

/-- A divisor of n among the factors is there to the end. -/
theorem wil_dvd (n d : Nat) (hdn : d ∣ n) : ∀ c k x, (d ∣ x ∨ (k ≤ d ∧ d < k + c)) → d ∣ wil n c k x := by
  intro c
  induction c with
  | zero =>
    intro k x h
    rcases h with h | h
    · exact h
    · omega
  | succ c ih =>
    intro k x h
    show d ∣ wil n c (k + 1) (x * k % n)
    apply ih
    rcases h with h | h
    · exact .inl ((Nat.dvd_mod_iff hdn).mpr (Nat.dvd_trans h (Nat.dvd_mul_right _ _)))
    · by_cases e : k = d
      · subst e
        exact .inl ((Nat.dvd_mod_iff hdn).mpr (Nat.dvd_mul_left _ _))
      · exact .inr ⟨by omega, by omega⟩

theorem wilson {n : Nat} (h2 : 2 ≤ n) (hn : n < 2002) : pb (n : Int) = ((wil n (n - 2) 2 1 : Int) == (n : Int) - 1) := by
  by_cases hp : Prm (n : Int)
  · rw [(pb_iff _).mpr hp, wilson_prm hn (isP_of_prm (by omega) hp)]
    have : ((n - 1 : Nat) : Int) = (n : Int) - 1 := by omega
    rw [this]; simp
  · rw [pb_no hp]
    obtain ⟨q, hq⟩ := mf_some (n := (n : Int)) (by omega)
    have hle := hq.le (by omega)
    have hqn : q ≠ n := fun e => hp ((prm_iff_mf (by omega) hq).mpr e)
    have h1 := hq.1
    have e : ((q.toNat : Nat) : Int) = q := by omega
    have hdv : q.toNat ∣ n := Int.natCast_dvd_natCast.mp (by rw [e]; exact hq.2.1)
    have hw := wil_dvd n q.toNat hdv (n - 2) 2 1 (.inr ⟨by omega, by omega⟩)
    have hne : ((wil n (n - 2) 2 1 : Nat) : Int) ≠ (n : Int) - 1 := by
      intro h
      have h3 : wil n (n - 2) 2 1 = n - 1 := by omega
      rw [h3] at hw
      have h4 : q.toNat ∣ 1 := by
        have := Nat.dvd_sub hdv hw
        rwa [show n - (n - 1) = 1 by omega] at this
      have := Nat.le_of_dvd (by omega) h4
      omega
    simp [hne]

theorem wil_succ (n c k x : Nat) : wil n (c + 1) k x = wil n c (k + 1) (x * k % n) := rfl


end Go.Proofs.Ytcgcjecmlnohbaa.Pr
