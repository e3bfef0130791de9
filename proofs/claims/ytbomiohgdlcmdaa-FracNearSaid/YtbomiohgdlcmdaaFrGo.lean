/-
  FAREY's rows step by step, as far as 30: reckoned. No Go in sight.
-/
import Derived.Test.YtbomiohgdlcmdaaFrFarey
namespace Go.Proofs.Ytbomiohgdlcmdaa.Fr
open Eu

/-- From a and b (side by side) on, the rest of the row is l; all on the way is small. -/
def wk : Nat → Nat → Nat × Nat → Nat × Nat → List (Nat × Nat) → Bool
  | 0, _, _, _, _ => false
  | k + 1, n, a, b, l => if a.1 < a.2 then
      decide (1 ≤ b.2) && decide (b.2 ≤ n) && decide (b.1 ≤ n) && decide (a.1 ≤ (n + a.2) / b.2 * b.1) && decide (a.2 ≤ (n + a.2) / b.2 * b.2) && decide ((n + a.2) / b.2 ≤ 61) &&
        (match l with | [] => false | x :: l2 => x == b && wk k n b ((n + a.2) / b.2 * b.1 - a.1, (n + a.2) / b.2 * b.2 - a.2) l2)
    else l.isEmpty

def okW (n : Nat) : Bool := match FLn n with | [] => false | x :: l => x == (0, 1) && wk 300 n (0, 1) (1, n) l

theorem okW_all : (List.range 30).all (fun n => okW (n + 1)) = true := by decide +kernel

theorem okW_at {n : Nat} (h1 : 1 ≤ n) (h2 : n ≤ 30) : ∃ l, FLn n = (0, 1) :: l ∧ wk 300 n (0, 1) (1, n) l = true := by
  have := List.all_eq_true.mp okW_all (n - 1) (List.mem_range.mpr (by omega))
  rw [show n - 1 + 1 = n by omega] at this
  unfold okW at this
  split at this
  · cases this
  · rename_i x l e
    rw [Bool.and_eq_true, beq_iff_eq] at this
    exact ⟨l, by rw [e, this.1], this.2⟩

theorem wk_end {k n : Nat} {a b : Nat × Nat} {l : List (Nat × Nat)} (h : wk k n a b l = true) (ha : ¬ a.1 < a.2) : l = [] := by
  match k with
  | 0 => cases h
  | k + 1 =>
    unfold wk at h
    rw [if_neg ha] at h
    simpa using h

theorem wk_go {k n : Nat} {a b : Nat × Nat} {l : List (Nat × Nat)} (h : wk k n a b l = true) (ha : a.1 < a.2) : ∃ k2 l2 t, t = (n + a.2) / b.2 ∧ l = b :: l2 ∧ 1 ≤ b.2 ∧ b.2 ≤ n ∧ b.1 ≤ n ∧ a.1 ≤ t * b.1 ∧ a.2 ≤ t * b.2 ∧ t ≤ 61 ∧
    wk k2 n b (t * b.1 - a.1, t * b.2 - a.2) l2 = true := by
  match k with
  | 0 => cases h
  | k + 1 =>
    unfold wk at h
    rw [if_pos ha] at h
    simp only [Bool.and_eq_true, decide_eq_true_eq] at h
    obtain ⟨⟨⟨⟨⟨⟨h1, h2⟩, h3⟩, h4⟩, h5⟩, h6⟩, h7⟩ := h
    split at h7
    · cases h7
    · rename_i x l2
      rw [Bool.and_eq_true, beq_iff_eq] at h7
      exact ⟨k, l2, _, rfl, by rw [h7.1], h1, h2, h3, h4, h5, h6, h7.2⟩

end Go.Proofs.Ytbomiohgdlcmdaa.Fr
