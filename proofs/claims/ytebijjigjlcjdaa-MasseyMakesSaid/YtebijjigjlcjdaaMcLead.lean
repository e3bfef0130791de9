/-
  (*reduced).lead of package matrix: one column.
-/
import Derived.Test.YtebijjigjlcjdaaGmc
namespace Go.Proofs.Ytebijjigjlcjdaa
open Go.RowKit
open Gf

/-- The rows but p, cleared so far. -/
def lin (M : Nat → Nat → E) (p c i : Nat) : Nat → Nat → E := fun r => if r ≠ p ∧ r < i then fun k => M r k + M p k * M r c else M r
theorem lin_zero (M : Nat → Nat → E) (p c : Nat) : lin M p c 0 = M := by
  funext r; unfold lin; rw [if_neg (by omega)]
theorem lin_at (M : Nat → Nat → E) (p c : Nat) {i r : Nat} (h : i ≤ r ∨ r = p) : lin M p c i r = M r := by
  unfold lin; rw [if_neg (by omega)]
theorem lin_step (M : Nat → Nat → E) {p c i : Nat} (hi : i ≠ p) (r : Nat) : (if r = i then fun k => M i k + M p k * M i c else lin M p c i r) = lin M p c (i + 1) r := by
  unfold lin
  by_cases e : r = i
  · subst e; rw [if_pos rfl, if_pos (by omega)]
  · rw [if_neg e]
    by_cases e2 : r ≠ p ∧ r < i
    · rw [if_pos e2, if_pos (by omega)]
    · rw [if_neg e2, if_neg (by omega)]
theorem lin_skip (M : Nat → Nat → E) (p c : Nat) : lin M p c (p + 1) = lin M p c p := by
  funext r
  unfold lin
  by_cases e : r ≠ p ∧ r < p
  · rw [if_pos e, if_pos (by omega)]
  · rw [if_neg e, if_neg (by omega)]

/-- Where the first row is that is not 0 in the column; then one step. -/
def ldK (M : Nat → Nat → E) (p c R : Nat) : Int := firstP (fun i => decide ((M (p + i) c).v ≠ 0)) (R - p)
/-- The pivot's row divided by what stands there. -/
def unR (M : Nat → Nat → E) (p : Nat) (X : E) : Nat → Nat → E := fun r => if r = p then fun k => M p k * X.inv else M r
def ldr (R c : Nat) (s : (Nat → Nat → E) × List (Nat × Nat) × E) : (Nat → Nat → E) × List (Nat × Nat) × E :=
  if ldK s.1 s.2.1.length c R < 0 then s else
    (lin (unR (fun i j => s.1 (sw s.2.1.length (s.2.1.length + (ldK s.1 s.2.1.length c R).toNat) i) j) s.2.1.length (s.1 (s.2.1.length + (ldK s.1 s.2.1.length c R).toNat) c)) s.2.1.length c R, s.2.1 ++ [(s.2.1.length, c)], s.2.2 * s.1 (s.2.1.length + (ldK s.1 s.2.1.length c R).toNat) c)
theorem ldr_none {R c p : Nat} {M : Nat → Nat → E} {P : List (Nat × Nat)} {d : E} (hp : P.length = p) (h : ldK M p c R = -1) : ldr R c (M, P, d) = (M, P, d) := by
  subst hp
  unfold ldr
  dsimp only
  rw [if_pos (by rw [h]; decide)]
theorem ldr_some {R c p k : Nat} {M : Nat → Nat → E} {P : List (Nat × Nat)} {d X : E} (hp : P.length = p) (h : ldK M p c R = (k : Int)) (hX : M (p + k) c = X) : ldr R c (M, P, d) = (lin (unR (fun i j => M (sw p (p + k) i) j) p X) p c R, P ++ [(p, c)], d * X) := by
  subst hp
  subst hX
  unfold ldr
  dsimp only
  rw [if_neg (by rw [h]; omega), h]
  rfl

end Go.Proofs.Ytebijjigjlcjdaa
