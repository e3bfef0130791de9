/-
  wholekeep.byOf, turn, cyclics.
-/
import Derived.Test.YtlpnopliblaknaaDoorCyD
import Derived.Test.YtlpnopliblaknaaDoorConvTx
namespace Go.Proofs.YtlpnopliblaknaaDoor
open Go.RowKit
open Ln Cy

theorem cat_tx (l k : List Bool) : tx l ++ tx k = tx (l ++ k) := tx_append l k
/-- What is divided by, of any numbers. -/
def byl (z : List Int) : List Bool := true :: fb z 15 ++ [true]
theorem byl_by (z : List Int) : IsBy (byl z) where
  lo := by unfold byl; simp
  hi := by unfold byl; simp [fb_length]; omega
  head := rfl
  last := by unfold byl; rw [List.getLast?_append]; rfl



/-- Bits turned, where another row has a 1, from a place on; the first i of that. -/
def tnF (l b : List Bool) (A i : Nat) (j : Nat) : Bool := l.getD j false ^^ (decide (A ≤ j ∧ j < A + i) && b.getD (j - A) false)
def tn (l b : List Bool) (A : Nat) : List Bool := (List.range l.length).map (tnF l b A b.length)
theorem tn_length (l b : List Bool) (A : Nat) : (tn l b A).length = l.length := by simp [tn]
theorem tnF_zero (l b : List Bool) (A j : Nat) : tnF l b A 0 j = l.getD j false := by
  unfold tnF
  rw [decide_eq_false (by omega), Bool.false_and, Bool.xor_false]
theorem tnF_step (l b : List Bool) (A i j : Nat) : tnF l b A (i + 1) j = if j = A + i then (tnF l b A i j ^^ b.getD i false) else tnF l b A i j := by
  unfold tnF
  by_cases e : j = A + i
  · subst e
    rw [if_pos rfl, decide_eq_true (by omega), decide_eq_false (by omega), show A + i - A = i by omega]
    simp
  · rw [if_neg e]
    congr 2
    exact decide_eq_decide.mpr (by omega)


end Go.Proofs.YtlpnopliblaknaaDoor
