/-
  wholeref.Crosswise.
-/
import Derived.Test.YthlnbomapfjphaaDoorLnErr
import Derived.Test.YthlnbomapfjphaaDoorLnOnes
import Derived.Test.YthlnbomapfjphaaDoorLnBsO
import Derived.Deep.CutRange
import Derived.Deep.DeepCutAuto
namespace Go.Proofs.YthlnbomapfjphaaDoor
open Go.RowKit
open Ln

namespace Ln
/-- Those of the first s words that are even with all. -/
def dup (n : Nat) (W : List Nat) (s : Nat) : List Nat := (List.range s).filter (Ev n W)
theorem dup_yes {n : Nat} {W : List Nat} {s : Nat} (h : Ev n W s = true) : dup n W (s + 1) = dup n W s ++ [s] := by unfold dup; rw [List.range_succ, List.filter_append, List.filter_cons_of_pos h]; rfl
theorem dup_no {n : Nat} {W : List Nat} {s : Nat} (h : ¬ Ev n W s = true) : dup n W (s + 1) = dup n W s := by unfold dup; rw [List.range_succ, List.filter_append, List.filter_cons_of_neg h]; simp
theorem dup_le (n : Nat) (W : List Nat) (s : Nat) : (dup n W s).length ≤ s := by
  have := List.length_filter_le (Ev n W) (List.range s)
  rw [List.length_range] at this
  exact this
end Ln




end Go.Proofs.YthlnbomapfjphaaDoor
