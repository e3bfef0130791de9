/-
  LinearSays, by contracts.
-/
import Derived.Test.YthlnbomapfjphaaDoorLnDual
import Derived.Test.YthlnbomapfjphaaDoorGro
namespace Go.Proofs.YthlnbomapfjphaaDoor
open Go.RowKit
open Ln

theorem wn_snoc (n : Nat) (l : List Nat) (x j : Nat) : wn n (l ++ [x]) j = wn n l j + if on n x = j then 1 else 0 := by
  rw [wn_count, wn_count, List.filter_append, List.length_append]
  by_cases h : on n x = j
  · rw [if_pos h, List.filter_cons_of_pos (by simpa using h)]
    simp
  · rw [if_neg h, List.filter_cons_of_neg (by simpa using h)]
    simp
theorem wn_take {n : Nat} {W : List Nat} {i x : Nat} (hi : i < W.length) (hx : W.getD i 0 = x) (j : Nat) : wn n (W.take (i + 1)) j = wn n (W.take i) j + if on n x = j then 1 else 0 := by
  rw [← wn_snoc, List.take_add_one, List.getElem?_eq_getElem hi, ← hx, List.getD_eq_getElem?_getD, List.getElem?_eq_getElem hi]
  rfl
theorem wn_le (n : Nat) (l : List Nat) (j : Nat) : wn n l j ≤ l.length := by
  rw [wn_count]
  have := List.length_filter_le (fun w => on n w == j) l
  omega



end Go.Proofs.YthlnbomapfjphaaDoor
