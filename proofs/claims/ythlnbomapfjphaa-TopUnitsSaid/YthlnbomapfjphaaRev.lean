/-
  slices.Reverse at []int, over a row of our own.
-/
import Derived.Test.YthlnbomapfjphaaGro
import Derived.RegionTactic
import Derived.BigRegion
namespace Go.Proofs.Ythlnbomapfjphaa
open Go.RowKit

/-- xs, turned from both ends as far as i. -/
def revTo (xs : List Int) (i : Nat) : List Int := (List.range xs.length).map fun t => if t < i ∨ xs.length < t + i + 1 then nth xs (xs.length - 1 - t) else nth xs t

theorem revTo_length (xs : List Int) (i : Nat) : (revTo xs i).length = xs.length := by simp [revTo]
theorem revTo_at {xs : List Int} {i t : Nat} (h : t < xs.length) : nth (revTo xs i) t = if t < i ∨ xs.length < t + i + 1 then nth xs (xs.length - 1 - t) else nth xs t := by
  rw [nth_eq (by rw [revTo_length]; exact h)]
  simp [revTo]
theorem list_nth {xs ys : List Int} (hl : xs.length = ys.length) (h : ∀ t, t < xs.length → nth xs t = nth ys t) : xs = ys := by
  apply List.ext_getElem hl
  intro t h1 h2
  have := h t h1
  rwa [nth_eq h1, nth_eq h2] at this
theorem nth_set {xs : List Int} {j t : Nat} {x : Int} (h : t < xs.length) : nth (xs.set j x) t = if t = j then x else nth xs t := by
  rw [nth_eq (by simpa using h), List.getElem_set, nth_eq h]
  by_cases e : j = t
  · simp [e]
  · rw [if_neg e, if_neg (Ne.symm e)]
theorem revTo_zero (xs : List Int) : revTo xs 0 = xs := list_nth (revTo_length _ _) fun t h => by
  rw [revTo_length] at h
  rw [revTo_at h, if_neg (by omega)]
theorem nth_reverse {xs : List Int} {t : Nat} (h : t < xs.length) : nth xs.reverse t = nth xs (xs.length - 1 - t) := by
  rw [nth_eq (by simpa using h), List.getElem_reverse, nth_eq (by omega)]
theorem revTo_end {xs : List Int} {i : Nat} (h : xs.length ≤ 2 * i + 1) : revTo xs i = xs.reverse := list_nth (by simp [revTo_length]) fun t ht => by
  rw [revTo_length] at ht
  rw [revTo_at ht, nth_reverse ht]
  by_cases h1 : t < i ∨ xs.length < t + i + 1
  · rw [if_pos h1]
  · rw [if_neg h1]; congr 1; omega
theorem revTo_step {xs : List Int} {i j : Nat} (h : i + j + 1 = xs.length) (hij : i < j) : ((revTo xs i).set i (nth xs j)).set j (nth xs i) = revTo xs (i + 1) := list_nth (by simp [revTo_length]) fun t ht => by
  simp only [List.length_set, revTo_length] at ht
  rw [nth_set (by simpa [revTo_length] using ht), nth_set (by rw [revTo_length]; exact ht), revTo_at ht, revTo_at ht]
  by_cases e : t = j
  · subst e
    rw [if_pos rfl, if_pos (by omega)]; congr 1; omega
  · rw [if_neg e]
    by_cases e2 : t = i
    · subst e2
      rw [if_pos rfl, if_pos (by omega)]; congr 1; omega
    · rw [if_neg e2]
      by_cases h1 : t < i ∨ xs.length < t + i + 1
      · rw [if_pos h1, if_pos (by omega)]
      · rw [if_neg h1, if_neg (by omega)]

end Go.Proofs.Ythlnbomapfjphaa
