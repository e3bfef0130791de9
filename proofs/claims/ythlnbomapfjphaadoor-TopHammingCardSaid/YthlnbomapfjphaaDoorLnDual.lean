/-
  LinearDual, by contracts.
-/
import Derived.Test.YthlnbomapfjphaaDoorLnWds
import Derived.Test.YthlnbomapfjphaaDoorLnCr
import Derived.Test.YthlnbomapfjphaaDoorWordIn
namespace Go.Proofs.YthlnbomapfjphaaDoor
open Go.RowKit
open Ln

theorem cw_small {n : Nat} {l : List Nat} (h12 : n ≤ 12) (hl : ∀ x ∈ l, x < 2 ^ n) : ∀ x ∈ cw n l, x < 65536 := fun x hx => by
  have := (cw_cd hl).lt x hx
  have : 2 ^ n ≤ 2 ^ 12 := Nat.pow_le_pow_right (by decide) h12
  omega
theorem cw_64 {n L : Nat} {l : List Nat} (hL : l.length = L) (h6 : L ≤ 6) (hl : ∀ x ∈ l, x < 2 ^ n) : (cw n l).length ≤ 64 := by
  have := cw_le hl
  rw [hL] at this
  exact Nat.le_trans this (Nat.le_trans (Nat.pow_le_pow_right (n := 2) (by decide) h6) (by decide))
theorem du_small {n : Nat} (h12 : n ≤ 12) (W : List Nat) : (∀ x ∈ du n W, x < 65536) ∧ (du n W).length ≤ 4096 := by
  have h : 2 ^ n ≤ 2 ^ 12 := Nat.pow_le_pow_right (by decide) h12
  constructor
  · intro x hx
    have := (mem_du.mp hx).1
    omega
  · have := List.length_filter_le (Ev n W) (List.range (2 ^ n))
    rw [List.length_range] at this
    unfold du
    omega


end Go.Proofs.YthlnbomapfjphaaDoor
