/-
  The divisors of a number, place by place; sums over those before a place. No Go in sight.
-/
import Derived.Test.YtimehaolaeedhaaGro
import Derived.Test.YtimehaolaeedhaaDvDivs
namespace Go.Proofs.Ytimehaolaeedhaa
open Go.RowKit
open Pr Dd

/-- The divisor at place t; 0 behind the end. -/
def dat (n t : Nat) : Nat := (dv n).getD t 0
theorem dat_eq {n t : Nat} (h : t < (dv n).length) : dat n t = (dv n)[t] := by simp [dat, h]
theorem dvZ_fl (n : Nat) : dvZ n = fl (dv n).length fun t => (dat n t : Int) := by
  unfold dvZ fl
  apply List.ext_getElem
  · simp
  · intro t h1 h2
    simp at h1
    simp [dat, h1]
theorem dat_bound {n t : Nat} (hn : 1 ≤ n) (h : t < (dv n).length) : 1 ≤ dat n t ∧ dat n t ≤ n := by
  rw [dat_eq h]
  have := dv_at hn h
  exact ⟨this.1, Nat.le_of_dvd hn this.2⟩

/-- What has been taken off at place i, as far as place k. -/
def off (G : Nat → Int) (n i k : Nat) : Int := sm G (((dv n).take k).filter fun c => dat n i % c == 0)

theorem off_zero (G : Nat → Int) (n i : Nat) : off G n i 0 = 0 := by simp [off, sm]
theorem off_yes {G : Nat → Int} {n i k : Nat} (hk : k < (dv n).length) (hd : dat n i % dat n k = 0) : off G n i (k + 1) = off G n i k + G (dat n k) := by
  unfold off
  rw [filter_next _ _ hk, sm_append]
  rw [dat_eq hk] at hd ⊢
  rw [if_pos (by simpa using hd)]
  simp [sm]
theorem off_no {G : Nat → Int} {n i k : Nat} (hk : k < (dv n).length) (hd : dat n i % dat n k ≠ 0) : off G n i (k + 1) = off G n i k := by
  unfold off
  rw [filter_next _ _ hk, sm_append]
  rw [dat_eq hk] at hd
  rw [if_neg (by simpa using hd)]
  simp [sm]
theorem off_bound {G : Nat → Int} {n i k : Nat} (hn : n ≤ 1000000) (hG : ∀ d ∈ dv n, -1000000 ≤ G d ∧ G d ≤ 1000000) : -1000000000000 ≤ off G n i k ∧ off G n i k ≤ 1000000000000 := by
  have h := sm_le (F := G) (B := 1000000) (l := ((dv n).take k).filter fun c => dat n i % c == 0) (fun d hd => hG d (List.mem_of_mem_take (List.mem_filter.mp hd).1))
  have h2 : (((dv n).take k).filter fun c => dat n i % c == 0).length ≤ 1000000 := by
    have h3 := List.length_filter_le (fun c => dat n i % c == 0) ((dv n).take k)
    have h4 := dv_length n
    rw [List.length_take] at h3
    omega
  unfold off
  omega

end Go.Proofs.Ytimehaolaeedhaa
