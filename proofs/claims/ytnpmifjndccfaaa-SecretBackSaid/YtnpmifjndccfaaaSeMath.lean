/-
  Shares: points of a polynomial at 1, 2 ..; who has enough knows it, who has one fewer knows nothing.
-/
import Derived.Test.YtnpmifjndccfaaaGpt
namespace Go.Proofs.Ytnpmifjndccfaaa
open Pr Po Rs

theorem ev_zero (f : List Int) : ev f 0 = c f 0 := by
  cases f with
  | nil => rfl
  | cons a f => simp [ev, c]

/-- The shares. -/
def shr (p : Int) (f : List Int) (n : Nat) : List (Int × Int) := (List.range n).map fun (i : Nat) => ((i : Int) + 1, ev f ((i : Int) + 1) % p)
theorem shr_length (p : Int) (f : List Int) (n : Nat) : (shr p f n).length = n := by simp [shr]
theorem shr_next (p : Int) (f : List Int) (n : Nat) : shr p f n ++ [((n : Int) + 1, ev f ((n : Int) + 1) % p)] = shr p f (n + 1) := by simp [shr, List.range_succ]
theorem shr_at {p : Int} {f : List Int} {n i : Nat} (h : i < n) : px (shr p f n) i = (i : Int) + 1 ∧ py (shr p f n) i = ev f ((i : Int) + 1) % p := by
  unfold px py
  rw [nthR_eq (by rw [shr_length]; exact h)]
  simp [shr]
theorem shr_pts {p : Int} (hp : Prm p) (f : List Int) {n : Nat} (hn : (n : Int) < p) : Pts p (shr p f n) n := by
  have p2 := hp.1
  refine ⟨fun i hi => ?_, fun i j hi hj hne => ?_⟩
  · rw [(shr_at hi).1, (shr_at hi).2]
    exact ⟨by omega, Int.emod_nonneg _ (by omega), Int.emod_lt_of_pos _ (by omega)⟩
  · rw [(shr_at hi).1, (shr_at hj).1]
    omega

/-- Points of f, as many as it has numbers, or more: it goes through them. -/
theorem isTh_on {p : Int} {l : List (Int × Int)} {k : Nat} {f : List Int} (hp : 0 < p) (hf : f.length ≤ k) (h : ∀ i, i < k → p ∣ ev f (px l i) - py l i) : IsTh p l k (red p f) := by
  refine ⟨can_red hp f, Nat.le_trans (red_length p f) hf, fun i hi => ?_⟩
  have := Int.dvd_add (ev_cg (cg_red p f) (px l i)) (h i hi)
  rwa [show ∀ a b c : Int, a - b + (b - c) = a - c by intros; omega] at this

/-- What is told at 0. -/
theorem red_zero {p : Int} (f : List Int) : ev (red p f) 0 % p = c f 0 % p := by
  rw [ev_zero, c_red, Int.emod_emod]

/-- SHAMIR: with one share more, told by 0 just so much as by its own value. -/
theorem blind {p : Int} {l m : List (Int × Int)} {k : Nat} {F G : List Int} (hp : Prm p) (hl : Pts p l (k + 1)) (hF : IsTh p l (k + 1) F) (hG : IsTh p m (k + 1) G)
    (hX : ∀ i, i < k + 1 → px m i = px l i) (hY : ∀ i, i < k → py m i = py l i) (hn : ∀ i, i < k + 1 → px l i ≠ 0) (h0 : p ∣ ev F 0 - ev G 0) : p ∣ py l k - py m k := by
  have p2 := hp.1
  have hA : Apart p (fun i => if i = 0 then 0 else px l (i - 1)) (k + 1) := by
    refine ⟨fun i hi => ?_, fun i j hi hj hne => ?_⟩
    · show 0 ≤ (if i = 0 then 0 else px l (i - 1)) ∧ (if i = 0 then 0 else px l (i - 1)) < p
      split
      · omega
      · exact (hl.1 (i - 1) (by omega)).1
    · show (if i = 0 then 0 else px l (i - 1)) ≠ (if j = 0 then 0 else px l (j - 1))
      by_cases h1 : i = 0
      · rw [if_pos h1, if_neg (by omega)]
        exact (hn (j - 1) (by omega)).symm
      · by_cases h2 : j = 0
        · rw [if_neg h1, if_pos h2]
          exact hn (i - 1) (by omega)
        · rw [if_neg h1, if_neg h2]
          exact hl.2 _ _ (by omega) (by omega) (by omega)
  have e : F = G := alike_one hp hA hF.1 hG.1 hF.2.1 hG.2.1 fun i hi => by
    show p ∣ ev F (if i = 0 then 0 else px l (i - 1)) - ev G (if i = 0 then 0 else px l (i - 1))
    by_cases h1 : i = 0
    · rw [if_pos h1]; exact h0
    · rw [if_neg h1]
      have g1 := hF.2.2 (i - 1) (by omega)
      have g2 := hG.2.2 (i - 1) (by omega)
      rw [hX _ (by omega), hY _ (by omega)] at g2
      have := Int.dvd_sub g1 g2
      rwa [show ∀ a b c : Int, a - c - (b - c) = a - b by intros; omega] at this
  have g1 := hF.2.2 k (by omega)
  have g2 := hG.2.2 k (by omega)
  rw [hX _ (by omega), ← e] at g2
  have := Int.dvd_sub g2 g1
  rwa [show ∀ a b c : Int, a - c - (a - b) = b - c by intros; omega] at this

end Go.Proofs.Ytnpmifjndccfaaa
