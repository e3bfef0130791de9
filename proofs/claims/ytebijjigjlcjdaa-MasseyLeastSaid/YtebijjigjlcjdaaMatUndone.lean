/-
  MatrixUndone, walked.
-/
import Derived.Test.YtebijjigjlcjdaaMatW
namespace Go.Proofs.Ytebijjigjlcjdaa
open Go.RowKit
open Gf

theorem fin2 {i : Nat} (h : i < 2) : i = 0 ∨ i = 1 := by omega
theorem inv_0111 : InvOf (litM [[0, 1], [1, 1]]) (litM [[1, 1], [1, 0]]) 2 := by
  constructor
  · intro i hi j hj
    rcases fin2 hi with rfl | rfl <;> rcases fin2 hj with rfl | rfl <;> exact E.ext (by decide)
  · intro i hi j hj
    rcases fin2 hi with rfl | rfl <;> rcases fin2 hj with rfl | rfl <;> exact E.ext (by decide)
theorem inv_mul {A B X Y : Nat → Nat → E} {n : Nat} (h : InvOf A X n) (k : InvOf B Y n) : InvOf (mm A B n) (mm Y X n) n := by
  constructor
  · intro i hi j hj
    rw [mm_assoc, mm_congr (A' := A) (B' := mm un X n) (fun _ _ => rfl) fun l hl => by
      rw [← mm_assoc]
      exact mm_congr (fun r hr => k.1 l hl r hr) fun _ _ => rfl, mm_congr (A' := A) (B' := X) (fun _ _ => rfl) fun l hl => un_mm X hl]
    exact h.1 i hi j hj
  · intro i hi j hj
    rw [mm_assoc, mm_congr (A' := Y) (B' := mm un B n) (fun _ _ => rfl) fun l hl => by
      rw [← mm_assoc]
      exact mm_congr (fun r hr => h.2 l hl r hr) fun _ _ => rfl, mm_congr (A' := Y) (B' := B) (fun _ _ => rfl) fun l hl => un_mm B hl]
    exact k.2 i hi j hj
theorem detE_is {m : List (List Int)} (h : detE m ≠ 0) : detE m = 2 ∨ detE m = 3 := by
  unfold detE at h ⊢
  rcases tabE_is m with e | e | e
  · rw [if_neg (by simpa using e)] at h ⊢
    by_cases h2 : m.length ≠ colsM m
    · rw [if_pos h2]; exact .inr rfl
    · rw [if_neg h2] at h; exact absurd rfl h
  · rw [if_pos (by rw [e]; decide), e]; exact .inl rfl
  · rw [if_pos (by rw [e]; decide), e]; exact .inr rfl

end Go.Proofs.Ytebijjigjlcjdaa
