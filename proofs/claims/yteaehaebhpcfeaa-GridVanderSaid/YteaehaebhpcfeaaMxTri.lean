/-
  The determinant by elimination. No Go in sight.
-/
import Derived.Test.YteaehaebhpcfeaaMxEch
import Derived.Test.YteaehaebhpcfeaaGpv
namespace Go.Proofs.Yteaehaebhpcfeaa.Gf

/-- The product of the first p of the diagonal. -/
def dg (M : Nat → Nat → E) : Nat → E
  | 0 => 1
  | p + 1 => dg M p * M p p
theorem dg_congr {M N : Nat → Nat → E} : ∀ {p : Nat}, (∀ i, i < p → M i i = N i i) → dg M p = dg N p := by
  intro p
  induction p with
  | zero => intro _; rfl
  | succ p ih => intro h; rw [dg, dg, ih fun i hi => h i (by omega), h p (by omega)]

/-- The first p columns are 0 below the diagonal; the determinant has stayed. -/
structure Tri (M0 M : Nat → Nat → E) (n p : Nat) : Prop where
  det : dt ((List.range n).map M0) (List.range n) = dt ((List.range n).map M) (List.range n)
  low : ∀ j, j < p → ∀ i, j < i → i < n → M i j = 0

theorem Tri.start (M : Nat → Nat → E) (n : Nat) : Tri M M n 0 := ⟨rfl, fun _ hj => absurd hj (Nat.not_lt_zero _)⟩
theorem Tri.swap {M0 M N : Nat → Nat → E} {n p r s : Nat} (h : Tri M0 M n p) (hr : p ≤ r) (hrn : r < n) (hs : p ≤ s) (hsn : s < n) (hN : ∀ i, i < n → ∀ j, N i j = M (swi r s i) j) : Tri M0 N n p where
  det := by
    rw [h.det, ← dt_swi M hrn hsn]
    exact dt_entries (C := List.range n) (fun j hj => hj) (by simp) fun i h1 h2 j _ => by
      have hi : i < n := by simpa using h1
      rw [List.getElem_map, List.getElem_map, List.getElem_range]
      exact (hN i hi j).symm
  low j hj i hi hn := by
    rw [hN i hn]
    refine h.low j hj _ ?_ (swi_lt hrn hsn hn)
    unfold swi
    split
    · omega
    · split
      · omega
      · exact hi
theorem Tri.step {M0 M N : Nat → Nat → E} {n p : Nat} (h : Tri M0 M n p) (hp : p < n) (h0 : M p p ≠ 0) (f : Nat → E) (hf : ∀ i, f i = M i p * (M p p).inv) (hN : ∀ i, i < n → ∀ j, j < n → N i j = if p < i then M i j + f i * M p j else M i j) : Tri M0 N n (p + 1) where
  det := by
    rw [h.det]
    refine (dt_takes hp (fun i => if p < i then f i else 0) (if_neg (by omega)) fun i hi j hj => ?_).symm
    rw [hN i hi j hj]
    by_cases e : p < i
    · rw [if_pos e, if_pos e]
    · rw [if_neg e, if_neg e, E.zero_mul, E.add_zero]
  low j hj i hi hn := by
    rw [hN i hn j (by omega)]
    by_cases e : j = p
    · subst e
      rw [if_pos hi, hf, E.mul_assoc, E.mul_comm (M j j).inv, E.mul_inv h0, E.mul_one, E.add_self]
    · by_cases e2 : p < i
      · rw [if_pos e2, h.low j (by omega) i hi hn, h.low j (by omega) p (by omega) hp, E.mul_zero, E.add_zero]
      · rw [if_neg e2]
        exact h.low j (by omega) i hi hn

theorem pds_append (M : Nat → Nat → E) : ∀ P Q : List (Nat × Nat), pds M (P ++ Q) = pds M P * pds M Q := by
  intro P Q
  induction P with
  | nil => exact (E.one_mul _).symm
  | cons a P ih => rw [List.cons_append, pds, pds, ih, E.mul_assoc]
theorem pds_dg (M : Nat → Nat → E) : ∀ n, pds M ((List.range n).map fun i => (i, i)) = dg M n := by
  intro n
  induction n with
  | zero => rfl
  | succ n ih =>
    rw [List.range_succ, List.map_append, pds_append, ih]
    show _ * (M n n * 1) = _
    rw [E.mul_one]
    rfl

/-- All columns are done. -/
theorem Tri.all {M0 M : Nat → Nat → E} {n : Nat} (h : Tri M0 M n n) : dt ((List.range n).map M0) (List.range n) = dg M n := by
  rw [h.det, dt_up fun i j hj hi => h.low j (by omega) i hj hi, pds_dg]

/-- No pivot: the determinant is 0. -/
theorem Tri.none {M0 M : Nat → Nat → E} {n p : Nat} (h : Tri M0 M n p) (hp : p < n) (h0 : ∀ i, p ≤ i → i < n → M i p = 0) : dt ((List.range n).map M0) (List.range n) = 0 := by
  rw [h.det]
  obtain ⟨q, rfl⟩ : ∃ q, n = p + q := ⟨n - p, by omega⟩
  have e : (List.range (p + q)).map M = (List.range p).map M ++ ((List.range q).map fun i => M (p + i)) := by
    rw [List.range_add, List.map_append, List.map_map]
    rfl
  rw [e]
  refine dt_few _ _ _ (List.range (p + 1)) List.nodup_range List.nodup_range (fun z hz => List.mem_range.mpr (by have := List.mem_range.mp hz; omega)) (by simp) (by simp) fun r hr z hz => ?_
  obtain ⟨i, hi, rfl⟩ := List.mem_map.mp hr
  have hi' := List.mem_range.mp hi
  have hz' := List.mem_range.mp hz
  by_cases ez : z = p
  · rw [ez]; exact h0 _ (by omega) (by omega)
  · exact h.low z (by omega) _ (by omega) (by omega)

end Go.Proofs.Yteaehaebhpcfeaa.Gf
