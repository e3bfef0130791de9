/-
  Several texts in one:
  - GAUSS and JORDAN with the determinant on its way. No Go in sight.
  - Check of package matrix, and of square ones.
  - The variable `reduced` in memory: rows, pivots' columns, the product; what stores leave of it.
-/
import Derived.Test.YtebijjigjlcjdaaGmk
import Derived.Test.YtebijjigjlcjdaaGmj
import Derived.RegionTactic
import Derived.BigRegion
namespace Go.Proofs.Ytebijjigjlcjdaa
open Gf

/-- Elimination as far as column col; d is what the rows were divided by. -/
structure JorD (M0 M : Nat → Nat → E) (n c col : Nat) (P : List (Nat × Nat)) (d : E) : Prop where
  jor : Jor M0 M n c col P
  det : n ≤ c → Go.Proofs.Ytebijjigjlcjdaa.det M0 n = d * Go.Proofs.Ytebijjigjlcjdaa.det M n
  nz : d ≠ 0

theorem JorD.start (M : Nat → Nat → E) (n c : Nat) : JorD M M n c 0 [] 1 := ⟨Jor.start M n c, fun _ => (E.one_mul _).symm, E.one_ne⟩
theorem JorD.skip {M0 M : Nat → Nat → E} {n c col : Nat} {P : List (Nat × Nat)} {d : E} (h : JorD M0 M n c col P d) (h0 : ∀ i, P.length ≤ i → i < n → M i col = 0) : JorD M0 M n c (col + 1) P d := ⟨h.jor.skip h0, h.det, h.nz⟩
theorem JorD.swap {M0 M N : Nat → Nat → E} {n c col r s : Nat} {P : List (Nat × Nat)} {d : E} (h : JorD M0 M n c col P d) (hr : P.length ≤ r) (hrn : r < n) (hs : P.length ≤ s) (hsn : s < n) (hN : ∀ i, i < n → ∀ j, N i j = M (swi r s i) j) : JorD M0 N n c col P d :=
  ⟨h.jor.swap hr hrn hs hsn hN, fun hc => by
    rw [h.det hc]
    congr 1
    unfold Go.Proofs.Ytebijjigjlcjdaa.det
    rw [← dt_swi M hrn hsn]
    exact dt_entries (C := List.range n) (fun j hj => hj) (by simp) fun i h1 h2 j _ => by
      have hi : i < n := by simpa using h1
      simpa using (hN i hi j).symm, h.nz⟩

theorem det_scale_row (M : Nat → Nat → E) {n p : Nat} (hp : p < n) (a : E) : det (fun i j => (if i = p then a else 1) * M i j) n = a * det M n := by
  unfold det
  have hperm : ∀ F : Nat → Rw, dt ((List.range n).map F) (List.range n) = dt (F p :: ((List.range n).erase p).map F) (List.range n) := fun F => by
    rw [← List.map_cons (f := F)]
    exact dt_perm ((List.perm_cons_erase (List.mem_range.mpr hp)).map F) List.nodup_range
  rw [hperm, hperm M, ← dt_scale]
  have e : ((List.range n).erase p).map (fun i j => (if i = p then a else 1) * M i j) = ((List.range n).erase p).map M := by
    refine List.map_congr_left fun i hi => ?_
    have hne : i ≠ p := fun e => by rw [e] at hi; exact List.nodup_range.not_mem_erase hi
    funext j
    rw [if_neg hne, E.one_mul]
  rw [e, if_pos rfl]

theorem JorD.step {M0 M N : Nat → Nat → E} {n c col p : Nat} {P : List (Nat × Nat)} {d : E} (h : JorD M0 M n c col P d) (hpe : P.length = p) (hp : p < n) (hc : col < c) (h0 : M p col ≠ 0)
    (hN : ∀ i, i < n → ∀ j, j < c → N i j = if i = p then M p j * (M p col).inv else M i j + (M p j * (M p col).inv) * M i col) : JorD M0 N n c (col + 1) (P ++ [(p, col)]) (d * M p col) := by
  refine ⟨h.jor.step hpe hp hc h0 hN, fun hnc => ?_, fun e => ?_⟩
  · have e1 : Go.Proofs.Ytebijjigjlcjdaa.det N n = (M p col).inv * Go.Proofs.Ytebijjigjlcjdaa.det M n := by
      rw [← det_scale_row M hp]
      refine dt_takes hp (fun i => if i = p then 0 else M i col) (if_pos rfl) fun i hi j hj => ?_
      rw [hN i hi j (by omega)]
      by_cases e : i = p
      · rw [if_pos e, if_pos e, if_pos e, E.zero_mul, E.add_zero, e, E.mul_comm]
      · rw [if_neg e, if_neg e, if_neg e, if_pos rfl, E.one_mul, E.mul_comm (M i col), E.mul_comm (M p col).inv]
    rw [e1, h.det hnc, E.mul_assoc, ← E.mul_assoc (M p col), E.mul_inv h0, E.one_mul]
  · rcases E.none e with e | e
    · exact h.nz e
    · exact h0 e

/-- The end: fewer pivots than rows, the determinant is 0; else it is what the rows were divided by. -/
theorem JorD.few {M0 M : Nat → Nat → E} {n c : Nat} {P : List (Nat × Nat)} {d : E} (h : JorD M0 M n c n P d) (hc : n ≤ c) (hl : P.length < n) : Go.Proofs.Ytebijjigjlcjdaa.det M0 n = 0 := by
  rw [h.det hc]
  have : Go.Proofs.Ytebijjigjlcjdaa.det M n = 0 := by
    unfold Go.Proofs.Ytebijjigjlcjdaa.det
    exact dt_nought (r := M (n - 1)) List.nodup_range (List.mem_map.mpr ⟨n - 1, List.mem_range.mpr (by omega), rfl⟩) fun j hj => h.jor.zero (n - 1) (by omega) (by omega) j (List.mem_range.mp hj)
  rw [this, E.mul_zero]
theorem JorD.all {M0 M : Nat → Nat → E} {n c : Nat} {P : List (Nat × Nat)} {d : E} (h : JorD M0 M n c n P d) (hc : n ≤ c) (hl : P.length = n) : Go.Proofs.Ytebijjigjlcjdaa.det M0 n = d := by
  rw [h.det hc, det_congr (B := un) fun i hi j hj => h.jor.unit hl i hi j hj, det_un, E.mul_one]

/-- The pivots' columns, one a row from the top: which row has which. -/
theorem Jor.at {M0 M : Nat → Nat → E} {n c col : Nat} {P : List (Nat × Nat)} (h : Jor M0 M n c col P) {i : Nat} (hi : i < P.length) : P[i]? = some (i, (P.map (·.2)).getD i 0) := by
  have e1 : (P.map (·.1))[i]? = some i := by rw [h.rows]; simp [hi]
  rw [List.getElem?_map] at e1
  obtain ⟨a, ha⟩ : ∃ a, P[i]? = some a := ⟨P[i], List.getElem?_eq_getElem hi⟩
  rw [ha] at e1
  have e2 : a.1 = i := Option.some.inj e1
  rw [ha]
  congr 1
  refine Prod.ext e2 ?_
  rw [List.getD_eq_getElem?_getD, List.getElem?_map, ha]
  rfl

end Go.Proofs.Ytebijjigjlcjdaa

namespace Go.Proofs.Ytebijjigjlcjdaa
open Go.RowKit
open Gf

/-- A table, as a list of rows. -/
def tm (A : Nat → Nat → E) (R C : Nat) : List (List Int) := (List.range R).map fun r => bl (A r) C
theorem tm_length (A : Nat → Nat → E) (R C : Nat) : (tm A R C).length = R := by simp [tm]
theorem tm_row (A : Nat → Nat → E) {R C r : Nat} (h : r < R) : rowM (tm A R C) r = bl (A r) C := by
  rw [rowM_eq (by rw [tm_length]; exact h)]; simp [tm]
theorem tm_ok (A : Nat → Nat → E) {R C : Nat} (h1 : 1 ≤ R) (h2 : R ≤ 12) (h3 : 1 ≤ C) (h4 : C ≤ 12) : tabE (tm A R C) = 0 := by
  refine tabE_zero.mpr ⟨by rw [tm_length]; exact h1, by rw [tm_length]; exact h2, by rw [tm_row A (by omega), bl_length]; exact h3, by rw [tm_row A (by omega), bl_length]; exact h4, fun r hr => ?_⟩
  rw [tm_length] at hr
  rw [tm_row A hr, tm_row A (by omega), bl_length, bl_length]
theorem ReadsT.list {w : World} {a : Option Addr} {R C : Nat} {A : Nat → Nat → E} (h : ReadsT w a R C A) : ReadsM .u8 w a (tm A R C) := by
  obtain ⟨b, off, h1, h2⟩ := h
  refine .inr ⟨b, off, h1, fun r hr => ?_⟩
  rw [tm_length] at hr
  obtain ⟨br, orr, c, g1, g2, g3, g4⟩ := h2 r hr
  rw [tm_row A hr, bl_length]
  exact ⟨_, c, g1, .inr ⟨br, orr, rfl, fun j hj => by rw [bl_length] at hj; rw [bl_nth hj]; exact g4 j hj⟩, g2, g3, fun h => by cases h⟩
theorem tm_short (A : Nat → Nat → E) (R : Nat) {C : Nat} (h : C ≤ 12) : ∀ r ∈ tm A R C, r.length ≤ maxLen := fun r hr => by
  obtain ⟨i, _, rfl⟩ := List.mem_map.mp hr
  rw [bl_length]; unfold maxLen; omega

end Go.Proofs.Ytebijjigjlcjdaa

namespace Go.Proofs.Ytebijjigjlcjdaa
open Go.RowKit
open Gf

/-- Numbers of a list as ints. -/
def intsOf (l : List Nat) : List Int := l.map fun (x : Nat) => ((x : Nat) : Int)
theorem intsOf_length (l : List Nat) : (intsOf l).length = l.length := by simp [intsOf]
theorem intsOf_snoc (l : List Nat) (x : Nat) : intsOf l ++ [((x : Nat) : Int)] = intsOf (l ++ [x]) := by simp [intsOf]

end Go.Proofs.Ytebijjigjlcjdaa
