/-
  A code row is a table of powers times numbers: its rank, and that the numbers are there. No Go in sight.
-/
import Derived.Test.YtjccpfpldbjcbaaGwe
import Derived.Test.YtjccpfpldbjcbaaGpv
namespace Go.Proofs.Ytjccpfpldbjcbaa.Gf

/-- A table of powers of places that are unlike has the rank of its width. -/
theorem rk_vander {n k : Nat} (hn : n ≤ 256) (hk : k ≤ n) : Rk (fun r j => ep (bn r) j) (List.range n) (List.range k) k := by
  refine ⟨⟨List.range k, List.range k, List.nodup_range, List.nodup_range, fun i hi => ?_, fun j hj => hj, List.length_range, List.length_range, ?_⟩, fun s hs => ?_⟩
  · have := List.mem_range.mp hi
    exact List.mem_range.mpr (by omega)
  · exact vander_not (x := bn) fun i j hji hi e => bn_apart (k := n) hn i j hji (by omega) e
  · obtain ⟨R', C', _, hC, _, hC2, _, hl, _⟩ := hs
    have := Ln.nodup_len C' (List.range k) hC hC2
    rw [List.length_range] at this
    omega
/-- The row is the table times the polynomial's numbers. -/
theorem row_sum (F : Nat → E) {k : Nat} (hk : k ≤ 256) : ∃ X : Nat → E, ∀ t, sg (fun j => ep (bn t) j * X j) (List.range k) = cr k F t := by
  obtain ⟨f, h1, _, h3⟩ := cr_poly F hk
  exact ⟨cf f, fun t => by rw [h3, pv_sum (bn t) f k h1]⟩
/-- A row of which one byte may be another: in how many places it differs. -/
theorem one_count (F : Nat → E) {k n p : Nat} (x : E) (hp : p < n) : ms (cr k F) (fun t => if t = p then x else cr k F t) (List.range n) = if (cr k F p).v = x.v then 0 else 1 := by
  have go : ∀ m, ms (cr k F) (fun t => if t = p then x else cr k F t) (List.range m) = if p < m then (if (cr k F p).v = x.v then 0 else 1) else 0 := by
    intro m
    induction m with
    | zero => simp [ms]
    | succ m ih =>
      rw [ms_snoc, ih]
      by_cases e : m = p
      · subst e
        rw [if_neg (Nat.lt_irrefl m), if_pos (Nat.lt_succ_self m), Nat.zero_add]
        show (if (cr k F m).v = (if m = m then x else cr k F m).v then 0 else 1) = _
        rw [if_pos rfl]
      · have e2 : (if m = p then x else cr k F m) = cr k F m := if_neg e
        rw [e2, if_pos rfl, Nat.add_zero]
        by_cases hp2 : p < m
        · have hB : p < m + 1 := by omega
          rw [if_pos hp2, if_pos hB]
        · have hB : ¬ p < m + 1 := by omega
          rw [if_neg hp2, if_neg hB]
  have := go n
  rwa [if_pos hp] at this
/-- A row of which one byte may be another is near. -/
theorem one_near (F : Nat → E) {k n p : Nat} (x : E) (hk : k ≤ 256) (hkn : k + 2 ≤ n) (hp : p < n) : ∃ f, NearF n k (fun t => if t = p then x else cr k F t) f ∧ ∀ t, pv f (bn t) = cr k F t := by
  obtain ⟨f, h1, _, h3⟩ := cr_poly F hk
  have e : (fun t => pv f (bn t)) = cr k F := funext fun t => (h3 t).symm
  refine ⟨f, ⟨h1, ?_⟩, fun t => (h3 t).symm⟩
  rw [e, one_count F x hp]
  have : (if (cr k F p).v = x.v then 0 else 1) ≤ 1 := by split <;> decide
  omega

end Go.Proofs.Ytjccpfpldbjcbaa.Gf
