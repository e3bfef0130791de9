/-
  Code rows: the values at 0, 1, .. of the polynomial through the first k. No Go in sight.
-/
import Derived.Test.YthlnbomapfjphaaGpv
namespace Go.Proofs.Ythlnbomapfjphaa.Gf

/-- A place as a byte. -/
def bn (i : Nat) : E := ⟨i % 256, Nat.mod_lt _ (by decide)⟩
theorem bn_v {i : Nat} (h : i < 256) : (bn i).v = i := Nat.mod_eq_of_lt h
theorem bn_inj {i j : Nat} (hi : i < 256) (hj : j < 256) (h : bn i = bn j) : i = j := by
  have := congrArg E.v h
  rwa [bn_v hi, bn_v hj] at this
theorem bn_apart {k : Nat} (hk : k ≤ 256) : ∀ i j, j < i → i < k → bn i ≠ bn j := fun i j hj hi e => by
  have := bn_inj (by omega) (by omega) e
  omega
/-- NEWTON's value. -/
def nv (X Y : Nat → E) (k : Nat) (z : E) : E := hn X (dv X Y (k - 1)) z k k
theorem nv_poly {X : Nat → E} (Y : Nat → E) {k : Nat} (hx : ∀ i j, j < i → i < k → X i ≠ X j) : ∃ f : List E, f.length ≤ k ∧ (∀ i, i < k → pv f (X i) = Y i) ∧ ∀ z, nv X Y k z = pv f z := by
  obtain ⟨f, h1, h2⟩ := through Y hx
  exact ⟨f, h1, h2, fun z => newton hx h1 h2 z⟩
/-- The code row of some data. -/
def cr (k : Nat) (F : Nat → E) (t : Nat) : E := nv bn F k (bn t)
theorem cr_poly (F : Nat → E) {k : Nat} (hk : k ≤ 256) : ∃ f : List E, f.length ≤ k ∧ (∀ i, i < k → pv f (bn i) = F i) ∧ ∀ t, cr k F t = pv f (bn t) := by
  obtain ⟨f, h1, h2, h3⟩ := nv_poly F (bn_apart hk)
  exact ⟨f, h1, h2, fun t => h3 _⟩
/-- It is that of whatever polynomial goes through the data. -/
theorem cr_of {F : Nat → E} {k : Nat} (hk : k ≤ 256) {f : List E} (hf : f.length ≤ k) (h : ∀ i, i < k → pv f (bn i) = F i) (t : Nat) : cr k F t = pv f (bn t) := by
  obtain ⟨g, h1, h2, h3⟩ := cr_poly F hk
  rw [h3]
  exact alike h1 hf (bn_apart hk) (fun i hi => (h2 i hi).trans (h i hi).symm) _
theorem cr_at {F : Nat → E} {k t : Nat} (hk : k ≤ 256) (ht : t < k) : cr k F t = F t := by
  obtain ⟨g, h1, h2, h3⟩ := cr_poly F hk
  rw [h3, h2 t ht]
/-- Of the data it is told by the first k alone. -/
theorem cr_congr {F G : Nat → E} {k : Nat} (hk : k ≤ 256) (h : ∀ i, i < k → F i = G i) (t : Nat) : cr k F t = cr k G t := by
  obtain ⟨g, h1, h2, h3⟩ := cr_poly G hk
  rw [h3]
  exact cr_of hk h1 (fun i hi => (h2 i hi).trans (h i hi).symm) t
theorem cr_sum (F G : Nat → E) {k : Nat} (hk : k ≤ 256) (t : Nat) : cr k (fun i => F i + G i) t = cr k F t + cr k G t := by
  obtain ⟨f, f1, f2, f3⟩ := cr_poly F hk
  obtain ⟨g, g1, g2, g3⟩ := cr_poly G hk
  rw [f3, g3, ← ad_pv]
  refine cr_of hk (by rw [ad_length]; omega) (fun i hi => ?_) t
  rw [ad_pv, f2 i hi, g2 i hi]
theorem cr_times (F : Nat → E) (a : E) {k : Nat} (hk : k ≤ 256) (t : Nat) : cr k (fun i => a * F i) t = a * cr k F t := by
  obtain ⟨f, f1, f2, f3⟩ := cr_poly F hk
  rw [f3, ← tm_pv]
  refine cr_of hk (by unfold tm; rw [List.length_map]; exact f1) (fun i hi => ?_) t
  rw [tm_pv, f2 i hi]
/-- Two rows that are alike at k places are one. -/
theorem cr_alike {F G : Nat → E} {k n : Nat} (hn : n ≤ 256) (hk : k ≤ n) {L : List Nat} (hd : L.Nodup) (hl : k ≤ L.length) (hL : ∀ i ∈ L, i < n ∧ cr k F i = cr k G i) (t : Nat) : cr k F t = cr k G t := by
  obtain ⟨f, f1, f2, f3⟩ := cr_poly F (k := k) (by omega)
  obtain ⟨g, g1, g2, g3⟩ := cr_poly G (k := k) (by omega)
  rw [f3, g3]
  refine alike_on (x := bn) (n := n) f1 g1 (fun i j hi hj e => bn_inj (by omega) (by omega) e) hd hl (fun i hi => ?_) _
  obtain ⟨h1, h2⟩ := hL i hi
  rw [f3, g3] at h2
  exact ⟨h1, h2⟩
/-- SINGLETON: rows of unlike data are alike in fewer than k places. -/
theorem cr_far {F G : Nat → E} {k n i : Nat} (hn : n ≤ 256) (hk : k ≤ n) (hi : i < k) (hne : F i ≠ G i) : n + 1 ≤ ms (cr k F) (cr k G) (List.range n) + k := by
  have h1 := ms_eqs (cr k F) (cr k G) (List.range n)
  rw [List.length_range] at h1
  refine Classical.byContradiction fun hc => hne ?_
  have h2 := cr_alike (F := F) (G := G) hn hk (L := eqs (cr k F) (cr k G) (List.range n)) (List.nodup_range.filter _) (by omega) (fun j hj => by
    have := mem_eqs.mp hj
    exact ⟨List.mem_range.mp this.1, this.2⟩) i
  rwa [cr_at (by omega) hi, cr_at (by omega) hi] at h2
theorem ms_snoc (F G : Nat → E) (n : Nat) : ms F G (List.range (n + 1)) = ms F G (List.range n) + if (F n).v = (G n).v then 0 else 1 := by
  unfold ms
  rw [List.range_succ, List.filter_append, List.length_append]
  by_cases h : (F n).v = (G n).v
  · rw [if_pos h, List.filter_cons_of_neg (by simpa using h)]; rfl
  · rw [if_neg h, List.filter_cons_of_pos (by simpa using h)]; rfl
theorem ms_le (F G : Nat → E) (n : Nat) : ms F G (List.range n) ≤ n := by
  have := ms_eqs F G (List.range n)
  rw [List.length_range] at this
  omega

end Go.Proofs.Ythlnbomapfjphaa.Gf
