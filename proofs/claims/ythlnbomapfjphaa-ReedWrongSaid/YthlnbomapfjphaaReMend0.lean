/-
  Which row the cells tell, as the reference finds it: the places that are there, from the last down. No Go in sight.
-/
import Derived.Test.YthlnbomapfjphaaReAny
namespace Go.Proofs.Ythlnbomapfjphaa
open Go.RowKit
open Gf

/-- The places that are there, from the last down, as far as t of them have been looked at. -/
def dn (H : Nat → Bool) (n t : Nat) : List Nat := ((List.range t).map fun j => n - 1 - j).filter H
theorem dn_no {H : Nat → Bool} {n t : Nat} (h : H (n - 1 - t) = false) : dn H n (t + 1) = dn H n t := by
  unfold dn; rw [List.range_succ, List.map_append, List.filter_append]; simp [h]
theorem dn_yes {H : Nat → Bool} {n t : Nat} (h : H (n - 1 - t) = true) : dn H n (t + 1) = dn H n t ++ [n - 1 - t] := by
  unfold dn; rw [List.range_succ, List.map_append, List.filter_append]; simp [h]
theorem dn_le (H : Nat → Bool) (n t : Nat) : (dn H n t).length ≤ t := by
  have := List.length_filter_le H ((List.range t).map fun j => n - 1 - j)
  rw [List.length_map, List.length_range] at this
  exact this
theorem dn_all (n : Nat) : ((List.range n).map fun j => n - 1 - j) = (List.range n).reverse := by
  apply List.ext_getElem
  · simp
  · intro i h1 h2
    simp
theorem dn_len (H : Nat → Bool) (n : Nat) : (dn H n n).length = cnt H n := by
  unfold dn cnt; rw [dn_all, List.filter_reverse, List.length_reverse]
theorem dn_mem {H : Nat → Bool} {n i : Nat} : i ∈ dn H n n ↔ i < n ∧ H i = true := by
  unfold dn; rw [dn_all, List.filter_reverse, List.mem_reverse, List.mem_filter, List.mem_range]
theorem dn_down (H : Nat → Bool) (n : Nat) : (dn H n n).Pairwise fun a b => b < a := by
  unfold dn; rw [dn_all, List.filter_reverse, List.pairwise_reverse]
  exact List.pairwise_lt_range.filter H
theorem dn_apart {H : Nat → Bool} {n i j : Nat} (hi : i < (dn H n n).length) (hj : j < i) : (dn H n n)[i] ≠ (dn H n n)[j]'(by omega) := by
  have := List.pairwise_iff_getElem.mp (dn_down H n) j i (by omega) hi hj
  omega
/-- The j-th. -/
def at0 (L : List Nat) (j : Nat) : Nat := L.getD j 0
theorem at0_eq {L : List Nat} {j : Nat} (h : j < L.length) : at0 L j = L[j] := by
  unfold at0; rw [List.getD_eq_getElem?_getD, List.getElem?_eq_getElem h]; rfl
theorem at0_mem {L : List Nat} {j : Nat} (h : j < L.length) : at0 L j ∈ L := by rw [at0_eq h]; exact List.getElem_mem h
/-- A list of small numbers as a row of bytes. -/
theorem bl_list (G : Nat → Nat) {L : List Nat} (h : ∀ i ∈ L, G i < 256) : L.map (fun i => (G i : Int)) = bl (fun j => bn (G (at0 L j))) L.length := by
  apply List.ext_getElem
  · rw [bl_length, List.length_map]
  · intro i h1 h2
    rw [List.length_map] at h1
    rw [List.getElem_map, ← nth_eq h2, bl_nth h1, at0_eq h1, bn_v (h _ (List.getElem_mem h1))]

/-- The row through the first k. -/
def mr (H : Nat → Bool) (B : Nat → Nat) (n k : Nat) : Nat → E := fun t => nv (fun j => bn (at0 (dn H n n) j)) (fun j => bn (B (at0 (dn H n n) j))) k (bn t)
theorem mr_poly {H : Nat → Bool} {B : Nat → Nat} {n k : Nat} (hn : n ≤ 256) (hk : k ≤ cnt H n) : ∃ f : List E, f.length ≤ k ∧ (∀ j, j < k → pv f (bn (at0 (dn H n n) j)) = bn (B (at0 (dn H n n) j))) ∧ ∀ t, mr H B n k t = pv f (bn t) :=
  (nv_poly (X := fun j => bn (at0 (dn H n n) j)) (fun j => bn (B (at0 (dn H n n) j))) (k := k) (fun i j hj hi e => by
    have h1 : i < (dn H n n).length := by rw [dn_len]; omega
    have h2 : j < (dn H n n).length := by omega
    have m1 := (dn_mem.mp (at0_mem h1)).1
    have m2 := (dn_mem.mp (at0_mem h2)).1
    have := bn_inj (by omega) (by omega) e
    rw [at0_eq h1, at0_eq h2] at this
    exact dn_apart h1 hj this)).imp fun f h => ⟨h.1, h.2.1, fun t => h.2.2 _⟩
theorem mr_cr {H : Nat → Bool} {B : Nat → Nat} {n k : Nat} (hn : n ≤ 256) (hk : k ≤ cnt H n) (t : Nat) : cr k (mr H B n k) t = mr H B n k t := by
  obtain ⟨f, h1, _, h3⟩ := mr_poly (B := B) hn hk
  have := cnt_le H n
  rw [h3]
  exact cr_of (by omega) h1 (fun i _ => (h3 i).symm) t
/-- All that are there lie on it. -/
def mok (H : Nat → Bool) (B : Nat → Nat) (n k : Nat) : Prop := ∀ j, j < cnt H n → mr H B n k (at0 (dn H n n) j) = bn (B (at0 (dn H n n) j))
theorem mok_all {H : Nat → Bool} {B : Nat → Nat} {n k : Nat} (hB : ∀ i, B i < 256) (hn : n ≤ 256) (hk : k ≤ cnt H n) (h : mok H B n k) : ∀ i, i < n → H i = true → B i = (cr k (mr H B n k) i).v := fun i hi hh => by
  have hm : i ∈ dn H n n := dn_mem.mpr ⟨hi, hh⟩
  obtain ⟨j, hj, e⟩ := List.mem_iff_getElem.mp hm
  have h2 := h j (by rw [← dn_len]; exact hj)
  rw [at0_eq hj, e] at h2
  rw [mr_cr hn hk, h2, bn_v (hB i)]
theorem mok_not {H : Nat → Bool} {B : Nat → Nat} {n k : Nat} (hn : n ≤ 256) (hk : k ≤ cnt H n) (h : ¬ mok H B n k) (F : Nat → E) : ∃ i, i < n ∧ H i = true ∧ B i ≠ (cr k F i).v := by
  refine Classical.byContradiction fun hc => h fun j hj => ?_
  have hall : ∀ i, i < n → H i = true → B i = (cr k F i).v := fun i hi hh => Classical.byContradiction fun e => hc ⟨i, hi, hh, e⟩
  have hat : ∀ j, j < cnt H n → cr k F (at0 (dn H n n) j) = bn (B (at0 (dn H n n) j)) := fun j hj => by
    have hm := dn_mem.mp (at0_mem (L := dn H n n) (j := j) (by rw [dn_len]; exact hj))
    have h1 := hall _ hm.1 hm.2
    refine E.ext ?_
    rw [h1, bn_v (cr k F _).lt]
  have hcl := cnt_le H n
  obtain ⟨f, f1, f2, f3⟩ := mr_poly (B := B) hn hk
  obtain ⟨g, g1, g2, g3⟩ := cr_poly F (k := k) (by omega)
  have hfg : ∀ z, pv f z = pv g z := alike f1 g1 (x := fun j => bn (at0 (dn H n n) j)) (fun i j hj hi e => by
    have h1 : i < (dn H n n).length := by rw [dn_len]; omega
    have h2 : j < (dn H n n).length := by omega
    have m1 := (dn_mem.mp (at0_mem h1)).1
    have m2 := (dn_mem.mp (at0_mem h2)).1
    have := bn_inj (by omega) (by omega) e
    rw [at0_eq h1, at0_eq h2] at this
    exact dn_apart h1 hj this) (fun i hi => by rw [f2 i hi, ← g3, hat i (by omega)])
  rw [f3, hfg, ← g3, hat j hj]

end Go.Proofs.Ythlnbomapfjphaa
