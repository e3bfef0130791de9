/-
  Matrices: the unit, what undoes (CRAMER), products. No Go in sight.
-/
import Derived.Test.YthlnbomapfjphaaTabMul
import Derived.Test.YthlnbomapfjphaaGmx
namespace Go.Proofs.Ythlnbomapfjphaa
open Gf

/-- The unit. -/
def un (i j : Nat) : E := if i = j then 1 else 0
theorem un_sum (F : Nat → E) {n i : Nat} (hi : i < n) : sg (fun k => un i k * F k) (List.range n) = F i := by
  rw [sg_congr (H := fun k => if k = i then F k else 0) fun k _ => by
    unfold un
    by_cases h : k = i
    · rw [if_pos h, if_pos h.symm, E.one_mul]
    · rw [if_neg h, if_neg (Ne.symm h), E.zero_mul]]
  exact sg_one List.nodup_range (List.mem_range.mpr hi) F
theorem un_sum' (F : Nat → E) {n j : Nat} (hj : j < n) : sg (fun k => F k * un k j) (List.range n) = F j := by
  rw [← un_sum F hj]
  exact sg_congr fun k _ => by
    rw [E.mul_comm]
    congr 1
    unfold un
    by_cases h : k = j
    · rw [if_pos h, if_pos h.symm]
    · rw [if_neg h, if_neg (Ne.symm h)]

theorem mm_congr {A A' B B' : Nat → Nat → E} {K i j : Nat} (h1 : ∀ k, k < K → A i k = A' i k) (h2 : ∀ k, k < K → B k j = B' k j) : mm A B K i j = mm A' B' K i j :=
  sg_congr fun k hk => by rw [h1 k (List.mem_range.mp hk), h2 k (List.mem_range.mp hk)]
theorem mm_assoc (A B C : Nat → Nat → E) (K L i j : Nat) : mm (mm A B K) C L i j = mm A (mm B C L) K i j := by
  unfold mm
  rw [sg_congr (H := fun l => sg (fun k => A i k * (B k l * C l j)) (List.range K)) fun l _ => by
    rw [← sg_mul']
    exact sg_congr fun k _ => E.mul_assoc _ _ _]
  rw [sg_swap]
  exact sg_congr fun k _ => sg_mul _ _ _
theorem mm_un (A : Nat → Nat → E) {n i j : Nat} (hj : j < n) : mm A un n i j = A i j := un_sum' (fun k => A i k) hj
theorem un_mm (A : Nat → Nat → E) {n i j : Nat} (hi : i < n) : mm un A n i j = A i j := un_sum (fun k => A k j) hi

/-- B undoes A, on either side. -/
def InvOf (A B : Nat → Nat → E) (n : Nat) : Prop := (∀ i, i < n → ∀ j, j < n → mm A B n i j = un i j) ∧ ∀ i, i < n → ∀ j, j < n → mm B A n i j = un i j
theorem InvOf.symm {A B : Nat → Nat → E} {n : Nat} (h : InvOf A B n) : InvOf B A n := ⟨h.2, h.1⟩

theorem inv_uniq {A B C : Nat → Nat → E} {n : Nat} (h : ∀ i, i < n → ∀ j, j < n → mm B A n i j = un i j) (k : ∀ i, i < n → ∀ j, j < n → mm A C n i j = un i j) : ∀ i, i < n → ∀ j, j < n → B i j = C i j := fun i hi j hj => by
  rw [← mm_un B hj, ← un_mm C hi, mm_congr (A' := B) (B' := mm A C n) (fun _ _ => rfl) (fun l hl => (k l hl j hj).symm), ← mm_assoc]
  exact mm_congr (fun l hl => h i hi l hl) fun _ _ => rfl
theorem InvOf.uniq {A B C : Nat → Nat → E} {n : Nat} (h : InvOf A B n) (k : InvOf A C n) : ∀ i, i < n → ∀ j, j < n → B i j = C i j := inv_uniq h.2 k.1

/-- The determinant. -/
def det (A : Nat → Nat → E) (n : Nat) : E := dt ((List.range n).map A) (List.range n)
theorem det_turn (A : Nat → Nat → E) (n : Nat) : det (fun i j => A j i) n = det A n := by
  unfold det
  exact (dt_turn A (List.range n) (List.range n) List.nodup_range List.nodup_range rfl).symm
theorem det_mul (A B : Nat → Nat → E) (n : Nat) : det (mm A B n) n = det A n * det B n := by
  have := dt_mul B (C := List.range n) List.nodup_range ((List.range n).map A) (List.range n) [] List.nodup_range (by simp)
  rw [List.append_nil, List.append_nil, List.map_map] at this
  exact this
theorem det_congr {A B : Nat → Nat → E} {n : Nat} (h : ∀ i, i < n → ∀ j, j < n → A i j = B i j) : det A n = det B n :=
  dt_entries (C := List.range n) (fun j hj => hj) (by simp) fun i h1 h2 j hj => by
    have hi : i < n := by simpa using h1
    simpa using h i hi j (List.mem_range.mp hj)
theorem det_un (n : Nat) : det un n = 1 := by
  have h1 := det_mul un un n
  rw [det_congr (B := un) fun i hi j hj => by rw [un_mm un hi]] at h1
  have h0 : det un n ≠ 0 := by
    have e1 : ((List.range n).map fun i => ((i, i) : Nat × Nat)).map (·.1) = List.range n := by
      rw [List.map_map]; exact List.map_id _
    have e2 : ((List.range n).map fun i => ((i, i) : Nat × Nat)).map (·.2) = List.range n := by
      rw [List.map_map]; exact List.map_id _
    have := dt_steps un ((List.range n).map fun i => (i, i)) (by rw [e2]; exact List.nodup_range) (by
      rw [List.pairwise_map]
      refine List.Pairwise.imp (R := (· < ·)) (fun {a b} hab => ?_) List.pairwise_lt_range
      show un b a = 0
      unfold un
      rw [if_neg (by omega)]) (fun a ha => by
      obtain ⟨i, _, rfl⟩ := List.mem_map.mp ha
      show un i i ≠ 0
      unfold un
      rw [if_pos rfl]
      exact E.one_ne)
    rw [e1, e2] at this
    exact this
  have h2 : det un n * (det un n).inv = 1 := E.mul_inv h0
  have h3 := congrArg (fun x => x * (det un n).inv) h1
  rw [E.mul_assoc, h2, E.mul_one] at h3
  exact h3.symm
theorem InvOf.det {A B : Nat → Nat → E} {n : Nat} (h : InvOf A B n) : det A n ≠ 0 := fun e => by
  have h1 := det_mul A B n
  rw [det_congr (B := un) h.1, det_un, e, E.zero_mul] at h1
  exact E.one_ne h1

/-- CRAMER. -/
theorem right_some {A : Nat → Nat → E} {n : Nat} (h : Go.Proofs.Ythlnbomapfjphaa.det A n ≠ 0) : ∃ B : Nat → Nat → E, ∀ i, i < n → ∀ j, j < n → mm A B n i j = un i j := by
  refine ⟨fun k j => dt (un k :: ((List.range n).erase j).map A) (List.range n) * (Go.Proofs.Ythlnbomapfjphaa.det A n).inv, fun i hi j hj => ?_⟩
  unfold mm
  rw [sg_congr (H := fun k => (A i k * dt (un k :: ((List.range n).erase j).map A) (List.range n)) * (Go.Proofs.Ythlnbomapfjphaa.det A n).inv) fun k _ => (E.mul_assoc _ _ _).symm, sg_mul']
  rw [← dt_sum (A i) un (((List.range n).erase j).map A) (List.range n) (List.range n)]
  have e : dt ((fun l => sg (fun k => A i k * un k l) (List.range n)) :: ((List.range n).erase j).map A) (List.range n) = dt (A i :: ((List.range n).erase j).map A) (List.range n) := by
    refine dt_entries (C := List.range n) (fun j hj => hj) rfl fun r h1 h2 l hl => ?_
    cases r with
    | zero => exact un_sum' (fun k => A i k) (List.mem_range.mp hl)
    | succ r => rfl
  rw [e]
  by_cases hij : i = j
  · subst hij
    have hp : (A i :: ((List.range n).erase i).map A).Perm ((List.range n).map A) := by
      rw [← List.map_cons]
      exact (List.perm_cons_erase (List.mem_range.mpr hi)).symm.map A
    rw [dt_perm hp List.nodup_range, show un i i = 1 from if_pos rfl]
    exact E.mul_inv h
  · have hm : i ∈ (List.range n).erase j := (List.mem_erase_of_ne hij).mpr (List.mem_range.mpr hi)
    have hp : (A i :: ((List.range n).erase j).map A).Perm (A i :: A i :: (((List.range n).erase j).erase i).map A) := by
      rw [← List.map_cons (f := A) (a := i) (l := ((List.range n).erase j).erase i)]
      exact ((List.perm_cons_erase hm).map A).cons _
    rw [dt_perm hp List.nodup_range, dt_same _ _ List.nodup_range, E.zero_mul, show un i j = 0 from if_neg hij]

theorem inv_some {A : Nat → Nat → E} {n : Nat} (h : Go.Proofs.Ythlnbomapfjphaa.det A n ≠ 0) : ∃ B, InvOf A B n := by
  obtain ⟨B, hB⟩ := right_some h
  have h2 : Go.Proofs.Ythlnbomapfjphaa.det (fun i j => A j i) n ≠ 0 := by rw [det_turn]; exact h
  obtain ⟨C, hC⟩ := right_some h2
  have hL : ∀ i, i < n → ∀ j, j < n → mm (fun i j => C j i) A n i j = un i j := fun i hi j hj => by
    have := hC j hj i hi
    unfold mm at this ⊢
    rw [sg_congr (H := fun k => A k j * C k i) fun k _ => E.mul_comm _ _, this]
    unfold un
    by_cases e : i = j
    · rw [if_pos e, if_pos e.symm]
    · rw [if_neg e, if_neg (Ne.symm e)]
  have e := inv_uniq hL hB
  exact ⟨B, hB, fun i hi j hj => by rw [← hL i hi j hj]; exact mm_congr (fun k hk => (e i hi k hk).symm) fun _ _ => rfl⟩

end Go.Proofs.Ythlnbomapfjphaa
