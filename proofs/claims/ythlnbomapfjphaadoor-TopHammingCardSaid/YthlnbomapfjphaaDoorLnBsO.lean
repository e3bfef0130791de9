/-
  wholeref.BaseOf.
-/
import Derived.Test.YthlnbomapfjphaaDoorLnErr
import Derived.Test.YthlnbomapfjphaaDoorLnOnes
namespace Go.Proofs.YthlnbomapfjphaaDoor
open Go.RowKit
open Ln

namespace Ln
/-- The highest bits of the first i words, as one number. -/
def hds (W : List Nat) : Nat → Nat
  | 0 => 0
  | i + 1 => if W.getD i 0 = 0 then hds W i else hds W i ||| 2 ^ (hg 16 (W.getD i 0)).toNat
theorem top_at {x : Nat} (h0 : x ≠ 0) (hx : x < 65536) : ∃ t, t < 16 ∧ Top t x ∧ hg 16 x = (t : Int) := by
  obtain ⟨t, ht⟩ := top_some h0
  have := ht.lt (n := 16) hx
  exact ⟨t, this, ht, hg_top ht 16 this⟩
theorem hds_lt {W : List Nat} (hW : ∀ x ∈ W, x < 65536) : ∀ i, i ≤ W.length → hds W i < 65536 := by
  intro i
  induction i with
  | zero => intro _; rw [hds]; decide
  | succ i ih =>
    intro hi
    have h1 := ih (by omega)
    rw [hds]
    split
    · exact h1
    · rename_i h0
      have e : W.getD i 0 = W[i]'(by omega) := by rw [List.getD_eq_getElem?_getD, List.getElem?_eq_getElem (by omega)]; rfl
      obtain ⟨t, h2, _, h3⟩ := top_at h0 (by rw [e]; exact hW _ (List.getElem_mem _))
      rw [h3, Int.toNat_natCast]
      have h4 : 2 ^ t < 2 ^ 16 := Nat.pow_lt_pow_right (by decide) h2
      have : hds W i ||| 2 ^ t < 2 ^ 16 := Nat.or_lt_two_pow (by omega) h4
      omega
theorem hds_bt {W : List Nat} (hW : ∀ x ∈ W, x < 65536) (j : Nat) : ∀ i, i ≤ W.length → (bt j (hds W i) = 1 ↔ ∃ w ∈ W.take i, Top j w) := by
  intro i
  induction i with
  | zero =>
    intro _
    rw [hds, bt_zero, List.take_zero]
    exact ⟨fun h => (by cases h), fun ⟨w, h, _⟩ => (by cases h)⟩
  | succ i ih =>
    intro hi
    have h1 := ih (by omega)
    have e : W.getD i 0 = W[i]'(by omega) := by rw [List.getD_eq_getElem?_getD, List.getElem?_eq_getElem (by omega)]; rfl
    have e2 : W.take (i + 1) = W.take i ++ [W.getD i 0] := by rw [List.take_add_one, List.getElem?_eq_getElem (by omega), e]; rfl
    have e3 : (∃ w ∈ W.take (i + 1), Top j w) ↔ (∃ w ∈ W.take i, Top j w) ∨ Top j (W.getD i 0) := by
      rw [e2]
      constructor
      · rintro ⟨w, h, k⟩
        rcases List.mem_append.mp h with h | h
        · exact .inl ⟨w, h, k⟩
        · rw [List.mem_singleton] at h; exact .inr (h ▸ k)
      · rintro (⟨w, h, k⟩ | k)
        · exact ⟨w, List.mem_append.mpr (.inl h), k⟩
        · exact ⟨_, List.mem_append.mpr (.inr List.mem_cons_self), k⟩
    rw [e3, hds]
    split
    · rename_i h0
      rw [h1, h0]
      refine ⟨.inl, fun h => h.resolve_right fun k => ?_⟩
      have := k.1
      have : 0 < 2 ^ j := Nat.pow_pos (by decide)
      omega
    · rename_i h0
      obtain ⟨t, _, h2, h3⟩ := top_at h0 (by rw [e]; exact hW _ (List.getElem_mem _))
      rw [h3, Int.toNat_natCast, bt_or, bt_pow, ← h1]
      by_cases ejt : j = t
      · subst ejt
        rw [if_pos rfl]
        exact ⟨fun _ => .inr h2, fun _ => if_pos (.inr rfl)⟩
      · rw [if_neg ejt]
        have : ¬ Top j (W.getD i 0) := fun k => ejt (k.uniq h2)
        simp only [this, or_false]
        rcases bt_two j (hds W i) with h | h <;> rw [h] <;> simp
theorem hds_all {W : List Nat} (hW : ∀ x ∈ W, x < 65536) (j : Nat) : bt j (hds W W.length) = if hdb W j = true then 1 else 0 := by
  have h := hds_bt hW j W.length (Nat.le_refl _)
  rw [List.take_length] at h
  have h2 : hdb W j = true ↔ bt j (hds W W.length) = 1 := by rw [h, hdb_iff]; exact Iff.rfl
  by_cases e : hdb W j = true
  · rw [if_pos e, h2.mp e]
  · rw [if_neg e]
    exact (bt_two _ _).resolve_right fun k => e (h2.mpr k)
theorem isB_and {W : List Nat} (hW : ∀ x ∈ W, x < 65536) {k x : Nat} (hk : k < 16) (_ : x < 65536) : isB W k x = decide (x &&& hds W W.length = 2 ^ k) := by
  have h1 := hds_lt hW W.length (Nat.le_refl _)
  have h2 : 2 ^ k < 2 ^ 16 := Nat.pow_lt_pow_right (by decide) hk
  have h3 : x &&& hds W W.length < 2 ^ 16 := Nat.and_lt_two_pow _ (by omega)
  refine Bool.eq_iff_iff.mpr ?_
  rw [decide_eq_true_iff]
  unfold isB
  rw [List.all_eq_true]
  constructor
  · intro h
    refine bt_ext h3 h2 fun j hj => ?_
    rw [bt_and, bt_pow, hds_all hW]
    exact of_decide_eq_true (h j (List.mem_range.mpr hj))
  · intro h j _
    refine decide_eq_true ?_
    rw [← hds_all hW, ← bt_and, h, bt_pow]

/-- What one highest bit gives. -/
def bfw (W : List Nat) (k : Nat) : List Nat := if hdb W k = true then W.filter (isB W k) else []
/-- The first m highest bits' words. -/
def bp (W : List Nat) (m : Nat) : List Nat := ((List.range 16).reverse.take m).flatMap (bfw W)
theorem bp_all (W : List Nat) : bp W 16 = bs W := rfl
theorem bp_snoc (W : List Nat) {m : Nat} (hm : m < 16) : bp W (m + 1) = bp W m ++ bfw W (15 - m) := by
  unfold bp
  rw [List.take_add_one, List.flatMap_append, List.getElem?_eq_getElem (by simp; omega), List.getElem_reverse, List.getElem_range, List.length_range]
  simp
theorem bfw_le (W : List Nat) (k : Nat) : (bfw W k).length ≤ W.length := by
  unfold bfw
  split
  · exact List.length_filter_le _ _
  · simp
theorem bp_le (W : List Nat) : ∀ m, m ≤ 16 → (bp W m).length ≤ m * W.length := by
  intro m
  induction m with
  | zero => intro _; simp [bp]
  | succ m ih =>
    intro hm
    have := ih (by omega)
    have := bfw_le W (15 - m)
    rw [bp_snoc W (by omega), List.length_append, Nat.succ_mul]
    omega
/-- Half the way through the words. -/
def bh (W : List Nat) (k i : Nat) : List Nat := if hdb W k = true then (W.take i).filter (isB W k) else []
theorem bh_le (W : List Nat) (k : Nat) {i : Nat} (hi : i ≤ W.length) : (bh W k i).length ≤ i := by
  unfold bh
  split
  · have := List.length_filter_le (isB W k) (W.take i)
    rw [List.length_take] at this
    omega
  · simp
theorem bh_yes {W : List Nat} {k i : Nat} (hi : i < W.length) (h1 : hdb W k = true) (h2 : isB W k (W.getD i 0) = true) : bh W k (i + 1) = bh W k i ++ [W.getD i 0] := by
  have e : W.getD i 0 = W[i]'(by omega) := by rw [List.getD_eq_getElem?_getD, List.getElem?_eq_getElem (by omega)]; rfl
  unfold bh
  rw [if_pos h1, if_pos h1, List.take_add_one, List.getElem?_eq_getElem hi, List.filter_append, ← e]
  congr 1
  show List.filter _ [W.getD i 0] = _
  rw [List.filter_cons_of_pos h2]
  rfl
theorem bh_no {W : List Nat} {k i : Nat} (hi : i < W.length) (h : ¬ (hdb W k = true ∧ isB W k (W.getD i 0) = true)) : bh W k (i + 1) = bh W k i := by
  have e : W.getD i 0 = W[i]'(by omega) := by rw [List.getD_eq_getElem?_getD, List.getElem?_eq_getElem (by omega)]; rfl
  unfold bh
  by_cases h1 : hdb W k = true
  · rw [if_pos h1, if_pos h1, List.take_add_one, List.getElem?_eq_getElem hi, List.filter_append, ← e]
    show _ ++ List.filter _ [W.getD i 0] = _
    rw [List.filter_cons_of_neg fun h2 => h ⟨h1, h2⟩]
    simp
  · rw [if_neg h1, if_neg h1]
theorem bh_all (W : List Nat) (k : Nat) : bh W k W.length = bfw W k := by unfold bh bfw; rw [List.take_length]
theorem bh_zero (W : List Nat) (k : Nat) : bh W k 0 = [] := by unfold bh; split <;> simp
end Ln

theorem il_append (l k : List Nat) : il (l ++ k) = il l ++ il k := by unfold il; rw [List.map_append]



end Go.Proofs.YthlnbomapfjphaaDoor
