/-
  The polynomial through the first k cells that are there, point by point: NEWTON. No Go in sight.
-/
import Derived.Test.YthlnbomapfjphaaReD
namespace Go.Proofs.Ythlnbomapfjphaa
open Go.RowKit
open Gf

/-- A row as a polynomial. -/
def lst (F : Nat → E) (n : Nat) : List E := (List.range n).map F
theorem lst_length (F : Nat → E) (n : Nat) : (lst F n).length = n := by unfold lst; rw [List.length_map, List.length_range]
theorem lst_cf (F : Nat → E) (n i : Nat) : cf (lst F n) i = if i < n then F i else 0 := by
  by_cases h : i < n
  · rw [if_pos h, cf_at (by rw [lst_length]; exact h)]
    simp [lst]
  · rw [if_neg h, cf_over (by rw [lst_length]; omega)]
theorem lst_congr {F H : Nat → E} {n : Nat} (h : ∀ i, i < n → F i = H i) : lst F n = lst H n := List.map_congr_left fun i hi => h i (List.mem_range.mp hi)
/-- A multiple is added. -/
theorem lst_add (F H : Nat → E) (t : E) {k m : Nat} (hm : m ≤ k) (z : E) : pv (lst (fun j => F j + if j < m then H j * t else 0) k) z = pv (lst F k) z + t * pv (lst H m) z := by
  rw [← tm_pv, ← ad_pv]
  refine pv_same (fun i => ?_) z
  rw [cf_ad, cf_tm, lst_cf, lst_cf, lst_cf]
  by_cases h : i < k
  · rw [if_pos h, if_pos h]
    by_cases h2 : i < m
    · rw [if_pos h2, if_pos h2, E.mul_comm]
    · rw [if_neg h2, if_neg h2, E.mul_zero]
  · rw [if_neg h, if_neg h, if_neg (by omega), E.mul_zero, E.add_zero]
/-- Times x and b. -/
theorem lst_times (Z : Nat → E) (b : E) (m : Nat) (z : E) : pv (lst (fun j => (if 1 ≤ j ∧ j < m + 1 then Z (j - 1) else 0) + if j < m then Z j * b else 0) (m + 1)) z = (z + b) * pv (lst Z m) z := by
  rw [← ly_pv]
  refine pv_same (fun i => ?_) z
  unfold ly
  rw [cf_ad, cf_tm, lst_cf, lst_cf]
  cases i with
  | zero =>
    rw [if_pos (by omega), if_neg (by omega)]
    show 0 + _ = 0 + _
    by_cases h : 0 < m
    · rw [if_pos h, if_pos h, E.mul_comm]
    · rw [if_neg h, if_neg h, E.mul_zero]
  | succ i =>
    rw [cf_succ, lst_cf]
    by_cases h : i < m
    · rw [if_pos (by omega), if_pos ⟨by omega, by omega⟩, if_pos h, Nat.add_sub_cancel]
      by_cases h2 : i + 1 < m
      · rw [if_pos h2, if_pos h2, E.mul_comm]
      · rw [if_neg h2, if_neg h2, E.mul_zero]
    · rw [if_neg (by omega), if_neg h, if_neg (by omega), E.mul_zero, E.add_zero]
/-- HORNER, from behind. -/
theorem lst_drop (F : Nat → E) (z : E) {n t : Nat} (h : t < n) : pv ((lst F n).drop (n - (t + 1))) z = pv ((lst F n).drop (n - t)) z * z + F (n - 1 - t) := by
  have hl : n - (t + 1) < (lst F n).length := by rw [lst_length]; omega
  rw [List.drop_eq_getElem_cons hl, show n - (t + 1) + 1 = n - t by omega]
  show _ + z * _ = _
  rw [E.add_comm, E.mul_comm]
  congr 1
  simp [lst]
  congr 1
  omega

/-- Behind i cells: f goes through those of the first k that are there, zero vanishes at them alone. -/
def Thr (H : Nat → Bool) (B : Nat → Nat) (k i : Nat) (F Z : Nat → E) (m : Nat) : Prop :=
  m = min (cnt H i) k ∧ (∀ j, j < i → H j = true → cnt H j < k → pv (lst F k) (bn j) = bn (B j)) ∧ ∀ z, pv (lst Z (m + 1)) z = 0 ↔ ∃ j, j < i ∧ H j = true ∧ cnt H j < k ∧ z = bn j
theorem Thr.start (H : Nat → Bool) (B : Nat → Nat) (k : Nat) (F : Nat → E) {Z : Nat → E} (hZ : Z 0 = 1) : Thr H B k 0 F Z 0 := by
  refine ⟨by show 0 = min 0 k; omega, fun j hj => by omega, fun z => ⟨fun h => ?_, fun ⟨j, hj, _⟩ => by omega⟩⟩
  have e : pv (lst Z (0 + 1)) z = 1 := by
    show Z 0 + z * 0 = 1
    rw [hZ, E.mul_zero, E.add_zero]
  rw [e] at h
  exact absurd h E.one_ne
theorem Thr.skip {H : Nat → Bool} {B : Nat → Nat} {k i : Nat} {F Z : Nat → E} {m : Nat} (h : Thr H B k i F Z m) (hs : H i = false ∨ m = k) : Thr H B k (i + 1) F Z m := by
  obtain ⟨h1, h2, h3⟩ := h
  have hc := cnt_succ H i
  have hno : ¬ (H i = true ∧ cnt H i < k) := fun ⟨a, b⟩ => by
    rcases hs with h | h
    · rw [h] at a; cases a
    · omega
  refine ⟨?_, fun j hj hh hk => ?_, fun z => ?_⟩
  · rcases hs with h | h
    · rw [hc, if_neg (by rw [h]; simp)]; exact h1
    · by_cases e : H i = true
      · rw [hc, if_pos e]; omega
      · rw [hc, if_neg e]; exact h1
  · by_cases e : j = i
    · subst e; exact absurd ⟨hh, hk⟩ hno
    · exact h2 j (by omega) hh hk
  · rw [h3 z]
    refine ⟨fun ⟨j, a, b⟩ => ⟨j, by omega, b⟩, fun ⟨j, a, b, c, d⟩ => ⟨j, ?_, b, c, d⟩⟩
    by_cases e : j = i
    · subst e; exact absurd ⟨b, c⟩ hno
    · omega
/-- The value of zero at the next point is not 0. -/
theorem Thr.not {H : Nat → Bool} {B : Nat → Nat} {k i : Nat} {F Z : Nat → E} {m : Nat} (h : Thr H B k i F Z m) (hi : i < 256) : pv (lst Z (m + 1)) (bn i) ≠ 0 := fun e => by
  obtain ⟨j, hj, _, _, e2⟩ := (h.2.2 _).mp e
  have := bn_inj hi (by omega) e2
  omega
theorem Thr.step {H : Nat → Bool} {B : Nat → Nat} {k i : Nat} {F Z : Nat → E} {m : Nat} (h : Thr H B k i F Z m) (hi : i < 256) (hh : H i = true) (hm : m < k) (F2 Z2 : Nat → E)
    (hF : ∀ j, j < k → F2 j = F j + if j < m + 1 then Z j * ((bn (B i) + pv (lst F k) (bn i)) * (pv (lst Z (m + 1)) (bn i)).inv) else 0)
    (hZ : ∀ j, j < m + 2 → Z2 j = (if 1 ≤ j ∧ j < m + 1 + 1 then Z (j - 1) else 0) + if j < m + 1 then Z j * bn i else 0) : Thr H B k (i + 1) F2 Z2 (m + 1) := by
  have hn := h.not hi
  obtain ⟨h1, h2, h3⟩ := h
  have hci : cnt H i = m := by omega
  have hpF : ∀ z, pv (lst F2 k) z = pv (lst F k) z + (bn (B i) + pv (lst F k) (bn i)) * (pv (lst Z (m + 1)) (bn i)).inv * pv (lst Z (m + 1)) z := fun z => by
    rw [lst_congr hF, lst_add F Z _ (by omega) z]
  have hpZ : ∀ z, pv (lst Z2 (m + 1 + 1)) z = (z + bn i) * pv (lst Z (m + 1)) z := fun z => by
    rw [lst_congr hZ, lst_times Z (bn i) (m + 1) z]
  refine ⟨by rw [cnt_succ, if_pos hh]; omega, fun j hj hj2 hk => ?_, fun z => ?_⟩
  · rw [hpF]
    by_cases e : j = i
    · subst e
      rw [E.mul_assoc, E.mul_comm (E.inv _), E.mul_inv hn, E.mul_one, E.add_comm, E.add_assoc, E.add_self, E.add_zero]
    · rw [(h3 (bn j)).mpr ⟨j, by omega, hj2, hk, rfl⟩, E.mul_zero, E.add_zero]
      exact h2 j (by omega) hj2 hk
  · rw [hpZ]
    constructor
    · intro e
      rcases E.none e with e | e
      · exact ⟨i, by omega, hh, by omega, add_eq e⟩
      · obtain ⟨j, a, b⟩ := (h3 z).mp e
        exact ⟨j, by omega, b⟩
    · rintro ⟨j, a, b, c, rfl⟩
      by_cases e : j = i
      · subst e; rw [E.add_self, E.zero_mul]
      · rw [(h3 _).mpr ⟨j, by omega, b, c, rfl⟩, E.mul_zero]

/-- The places of the first k. -/
theorem cnt_mono (H : Nat → Bool) {i j : Nat} (h : i ≤ j) : cnt H i ≤ cnt H j := by
  induction j with
  | zero => rw [show i = 0 by omega]; exact Nat.le_refl _
  | succ j ih =>
    by_cases e : i = j + 1
    · rw [e]; exact Nat.le_refl _
    · have := ih (by omega)
      rw [cnt_succ]
      split <;> omega
theorem cnt_place (H : Nat → Bool) : ∀ (n t : Nat), t < cnt H n → ∃ j, j < n ∧ H j = true ∧ cnt H j = t
  | 0, t, h => by exact absurd h (Nat.not_lt_zero _)
  | n + 1, t, h => by
    rw [cnt_succ] at h
    by_cases e : H n = true
    · rw [if_pos e] at h
      by_cases e2 : t = cnt H n
      · exact ⟨n, by omega, e, e2.symm⟩
      · obtain ⟨j, a, b⟩ := cnt_place H n t (by omega)
        exact ⟨j, by omega, b⟩
    · rw [if_neg e] at h
      obtain ⟨j, a, b⟩ := cnt_place H n t h
      exact ⟨j, by omega, b⟩
/-- What goes through k cells of a code row makes that row. -/
theorem Thr.row {H : Nat → Bool} {B : Nat → Nat} {k n : Nat} {F Z G : Nat → E} {m : Nat} (h : Thr H B k n F Z m) (hn : n ≤ 256) (hk : k ≤ cnt H n) (hG : ∀ i, i < n → H i = true → B i = (cr k G i).v) (t : Nat) : pv (lst F k) (bn t) = cr k G t := by
  have hkn : k ≤ n := Nat.le_trans hk (cnt_le H n)
  obtain ⟨g, g1, g2, g3⟩ := cr_poly G (k := k) (by omega)
  rw [g3]
  have hp : ∀ i, i < k → ∃ j, j < n ∧ H j = true ∧ cnt H j = i := fun i hi => cnt_place H n i (by omega)
  refine alike (n := k) (x := fun i => if h : i < k then bn (Classical.choose (hp i h)) else 0) (by rw [lst_length]; exact Nat.le_refl _) g1 (fun i j hj hi => ?_) (fun i hi => ?_) (bn t)
  · show (if h : i < k then bn (Classical.choose (hp i h)) else 0) ≠ (if h : j < k then bn (Classical.choose (hp j h)) else 0)
    rw [dif_pos hi, dif_pos (by omega : j < k)]
    have e1 := Classical.choose_spec (hp i hi)
    have e2 := Classical.choose_spec (hp j (by omega))
    intro e
    have e3 := bn_inj (by omega) (by omega) e
    have := e1.2.2
    rw [e3, e2.2.2] at this
    omega
  · show pv (lst F k) (if h : i < k then bn (Classical.choose (hp i h)) else 0) = pv g (if h : i < k then bn (Classical.choose (hp i h)) else 0)
    rw [dif_pos hi]
    obtain ⟨e1, e2, e3⟩ := Classical.choose_spec (hp i hi)
    rw [h.2.1 _ e1 e2 (by omega), ← g3, hG _ e1 e2]
    exact E.ext (bn_v (E.lt _))
/-- It is a code row in any case. -/
theorem lst_cr (F : Nat → E) {k : Nat} (hk : k ≤ 256) (t : Nat) : cr k (fun i => pv (lst F k) (bn i)) t = pv (lst F k) (bn t) :=
  cr_of hk (by rw [lst_length]; exact Nat.le_refl _) (fun _ _ => rfl) t

end Go.Proofs.Ythlnbomapfjphaa
