/-
  The document's own road to the divisors ends at all of them.
-/
import Derived.Test.YthlnbomapfjphaaDvPairs
import Derived.Test.YthlnbomapfjphaaDivs
namespace Go.Proofs.Ythlnbomapfjphaa
open Go.RowKit
open Eu Rs Dd

/-- All divisors, as integers. -/
def dvZ (n : Nat) : List Int := (dv n).map Int.ofNat

theorem range_lt (k : Nat) : ∀ s : Nat, (List.range' s k).Pairwise (· < ·) := by
  induction k with
  | zero => intro s; exact List.Pairwise.nil
  | succ k ih =>
    intro s
    rw [List.range'_succ]
    refine List.Pairwise.cons (fun a ha => ?_) (ih (s + 1))
    rw [List.mem_range'] at ha
    obtain ⟨i, _, rfl⟩ := ha
    omega

theorem mem_r1 {d r : Nat} (hr : 1 ≤ r) : d ∈ List.range' 1 (r - 1) ↔ 1 ≤ d ∧ d < r := by
  rw [List.mem_range']
  constructor
  · rintro ⟨i, hi, rfl⟩; omega
  · rintro ⟨h1, h2⟩; exact ⟨d - 1, by omega, by omega⟩

theorem divsAt_dv {n r : Nat} (hn : 1 ≤ n) (h1 : n < r * r) (h2 : (r - 1) * (r - 1) ≤ n) : divsAt n r = dvZ n := by
  have hr : 1 ≤ r := by rcases Nat.eq_zero_or_pos r with h | h; · subst h; simp at h1
                        · exact h
  have hsq : ∀ e, e < r → e * e ≤ n := fun e he => Nat.le_trans (Nat.mul_le_mul (by omega) (by omega)) h2
  have hq : ∀ e, 1 ≤ e → n % e = 0 → n = e * (n / e) := fun e _ h => (Nat.mul_div_cancel' (Nat.dvd_of_mod_eq_zero h)).symm
  have key : (List.range' 1 (r - 1)).filter (fun e => n % e == 0) ++ (((List.range' 1 (r - 1)).filter fun e => n % e == 0 && decide (e * e < n)).map fun e => n / e).reverse = dv n := by
    refine eq_of_lt ?_ (dv_lt n) fun d => ?_
    · refine List.pairwise_append.mpr ⟨List.Pairwise.filter _ (range_lt _ _), ?_, ?_⟩
      · rw [List.pairwise_reverse, List.pairwise_map]
        refine List.Pairwise.imp_of_mem ?_ (List.Pairwise.filter _ (range_lt _ _))
        intro a b ha hb hab
        simp only [List.mem_filter, Bool.and_eq_true, beq_iff_eq] at ha hb
        exact div_lt hn (Nat.dvd_of_mod_eq_zero ha.2.1) (Nat.dvd_of_mod_eq_zero hb.2.1) hab
      · intro a ha b hb
        simp only [List.mem_reverse, List.mem_map, List.mem_filter, Bool.and_eq_true, beq_iff_eq, decide_eq_true_eq, mem_r1 hr] at ha hb
        obtain ⟨⟨a1, a2⟩, a3⟩ := ha
        obtain ⟨e, ⟨⟨e1, e2⟩, e3, e4⟩, rfl⟩ := hb
        have h3 := hq e e1 e3
        refine Decidable.byContradiction fun hlt => ?_
        have h4 : n / e ≤ a := by omega
        by_cases hae : a ≤ e
        · have h5 : e * (n / e) ≤ e * e := Nat.mul_le_mul_left _ (by omega)
          omega
        · have h5 : e * (n / e) ≤ e * a := Nat.mul_le_mul_left _ h4
          have h6 : e * a < a * a := Nat.mul_lt_mul_of_pos_right (by omega) (by omega)
          have h7 := hsq a a2
          omega
    · rw [List.mem_append, List.mem_reverse, mem_dv hn]
      simp only [List.mem_map, List.mem_filter, Bool.and_eq_true, beq_iff_eq, decide_eq_true_eq, mem_r1 hr]
      constructor
      · rintro (⟨⟨a1, _⟩, a3⟩ | ⟨e, ⟨⟨e1, e2⟩, e3, e4⟩, rfl⟩)
        · exact ⟨a1, Nat.dvd_of_mod_eq_zero a3⟩
        · have h3 := Nat.dvd_of_mod_eq_zero e3
          exact ⟨Nat.div_pos (Nat.le_of_dvd hn h3) e1, Nat.div_dvd_of_dvd h3⟩
      · rintro ⟨a1, a2⟩
        by_cases hlt : d < r
        · exact .inl ⟨⟨a1, hlt⟩, Nat.mod_eq_zero_of_dvd a2⟩
        · right
          have h3 : r * r ≤ d * d := Nat.mul_le_mul (by omega) (by omega)
          have h4 : d * (n / d) = n := Nat.mul_div_cancel' a2
          have h5 : n / d < d := by
            refine Decidable.byContradiction fun hc => ?_
            have : d * d ≤ d * (n / d) := Nat.mul_le_mul_left _ (by omega)
            omega
          have h6 : 1 ≤ n / d := Nat.div_pos (Nat.le_of_dvd hn a2) a1
          have h7 : n / d * (n / d) < n := by
            have : n / d * (n / d) < d * (n / d) := Nat.mul_lt_mul_of_pos_right h5 h6
            omega
          have h8 : n / d < r := by
            refine Decidable.byContradiction fun hc => ?_
            have : r * r ≤ n / d * (n / d) := Nat.mul_le_mul (by omega) (by omega)
            omega
          exact ⟨n / d, ⟨⟨h6, h8⟩, Nat.mod_eq_zero_of_dvd (Nat.div_dvd_of_dvd a2), h7⟩, div_div hn a2⟩
  unfold divsAt lowL highL dvZ
  rw [← key, List.map_append, List.map_reverse, List.map_map]
  rfl

theorem dvZ_length (n : Nat) : (dvZ n).length = (dv n).length := by simp [dvZ]
theorem dvZ_nth {n i : Nat} (h : i < (dv n).length) : nth (dvZ n) i = (((dv n)[i] : Nat) : Int) := by
  rw [nth_eq (by rw [dvZ_length]; exact h)]
  simp [dvZ]


end Go.Proofs.Ythlnbomapfjphaa
