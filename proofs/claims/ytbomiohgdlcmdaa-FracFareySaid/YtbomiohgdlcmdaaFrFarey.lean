/-
  FAREY's rows as far as 30: what follows. No Go in sight.
-/
import Derived.Test.YtbomiohgdlcmdaaFrRow
namespace Go.Proofs.Ytbomiohgdlcmdaa.Fr
open Eu Dd

theorem okF_at {n : Nat} (h1 : 1 ≤ n) (h2 : n ≤ 30) : okF n = true := by
  have := List.all_eq_true.mp okF_all (n - 1) (List.mem_range.mpr (by omega))
  rwa [show n - 1 + 1 = n by omega] at this

theorem adj_at : ∀ (l : List (Nat × Nat)), adj l = true → ∀ i, (h : i + 1 < l.length) → l[i + 1].1 * l[i].2 = l[i].1 * l[i + 1].2 + 1 := by
  intro l
  induction l with
  | nil => intro _ i h; simp at h
  | cons a l ih =>
    intro ha i h
    match l, ih, ha, h with
    | [], _, _, h => simp at h
    | b :: l, ih, ha, h =>
      unfold adj at ha
      rw [Bool.and_eq_true, beq_iff_eq] at ha
      match i with
      | 0 => exact ha.1
      | i + 1 => exact ih ha.2 i (by simpa using h)

theorem med_at : ∀ (l : List (Nat × Nat)), med l = true → ∀ i, (h : i + 2 < l.length) → (l[i].1 + l[i + 2].1) * l[i + 1].2 = (l[i].2 + l[i + 2].2) * l[i + 1].1 := by
  intro l
  induction l with
  | nil => intro _ i h; simp at h
  | cons a l ih =>
    intro ha i h
    match l, ih, ha, h with
    | [], _, _, h => simp at h
    | [b], _, _, h => simp at h; omega
    | b :: c :: l, ih, ha, h =>
      unfold med at ha
      rw [Bool.and_eq_true, beq_iff_eq] at ha
      match i with
      | 0 => exact ha.1
      | i + 1 => exact ih ha.2 i (by simpa using h)

/-- What is known of a row. -/
theorem FLn_facts {n : Nat} (h1 : 1 ≤ n) (h2 : n ≤ 30) :
    (∀ i, (h : i + 1 < (FLn n).length) → (FLn n)[i + 1].1 * (FLn n)[i].2 = (FLn n)[i].1 * (FLn n)[i + 1].2 + 1) ∧
    (∀ i, (h : i + 2 < (FLn n).length) → ((FLn n)[i].1 + (FLn n)[i + 2].1) * (FLn n)[i + 1].2 = ((FLn n)[i].2 + (FLn n)[i + 2].2) * (FLn n)[i + 1].1) ∧
    (∀ x ∈ FLn n, x.1 ≤ x.2 ∧ 1 ≤ x.2 ∧ x.2 ≤ n) ∧ (FLn n).Perm (prs n) ∧ (FLn n).length = sumc n := by
  have h := okF_at h1 h2
  unfold okF at h
  simp only [Bool.and_eq_true, List.all_eq_true, decide_eq_true_eq, beq_iff_eq] at h
  obtain ⟨⟨⟨⟨e1, e2⟩, e3⟩, e4⟩, e5⟩ := h
  exact ⟨adj_at _ e1, med_at _ e2, fun x hx => ⟨(e3 x hx).1.1, (e3 x hx).1.2, (e3 x hx).2⟩, List.isPerm_iff.mp e4, e5⟩

/-- By their worth. -/
def ltN (a b : Nat × Nat) : Prop := a.1 * b.2 < b.1 * a.2
theorem ltN_trans {a b c : Nat × Nat} (hb : 1 ≤ b.2) (h1 : ltN a b) (h2 : ltN b c) : ltN a c := by
  unfold ltN at *
  refine Nat.lt_of_mul_lt_mul_left (a := b.2) ?_
  by_cases hc : c.2 = 0
  · rw [hc] at h2 ⊢
    by_cases ha : a.2 = 0
    · rw [ha] at h1; omega
    · have : 0 < c.1 * b.2 := by omega
      have h3 : 0 < c.1 := Nat.pos_of_mul_pos_right this
      have h4 : 0 < b.2 * (c.1 * a.2) := Nat.mul_pos (by omega) (Nat.mul_pos h3 (by omega))
      omega
  · have e1 : a.1 * b.2 * c.2 < b.1 * a.2 * c.2 := Nat.mul_lt_mul_of_pos_right h1 (by omega)
    have e2 : b.1 * c.2 * a.2 ≤ c.1 * b.2 * a.2 := Nat.mul_le_mul_right _ (by omega)
    have e3 : b.2 * (a.1 * c.2) = a.1 * b.2 * c.2 := by ac_rfl
    have e4 : b.2 * (c.1 * a.2) = c.1 * b.2 * a.2 := by ac_rfl
    have e5 : b.1 * a.2 * c.2 = b.1 * c.2 * a.2 := by ac_rfl
    omega

theorem adj_pw : ∀ (l : List (Nat × Nat)), adj l = true → (∀ x ∈ l, 1 ≤ x.2) → l.Pairwise ltN := by
  intro l
  induction l with
  | nil => intro _ _; exact .nil
  | cons a l ih =>
    intro ha hp
    match l, ih, ha, hp with
    | [], _, _, _ => exact List.pairwise_singleton _ _
    | b :: l, ih, ha, hp =>
      unfold adj at ha
      rw [Bool.and_eq_true, beq_iff_eq] at ha
      have h2 := ih ha.2 fun x hx => hp x (List.mem_cons_of_mem _ hx)
      have hab : ltN a b := by unfold ltN; omega
      refine List.pairwise_cons.mpr ⟨fun x hx => ?_, h2⟩
      rcases List.mem_cons.mp hx with rfl | hx
      · exact hab
      · exact ltN_trans (hp b (List.mem_cons_of_mem _ List.mem_cons_self)) hab ((List.pairwise_cons.mp h2).1 x hx)

theorem FLn_pw {n : Nat} (h1 : 1 ≤ n) (h2 : n ≤ 30) : (FLn n).Pairwise ltN := by
  have h := okF_at h1 h2
  have hf := FLn_facts h1 h2
  unfold okF at h
  simp only [Bool.and_eq_true] at h
  exact adj_pw _ h.1.1.1.1 fun x hx => (hf.2.2.1 x hx).2.1

/-- What is in order and has the same fractions is the row. -/
theorem FLn_uniq {n : Nat} (h1 : 1 ≤ n) (h2 : n ≤ 30) {l : List (Nat × Nat)} (hp : l.Perm (prs n)) (hs : l.Pairwise fun a b => a.1 * b.2 ≤ b.1 * a.2) : l = FLn n := by
  have hpw := FLn_pw h1 h2
  have hperm : l.Perm (FLn n) := hp.trans (FLn_facts h1 h2).2.2.2.1.symm
  refine List.Perm.eq_of_pairwise (le := fun a b => a.1 * b.2 ≤ b.1 * a.2) ?_ hs (hpw.imp fun h => by unfold ltN at h; omega) hperm
  intro a b ha hb hab hba
  obtain ⟨i, hi, rfl⟩ := List.getElem_of_mem (hperm.mem_iff.mp ha)
  obtain ⟨j, hj, rfl⟩ := List.getElem_of_mem hb
  by_cases hij : i = j
  · subst hij; rfl
  · rcases Nat.lt_or_gt_of_ne hij with h | h
    · have := List.pairwise_iff_getElem.mp hpw i j hi hj h
      unfold ltN at this
      omega
    · have := List.pairwise_iff_getElem.mp hpw j i hj hi h
      unfold ltN at this
      omega

/-- EULER's numbers, as far as 30. -/
theorem ph_phc : ∀ n : Nat, 1 ≤ n → n ≤ 30 → ph n = (phc n : Int) := by
  intro n
  induction n using Nat.strongRecOn with
  | ind n ih =>
    intro h1 h2
    have hg := gauss_sum h1
    have hc := List.all_eq_true.mp phc_sum (n - 1) (List.mem_range.mpr (by omega))
    rw [show n - 1 + 1 = n by omega, beq_iff_eq] at hc
    rw [← dv_but h1, sm_append] at hg hc
    have he : sm ph ((dv n).filter fun d => decide (d < n)) = sm (fun d => (phc d : Int)) ((dv n).filter fun d => decide (d < n)) := sm_congr fun d hd => by
      have hd2 := List.mem_filter.mp hd
      have hlt : d < n := by simpa using hd2.2
      exact ih d hlt ((mem_dv h1).mp hd2.1).1 (by omega)
    rw [he] at hg
    simp only [sm] at hg hc
    omega

-- Fractions by their worth.
theorem cross_lt {a b c : Int × Int} (ha : 1 ≤ a.2) (hb : 1 ≤ b.2) (hc : 1 ≤ c.2) (h1 : a.1 * b.2 < b.1 * a.2) (h2 : b.1 * c.2 < c.1 * b.2) : a.1 * c.2 < c.1 * a.2 := by
  refine Int.lt_of_mul_lt_mul_left (a := b.2) ?_ (by omega)
  have e1 : a.1 * b.2 * c.2 < b.1 * a.2 * c.2 := Int.mul_lt_mul_of_pos_right h1 (by omega)
  have e2 : b.1 * c.2 * a.2 < c.1 * b.2 * a.2 := Int.mul_lt_mul_of_pos_right h2 (by omega)
  have e3 : b.2 * (a.1 * c.2) = a.1 * b.2 * c.2 := by ac_rfl
  have e4 : b.2 * (c.1 * a.2) = c.1 * b.2 * a.2 := by ac_rfl
  have e5 : b.1 * a.2 * c.2 = b.1 * c.2 * a.2 := by ac_rfl
  omega

theorem cross_le {a b c : Int × Int} (ha : 1 ≤ a.2) (hb : 1 ≤ b.2) (hc : 1 ≤ c.2) (h1 : a.1 * b.2 ≤ b.1 * a.2) (h2 : b.1 * c.2 ≤ c.1 * b.2) : a.1 * c.2 ≤ c.1 * a.2 := by
  refine Int.le_of_mul_le_mul_left (a := b.2) ?_ (by omega)
  have e1 : a.1 * b.2 * c.2 ≤ b.1 * a.2 * c.2 := Int.mul_le_mul_of_nonneg_right h1 (by omega)
  have e2 : b.1 * c.2 * a.2 ≤ c.1 * b.2 * a.2 := Int.mul_le_mul_of_nonneg_right h2 (by omega)
  have e3 : b.2 * (a.1 * c.2) = a.1 * b.2 * c.2 := by ac_rfl
  have e4 : b.2 * (c.1 * a.2) = c.1 * b.2 * a.2 := by ac_rfl
  have e5 : b.1 * a.2 * c.2 = b.1 * c.2 * a.2 := by ac_rfl
  omega

/-- All of a row's fractions: in lowest terms. -/
theorem prs_mem {n : Nat} {x : Nat × Nat} : x ∈ prs n ↔ 1 ≤ x.2 ∧ x.2 ≤ n ∧ x.1 ≤ x.2 ∧ Nat.gcd x.1 x.2 = 1 := by
  induction n with
  | zero => simp only [prs, List.not_mem_nil, false_iff]; omega
  | succ q ih =>
    unfold prs
    rw [List.mem_append, ih, List.mem_map]
    constructor
    · rintro (h | ⟨p, hp, rfl⟩)
      · exact ⟨h.1, by omega, h.2.2⟩
      · have := List.mem_filter.mp hp
        have h1 := List.mem_range.mp this.1
        exact ⟨by simp, by simp, by show p ≤ q + 1; omega, by simpa using this.2⟩
    · rintro ⟨h1, h2, h3, h4⟩
      by_cases h : x.2 ≤ q
      · exact .inl ⟨h1, h, h3, h4⟩
      · obtain ⟨a, b⟩ := x
        simp only at *
        obtain rfl : b = q + 1 := by omega
        exact .inr ⟨a, List.mem_filter.mpr ⟨List.mem_range.mpr (by omega), by simpa using h4⟩, rfl⟩

theorem prs_len : ∀ n : Nat, n ≤ 30 → (prs n).length ≤ 31 * n := by
  intro n
  induction n with
  | zero => intro _; simp [prs]
  | succ q ih =>
    intro h
    have := ih (by omega)
    unfold prs
    rw [List.length_append, List.length_map]
    have h2 := List.length_filter_le (fun p => Nat.gcd p (q + 1) == 1) (List.range (q + 1 + 1))
    rw [List.length_range] at h2
    omega

end Go.Proofs.Ytbomiohgdlcmdaa.Fr
