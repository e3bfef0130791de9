/-
  Continued fractions: EUCLID's quotients, what they are worth, LAGRANGE's neighbours. No Go in sight.
-/
import Derived.Test.YthlnbomapfjphaaGma
namespace Go.Proofs.Ythlnbomapfjphaa.Fr
open Eu

/-- EUCLID's quotients. -/
def cf (p q : Int) : List Int := if _h : 0 < q then p / q :: cf q (p % q) else []
termination_by q.toNat
decreasing_by
  have h1 := Int.emod_lt_of_pos p _h
  have := Int.emod_nonneg p (b := q) (by omega)
  omega

theorem cf_none {p q : Int} (h : q ≤ 0) : cf p q = [] := by rw [cf, dif_neg (by omega)]
theorem cf_step {p q : Int} (h : 0 < q) : cf p q = p / q :: cf q (p % q) := by rw [cf, dif_pos h]
theorem cf_nil {p q : Int} (h0 : 0 ≤ q) (h : cf p q = []) : q = 0 := by
  by_cases hq : 0 < q
  · rw [cf_step hq] at h; cases h
  · omega

/-- What a list is worth: above, below. -/
def vp : List Int → Int × Int
  | [] => (1, 0)
  | a :: l => (a * (vp l).1 + (vp l).2, (vp l).1)
/-- What it is worth without its last. -/
def vq : List Int → Int × Int
  | [] => (0, 1)
  | a :: l => (a * (vq l).1 + (vq l).2, (vq l).1)

theorem vp_cons (a : Int) (l : List Int) : vp (a :: l) = (a * (vp l).1 + (vp l).2, (vp l).1) := rfl
theorem vq_cons (a : Int) (l : List Int) : vq (a :: l) = (a * (vq l).1 + (vq l).2, (vq l).1) := rfl

theorem vq_snoc (l : List Int) (a : Int) : vq (l ++ [a]) = vp l := by
  induction l with
  | nil => simp [vq, vp]
  | cons b l ih => rw [List.cons_append, vq_cons, ih, vp_cons]

/-- 1 and -1 in turn. -/
def sg (n : Nat) : Int := if n % 2 = 0 then 1 else -1
theorem sg_succ (n : Nat) : sg (n + 1) = - sg n := by
  unfold sg
  by_cases h : n % 2 = 0
  · rw [if_pos h, if_neg (by omega)]
  · rw [if_neg h, if_pos (by omega)]; rfl

theorem det (l : List Int) : (vp l).1 * (vq l).2 - (vq l).1 * (vp l).2 = sg l.length := by
  induction l with
  | nil => rfl
  | cons a l ih =>
    rw [List.length_cons, sg_succ, ← ih, vp_cons, vq_cons]
    generalize (vp l).1 = p1
    generalize (vp l).2 = p2
    generalize (vq l).1 = q1
    generalize (vq l).2 = q2
    show (a * p1 + p2) * q1 - (a * q1 + q2) * p1 = _
    grind

/-- EUCLID, some way on. -/
theorem cf_at : ∀ (l1 l2 : List Int) (p q : Int), 0 ≤ p → 0 ≤ q → cf p q = l1 ++ l2 →
    ∃ p' q', cf p' q' = l2 ∧ 0 ≤ p' ∧ 0 ≤ q' ∧ p = (vp l1).1 * p' + (vq l1).1 * q' ∧ q = (vp l1).2 * p' + (vq l1).2 * q' ∧ (l1 ≠ [] → q' < p') ∧ G p' q' = G p q ∧ ∀ B, p ≤ B → q ≤ B → p' ≤ B ∧ q' ≤ B := by
  intro l1
  induction l1 with
  | nil => intro l2 p q h0 h1 h; exact ⟨p, q, by simpa using h, h0, h1, by simp [vp, vq], by simp [vp, vq], fun h => absurd rfl h, rfl, fun B h2 h3 => ⟨h2, h3⟩⟩
  | cons a l1 ih =>
    intro l2 p q h0 h1 h
    by_cases hq : 0 < q
    · rw [cf_step hq, List.cons_append, List.cons.injEq] at h
      obtain ⟨ha, hl⟩ := h
      have m1 := Int.emod_lt_of_pos p hq
      have m2 := Int.emod_nonneg p (b := q) (by omega)
      obtain ⟨p', q', c1, c2, c3, c4, c5, c6, c7, c8⟩ := ih l2 q (p % q) h1 m2 hl
      have hp : p = a * q + p % q := by
        rw [← ha, Int.mul_comm]; exact (Int.mul_ediv_add_emod p q).symm
      refine ⟨p', q', c1, c2, c3, ?_, ?_, ?_, ?_, ?_⟩
      · rw [vp_cons, vq_cons, hp]
        generalize p % q = r at *
        subst c5
        rw [c4]
        generalize (vp l1).1 = x1
        generalize (vp l1).2 = x2
        generalize (vq l1).1 = y1
        generalize (vq l1).2 = y2
        grind
      · exact c4
      · intro _
        by_cases hl1 : l1 = []
        · subst hl1
          simp [vp, vq] at c4 c5
          omega
        · exact c6 hl1
      · rw [c7, G_step]
      · intro B b1 b2
        exact c8 B b2 (by omega)
    · rw [cf_none (by omega)] at h; cases h

theorem cf_gcd {p q : Int} (h0 : 0 ≤ p) (h1 : 0 ≤ q) : p = (vp (cf p q)).1 * G p q ∧ q = (vp (cf p q)).2 * G p q := by
  obtain ⟨p', q', c1, c2, c3, c4, c5, _, c7, _⟩ := cf_at (cf p q) [] p q h0 h1 (by simp)
  obtain rfl := cf_nil c3 c1
  rw [G_zero p' c2] at c7
  rw [← c7]
  rw [Int.mul_zero, Int.add_zero] at c4 c5
  exact ⟨c4, c5⟩

theorem cf_val {p q : Int} (h0 : 0 ≤ p) (h1 : 0 < q) : vp (cf p q) = (p / G p q, q / G p q) := by
  obtain ⟨e1, e2⟩ := cf_gcd h0 (q := q) (by omega)
  have hg := G_pos (a := p) (b := q) (.inr (by omega))
  generalize G p q = g at *
  have h3 : p / g = (vp (cf p q)).1 := Int.ediv_eq_of_eq_mul_left (by omega) e1
  have h4 : q / g = (vp (cf p q)).2 := Int.ediv_eq_of_eq_mul_left (by omega) e2
  rw [h3, h4]

/-- Behind the first, none is 0. -/
theorem cf_pos : ∀ (k : Nat) (p q : Int), q.toNat = k → 0 ≤ q → q < p → ∀ x ∈ cf p q, 1 ≤ x ∧ x ≤ p := by
  intro k
  induction k using Nat.strongRecOn with
  | ind k ih =>
    intro p q hk h0 h1 x hx
    by_cases hq : 0 < q
    · rw [cf_step hq] at hx
      have m1 := Int.emod_lt_of_pos p hq
      have m2 := Int.emod_nonneg p (b := q) (by omega)
      rcases List.mem_cons.mp hx with rfl | hx
      · exact ⟨Int.le_ediv_of_mul_le hq (by omega), Int.ediv_le_self _ (by omega)⟩
      · have := ih (p % q).toNat (by omega) q (p % q) rfl m2 m1 x hx
        omega
    · rw [cf_none (by omega)] at hx; cases hx

theorem cf_entries {p q : Int} (h0 : 0 ≤ p) (h1 : 0 < q) : ∃ a l, cf p q = a :: l ∧ a = p / q ∧ 0 ≤ a ∧ a ≤ p ∧ ∀ x ∈ l, 1 ≤ x ∧ x ≤ q := by
  have m1 := Int.emod_lt_of_pos p h1
  have m2 := Int.emod_nonneg p (b := q) (by omega)
  exact ⟨p / q, cf q (p % q), cf_step h1, rfl, Int.ediv_nonneg h0 (by omega), Int.ediv_le_self _ h0, cf_pos _ q (p % q) rfl m2 m1⟩

theorem cf_nonneg {p q : Int} (h0 : 0 ≤ p) (h1 : 0 ≤ q) : ∀ x ∈ cf p q, 0 ≤ x := by
  by_cases hq : 0 < q
  · obtain ⟨a, l, e, _, h2, _, h3⟩ := cf_entries h0 hq
    rw [e]
    intro x hx
    rcases List.mem_cons.mp hx with rfl | hx
    · exact h2
    · have := h3 x hx; omega
  · rw [cf_none (by omega)]; intro x hx; cases hx

theorem cf_len : ∀ (k : Nat) (p q : Int), q.toNat = k → (cf p q).length ≤ k := by
  intro k
  induction k using Nat.strongRecOn with
  | ind k ih =>
    intro p q hk
    by_cases hq : 0 < q
    · rw [cf_step hq, List.length_cons]
      have m1 := Int.emod_lt_of_pos p hq
      have m2 := Int.emod_nonneg p (b := q) (by omega)
      have := ih (p % q).toNat (by omega) q (p % q) rfl
      omega
    · rw [cf_none (by omega)]; simp

/-- The last of more than one is above 1. -/
theorem cf_last {p q a : Int} {l : List Int} (h0 : 0 ≤ p) (h1 : 0 ≤ q) (h : cf p q = l ++ [a]) (hl : l ≠ []) : 2 ≤ a := by
  obtain ⟨p', q', c1, c2, c3, _, _, c6, _, _⟩ := cf_at l [a] p q h0 h1 h
  have c6 := c6 hl
  have hq : 0 < q' := by
    refine Decidable.byContradiction fun hc => ?_
    rw [cf_none (by omega)] at c1
    cases c1
  rw [cf_step hq, List.cons.injEq] at c1
  obtain ⟨ha, hn⟩ := c1
  have hz := cf_nil (Int.emod_nonneg p' (by omega)) hn
  have hd := Int.mul_ediv_add_emod p' q'
  rw [hz, ha] at hd
  refine Decidable.byContradiction fun hc => ?_
  have : q' * a ≤ q' * 1 := Int.mul_le_mul_of_nonneg_left (by omega) (by omega)
  omega

theorem vp_nonneg : ∀ l : List Int, (∀ x ∈ l, 0 ≤ x) → 0 ≤ (vp l).1 ∧ 0 ≤ (vp l).2 := by
  intro l
  induction l with
  | nil => intro _; simp [vp]
  | cons a l ih =>
    intro h
    have h1 := ih fun x hx => h x (List.mem_cons_of_mem _ hx)
    have h2 := h a List.mem_cons_self
    rw [vp_cons]
    have := Int.mul_nonneg h2 h1.1
    exact ⟨by show 0 ≤ a * (vp l).1 + (vp l).2; omega, h1.1⟩

theorem vp_pos : ∀ l : List Int, (∀ x ∈ l, 1 ≤ x) → 1 ≤ (vp l).1 ∧ 0 ≤ (vp l).2 := by
  intro l
  induction l with
  | nil => intro _; simp [vp]
  | cons a l ih =>
    intro h
    have h1 := ih fun x hx => h x (List.mem_cons_of_mem _ hx)
    have h2 := h a List.mem_cons_self
    rw [vp_cons]
    have : 1 * (vp l).1 ≤ a * (vp l).1 := Int.mul_le_mul_of_nonneg_right h2 (by omega)
    exact ⟨by show 1 ≤ a * (vp l).1 + (vp l).2; omega, by show 0 ≤ (vp l).1; omega⟩

theorem vp_mono : ∀ l1 l2 : List Int, (∀ x ∈ l1, 0 ≤ x) → (∀ x ∈ l2, 1 ≤ x) → (vp l1).1 ≤ (vp (l1 ++ l2)).1 ∧ (vp l1).2 ≤ (vp (l1 ++ l2)).2 := by
  intro l1
  induction l1 with
  | nil => intro l2 _ h2; have := vp_pos l2 h2; simp [vp]; omega
  | cons a l1 ih =>
    intro l2 h1 h2
    have h3 := ih l2 (fun x hx => h1 x (List.mem_cons_of_mem _ hx)) h2
    have h4 := h1 a List.mem_cons_self
    rw [List.cons_append, vp_cons, vp_cons]
    have := Int.mul_le_mul_of_nonneg_left h3.1 h4
    exact ⟨by show a * (vp l1).1 + (vp l1).2 ≤ a * (vp (l1 ++ l2)).1 + (vp (l1 ++ l2)).2; omega, h3.1⟩

theorem cf_val_le {p q B : Int} (h0 : 0 ≤ p) (h1 : 0 ≤ q) (hB : 1 ≤ B) (h2 : p ≤ B) (h3 : q ≤ B) : (vp (cf p q)).1 ≤ B ∧ (vp (cf p q)).2 ≤ B := by
  by_cases hq : 0 < q
  · rw [cf_val h0 hq]
    have := Int.ediv_le_self (G p q) h0
    have := Int.ediv_le_self (G p q) h1
    exact ⟨by show p / G p q ≤ B; omega, by show q / G p q ≤ B; omega⟩
  · rw [cf_none (by omega)]; simp [vp]; omega

/-- What a beginning's rest is worth is small. -/
theorem front_small {p q B : Int} (h0 : 0 ≤ p) (h1 : 0 ≤ q) (hB : 1 ≤ B) (h2 : p ≤ B) (h3 : q ≤ B) {l l2 : List Int} (h : cf p q = l ++ l2) (i : Nat) :
    (vp (l.drop i)).1 ≤ B ∧ (vp (l.drop i)).2 ≤ B := by
  have hs : cf p q = l.take i ++ (l.drop i ++ l2) := by rw [← List.append_assoc, List.take_append_drop, h]
  obtain ⟨p', q', c1, c2, c3, _, _, c6, _, c8⟩ := cf_at _ _ p q h0 h1 hs
  have hv := cf_val_le c2 c3 hB (c8 B h2 h3).1 (c8 B h2 h3).2
  rw [c1] at hv
  by_cases hl2 : l2 = []
  · subst hl2; rwa [List.append_nil] at hv
  by_cases hl : l.drop i = []
  · rw [hl]; simp [vp]; omega
  have hn := cf_nonneg c2 c3
  rw [c1] at hn
  have hp2 : ∀ x ∈ l2, 1 ≤ x := by
    obtain ⟨a, t, ht⟩ : ∃ a t, l.drop i = a :: t := by
      cases hc : l.drop i with
      | nil => exact absurd hc hl
      | cons a t => exact ⟨a, t, rfl⟩
    have hq : 0 < q' := by
      refine Decidable.byContradiction fun hc => ?_
      rw [cf_none (by omega), ht] at c1
      cases c1
    obtain ⟨a2, l3, e, _, _, _, h5⟩ := cf_entries c2 hq
    rw [c1, ht, List.cons_append, List.cons.injEq] at e
    intro x hx
    exact (h5 x (by rw [← e.2]; exact List.mem_append_right _ hx)).1
  have := vp_mono (l.drop i) l2 (fun x hx => hn x (List.mem_append_left _ hx)) hp2
  omega

/-- LAGRANGE: two beginnings, side by side; and the fraction. -/
theorem turns {p q a : Int} {l l2 : List Int} (h0 : 0 ≤ p) (h1 : 0 ≤ q) (h : cf p q = (l ++ [a]) ++ l2) :
    (vp l).1 * (vp (l ++ [a])).2 - (vp (l ++ [a])).1 * (vp l).2 = sg l.length ∧ ∃ q', 0 ≤ q' ∧ (vp l).1 * q - p * (vp l).2 = sg l.length * q' := by
  constructor
  · have := det (l ++ [a])
    rw [vq_snoc, List.length_append, List.length_singleton, sg_succ] at this
    omega
  · rw [List.append_assoc] at h
    obtain ⟨p', q', _, _, c3, c4, c5, _⟩ := cf_at l _ p q h0 h1 h
    refine ⟨q', c3, ?_⟩
    rw [← det l, c4, c5]
    generalize (vp l).1 = x1
    generalize (vp l).2 = x2
    generalize (vq l).1 = y1
    generalize (vq l).2 = y2
    grind

theorem drop_vp {l : List Int} {i : Nat} (h : i < l.length) : vp (l.drop i) = (l.getD i 0 * (vp (l.drop (i + 1))).1 + (vp (l.drop (i + 1))).2, (vp (l.drop (i + 1))).1) := by
  rw [List.drop_eq_getElem_cons h, vp_cons]
  simp [h]

end Go.Proofs.Ythlnbomapfjphaa.Fr
