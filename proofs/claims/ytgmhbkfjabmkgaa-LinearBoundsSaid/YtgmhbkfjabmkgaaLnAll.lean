/-
  The document's words of a code: of all sets of generators; each once, in order. No Go in sight.
-/
import Derived.Test.YtgmhbkfjabmkgaaLnBase
namespace Go.Proofs.Ytgmhbkfjabmkgaa.Ln

/-- The sum by the set s, as far as generator k. -/
def wk (l : List Nat) (s : Nat) : Nat → Nat
  | 0 => 0
  | k + 1 => wk l s k ^^^ l.getD k 0 * (s / 2 ^ k % 2)

theorem wk_cons (x : Nat) (l : List Nat) (s : Nat) : ∀ k, wk (x :: l) s (k + 1) = x * (s % 2) ^^^ wk l (s / 2) k := by
  intro k
  induction k with
  | zero => rw [wk, wk, wk, Nat.pow_zero, Nat.div_one, Nat.zero_xor, Nat.xor_zero]; rfl
  | succ k ih =>
    rw [wk, ih, wk, ← Nat.xor_assoc]
    congr 1
    rw [Nat.pow_succ, Nat.mul_comm (2 ^ k), ← Nat.div_div_eq_div_mul, List.getD_cons_succ]

/-- All sums, by sets. -/
theorem mem_wk : ∀ (l : List Nat) (w : Nat), w ∈ sums l ↔ ∃ s, s < 2 ^ l.length ∧ wk l s l.length = w := by
  intro l
  induction l with
  | nil =>
    intro w
    rw [sums, List.mem_singleton]
    constructor
    · rintro rfl; exact ⟨0, by decide, rfl⟩
    · rintro ⟨s, _, rfl⟩; rfl
  | cons x l ih =>
    intro w
    rw [mem_sums, List.length_cons]
    constructor
    · rintro (h | h)
      · obtain ⟨s, s1, s2⟩ := (ih w).mp h
        refine ⟨2 * s, by rw [Nat.pow_succ]; omega, ?_⟩
        rw [wk_cons, show 2 * s % 2 = 0 by omega, show 2 * s / 2 = s by omega, Nat.mul_zero, Nat.zero_xor, s2]
      · obtain ⟨s, s1, s2⟩ := (ih _).mp h
        refine ⟨2 * s + 1, by rw [Nat.pow_succ]; omega, ?_⟩
        rw [wk_cons, show (2 * s + 1) % 2 = 1 by omega, show (2 * s + 1) / 2 = s by omega, Nat.mul_one, s2, ← Nat.xor_assoc, Nat.xor_self, Nat.zero_xor]
    · rintro ⟨s, s1, s2⟩
      rw [Nat.pow_succ] at s1
      have h1 := (ih (wk l (s / 2) l.length)).mpr ⟨s / 2, by omega, rfl⟩
      rw [wk_cons] at s2
      rcases Nat.mod_two_eq_zero_or_one s with h | h
      · rw [h, Nat.mul_zero, Nat.zero_xor] at s2
        exact .inl (s2 ▸ h1)
      · rw [h, Nat.mul_one] at s2
        refine .inr ?_
        rw [← s2, ← Nat.xor_assoc, Nat.xor_self, Nat.zero_xor]
        exact h1

/-- Of equal neighbours one. -/
def cpt : List Nat → List Nat
  | [] => []
  | a :: l => if l.head? = some a then cpt l else a :: cpt l
theorem mem_cpt : ∀ (l : List Nat) (w : Nat), w ∈ cpt l ↔ w ∈ l := by
  intro l
  induction l with
  | nil => intro w; exact Iff.rfl
  | cons a l ih =>
    intro w
    rw [cpt]
    by_cases h : l.head? = some a
    · rw [if_pos h, ih, List.mem_cons]
      refine ⟨.inr, ?_⟩
      rintro (rfl | h2)
      · exact List.mem_of_mem_head? h
      · exact h2
    · rw [if_neg h, List.mem_cons, List.mem_cons, ih]
theorem cpt_lt : ∀ (l : List Nat), l.Pairwise (· ≤ ·) → (cpt l).Pairwise (· < ·) := by
  intro l
  induction l with
  | nil => intro _; exact List.Pairwise.nil
  | cons a l ih =>
    intro h
    rw [List.pairwise_cons] at h
    rw [cpt]
    by_cases h2 : l.head? = some a
    · rw [if_pos h2]; exact ih h.2
    · rw [if_neg h2]
      refine List.pairwise_cons.mpr ⟨fun b hb => ?_, ih h.2⟩
      have hb := (mem_cpt l b).mp hb
      have h3 := h.1 b hb
      refine Nat.lt_of_le_of_ne h3 fun e => h2 ?_
      subst e
      cases l with
      | nil => cases hb
      | cons c l =>
        show some c = some a
        have h4 := h.1 c List.mem_cons_self
        rcases List.mem_cons.mp hb with h5 | h5
        · rw [h5]
        · have := (List.pairwise_cons.mp h.2).1 a h5
          rw [show c = a by omega]

/-- Two in order with the same members are one. -/
theorem lt_one : ∀ (l k : List Nat), l.Pairwise (· < ·) → k.Pairwise (· < ·) → (∀ w, w ∈ l ↔ w ∈ k) → l = k := by
  intro l
  induction l with
  | nil =>
    intro k _ _ h
    cases k with
    | nil => rfl
    | cons a k => have := (h a).mpr List.mem_cons_self; cases this
  | cons a l ih =>
    intro k hl hk h
    cases k with
    | nil => have := (h a).mp List.mem_cons_self; cases this
    | cons b k =>
      rw [List.pairwise_cons] at hl hk
      have e : a = b := by
        rcases List.mem_cons.mp ((h a).mp List.mem_cons_self) with h1 | h1
        · exact h1
        · rcases List.mem_cons.mp ((h b).mpr List.mem_cons_self) with h2 | h2
          · exact h2.symm
          · have := hk.1 a h1; have := hl.1 b h2; omega
      subst e
      congr 1
      refine ih k hl.2 hk.2 fun w => ⟨fun hw => ?_, fun hw => ?_⟩
      · rcases List.mem_cons.mp ((h w).mp (List.mem_cons_of_mem _ hw)) with h1 | h1
        · have := hl.1 w hw; omega
        · exact h1
      · rcases List.mem_cons.mp ((h w).mpr (List.mem_cons_of_mem _ hw)) with h1 | h1
        · have := hk.1 w hw; omega
        · exact h1

end Go.Proofs.Ytgmhbkfjabmkgaa.Ln
