/-
  The rank by columns taken off one by one (or rows): the state of the elimination. No Go in sight.
-/
import Derived.Test.YthlnbomapfjphaaGmx
namespace Go.Proofs.Ythlnbomapfjphaa.Gf

/-- The first p of the n rows are done: P tells which of them are pivots, and where; the others of them are noughts; all further rows are 0 at the pivots' places. -/
structure Elim (M0 M : Nat → Nat → E) (n c p : Nat) (P : List (Nat × Nat)) : Prop where
  al : Al M0 M (List.range n) (List.range c)
  some : ∀ a ∈ P, a.1 < p ∧ a.2 < c ∧ M a.1 a.2 ≠ 0
  rows : (P.map (·.1)).Nodup
  cols : (P.map (·.2)).Nodup
  steps : P.Pairwise (fun a b => M b.1 a.2 = 0)
  ahead : ∀ a ∈ P, ∀ i, p ≤ i → i < n → M i a.2 = 0
  nought : ∀ i, i < p → i < n → i ∉ P.map (·.1) → ∀ j, j < c → M i j = 0

theorem Elim.start (M : Nat → Nat → E) (n c : Nat) : Elim M M n c 0 [] where
  al := Al.refl M List.nodup_range _
  some a ha := by cases ha
  rows := List.nodup_nil
  cols := List.nodup_nil
  steps := List.Pairwise.nil
  ahead a ha := by cases ha
  nought i hi := absurd hi (Nat.not_lt_zero _)

/-- A row of noughts. -/
theorem Elim.skip {M0 M : Nat → Nat → E} {n c p : Nat} {P : List (Nat × Nat)} (h : Elim M0 M n c p P) (h0 : ∀ j, j < c → M p j = 0) : Elim M0 M n c (p + 1) P where
  al := h.al
  some a ha := by have := h.some a ha; exact ⟨by omega, this.2⟩
  rows := h.rows
  cols := h.cols
  steps := h.steps
  ahead a ha i hi hn := h.ahead a ha i (by omega) hn
  nought i hi hn hni j hj := by
    by_cases e : i = p
    · rw [e]; exact h0 j hj
    · exact h.nought i (by omega) hn hni j hj

/-- One pivot more: so many times its row taken from all that follow. -/
theorem Elim.step {M0 M N : Nat → Nat → E} {n c p k : Nat} {P : List (Nat × Nat)} (h : Elim M0 M n c p P) (hp : p < n) (hk : k < c) (h0 : M p k ≠ 0) (f : Nat → E) (hf : ∀ i, f i = M i k * (M p k).inv)
    (hN : ∀ i, i < n → ∀ j, j < c → N i j = if p < i then M i j + f i * M p j else M i j) : Elim M0 N n c (p + 1) (P ++ [(p, k)]) := by
  have old : ∀ a ∈ P, N a.1 a.2 = M a.1 a.2 := fun a ha => by
    have := h.some a ha
    rw [hN _ (by omega) _ this.2.1, if_neg (by omega)]
  have hkP : k ∉ P.map (·.2) := fun hc => by
    obtain ⟨a, ha, e⟩ := List.mem_map.mp hc
    exact h0 (by rw [← e]; exact h.ahead a ha p (Nat.le_refl _) hp)
  refine ⟨h.al.trans (Al.take List.nodup_range (k := p) (List.mem_range.mpr hp) (fun i => if p < i then f i else 0) (if_neg (by omega)) fun i hi j hj => ?_), fun a ha => ?_, ?_, ?_, ?_, fun a ha i hi hn => ?_, fun i hi hn hni j hj => ?_⟩
  · rw [hN i (List.mem_range.mp hi) j (List.mem_range.mp hj)]
    by_cases e : p < i
    · rw [if_pos e, if_pos e]
    · rw [if_neg e, if_neg e, E.zero_mul, E.add_zero]
  · rcases List.mem_append.mp ha with ha | ha
    · have := h.some a ha
      exact ⟨by omega, this.2.1, by rw [old a ha]; exact this.2.2⟩
    · obtain rfl := List.mem_singleton.mp ha
      exact ⟨by show p < p + 1; omega, hk, by show N p k ≠ 0; rw [hN p hp k hk, if_neg (by omega)]; exact h0⟩
  · rw [List.map_append, List.map_singleton]
    refine List.nodup_append.mpr ⟨h.rows, by simp, fun x hx y hy e => ?_⟩
    obtain ⟨a, ha, rfl⟩ := List.mem_map.mp hx
    have := (h.some a ha).1
    simp at hy
    omega
  · rw [List.map_append, List.map_singleton]
    refine List.nodup_append.mpr ⟨h.cols, by simp, fun x hx y hy e => ?_⟩
    simp at hy
    subst hy
    subst e
    exact hkP hx
  · rw [List.pairwise_append]
    refine ⟨h.steps.imp_of_mem fun {a b} ha hb e => ?_, List.pairwise_singleton _ _, fun a ha b hb => ?_⟩
    · have h1 := h.some a ha
      have h2 := h.some b hb
      rw [hN _ (by omega) _ h1.2.1, if_neg (by omega)]
      exact e
    · obtain rfl := List.mem_singleton.mp hb
      have h1 := h.some a ha
      show N p a.2 = 0
      rw [hN p hp _ h1.2.1, if_neg (by omega)]
      exact h.ahead a ha p (Nat.le_refl _) hp
  · rcases List.mem_append.mp ha with ha | ha
    · have h1 := h.some a ha
      rw [hN i hn _ h1.2.1, if_pos (by omega), h.ahead a ha i (by omega) hn, h.ahead a ha p (Nat.le_refl _) hp, E.mul_zero, E.add_zero]
    · obtain rfl := List.mem_singleton.mp ha
      show N i k = 0
      rw [hN i hn k hk, if_pos (by omega), hf, E.mul_assoc, E.mul_comm (M p k).inv, E.mul_inv h0, E.mul_one, E.add_self]
  · have hi2 : i ≠ p := fun e => hni (by rw [List.map_append, e]; simp)
    rw [hN i hn j hj, if_neg (by omega)]
    exact h.nought i (by omega) hn (fun hc => hni (by rw [List.map_append]; exact List.mem_append_left _ hc)) j hj

/-- No more pivots than rows. -/
theorem Elim.length {M0 M : Nat → Nat → E} {n c p : Nat} {P : List (Nat × Nat)} (h : Elim M0 M n c p P) : P.length ≤ p := by
  have := sub_length (P.map (·.1)) (List.range p) h.rows fun x hx => by
    obtain ⟨a, ha, rfl⟩ := List.mem_map.mp hx
    exact List.mem_range.mpr (h.some a ha).1
  rwa [List.length_map, List.length_range] at this

/-- All done: so many pivots. -/
theorem Elim.rank {M0 M : Nat → Nat → E} {n c : Nat} {P : List (Nat × Nat)} (h : Elim M0 M n c n P) : Rk M0 (List.range n) (List.range c) P.length := by
  refine h.al.symm.rank (rk_steps P h.rows h.cols (fun a ha => List.mem_range.mpr (h.some a ha).1) (fun a ha => List.mem_range.mpr (h.some a ha).2.1) h.steps (fun a ha => (h.some a ha).2.2) fun i hi hni j hj => ?_)
  exact h.nought i (List.mem_range.mp hi) (List.mem_range.mp hi) hni j (List.mem_range.mp hj)

end Go.Proofs.Ythlnbomapfjphaa.Gf
