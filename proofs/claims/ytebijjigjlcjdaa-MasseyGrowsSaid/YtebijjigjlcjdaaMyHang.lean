/-
  Whether a rule of so many bits can be: equations of bits as rows, one after the other (GAUSS). No Go in sight.
-/
import Derived.Test.YtebijjigjlcjdaaMyMath
namespace Go.Proofs.Ytebijjigjlcjdaa.My

/-- The lowest bit of r is p. -/
def Low (r p : Nat) : Prop := r.testBit p = true ∧ ∀ k, k < p → r.testBit k = false
theorem low_some {r n : Nat} (h0 : r ≠ 0) (h : r < 2 ^ n) : ∃ p, p < n ∧ Low r p := by
  have key : ∀ m, (∃ p, p < m ∧ Low r p) ∨ ∀ k, k < m → r.testBit k = false := by
    intro m
    induction m with
    | zero => exact .inr fun k h => by omega
    | succ m ih =>
      rcases ih with ⟨p, h1, h2⟩ | h1
      · exact .inl ⟨p, by omega, h2⟩
      · cases hb : r.testBit m with
        | true => exact .inl ⟨m, by omega, hb, h1⟩
        | false =>
          refine .inr fun k hk => ?_
          by_cases e : k = m
          · rw [e]; exact hb
          · exact h1 k (by omega)
  rcases key n with h1 | h1
  · exact h1
  · refine absurd (Nat.eq_of_testBit_eq fun k => ?_) h0
    rw [Nat.zero_testBit]
    by_cases hk : k < n
    · exact h1 k hk
    · exact Nat.testBit_lt_two_pow (Nat.lt_of_lt_of_le h (Nat.pow_le_pow_right (by decide) (by omega)))
theorem Low.tell {r p q : Nat} (h : Low r p) (k : Low r q) : p = q := by
  rcases Nat.lt_trichotomy p q with h1 | h1 | h1
  · have := k.2 p h1; rw [h.1] at this; cases this
  · exact h1
  · have := h.2 q h1; rw [k.1] at this; cases this

/-- Where both have a one, together. -/
def dt (n : Nat) (x : Nat → Bool) (r : Nat) : Bool := xs (fun k => x k && r.testBit k) (n + 1)
theorem dt_xor (n : Nat) (x : Nat → Bool) (r t : Nat) : dt n x (r ^^^ t) = xor (dt n x r) (dt n x t) := by
  unfold dt
  rw [← xs_xor]
  refine xs_congr _ fun k _ => ?_
  rw [Nat.testBit_xor]
  cases x k <;> cases r.testBit k <;> cases t.testBit k <;> rfl
theorem dt_zero (n : Nat) (x : Nat → Bool) : dt n x 0 = false := by
  unfold dt
  rw [xs_congr (H := fun _ => false) _ fun k _ => by rw [Nat.zero_testBit, Bool.and_false]]
  exact xs_none _

/-- A row less those that are there. -/
def rd : List (Nat × Nat) → Nat → Nat
  | [], w => w
  | e :: l, w => rd l (if w.testBit e.2 = true then w ^^^ e.1 else w)

/-- Rows, each with its lowest bit; at the lowest bits of those ahead it has none. -/
structure Good (n : Nat) (L : List (Nat × Nat)) : Prop where
  low : ∀ e ∈ L, Low e.1 e.2
  small : ∀ e ∈ L, e.1 < 2 ^ (n + 1)
  apart : L.Pairwise fun a b => b.1.testBit a.2 = false

theorem Good.nil (n : Nat) : Good n [] := ⟨fun e h => (by cases h), fun e h => (by cases h), List.Pairwise.nil⟩

theorem rd_keep {p : Nat} : ∀ (L : List (Nat × Nat)) (w : Nat), (∀ e ∈ L, e.1.testBit p = false) → (rd L w).testBit p = w.testBit p := by
  intro L
  induction L with
  | nil => intro w _; rfl
  | cons e L ih =>
    intro w h
    rw [rd, ih _ fun a ha => h a (List.mem_cons_of_mem _ ha)]
    split
    · rw [Nat.testBit_xor, h e List.mem_cons_self, Bool.xor_false]
    · rfl

theorem rd_none {n : Nat} : ∀ (L : List (Nat × Nat)) (w : Nat), Good n L → ∀ e ∈ L, (rd L w).testBit e.2 = false := by
  intro L
  induction L with
  | nil => intro w _ e h; cases h
  | cons a L ih =>
    intro w h e he
    have hp := List.pairwise_cons.mp h.apart
    have hL : Good n L := ⟨fun e h2 => h.low e (List.mem_cons_of_mem _ h2), fun e h2 => h.small e (List.mem_cons_of_mem _ h2), hp.2⟩
    rw [rd]
    rcases List.mem_cons.mp he with rfl | he
    · rw [rd_keep L _ hp.1]
      split
      · rename_i h1
        rw [Nat.testBit_xor, h1, (h.low e List.mem_cons_self).1]; rfl
      · rename_i h1
        simpa using h1
    · exact ih _ hL e he

theorem rd_small {n : Nat} : ∀ (L : List (Nat × Nat)) (w : Nat), Good n L → w < 2 ^ (n + 1) → rd L w < 2 ^ (n + 1) := by
  intro L
  induction L with
  | nil => intro w _ h; exact h
  | cons a L ih =>
    intro w h hw
    have hp := List.pairwise_cons.mp h.apart
    have hL : Good n L := ⟨fun e h2 => h.low e (List.mem_cons_of_mem _ h2), fun e h2 => h.small e (List.mem_cons_of_mem _ h2), hp.2⟩
    rw [rd]
    refine ih _ hL ?_
    split
    · exact Nat.xor_lt_two_pow hw (h.small a List.mem_cons_self)
    · exact hw

theorem rd_dot (n : Nat) (x : Nat → Bool) : ∀ (L : List (Nat × Nat)) (w : Nat), (∀ e ∈ L, dt n x e.1 = false) → dt n x (rd L w) = dt n x w := by
  intro L
  induction L with
  | nil => intro w _; rfl
  | cons a L ih =>
    intro w h
    rw [rd, ih _ fun e he => h e (List.mem_cons_of_mem _ he)]
    split
    · rw [dt_xor, h a List.mem_cons_self, Bool.xor_false]
    · rfl

theorem Good.snoc {n : Nat} {L : List (Nat × Nat)} {w p : Nat} (h : Good n L) (hw : rd L w < 2 ^ (n + 1)) (hp : Low (rd L w) p) : Good n (L ++ [(rd L w, p)]) := by
  refine ⟨fun e he => ?_, fun e he => ?_, ?_⟩
  · rcases List.mem_append.mp he with h1 | h1
    · exact h.low e h1
    · rw [List.mem_singleton.mp h1]; exact hp
  · rcases List.mem_append.mp he with h1 | h1
    · exact h.small e h1
    · rw [List.mem_singleton.mp h1]; exact hw
  · refine List.pairwise_append.mpr ⟨h.apart, List.pairwise_singleton .., fun a ha b hb => ?_⟩
    rw [List.mem_singleton.mp hb]
    exact rd_none L w h a ha

/-- One bit turned. -/
theorem dt_flip (n : Nat) (x : Nat → Bool) {r p : Nat} (hp : p ≤ n) : dt n (fun k => if k = p then !(x k) else x k) r = xor (dt n x r) (r.testBit p) := by
  have key : ∀ m, xs (fun k => (if k = p then !(x k) else x k) && r.testBit k) m = xor (xs (fun k => x k && r.testBit k) m) (if p < m then r.testBit p else false) := by
    intro m
    induction m with
    | zero => rfl
    | succ m ih =>
      rw [xs, xs, ih]
      by_cases e : m = p
      · subst e
        rw [if_pos rfl, if_neg (Nat.lt_irrefl _), if_pos (by omega)]
        cases x m <;> cases r.testBit m <;> cases xs (fun k => x k && r.testBit k) m <;> rfl
      · rw [if_neg e]
        by_cases h : p < m
        · rw [if_pos h, if_pos (by omega)]
          cases x m <;> cases r.testBit m <;> cases xs (fun k => x k && r.testBit k) m <;> cases r.testBit p <;> rfl
        · rw [if_neg h, if_neg (by omega)]
          cases x m <;> cases r.testBit m <;> cases xs (fun k => x k && r.testBit k) m <;> rfl
  unfold dt
  rw [key, if_pos (by omega)]

/-- There is something that meets all. -/
theorem good_some {n : Nat} : ∀ (L : List (Nat × Nat)), Good n L → (∀ e ∈ L, e.2 < n) → ∃ x : Nat → Bool, x n = true ∧ ∀ e ∈ L, dt n x e.1 = false := by
  intro L
  induction L with
  | nil => intro _ _; exact ⟨fun _ => true, rfl, fun e h => by cases h⟩
  | cons a L ih =>
    intro h hp
    have hq := List.pairwise_cons.mp h.apart
    obtain ⟨x, x1, x2⟩ := ih ⟨fun e h2 => h.low e (List.mem_cons_of_mem _ h2), fun e h2 => h.small e (List.mem_cons_of_mem _ h2), hq.2⟩ fun e he => hp e (List.mem_cons_of_mem _ he)
    have hpa := hp a List.mem_cons_self
    cases hb : dt n x a.1 with
    | false =>
      refine ⟨x, x1, fun e he => ?_⟩
      rcases List.mem_cons.mp he with rfl | he
      · exact hb
      · exact x2 e he
    | true =>
      refine ⟨fun k => if k = a.2 then !(x k) else x k, by show (if n = a.2 then !(x n) else x n) = true; rw [if_neg (by omega)]; exact x1, fun e he => ?_⟩
      rw [dt_flip n x (by omega)]
      rcases List.mem_cons.mp he with rfl | he
      · rw [hb, (h.low e List.mem_cons_self).1]; rfl
      · rw [x2 e he, hq.1 e he]; rfl

/-- The equation of place i. -/
def IsEq (s : Nat → Bool) (n i row : Nat) : Prop := row < 2 ^ (n + 1) ∧ row.testBit n = s i ∧ ∀ k, k < n → row.testBit k = s (i - 1 - k)

theorem eq_dot {s x : Nat → Bool} {n i row : Nat} (h : IsEq s n i row) (hx : x n = true) : dt n x row = xor (s i) (nx s x n i) := by
  unfold dt nx
  rw [xs, hx, h.2.1, Bool.true_and]
  congr 1
  exact xs_congr _ fun k hk => by rw [h.2.2 k hk]

/-- The equations as far as place i are these rows. -/
structure Hang (s : Nat → Bool) (n i : Nat) (L : List (Nat × Nat)) : Prop where
  good : Good n L
  all : ∀ x : Nat → Bool, x n = true → ((∀ e ∈ L, dt n x e.1 = false) ↔ ∀ j, n ≤ j → j < i → s j = nx s x n j)

theorem Hang.start (s : Nat → Bool) (n : Nat) : Hang s n n [] := ⟨Good.nil n, fun x _ => ⟨fun _ j h1 h2 => by omega, fun _ e h => by cases h⟩⟩

theorem Hang.meets {s x : Nat → Bool} {n i row : Nat} {L : List (Nat × Nat)} (h : Hang s n i L) (hi : n ≤ i) (hr : IsEq s n i row) (hx : x n = true) :
    ((∀ e ∈ L, dt n x e.1 = false) ∧ dt n x (rd L row) = false) ↔ ∀ j, n ≤ j → j < i + 1 → s j = nx s x n j := by
  have e1 : dt n x row = false ↔ s i = nx s x n i := by
    rw [eq_dot hr hx]
    cases s i <;> cases nx s x n i <;> simp
  constructor
  · rintro ⟨h1, h2⟩ j hj1 hj2
    by_cases e : j = i
    · subst e
      rw [rd_dot n x L row h1] at h2
      exact e1.mp h2
    · exact (h.all x hx).mp h1 j hj1 (by omega)
  · intro h1
    have h2 := (h.all x hx).mpr fun j a b => h1 j a (by omega)
    exact ⟨h2, by rw [rd_dot n x L row h2]; exact e1.mpr (h1 i hi (by omega))⟩

/-- A row of which nothing is left. -/
theorem Hang.stay {s : Nat → Bool} {n i row : Nat} {L : List (Nat × Nat)} (h : Hang s n i L) (hi : n ≤ i) (hr : IsEq s n i row) (h0 : rd L row = 0) : Hang s n (i + 1) L := by
  refine ⟨h.good, fun x hx => ?_⟩
  rw [← h.meets hi hr hx, h0, dt_zero]
  exact ⟨fun k => ⟨k, rfl⟩, fun k => k.1⟩

/-- One row more. -/
theorem Hang.snoc {s : Nat → Bool} {n i row p : Nat} {L : List (Nat × Nat)} (h : Hang s n i L) (hi : n ≤ i) (hr : IsEq s n i row) (hp : Low (rd L row) p) : Hang s n (i + 1) (L ++ [(rd L row, p)]) := by
  refine ⟨h.good.snoc (rd_small L row h.good hr.1) hp, fun x hx => ?_⟩
  rw [← h.meets hi hr hx]
  constructor
  · intro k
    exact ⟨fun e he => k e (List.mem_append_left _ he), k (rd L row, p) (by simp)⟩
  · rintro ⟨k1, k2⟩ e he
    rcases List.mem_append.mp he with h1 | h1
    · exact k1 e h1
    · rw [List.mem_singleton.mp h1]; exact k2

theorem bit_only {n w : Nat} (hw : w < 2 ^ (n + 1)) (h : ∀ k, k < n → w.testBit k = false) : w = 0 ∨ w = 2 ^ n := by
  cases hb : w.testBit n with
  | false =>
    refine .inl (Nat.eq_of_testBit_eq fun k => ?_)
    rw [Nat.zero_testBit]
    by_cases h1 : k < n
    · exact h k h1
    · by_cases h2 : k = n
      · rw [h2]; exact hb
      · exact Nat.testBit_lt_two_pow (Nat.lt_of_lt_of_le hw (Nat.pow_le_pow_right (by decide) (by omega)))
  | true =>
    refine .inr (Nat.eq_of_testBit_eq fun k => ?_)
    rw [Nat.testBit_two_pow]
    by_cases h1 : k < n
    · rw [h k h1]; simp; omega
    · by_cases h2 : k = n
      · rw [h2, hb]; simp
      · rw [Nat.testBit_lt_two_pow (Nat.lt_of_lt_of_le hw (Nat.pow_le_pow_right (by decide) (by omega)))]; simp; omega

/-- A rule can be if and only if no row says that 1 is nothing. -/
theorem Hang.done {s : Nat → Bool} {n i : Nat} {L : List (Nat × Nat)} (h : Hang s n i L) : (∃ x, Gen s x n i) ↔ ∀ e ∈ L, e.1 ≠ 2 ^ n := by
  constructor
  · rintro ⟨x, hx⟩ e he h2
    have hx1 : (fun k => if k = n then true else x k) n = true := if_pos rfl
    have h1 := (h.all (fun k => if k = n then true else x k) hx1).mpr fun j j1 j2 => by
      rw [hx j j1 j2]
      exact xs_congr _ fun k hk => by show _ = ((if k = n then true else x k) && _); rw [if_neg (by omega)]
    have h3 := h1 e he
    rw [h2] at h3
    unfold dt at h3
    rw [xs, hx1, Nat.testBit_two_pow, xs_congr (H := fun _ => false) n fun k hk => by rw [Nat.testBit_two_pow]; simp; omega, xs_none] at h3
    simp at h3
  · intro hne
    obtain ⟨x, x1, x2⟩ := good_some L h.good fun e he => by
      have hl := h.good.low e he
      have hs := h.good.small e he
      refine Decidable.byContradiction fun hc => ?_
      rcases bit_only hs fun k hk => hl.2 k (by omega) with h1 | h1
      · have := hl.1; rw [h1, Nat.zero_testBit] at this; cases this
      · exact hne e he h1
    exact ⟨x, (h.all x x1).mp x2⟩

end Go.Proofs.Ytebijjigjlcjdaa.My
