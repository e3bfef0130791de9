/-
  Rules of bits: BERLEKAMP and MASSEY: what a rule that fails tells of the next ones; how it is mended; one alone. No Go in sight.
-/
import Derived.Test.YtebijjigjlcjdaaGma
namespace Go.Proofs.Ytebijjigjlcjdaa.My

/-- So many bits, together. -/
def xs (F : Nat → Bool) : Nat → Bool
  | 0 => false
  | n + 1 => xor (F n) (xs F n)

theorem xs_congr {F H : Nat → Bool} : ∀ n, (∀ k, k < n → F k = H k) → xs F n = xs H n := by
  intro n
  induction n with
  | zero => intro _; rfl
  | succ n ih => intro h; rw [xs, xs, h n (by omega), ih fun k hk => h k (by omega)]
theorem xs_none : ∀ n, xs (fun _ => false) n = false := by
  intro n
  induction n with
  | zero => rfl
  | succ n ih => rw [xs, ih]; rfl
theorem xs_xor (F H : Nat → Bool) : ∀ n, xs (fun k => xor (F k) (H k)) n = xor (xs F n) (xs H n) := by
  intro n
  induction n with
  | zero => rfl
  | succ n ih =>
    rw [xs, xs, xs, ih]
    cases F n <;> cases H n <;> cases xs F n <;> cases xs H n <;> rfl
theorem xs_and (b : Bool) (F : Nat → Bool) : ∀ n, xs (fun k => b && F k) n = (b && xs F n) := by
  intro n
  induction n with
  | zero => cases b <;> rfl
  | succ n ih =>
    rw [xs, xs, ih]
    cases b <;> cases F n <;> cases xs F n <;> rfl
theorem xs_swap (F : Nat → Nat → Bool) (m : Nat) : ∀ n, xs (fun k => xs (F k) m) n = xs (fun j => xs (fun k => F k j) n) m := by
  intro n
  induction n with
  | zero => exact (xs_none m).symm
  | succ n ih =>
    rw [xs, ih, ← xs_xor]
    exact xs_congr m fun j _ => rfl

/-- What comes at place i, by the rule r of L bits. -/
def nx (s r : Nat → Bool) (L i : Nat) : Bool := xs (fun k => r k && s (i - 1 - k)) L

/-- The rule makes all below n. -/
def Gen (s r : Nat → Bool) (L n : Nat) : Prop := ∀ i, L ≤ i → i < n → s i = nx s r L i

theorem Gen.less {s r : Nat → Bool} {L n m : Nat} (h : Gen s r L n) (hm : m ≤ n) : Gen s r L m := fun i h1 h2 => h i h1 (by omega)
theorem Gen.next {s r : Nat → Bool} {L n : Nat} (h : Gen s r L n) (hn : L ≤ n → s n = nx s r L n) : Gen s r L (n + 1) := fun i h1 h2 => by
  by_cases e : i = n
  · subst e; exact hn h1
  · exact h i h1 (by omega)

/-- MASSEY: where a rule fails, each that does not is as long as what is left, or longer. -/
theorem massey_low {s r q : Nat → Bool} {L M n : Nat} (h : Gen s r L n) (hf : s n ≠ nx s r L n) (hq : Gen s q M (n + 1)) : n + 1 ≤ L + M := by
  refine Nat.le_of_not_lt fun hlt => hf ?_
  have h1 : s n = nx s q M n := hq n (by omega) (by omega)
  rw [h1]
  unfold nx
  rw [xs_congr (H := fun k => xs (fun j => q k && (r j && s (n - 1 - k - 1 - j))) L) M fun k hk => ?_, xs_swap]
  · refine xs_congr L fun j hj => ?_
    have h2 := hq (n - 1 - j) (by omega) (by omega)
    rw [h2]
    unfold nx
    rw [← xs_and]
    refine xs_congr M fun k hk => ?_
    rw [show n - 1 - j - 1 - k = n - 1 - k - 1 - j by omega]
    cases q k <;> cases r j <;> rfl
  · rw [h (n - 1 - k) (by omega) (by omega)]
    unfold nx
    rw [xs_and]

/-- How far off a rule is, as a polynomial with 1 ahead: c 0 is true. -/
def off (s c : Nat → Bool) (L i : Nat) : Bool := xs (fun k => c k && s (i - k)) (L + 1)

/-- A rule as a polynomial. -/
def up (r : Nat → Bool) : Nat → Bool
  | 0 => true
  | k + 1 => r k

theorem xs_shift (F : Nat → Bool) : ∀ n, xs F (n + 1) = xor (F 0) (xs (fun k => F (k + 1)) n) := by
  intro n
  induction n with
  | zero => rfl
  | succ n ih =>
    rw [xs, ih, xs]
    cases F (n + 1) <;> cases F 0 <;> cases xs (fun k => F (k + 1)) n <;> rfl

theorem off_up (s r : Nat → Bool) (L i : Nat) : off s (up r) L i = xor (s i) (nx s r L i) := by
  unfold off
  rw [xs_shift]
  have e : xs (fun k => up r (k + 1) && s (i - (k + 1))) L = nx s r L i := by
    unfold nx
    refine xs_congr L fun k _ => ?_
    rw [show i - (k + 1) = i - 1 - k by omega]
    rfl
  rw [e]
  show xor (true && s (i - 0)) _ = _
  rw [Nat.sub_zero, Bool.true_and]

theorem off_none {s r : Nat → Bool} {L i : Nat} : off s (up r) L i = false ↔ s i = nx s r L i := by
  rw [off_up]
  cases s i <;> cases nx s r L i <;> simp

/-- Noughts behind. -/
theorem off_pad {s c : Nat → Bool} {L i : Nat} : ∀ M, L ≤ M → (∀ k, L < k → c k = false) → off s c M i = off s c L i := by
  intro M
  induction M with
  | zero => intro h _; rw [show L = 0 by omega]
  | succ M ih =>
    intro h hz
    by_cases e : L = M + 1
    · rw [e]
    · rw [← ih (by omega) hz]
      unfold off
      rw [xs, hz (M + 1) (by omega)]
      cases xs (fun k => c k && s (i - k)) (M + 1) <;> rfl

/-- So many places further. -/
def sh (d : Nat) (c : Nat → Bool) (k : Nat) : Bool := if d ≤ k then c (k - d) else false
theorem off_sh (s c : Nat → Bool) (d L i : Nat) : off s (sh d c) (L + d) i = off s c L (i - d) := by
  induction d generalizing i with
  | zero =>
    unfold off
    refine xs_congr _ fun k _ => ?_
    unfold sh
    rw [if_pos (Nat.zero_le k)]
    rfl
  | succ d ih =>
    have e : ∀ k, sh (d + 1) c (k + 1) = sh d c k := fun k => by
      unfold sh
      by_cases h : d ≤ k
      · rw [if_pos (by omega), if_pos h, show k + 1 - (d + 1) = k - d by omega]
      · rw [if_neg (by omega), if_neg h]
    have h1 : off s (sh (d + 1) c) (L + (d + 1)) i = off s (sh d c) (L + d) (i - 1) := by
      unfold off
      rw [xs_shift, xs_congr (H := fun k => sh d c k && s (i - 1 - k)) (L + (d + 1)) fun k _ => by rw [e, show i - (k + 1) = i - 1 - k by omega]]
      have h0 : sh (d + 1) c 0 = false := if_neg (by omega)
      rw [h0]
      show xor (false && _) _ = _
      rw [Bool.false_and, show L + (d + 1) = L + d + 1 by omega]
      cases xs (fun k => sh d c k && s (i - 1 - k)) (L + d + 1) <;> rfl
    rw [h1, ih, show i - 1 - d = i - (d + 1) by omega]

/-- MASSEY: mended by an elder one that failed at m. -/
theorem massey_mend {s r q : Nat → Bool} {L M m n : Nat} (h : Gen s r L n) (hf : s n ≠ nx s r L n) (hq : Gen s q M m) (hqf : s m ≠ nx s q M m) (hmn : m < n) (hLn : L ≤ n)
    (hr : ∀ k, L ≤ k → r k = false) (hq0 : ∀ k, M ≤ k → q k = false) : Gen s (fun k => xor (r k) (sh (n - m) (up q) (k + 1))) (max L (M + (n - m))) (n + 1) := by
  intro i h1 h2
  have e : ∀ k, up (fun k => xor (r k) (sh (n - m) (up q) (k + 1))) k = xor (up r k) (sh (n - m) (up q) k) := fun k => by
    cases k with
    | zero =>
      show true = xor true (sh (n - m) (up q) 0)
      have : sh (n - m) (up q) 0 = false := if_neg (by omega)
      rw [this]; rfl
    | succ k => rfl
  rw [← off_none]
  have hsum : off s (up (fun k => xor (r k) (sh (n - m) (up q) (k + 1)))) (max L (M + (n - m))) i = xor (off s (up r) (max L (M + (n - m))) i) (off s (sh (n - m) (up q)) (max L (M + (n - m))) i) := by
    unfold off
    rw [← xs_xor]
    refine xs_congr _ fun k _ => ?_
    rw [e]
    cases up r k <;> cases sh (n - m) (up q) k <;> cases s (i - k) <;> rfl
  have p1 : off s (up r) (max L (M + (n - m))) i = off s (up r) L i := off_pad _ (Nat.le_max_left _ _) fun k hk => by
    obtain ⟨j, rfl⟩ : ∃ j, k = j + 1 := ⟨k - 1, by omega⟩
    exact hr j (by omega)
  have p2 : off s (sh (n - m) (up q)) (max L (M + (n - m))) i = off s (up q) M (i - (n - m)) := by
    rw [off_pad (L := M + (n - m)) _ (Nat.le_max_right _ _) fun k hk => ?_, off_sh]
    unfold sh
    rw [if_pos (by omega)]
    obtain ⟨j, hj⟩ : ∃ j, k - (n - m) = j + 1 := ⟨k - (n - m) - 1, by omega⟩
    rw [hj]
    exact hq0 j (by omega)
  rw [hsum, p1, p2]
  have hL : L ≤ i := Nat.le_trans (Nat.le_max_left _ _) h1
  have hM : M + (n - m) ≤ i := Nat.le_trans (Nat.le_max_right _ _) h1
  by_cases hi : i = n
  · subst hi
    have g1 : off s (up r) L i = true := by
      cases ho : off s (up r) L i
      · exact absurd (off_none.mp ho) hf
      · rfl
    have g2 : off s (up q) M (i - (i - m)) = true := by
      rw [show i - (i - m) = m by omega]
      cases ho : off s (up q) M m
      · exact absurd (off_none.mp ho) hqf
      · rfl
    rw [g1, g2]
    rfl
  · rw [off_none.mpr (h i hL (by omega)), off_none.mpr (hq (i - (n - m)) (by omega) (by omega))]
    rfl

/-- One alone, of bits twice as many as it has. -/
theorem massey_one {s r q : Nat → Bool} {L n : Nat} (hr : Gen s r L n) (hq : Gen s q L n) (h2 : 2 * L ≤ n) (hmin : ∀ M p, Gen s p M n → L ≤ M) : ∀ k, k < L → r k = q k := by
  refine Classical.byContradiction fun hc => ?_
  -- the first place where they part
  obtain ⟨j, hj, hne, hfirst⟩ : ∃ j, j < L ∧ r j ≠ q j ∧ ∀ k, k < j → r k = q k := by
    have : ∃ j, j < L ∧ r j ≠ q j := Classical.byContradiction fun hn => hc fun k hk => Classical.byContradiction fun h => hn ⟨k, hk, h⟩
    obtain ⟨j0, hj0⟩ := this
    have go : ∀ n j, j ≤ n → j < L ∧ r j ≠ q j → ∃ j, j < L ∧ r j ≠ q j ∧ ∀ k, k < j → r k = q k := by
      intro n
      induction n with
      | zero => intro j h0 h; exact ⟨j, h.1, h.2, fun k hk => by omega⟩
      | succ n ih =>
        intro j h0 h
        by_cases hm : ∃ k, k < j ∧ r k ≠ q k
        · obtain ⟨k, hk, hkn⟩ := hm
          exact ih k (by omega) ⟨by omega, hkn⟩
        · exact ⟨j, h.1, h.2, fun k hk => Classical.byContradiction fun hn => hm ⟨k, hk, hn⟩⟩
    exact go j0 j0 (Nat.le_refl _) hj0
  -- what they part by is a rule, shorter, of fewer bits
  have hG : Gen s (fun k => xor (r (k + j + 1)) (q (k + j + 1))) (L - 1 - j) (n - 1 - j) := by
    intro t h1 h3
    have a := hr (t + 1 + j) (by omega) (by omega)
    have b := hq (t + 1 + j) (by omega) (by omega)
    have hz : xs (fun k => xor (r k) (q k) && s (t + 1 + j - 1 - k)) L = false := by
      rw [xs_congr (H := fun k => xor (r k && s (t + 1 + j - 1 - k)) (q k && s (t + 1 + j - 1 - k))) L fun k _ => by cases r k <;> cases q k <;> cases s (t + 1 + j - 1 - k) <;> rfl, xs_xor]
      show xor (nx s r L (t + 1 + j)) (nx s q L (t + 1 + j)) = false
      rw [← a, ← b]
      cases s (t + 1 + j) <;> rfl
    -- strike the first j, which are alike
    have strike : ∀ (j : Nat) (F : Nat → Bool) (L : Nat), j ≤ L → (∀ k, k < j → F k = false) → xs F L = xs (fun k => F (k + j)) (L - j) := by
      intro j
      induction j with
      | zero => intro F L _ _; rfl
      | succ j ih =>
        intro F L hl hz
        obtain ⟨M, rfl⟩ : ∃ M, L = M + 1 := ⟨L - 1, by omega⟩
        rw [xs_shift, hz 0 (by omega), ih (fun k => F (k + 1)) M (by omega) fun k hk => hz (k + 1) (by omega), show M + 1 - (j + 1) = M - j by omega]
        have : ∀ k, k + (j + 1) = k + j + 1 := fun k => by omega
        simp only [this]
        cases xs (fun k => F (k + j + 1)) (M - j) <;> rfl
    rw [strike j _ L (by omega) fun k hk => by rw [hfirst k hk]; cases q k <;> rfl] at hz
    obtain ⟨M, hM⟩ : ∃ M, L - j = M + 1 := ⟨L - j - 1, by omega⟩
    rw [hM, xs_shift] at hz
    rw [show L - 1 - j = M by omega]
    unfold nx
    have e1 : xs (fun k => xor (r (k + 1 + j)) (q (k + 1 + j)) && s (t + 1 + j - 1 - (k + 1 + j))) M = xs (fun k => xor (r (k + j + 1)) (q (k + j + 1)) && s (t - 1 - k)) M := by
      refine xs_congr M fun k _ => ?_
      rw [show k + 1 + j = k + j + 1 by omega, show t + 1 + j - 1 - (k + j + 1) = t - 1 - k by omega]
    rw [e1] at hz
    have e2 : xor (r (0 + j)) (q (0 + j)) = true := by
      rw [Nat.zero_add]
      cases h1 : r j <;> cases h2 : q j
      · rw [h1, h2] at hne; exact absurd rfl hne
      · rfl
      · rfl
      · rw [h1, h2] at hne; exact absurd rfl hne
    rw [e2, show t + 1 + j - 1 - (0 + j) = t by omega, Bool.true_and] at hz
    revert hz
    cases s t <;> cases xs (fun k => xor (r (k + j + 1)) (q (k + j + 1)) && s (t - 1 - k)) M <;> simp
  -- it fails somewhere below n, and so r is too long
  have hx : ∀ d, d ≤ j + 1 → Gen s (fun k => xor (r (k + j + 1)) (q (k + j + 1))) (L - 1 - j) (n - 1 - j + d) := by
    intro d
    induction d with
    | zero => intro _; exact hG
    | succ d ih =>
      intro hd
      have h3 := ih (by omega)
      refine h3.next fun _ => Classical.byContradiction fun hf => ?_
      have := massey_low h3 hf (hr.less (m := n - 1 - j + d + 1) (by omega))
      omega
  have h4 := hx (j + 1) (Nat.le_refl _)
  rw [show n - 1 - j + (j + 1) = n by omega] at h4
  have := hmin _ _ h4
  omega

end Go.Proofs.Ytebijjigjlcjdaa.My
