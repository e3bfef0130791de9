/-
  GRIESMER: what is left where one word of fewest ones is 0. No Go in sight.
-/
import Derived.Test.YtgmhbkfjabmkgaaLnBnd
namespace Go.Proofs.Ytgmhbkfjabmkgaa.Ln
open Dd Rs

/-- What there must be: d, and half of that, and so on, k times. -/
def gr : Nat → Nat → Nat
  | 0, _ => 0
  | k + 1, d => d + gr k ((d + 1) / 2)

theorem gr_mono : ∀ k d e, d ≤ e → gr k d ≤ gr k e := by
  intro k
  induction k with
  | zero => intro d e _; exact Nat.le_refl 0
  | succ k ih =>
    intro d e h
    have := ih ((d + 1) / 2) ((e + 1) / 2) (by omega)
    rw [gr, gr]
    omega

theorem on_split : ∀ n x y, on n x = on n (x &&& y) + on n (x ^^^ (x &&& y)) := by
  intro n
  induction n with
  | zero => intro x y; rfl
  | succ n ih =>
    intro x y
    have h := ih (x / 2) (y / 2)
    rw [on, on, on, and_half, xor_half, and_half, and_odd, xor_odd, and_odd]
    rcases Nat.mod_two_eq_zero_or_one x with h1 | h1 <;> rcases Nat.mod_two_eq_zero_or_one y with h2 | h2 <;> rw [h1, h2] <;> simp <;> omega

theorem bits_a (w c m : Nat) : ((w ^^^ c) &&& m) &&& c = (m &&& c) ^^^ ((m &&& c) &&& w) := by
  apply Nat.eq_of_testBit_eq
  intro i
  simp only [Nat.testBit_xor, Nat.testBit_and]
  cases w.testBit i <;> cases c.testBit i <;> cases m.testBit i <;> rfl
theorem bits_b (w c m : Nat) : ((w ^^^ c) &&& m) ^^^ (((w ^^^ c) &&& m) &&& c) = (w &&& m) ^^^ ((w &&& m) &&& c) := by
  apply Nat.eq_of_testBit_eq
  intro i
  simp only [Nat.testBit_xor, Nat.testBit_and]
  cases w.testBit i <;> cases c.testBit i <;> cases m.testBit i <;> rfl
theorem bits_c (w c m : Nat) : w &&& (m ^^^ (m &&& c)) = (w &&& m) ^^^ ((w &&& m) &&& c) := by
  apply Nat.eq_of_testBit_eq
  intro i
  simp only [Nat.testBit_xor, Nat.testBit_and]
  cases w.testBit i <;> cases c.testBit i <;> cases m.testBit i <;> rfl
theorem bits_d (w c m : Nat) : (w &&& m) &&& c = (m &&& c) &&& w := by
  apply Nat.eq_of_testBit_eq
  intro i
  simp only [Nat.testBit_and]
  cases w.testBit i <;> cases c.testBit i <;> cases m.testBit i <;> rfl

theorem least_of {P : Nat → Prop} : ∀ n, P n → ∃ m, P m ∧ ∀ k, P k → m ≤ k := by
  intro n
  induction n using Nat.strongRecOn with
  | ind n ih =>
    intro h
    by_cases hm : ∃ k, P k ∧ k < n
    · obtain ⟨k, hk, hlt⟩ := hm
      exact ih k hlt hk
    · exact ⟨n, h, fun k hk => Nat.le_of_not_lt fun hlt => hm ⟨k, hk, hlt⟩⟩

/-- By a mask: words are told where it is. -/
theorem griesmer_mask {n : Nat} {W : List Nat} (h : Cd n W) : ∀ (k d m : Nat), m < 2 ^ n → (∀ w ∈ W, w &&& m ≠ 0 → d ≤ on n (w &&& m)) → 2 ^ k * (W.filter fun w => w &&& m == 0).length ≤ W.length → gr k d ≤ on n m := by
  intro k
  induction k with
  | zero => intro d m _ _ _; exact Nat.zero_le _
  | succ k ih =>
    intro d m hm hd hl
    have lt : ∀ w, w &&& m < 2 ^ n := fun w => Nat.lt_of_le_of_lt Nat.and_le_right hm
    -- there is a word that is not 0 there
    have hz : 0 < (W.filter fun w => w &&& m == 0).length := List.length_pos_of_mem (a := 0) (List.mem_filter.mpr ⟨h.zero, by simp⟩)
    have hex : ∃ j, ∃ w ∈ W, w &&& m ≠ 0 ∧ on n (w &&& m) = j := by
      refine Classical.byContradiction fun hn => ?_
      have hall : W.filter (fun w => w &&& m == 0) = W := List.filter_eq_self.mpr fun w hw => by
        refine Classical.byContradiction fun h2 => hn ⟨_, w, hw, fun e => h2 (by simpa using e), rfl⟩
      rw [hall] at hl hz
      have : 2 ^ (k + 1) * W.length ≥ 2 * W.length := by
        have : 2 ^ (k + 1) ≥ 2 := by
          have := Nat.pow_le_pow_right (n := 2) (by decide) (show 1 ≤ k + 1 by omega)
          simpa using this
        exact Nat.mul_le_mul_right _ this
      omega
    obtain ⟨j0, hj0⟩ := hex
    obtain ⟨d', ⟨c, hc, hc0, hcd⟩, hmin⟩ := least_of (P := fun j => ∃ w ∈ W, w &&& m ≠ 0 ∧ on n (w &&& m) = j) j0 hj0
    have hdd : d ≤ d' := by rw [← hcd]; exact hd c hc hc0
    have hmin2 : ∀ w ∈ W, w &&& m ≠ 0 → d' ≤ on n (w &&& m) := fun w hw h0 => hmin _ ⟨w, hw, h0, rfl⟩
    have hmc : on n (m &&& c) = d' := by rw [Nat.and_comm]; exact hcd
    -- the rest
    have e1 := on_split n m c
    rw [hmc] at e1
    have hm2 : m ^^^ (m &&& c) < 2 ^ n := Nat.xor_lt_two_pow hm (Nat.lt_of_le_of_lt Nat.and_le_left hm)
    have key : ∀ w ∈ W, w &&& (m ^^^ (m &&& c)) ≠ 0 → (d + 1) / 2 ≤ on n (w &&& (m ^^^ (m &&& c))) := fun w hw h0 => by
      rw [bits_c] at h0 ⊢
      obtain ⟨b, hb⟩ : ∃ b, on n ((w &&& m) ^^^ ((w &&& m) &&& c)) = b := ⟨_, rfl⟩
      obtain ⟨a, ha⟩ : ∃ a, on n ((w &&& m) &&& c) = a := ⟨_, rfl⟩
      have s1 := on_split n (w &&& m) c
      have s2 := on_split n ((w ^^^ c) &&& m) c
      have s3 := on_split n (m &&& c) w
      rw [bits_b, hb, bits_a, ← bits_d] at s2
      rw [ha, hb] at s1
      rw [hmc, ← bits_d, ha] at s3
      have hb0 : 0 < b := by
        refine Nat.pos_of_ne_zero fun e => h0 ?_
        refine on_none n _ (Nat.xor_lt_two_pow (lt w) (Nat.lt_of_le_of_lt Nat.and_le_left (lt w))) ?_
        rw [hb, e]
      have w1 : w &&& m ≠ 0 := fun e => by
        rw [e, on_zero] at s1
        omega
      have w2 : (w ^^^ c) &&& m ≠ 0 := fun e => by
        rw [e, on_zero] at s2
        omega
      have g1 := hmin2 w hw w1
      have g2 := hmin2 (w ^^^ c) (h.xor w hw c hc) w2
      rw [hb]
      omega
    have hZ : (W.filter fun w => w &&& (m ^^^ (m &&& c)) == 0).length ≤ 2 * (W.filter fun w => w &&& m == 0).length := by
      have := nodup_len (W.filter fun w => w &&& (m ^^^ (m &&& c)) == 0) ((W.filter fun w => w &&& m == 0) ++ (W.filter fun w => w &&& m == 0).map (c ^^^ ·)) (List.Pairwise.filter _ h.nd) fun w hw => by
        rw [List.mem_filter, beq_iff_eq, bits_c] at hw
        obtain ⟨hw, h0⟩ := hw
        by_cases w1 : w &&& m = 0
        · exact List.mem_append_left _ (List.mem_filter.mpr ⟨hw, by simpa using w1⟩)
        · refine List.mem_append_right _ (List.mem_map.mpr ⟨c ^^^ w, List.mem_filter.mpr ⟨h.xor c hc w hw, ?_⟩, by rw [← Nat.xor_assoc, Nat.xor_self, Nat.zero_xor]⟩)
          have s1 := on_split n (w &&& m) c
          have s3 := on_split n (m &&& c) w
          rw [h0, on_zero] at s1
          rw [hmc, ← bits_d] at s3
          have g1 := hmin2 w hw w1
          have z1 : (m &&& c) ^^^ ((w &&& m) &&& c) = 0 := on_none n _ (Nat.xor_lt_two_pow (Nat.lt_of_le_of_lt Nat.and_le_left hm) (Nat.lt_of_le_of_lt Nat.and_le_left (lt w))) (by omega)
          have s2 : ((w ^^^ c) &&& m) ^^^ (((w ^^^ c) &&& m) &&& c) = 0 := by rw [bits_b]; exact h0
          rw [bits_a, ← bits_d, z1, Nat.xor_zero] at s2
          rw [Nat.xor_comm c w, beq_iff_eq]
          exact s2
      rw [List.length_append, List.length_map] at this
      omega
    have hrec := ih ((d + 1) / 2) (m ^^^ (m &&& c)) hm2 key (by
      have := Nat.mul_le_mul_left (2 ^ k) hZ
      rw [Nat.pow_succ, Nat.mul_assoc] at hl
      exact Nat.le_trans this hl)
    rw [gr, e1]
    omega

theorem on_full : ∀ n, on n (2 ^ n - 1) = n := by
  intro n
  induction n with
  | zero => rfl
  | succ n ih =>
    have hp : 0 < 2 ^ n := Nat.pow_pos (by decide)
    rw [on, Nat.pow_succ, show (2 ^ n * 2 - 1) / 2 = 2 ^ n - 1 by omega, ih]
    omega

/-- GRIESMER. -/
theorem Cd.griesmer {n d k : Nat} {W : List Nat} (h : Cd n W) (hd : Dist n d W) (hk : 2 ^ k ≤ W.length) : gr k d ≤ n := by
  have hp : 0 < 2 ^ n := Nat.pow_pos (by decide)
  have hw : ∀ w ∈ W, w &&& (2 ^ n - 1) = w := fun w hw => by
    rw [Nat.and_two_pow_sub_one_eq_mod, Nat.mod_eq_of_lt (h.lt w hw)]
  have hf : (W.filter fun w => w &&& (2 ^ n - 1) == 0).length ≤ 1 := by
    have := nodup_len (W.filter fun w => w &&& (2 ^ n - 1) == 0) [0] (List.Pairwise.filter _ h.nd) fun w hw2 => by
      rw [List.mem_filter, beq_iff_eq] at hw2
      rw [hw w hw2.1] at hw2
      simp [hw2.2]
    simpa using this
  have := griesmer_mask h k d (2 ^ n - 1) (by omega) (fun w hw1 h0 => by
    rw [hw w hw1] at h0 ⊢
    exact hd w hw1 h0) (by
    have := Nat.mul_le_mul_left (2 ^ k) hf
    omega)
  rwa [on_full] at this

end Go.Proofs.Ytgmhbkfjabmkgaa.Ln
