/-
  How the shortest rule's length grows: MASSEY. No Go in sight.
-/
import Derived.Test.YtebijjigjlcjdaaMyMath
namespace Go.Proofs.Ytebijjigjlcjdaa.My

/-- The shortest rule of the first n bits has L. -/
def Least (s : Nat → Bool) (n L : Nat) : Prop := (∃ q, Gen s q L n) ∧ ∀ N q, Gen s q N n → L ≤ N
theorem gen_full (s r : Nat → Bool) (n : Nat) : Gen s r n n := fun i h1 h2 => by omega
theorem Least.le {s : Nat → Bool} {n L : Nat} (h : Least s n L) : L ≤ n := h.2 n _ (gen_full s (fun _ => false) n)
theorem Least.uniq {s : Nat → Bool} {n L M : Nat} (h : Least s n L) (k : Least s n M) : L = M := by
  obtain ⟨q, hq⟩ := h.1
  obtain ⟨p, hp⟩ := k.1
  have := h.2 M p hp
  have := k.2 L q hq
  omega
theorem Least.mono {s : Nat → Bool} {n m L M : Nat} (h : Least s n L) (k : Least s m M) (hn : n ≤ m) : L ≤ M := by
  obtain ⟨p, hp⟩ := k.1
  exact h.2 M p (hp.less hn)
theorem least_some (s : Nat → Bool) (n : Nat) : ∃ L, Least s n L := by
  have go : ∀ k, (∃ q, Gen s q k n) → ∃ L, Least s n L := by
    intro k
    induction k using Nat.strongRecOn with
    | _ k ih =>
      intro h
      by_cases hc : ∃ j, j < k ∧ ∃ q, Gen s q j n
      · obtain ⟨j, hj, hq⟩ := hc
        exact ih j hj hq
      · refine ⟨k, h, fun N q hq => ?_⟩
        exact Nat.le_of_not_lt fun hlt => hc ⟨N, hlt, q, hq⟩
  exact go n ⟨_, gen_full s (fun _ => false) n⟩
/-- A rule without what lies behind it. -/
def cutr (r : Nat → Bool) (L k : Nat) : Bool := if k < L then r k else false
theorem nx_cut (s r : Nat → Bool) (L i : Nat) : nx s (cutr r L) L i = nx s r L i := xs_congr L fun k hk => by unfold cutr; rw [if_pos hk]
theorem Gen.cut {s r : Nat → Bool} {L n : Nat} (h : Gen s r L n) : Gen s (cutr r L) L n := fun i h1 h2 => by rw [nx_cut]; exact h i h1 h2
theorem cut_none (r : Nat → Bool) {L k : Nat} (h : L ≤ k) : cutr r L k = false := if_neg (by omega)
/-- One that failed. -/
def Jump (s : Nat → Bool) (n L : Nat) : Prop := ∃ m K q, m < n ∧ Gen s q K m ∧ s m ≠ nx s q K m ∧ K + L = m + 1 ∧ ∀ k, K ≤ k → q k = false
/-- Where the length grows, it grows to what is left. -/
theorem grow_step {s : Nat → Bool} {n L M : Nat} (hL : Least s n L) (hM : Least s (n + 1) M) (hlt : L < M) (hj : 0 < L → Jump s n L) : M + L = n + 1 ∧ ∃ r, Gen s r L n ∧ s n ≠ nx s r L n ∧ ∀ k, L ≤ k → r k = false := by
  obtain ⟨r, hr⟩ := hL.1
  have hr2 := hr.cut
  have hf : s n ≠ nx s (cutr r L) L n := fun e => by
    have := hM.2 L _ (hr2.next fun _ => e)
    omega
  obtain ⟨q, hq⟩ := hM.1
  have hlow := massey_low hr2 hf hq
  have hLn := hL.le
  refine ⟨?_, _, hr2, hf, fun k hk => cut_none r hk⟩
  have hup : M ≤ max L (n + 1 - L) := by
    by_cases h0 : L = 0
    · have := hM.le
      omega
    · obtain ⟨m, K, p, hm, hp, hpf, hKL, hp0⟩ := hj (by omega)
      have h1 := massey_mend hr2 hf hp hpf hm hLn (fun k hk => cut_none r hk) hp0
      have h2 := hM.2 _ _ h1
      omega
  omega
theorem jump_some {s : Nat → Bool} : ∀ n L, Least s n L → 0 < L → Jump s n L := by
  intro n
  induction n with
  | zero => intro L h h0; have := h.le; omega
  | succ n ih =>
    intro L h h0
    obtain ⟨K, hK⟩ := least_some s n
    have hm := hK.mono h (by omega)
    by_cases e : K = L
    · subst e
      obtain ⟨m, K2, q, h1, h2⟩ := ih K hK h0
      exact ⟨m, K2, q, by omega, h2⟩
    · obtain ⟨h1, r, h2, h3, h4⟩ := grow_step hK h (by omega) (ih K hK)
      exact ⟨n, K, r, by omega, h2, h3, by omega, h4⟩
/-- MASSEY: a bit more leaves the length, or makes it what is left. -/
theorem least_grows {s : Nat → Bool} {n L M : Nat} (hL : Least s n L) (hM : Least s (n + 1) M) : M = L ∨ (M = n + 1 - L ∧ L < M) := by
  have h1 := hL.mono hM (by omega)
  by_cases e : M = L
  · exact .inl e
  · have := (grow_step hL hM (by omega) (jump_some n L hL)).1
    exact .inr ⟨by omega, by omega⟩

end Go.Proofs.Ytebijjigjlcjdaa.My
