/-
  MOEBIUS: sums over divisors are undone. No Go in sight.
-/
import Derived.Test.YthlnbomapfjphaaDoorDvPairs
namespace Go.Proofs.YthlnbomapfjphaaDoor.Dd
open Eu Pr Rs

theorem sm_filter (F : Nat → Int) (p : Nat → Bool) (l : List Nat) : sm F (l.filter p) = sm (fun d => if p d then F d else 0) l := by
  induction l with
  | nil => rfl
  | cons d l ih =>
    rw [List.filter_cons]
    by_cases h : p d
    · rw [if_pos h]; simp only [sm, ih, if_pos h]
    · rw [if_neg h]; simp only [sm, ih, if_neg h]; omega

theorem sm_add (F H : Nat → Int) (l : List Nat) : sm (fun d => F d + H d) l = sm F l + sm H l := by
  induction l with
  | nil => rfl
  | cons d l ih => simp only [sm, ih]; omega

theorem sm_zero (l : List Nat) : sm (fun _ => 0) l = 0 := by
  induction l with
  | nil => rfl
  | cons d l ih => simp only [sm, ih]; rfl

theorem sm_swap (F : Nat → Nat → Int) (l k : List Nat) : sm (fun d => sm (F d) k) l = sm (fun c => sm (fun d => F d c) l) k := by
  induction l with
  | nil => simp only [sm, sm_zero]
  | cons d l ih => simp only [sm, ih, sm_add]

/-- The divisors of a divisor. -/
theorem dv_of_dvd {n d : Nat} (hn : 1 ≤ n) (hd : d ∈ dv n) : dv d = (dv n).filter fun c => d % c == 0 := by
  obtain ⟨h1, h2⟩ := (mem_dv hn).mp hd
  refine eq_of_lt (dv_lt d) (List.Pairwise.filter _ (dv_lt n)) fun c => ?_
  rw [mem_dv h1, List.mem_filter, mem_dv hn, beq_iff_eq]
  constructor
  · rintro ⟨a, b⟩
    exact ⟨⟨a, Nat.dvd_trans b h2⟩, Nat.mod_eq_zero_of_dvd b⟩
  · rintro ⟨⟨a, _⟩, b⟩
    exact ⟨a, Nat.dvd_of_mod_eq_zero b⟩

/-- The divisors that c divides. -/
theorem dv_above {n c : Nat} (hn : 1 ≤ n) (hc : c ∈ dv n) : (dv n).filter (fun d => d % c == 0) = (dv (n / c)).map fun e => c * e := by
  obtain ⟨h1, h2⟩ := (mem_dv hn).mp hc
  have h3 : 1 ≤ n / c := Nat.div_pos (Nat.le_of_dvd hn h2) h1
  have h4 : c * (n / c) = n := Nat.mul_div_cancel' h2
  refine eq_of_lt (List.Pairwise.filter _ (dv_lt n)) ?_ fun d => ?_
  · rw [List.pairwise_map]
    exact (dv_lt _).imp (fun {a b} h => Nat.mul_lt_mul_of_pos_left h h1)
  · rw [List.mem_filter, mem_dv hn, beq_iff_eq, List.mem_map]
    constructor
    · rintro ⟨⟨a, b⟩, e⟩
      obtain ⟨x, rfl⟩ := Nat.dvd_of_mod_eq_zero e
      have hx : 1 ≤ x := by rcases Nat.eq_zero_or_pos x with h | h; · subst h; simp at a
                            · exact h
      refine ⟨x, (mem_dv h3).mpr ⟨hx, ?_⟩, rfl⟩
      rw [← h4] at b
      exact Nat.dvd_of_mul_dvd_mul_left h1 b
    · rintro ⟨x, hx, rfl⟩
      obtain ⟨a, b⟩ := (mem_dv h3).mp hx
      exact ⟨⟨Nat.mul_pos h1 a, by rw [← h4]; exact Nat.mul_dvd_mul_left c b⟩, Nat.mul_mod_right _ _⟩

/-- All but the number itself. -/
theorem dv_but {n : Nat} (hn : 1 ≤ n) : (dv n).filter (fun d => decide (d < n)) ++ [n] = dv n := by
  refine eq_of_lt ?_ (dv_lt n) fun d => ?_
  · refine List.pairwise_append.mpr ⟨List.Pairwise.filter _ (dv_lt n), List.pairwise_singleton .., fun a ha b hb => ?_⟩
    rw [List.mem_singleton.mp hb]
    simpa using (List.mem_filter.mp ha).2
  · rw [List.mem_append, List.mem_filter, List.mem_singleton, mem_dv hn, decide_eq_true_eq]
    constructor
    · rintro (⟨a, _⟩ | a)
      · exact a
      · rw [a]; exact ⟨hn, Nat.dvd_refl _⟩
    · intro a
      by_cases h : d = n
      · exact .inr h
      · have := Nat.le_of_dvd hn a.2
        exact .inl ⟨a, by omega⟩

/-- The number of which the sums are F. -/
noncomputable def undo (F : Nat → Int) (n : Nat) : Int := sm (fun c => mu (n / c) * F c) (dv n)

/-- MOEBIUS's inversion. -/
theorem undo_sum (F : Nat → Int) {n : Nat} (hn : 1 ≤ n) : sm (undo F) (dv n) = F n := by
  have e1 : ∀ d ∈ dv n, undo F d = sm (fun c => if d % c == 0 then mu (d / c) * F c else 0) (dv n) := fun d hd => by
    unfold undo
    rw [dv_of_dvd hn hd, sm_filter]
  rw [sm_congr e1, sm_swap]
  have e2 : ∀ c ∈ dv n, sm (fun d => if d % c == 0 then mu (d / c) * F c else 0) (dv n) = (if n / c = 1 then 1 else 0) * F c := fun c hc => by
    obtain ⟨h1, h2⟩ := (mem_dv hn).mp hc
    rw [← sm_filter (fun d => mu (d / c) * F c) (fun d => d % c == 0), dv_above hn hc, sm_map]
    have e3 : ∀ e ∈ dv (n / c), mu (c * e / c) * F c = mu e * F c := fun e _ => by rw [Nat.mul_div_cancel_left _ h1]
    rw [sm_congr e3, sm_mul_right, moebius_sum (Nat.div_pos (Nat.le_of_dvd hn h2) h1)]
  rw [sm_congr e2]
  have e5 : ∀ c ∈ (dv n).filter (fun d => decide (d < n)), (if n / c = 1 then (1 : Int) else 0) * F c = 0 := fun c hc => by
    obtain ⟨hc1, hlt⟩ := List.mem_filter.mp hc
    have hc2 := (mem_dv hn).mp hc1
    have hlt : c < n := by simpa using hlt
    have h6 : n / c ≠ 1 := fun h => by have := Nat.div_mul_cancel hc2.2; rw [h] at this; omega
    rw [if_neg h6, Int.zero_mul]
  rw [← dv_but hn, sm_append, sm_congr e5, sm_zero]
  show 0 + ((if n / n = 1 then 1 else 0) * F n + 0) = F n
  rw [Nat.div_self (by omega), if_pos rfl]; omega

/-- What has these sums is told by them. -/
theorem sums_tell {F H : Nat → Int} {N : Nat} (h : ∀ n, 1 ≤ n → n ≤ N → sm F (dv n) = sm H (dv n)) : ∀ n, 1 ≤ n → n ≤ N → F n = H n := by
  intro n
  induction n using Nat.strongRecOn with
  | _ n ih =>
    intro hn hN
    have h1 := h n hn hN
    rw [← dv_but hn, sm_append, sm_append] at h1
    have e5 : ∀ c ∈ (dv n).filter (fun d => decide (d < n)), F c = H c := fun c hc => by
      obtain ⟨hc1, hlt⟩ := List.mem_filter.mp hc
      have hlt : c < n := by simpa using hlt
      exact ih c hlt ((mem_dv hn).mp hc1).1 (by omega)
    rw [sm_congr e5] at h1
    have h2 : F n + 0 = H n + 0 := Int.add_left_cancel h1
    omega

end Go.Proofs.YthlnbomapfjphaaDoor.Dd
