/-
  Divisors: in pairs; an odd number of them just of a square; those of a divisor among them. No Go in sight.
-/
import Derived.Test.YthlnbomapfjphaaDvMath
namespace Go.Proofs.Ythlnbomapfjphaa.Dd
open Eu Pr Rs

theorem lt_at {l : List Nat} (h : l.Pairwise (· < ·)) {i j : Nat} (hi : i < l.length) (hj : j < l.length) (hij : i < j) : l[i] < l[j] := (List.pairwise_iff_getElem.mp h) i j hi hj hij

theorem at_inj {l : List Nat} (h : l.Pairwise (· < ·)) {i j : Nat} (hi : i < l.length) (hj : j < l.length) (he : l[i] = l[j]) : i = j := by
  rcases Nat.lt_trichotomy i j with h1 | h1 | h1
  · have := lt_at h hi hj h1; omega
  · exact h1
  · have := lt_at h hj hi h1; omega

theorem lt_of_at {l : List Nat} (h : l.Pairwise (· < ·)) {i j : Nat} (hi : i < l.length) (hj : j < l.length) (he : l[i] < l[j]) : i < j := by
  rcases Nat.lt_trichotomy i j with h1 | h1 | h1
  · exact h1
  · subst h1; omega
  · have := lt_at h hj hi h1; omega

theorem dv_at {n i : Nat} (hn : 1 ≤ n) (hi : i < (dv n).length) : 1 ≤ (dv n)[i] ∧ (dv n)[i] ∣ n := (mem_dv hn).mp (List.getElem_mem hi)

theorem div_div {n d : Nat} (hn : 1 ≤ n) (h : d ∣ n) : n / (n / d) = d := Nat.div_div_self h (by omega)

theorem div_lt {n a b : Nat} (hn : 1 ≤ n) (ha : a ∣ n) (hb : b ∣ n) (h : a < b) : n / b < n / a := by
  obtain ⟨x, hx⟩ := ha
  obtain ⟨y, hy⟩ := hb
  have ha0 : 0 < a := by rcases Nat.eq_zero_or_pos a with h0 | h0; · subst h0; simp at hx; omega
                         · exact h0
  have e1 : n / a = x := by rw [hx]; exact Nat.mul_div_cancel_left _ ha0
  have e2 : n / b = y := by rw [hy]; exact Nat.mul_div_cancel_left _ (by omega)
  rw [e1, e2]
  refine Decidable.byContradiction fun hlt => ?_
  have h1 : a * x ≤ a * y := Nat.mul_le_mul_left _ (by omega)
  have hy0 : 0 < y := by rcases Nat.eq_zero_or_pos y with h0 | h0; · subst h0; simp at hy; omega
                         · exact h0
  have h2 : a * y < b * y := Nat.mul_lt_mul_of_pos_right h hy0
  omega

theorem dv_rev {n : Nat} (hn : 1 ≤ n) : ((dv n).map fun d => n / d).reverse = dv n := by
  refine eq_of_lt ?_ (dv_lt n) fun d => ?_
  · rw [List.pairwise_reverse, List.pairwise_map]
    refine List.Pairwise.imp_of_mem ?_ (dv_lt n)
    intro a b ha hb h
    exact div_lt hn ((mem_dv hn).mp ha).2 ((mem_dv hn).mp hb).2 h
  · rw [List.mem_reverse, List.mem_map]
    constructor
    · rintro ⟨e, he, rfl⟩
      have := (mem_dv hn).mp he
      exact (mem_dv hn).mpr ⟨Nat.div_pos (Nat.le_of_dvd hn this.2) this.1, Nat.div_dvd_of_dvd this.2⟩
    · intro hd
      have := (mem_dv hn).mp hd
      exact ⟨n / d, (mem_dv hn).mpr ⟨Nat.div_pos (Nat.le_of_dvd hn this.2) this.1, Nat.div_dvd_of_dvd this.2⟩, div_div hn this.2⟩

/-- They come in pairs. -/
theorem dv_pair {n i : Nat} (hn : 1 ≤ n) (hi : i < (dv n).length) : (dv n)[(dv n).length - 1 - i]'(by omega) = n / (dv n)[i] := by
  have h := dv_rev hn
  have h2 : ∀ (l : List Nat) (hl : l = dv n), (dv n)[(dv n).length - 1 - i]'(by omega) = l[(dv n).length - 1 - i]'(by rw [hl]; omega) := fun l hl => by subst hl; rfl
  rw [h2 _ h, List.getElem_reverse, List.getElem_map]
  congr 1
  have e : ((dv n).map fun d => n / d).length - 1 - ((dv n).length - 1 - i) = i := by rw [List.length_map]; omega
  simp only [e]

/-- An odd number of them: just of a square. -/
theorem dv_odd {n : Nat} (hn : 1 ≤ n) : (dv n).length % 2 = 1 ↔ ∃ r, r * r = n := by
  constructor
  · intro h
    have hi : (dv n).length / 2 < (dv n).length := by omega
    have h1 := dv_pair hn hi
    have e : (dv n).length - 1 - (dv n).length / 2 = (dv n).length / 2 := by omega
    simp only [e] at h1
    have h2 := dv_at hn hi
    have h3 := Nat.div_mul_cancel h2.2
    rw [← h1] at h3
    exact ⟨_, h3⟩
  · rintro ⟨r, hr⟩
    have hr0 : 1 ≤ r := by rcases Nat.eq_zero_or_pos r with h0 | h0; · subst h0; simp at hr; omega
                           · exact h0
    obtain ⟨i, hi, he⟩ := List.getElem_of_mem ((mem_dv hn).mpr ⟨hr0, ⟨r, hr.symm⟩⟩)
    have h1 := dv_pair hn hi
    have h2 : n / r = r := by rw [← hr]; exact Nat.mul_div_cancel_left _ hr0
    rw [he, h2, ← he] at h1
    have := at_inj (dv_lt n) (by omega) hi h1
    omega

/-- The divisors of a divisor: those before it that divide it, and it. -/
theorem dv_front {n i : Nat} (hn : 1 ≤ n) (hi : i < (dv n).length) : dv (dv n)[i] = ((dv n).take i).filter (fun c => (dv n)[i] % c == 0) ++ [(dv n)[i]] := by
  obtain ⟨h1, h2⟩ := dv_at hn hi
  have hb : ∀ c ∈ (dv n).take i, c < (dv n)[i] := by
    intro c hc
    obtain ⟨k, hk, rfl⟩ := List.getElem_of_mem hc
    rw [List.getElem_take]
    have : k < i := by simp at hk; omega
    exact lt_at (dv_lt n) (by omega) hi this
  refine eq_of_lt (dv_lt _) ?_ fun c => ?_
  · refine List.pairwise_append.mpr ⟨List.Pairwise.filter _ ((dv_lt n).sublist (List.take_sublist _ _)), List.pairwise_singleton .., fun a ha b hb2 => ?_⟩
    rw [List.mem_singleton.mp hb2]
    exact hb a ((List.mem_filter.mp ha).1)
  · rw [mem_dv h1, List.mem_append, List.mem_filter, List.mem_singleton, beq_iff_eq]
    constructor
    · rintro ⟨a, b⟩
      by_cases he : c = (dv n)[i]
      · exact .inr he
      · have hlt : c < (dv n)[i] := by have := Nat.le_of_dvd h1 b; omega
        obtain ⟨k, hk, hke⟩ := List.getElem_of_mem ((mem_dv hn).mpr ⟨a, Nat.dvd_trans b h2⟩)
        have hki := lt_of_at (dv_lt n) hk hi (by rw [hke]; exact hlt)
        refine .inl ⟨?_, Nat.mod_eq_zero_of_dvd b⟩
        rw [← hke]
        exact List.mem_take_iff_getElem.mpr ⟨k, by omega, rfl⟩
    · rintro (⟨a, b⟩ | a)
      · exact ⟨((mem_dv hn).mp (List.mem_of_mem_take a)).1, Nat.dvd_of_mod_eq_zero b⟩
      · rw [a]; exact ⟨h1, Nat.dvd_refl _⟩

theorem sm_front (F : Nat → Int) {n i : Nat} (hn : 1 ≤ n) (hi : i < (dv n).length) : sm F (((dv n).take i).filter fun c => (dv n)[i] % c == 0) + F (dv n)[i] = sm F (dv (dv n)[i]) := by
  rw [dv_front hn hi, sm_append]
  show _ = _ + (F _ + 0)
  rw [Int.add_zero]

theorem dv_last {n : Nat} (hn : 1 ≤ n) : 1 ≤ (dv n).length ∧ ∀ h : (dv n).length - 1 < (dv n).length, (dv n)[(dv n).length - 1] = n := by
  have hm : n ∈ dv n := (mem_dv hn).mpr ⟨hn, Nat.dvd_refl _⟩
  obtain ⟨i, hi, he⟩ := List.getElem_of_mem hm
  refine ⟨by omega, fun h => ?_⟩
  by_cases h1 : i = (dv n).length - 1
  · subst h1; exact he
  · have h2 := lt_at (dv_lt n) hi h (by omega)
    have h3 := Nat.le_of_dvd hn (dv_at hn h).2
    omega

theorem dv_first {n : Nat} (hn : 1 ≤ n) (h : 0 < (dv n).length) : (dv n)[0] = 1 := by
  obtain ⟨i, hi, he⟩ := List.getElem_of_mem ((mem_dv hn).mpr ⟨Nat.le_refl 1, Nat.one_dvd n⟩)
  have h1 := (dv_at hn h).1
  rcases Nat.eq_zero_or_pos i with h0 | h0
  · subst h0; exact he
  · have := lt_at (dv_lt n) h hi h0; omega

/-- What is left to a divisor: GAUSS's sum undone; MOEBIUS's. -/
theorem ph_front {n i : Nat} (hn : 1 ≤ n) (hi : i < (dv n).length) : ph (dv n)[i] = ((dv n)[i] : Int) - sm ph (((dv n).take i).filter fun c => (dv n)[i] % c == 0) := by
  have h1 := sm_front ph hn hi
  rw [gauss_sum (dv_at hn hi).1] at h1
  omega

theorem mu_front {n i : Nat} (hn : 1 ≤ n) (hi : i < (dv n).length) : mu (dv n)[i] = (if i = 0 then 1 else 0) - sm mu (((dv n).take i).filter fun c => (dv n)[i] % c == 0) := by
  have h1 := sm_front mu hn hi
  have h2 := dv_first hn (by omega)
  rw [moebius_sum (dv_at hn hi).1] at h1
  by_cases h0 : i = 0
  · subst h0
    rw [if_pos h2] at h1
    rw [if_pos rfl]; omega
  · have h3 : (dv n)[i] ≠ 1 := fun h => h0 (at_inj (dv_lt n) hi (by omega) (h.trans h2.symm))
    rw [if_neg h3] at h1
    rw [if_neg h0]; omega

theorem filter_next (l : List Nat) (p : Nat → Bool) {j : Nat} (hj : j < l.length) : (l.take (j + 1)).filter p = (l.take j).filter p ++ (if p l[j] then [l[j]] else []) := by
  rw [List.take_add_one, List.getElem?_eq_getElem hj, List.filter_append]
  congr 1
  show List.filter p [l[j]] = _
  rw [List.filter_cons]
  rfl

/-- Sums over divisors of what is bounded. -/
theorem sm_le {F : Nat → Int} {B : Int} {l : List Nat} (h : ∀ d ∈ l, -B ≤ F d ∧ F d ≤ B) : -(B * l.length) ≤ sm F l ∧ sm F l ≤ B * l.length := by
  induction l with
  | nil => simp [sm]
  | cons d l ih =>
    have h1 := h d (by simp)
    have h2 := ih fun e he => h e (by simp [he])
    simp only [sm, List.length_cons, Int.natCast_add, Int.mul_add]
    omega

theorem dv_length (n : Nat) : (dv n).length ≤ n := by
  unfold dv
  refine Nat.le_trans (List.length_filter_le _ _) ?_
  simp

theorem mu_bound (n : Nat) : mu n = 0 ∨ mu n = 1 ∨ mu n = -1 := by
  have : ∀ l : List (Int × Nat), val muF l = 0 ∨ val muF l = 1 ∨ val muF l = -1 := by
    intro l
    induction l with
    | nil => exact .inr (.inl rfl)
    | cons x l ih =>
      obtain ⟨p, k⟩ := x
      simp only [val, muF]
      split
      · rcases ih with h | h | h <;> rw [h] <;> simp
      · simp
  exact this _

theorem ph_bound {n : Nat} (hn : 1 ≤ n) : 1 ≤ ph n ∧ ph n ≤ n := by
  have hp : ∀ m : Nat, 1 ≤ m → 1 ≤ ph m := fun m hm => by
    rw [ph_fac (fc_fac hm) hm]
    have := phiL_pos (fc_fac hm)
    omega
  refine ⟨hp n hn, ?_⟩
  have h1 := gauss_sum hn
  obtain ⟨h2, h3⟩ := dv_last hn
  have hlt : (dv n).length - 1 < (dv n).length := by omega
  have h4 := sm_front ph hn hlt
  rw [h3 hlt, h1] at h4
  have h5 : ∀ l : List Nat, (∀ d ∈ l, 1 ≤ d) → 0 ≤ sm ph l := by
    intro l
    induction l with
    | nil => intro _; exact Int.le_refl 0
    | cons d l ih =>
      intro h
      have := hp d (h d (by simp))
      have := ih fun e he => h e (by simp [he])
      simp only [sm]; omega
  have h6 := h5 (((dv n).take ((dv n).length - 1)).filter fun c => n % c == 0) (fun d hd => ((mem_dv hn).mp (List.mem_of_mem_take (List.mem_filter.mp hd).1)).1)
  omega

end Go.Proofs.Ythlnbomapfjphaa.Dd
