/-
  At primes: EULER's rule, WILSON's law, LEGENDRE's symbol; FERMAT's two squares. No Go in sight.
-/
import Derived.Test.YthlnbomapfjphaaDoorSqJac
namespace Go.Proofs.YthlnbomapfjphaaDoor.Sq
open Eu Pr Rs Dd

theorem pr_near {p : Int} {F H : Nat → Int} {l : List Nat} (h : ∀ d ∈ l, p ∣ F d - H d) : p ∣ pr F l - pr H l := by
  induction l with
  | nil => simp [pr]
  | cons d l ih =>
    simp only [pr]
    have e : F d * pr F l - H d * pr H l = F d * (pr F l - pr H l) + (F d - H d) * pr H l := by
      rw [Int.mul_sub, Int.sub_mul]; omega
    rw [e]
    exact Int.dvd_add (Int.dvd_trans (ih fun e he => h e (by simp [he])) (Int.dvd_mul_left _ _)) (Int.dvd_trans (h d (by simp)) (Int.dvd_mul_right _ _))

theorem pr_prm {p : Int} (hp : Prm p) {F : Nat → Int} {l : List Nat} (h : ∀ d ∈ l, ¬ p ∣ F d) : ¬ p ∣ pr F l := by
  induction l with
  | nil =>
    intro h1
    have h1 : p ∣ 1 := h1
    have := Int.le_of_dvd (by decide) h1
    have := hp.1
    omega
  | cons d l ih =>
    intro h1
    rcases euclid hp h1 with h2 | h2
    · exact h d (by simp) h2
    · exact ih (fun e he => h e (by simp [he])) h2

theorem prm_odd {p : Nat} (hp : Prm (p : Int)) (h2 : p ≠ 2) : p % 2 = 1 ∧ 3 ≤ p := by
  have := hp.1
  refine ⟨?_, by omega⟩
  refine Decidable.byContradiction fun h => ?_
  exact hp.2 2 (by omega) (by omega) ⟨(p / 2 : Nat), by omega⟩

theorem prm_gcd {p : Nat} {a : Int} (hp : Prm (p : Int)) (h : ¬ (p : Int) ∣ a) : Int.gcd p a = 1 := by
  have h1 : ((Int.gcd p a : Nat) : Int) ∣ p := Int.gcd_dvd_left p a
  have h2 : ((Int.gcd p a : Nat) : Int) ∣ a := Int.gcd_dvd_right p a
  have hp2 := hp.1
  have h3 := Int.le_of_dvd (by omega) h1
  have h4 : Int.gcd p a ≠ 0 := fun h => by rw [h] at h1; have := Int.zero_dvd.mp h1; omega
  generalize Int.gcd p a = d at *
  by_cases e1 : d = 1
  · exact e1
  · by_cases e2 : (d : Int) = p
    · rw [e2] at h2; exact absurd h2 h
    · exact absurd h1 (hp.2 d (by omega) (by omega))

theorem gcd_prm {p : Nat} {a : Int} (hp : Prm (p : Int)) : Int.gcd p a = 1 ↔ ¬ (p : Int) ∣ a := by
  refine ⟨fun h hd => ?_, prm_gcd hp⟩
  have h1 : (p : Int) ∣ ((Int.gcd p a : Nat) : Int) := Int.dvd_coe_gcd (Int.dvd_refl _) hd
  rw [h] at h1
  have := Int.le_of_dvd (by decide) h1
  have := hp.1
  omega

/-- GAUSS's lemma. -/
theorem gauss_lemma {h : Nat} {a : Int} (hp : Prm (2 * (h : Int) + 1)) (ha : ¬ (2 * (h : Int) + 1) ∣ a) : (2 * (h : Int) + 1) ∣ a ^ h - sy a h := by
  have hg : Int.gcd (2 * (h : Int) + 1) a = 1 := by
    have := prm_gcd (p := 2 * h + 1) (a := a) (by simpa using hp) (by simpa using ha)
    simpa using this
  have h1 : (2 * (h : Int) + 1) ∣ pr (fun k => a * k) (upto h) - pr (fun k => sg h (a * k) * (ab h (a * k) : Nat)) (upto h) := pr_near fun k _ => sg_ab h (a * k)
  rw [pr_mul, pr_mul, pr_const, upto_length] at h1
  have h2 : pr (fun k => ((ab h (a * k) : Nat) : Int)) (upto h) = pr (fun k => (k : Int)) (upto h) := by
    have := pr_perm (fun k => (k : Int)) (ab_perm hg)
    rwa [pr_map] at this
  rw [h2] at h1
  have e : a ^ h * pr (fun k => (k : Int)) (upto h) - pr (fun k => sg h (a * k)) (upto h) * pr (fun k => (k : Int)) (upto h) = pr (fun k => (k : Int)) (upto h) * (a ^ h - sy a h) := by
    rw [Int.mul_sub, Int.mul_comm (a ^ h), Int.mul_comm (pr _ _) (pr _ _)]; rfl
  rw [e] at h1
  rcases euclid hp h1 with h3 | h3
  · refine absurd h3 (pr_prm hp fun d hd h4 => ?_)
    have := mem_upto.mp hd
    have := Int.le_of_dvd (by omega) h4
    omega
  · exact h3

/-- Numbers taken in pairs, each pair c. -/
theorem pairs {p c : Int} {F : Nat → Int} {s : Nat → Nat} : ∀ (m : Nat) (l : List Nat), l.length = m → l.Nodup → (∀ x ∈ l, s x ∈ l ∧ s (s x) = x ∧ s x ≠ x) → (∀ x ∈ l, p ∣ F x * F (s x) - c) → p ∣ pr F l - c ^ (l.length / 2) := by
  intro m
  induction m using Nat.strongRecOn with
  | _ m ih =>
    intro l hm hn hs hc
    cases l with
    | nil => simp [pr]
    | cons x t =>
      obtain ⟨s1, s2, s3⟩ := hs x (by simp)
      have hst : s x ∈ t := by
        rcases List.mem_cons.mp s1 with h | h
        · exact absurd h s3
        · exact h
      have hp1 := List.perm_cons_erase hst
      have hlen := List.length_erase_of_mem hst
      have hpos := List.length_pos_of_mem hst
      rw [List.nodup_cons] at hn
      have hn2 : (t.erase (s x)).Nodup := hn.2.erase _
      have hmem : ∀ y, y ∈ t.erase (s x) ↔ y ∈ t ∧ y ≠ s x := fun y => by
        rw [hn.2.mem_erase_iff]
        exact ⟨fun h => ⟨h.2, h.1⟩, fun h => ⟨h.2, h.1⟩⟩
      have key := ih (t.erase (s x)).length (by simp at hm; omega) (t.erase (s x)) rfl hn2 (fun y hy => ?_) (fun y hy => hc y (by simp [((hmem y).mp hy).1]))
      · simp only [pr]
        rw [pr_perm F hp1]
        simp only [pr]
        have e1 : (x :: t).length / 2 = (t.erase (s x)).length / 2 + 1 := by simp; omega
        rw [e1, Int.pow_succ]
        have h2 := hc x (by simp)
        generalize pr F (t.erase (s x)) = Q at *
        generalize c ^ ((t.erase (s x)).length / 2) = R at *
        have e2 : F x * (F (s x) * Q) - R * c = (F x * F (s x) - c) * Q + c * (Q - R) := by
          rw [Int.sub_mul, Int.mul_sub, Int.mul_assoc, Int.mul_comm R]; omega
        rw [e2]
        exact Int.dvd_add (Int.dvd_trans h2 (Int.dvd_mul_right _ _)) (Int.dvd_trans key (Int.dvd_mul_left _ _))
      · obtain ⟨y1, y2⟩ := (hmem y).mp hy
        obtain ⟨t1, t2, t3⟩ := hs y (by simp [y1])
        refine ⟨(hmem _).mpr ⟨?_, fun e => ?_⟩, t2, t3⟩
        · rcases List.mem_cons.mp t1 with h | h
          · rw [h] at t2
            exact absurd t2.symm y2
          · exact h
        · have : y = x := by rw [← t2, e, s2]
          exact hn.1 (this ▸ y1)

/-- The other of the pair that makes a by p. -/
def other (a : Int) (p x : Nat) : Nat := ((a * (x : Int) ^ (p - 2)) % p).toNat

theorem other_mul {a : Int} {p x : Nat} (hp : Prm (p : Int)) (hx : ¬ (p : Int) ∣ x) : (p : Int) ∣ x * (other a p x : Nat) - a := by
  have hp2 := hp.1
  have h1 := fermat_one hp hx
  rw [Int.toNat_natCast] at h1
  unfold Rs.One at h1
  have h2 := Int.emod_nonneg (a * (x : Int) ^ (p - 2)) (b := (p : Int)) (by omega)
  have h3 := Int.mul_ediv_add_emod (a * (x : Int) ^ (p - 2)) p
  unfold other
  rw [Int.toNat_of_nonneg h2]
  have e1 : (x : Int) ^ (p - 1) = (x : Int) ^ (p - 2) * x := by rw [← Int.pow_succ]; congr 1; omega
  have e2 : (x : Int) * ((a * (x : Int) ^ (p - 2)) % p) - a = a * ((x : Int) ^ (p - 1) - 1) - p * (x * ((a * (x : Int) ^ (p - 2)) / p)) := by
    have e3 : (a * (x : Int) ^ (p - 2)) % p = a * (x : Int) ^ (p - 2) - p * ((a * (x : Int) ^ (p - 2)) / p) := by omega
    rw [e3, e1, Int.mul_sub, Int.mul_sub, Int.mul_one]
    have q1 : (x : Int) * (a * (x : Int) ^ (p - 2)) = a * ((x : Int) ^ (p - 2) * x) := by ac_rfl
    have q2 : (x : Int) * (p * (a * (x : Int) ^ (p - 2) / p)) = p * (x * (a * (x : Int) ^ (p - 2) / p)) := by ac_rfl
    omega
  rw [e2]
  exact Int.dvd_sub (Int.dvd_trans h1 (Int.dvd_mul_left _ _)) (Int.dvd_mul_right _ _)

theorem other_lt {a : Int} {p x : Nat} (hp : Prm (p : Int)) : other a p x < p := by
  have hp2 := hp.1
  have h2 := Int.emod_nonneg (a * (x : Int) ^ (p - 2)) (b := (p : Int)) (by omega)
  have h3 := Int.emod_lt_of_pos (a * (x : Int) ^ (p - 2)) (b := (p : Int)) (by omega)
  unfold other
  omega

theorem small_not {p x : Nat} (h1 : 1 ≤ x) (h2 : x < p) : ¬ (p : Int) ∣ x := fun h => by
  have := Int.le_of_dvd (by omega) h
  omega

theorem same_of {p x y : Nat} (hx : x < p) (hy : y < p) (h : (p : Int) ∣ (x : Int) - y) : x = y := by
  rcases Nat.lt_trichotomy x y with h1 | h1 | h1
  · have := Int.le_of_dvd (show (0 : Int) < (y : Int) - x by omega) (by have := Int.dvd_neg.mpr h; rwa [Int.neg_sub] at this)
    omega
  · exact h1
  · have := Int.le_of_dvd (show (0 : Int) < (x : Int) - y by omega) h
    omega

theorem other_facts {a : Int} {p x : Nat} (hp : Prm (p : Int)) (ha : ¬ (p : Int) ∣ a) (h1 : 1 ≤ x) (h2 : x < p) : 1 ≤ other a p x ∧ other a p (other a p x) = x := by
  have d1 := other_mul (a := a) hp (small_not h1 h2)
  have l1 := other_lt (a := a) (x := x) hp
  have h3 : 1 ≤ other a p x := by
    rcases Nat.eq_zero_or_pos (other a p x) with h | h
    · rw [h] at d1
      refine absurd ?_ ha
      have := Int.dvd_neg.mpr d1
      simpa using this
    · exact h
  refine ⟨h3, ?_⟩
  have d2 := other_mul (a := a) hp (small_not h3 l1)
  have l2 := other_lt (a := a) (x := other a p x) hp
  have d3 := Int.dvd_sub d2 d1
  generalize other a p (other a p x) = z at *
  generalize other a p x = y at *
  have e : (y : Int) * z - a - (x * y - a) = y * ((z : Int) - x) := by rw [Int.mul_sub, Int.mul_comm (x : Int)]; omega
  rw [e] at d3
  rcases euclid hp d3 with h | h
  · exact absurd h (small_not h3 l1)
  · exact same_of l2 h2 h

theorem upto_ends {h : Nat} (hh : 1 ≤ h) : upto (2 * h) = 1 :: (List.range' 2 (2 * h - 2) ++ [2 * h]) := by
  unfold upto
  obtain ⟨g, rfl⟩ : ∃ g, h = g + 1 := ⟨h - 1, by omega⟩
  have e : 2 * (g + 1) = (2 * g + 1) + 1 := by omega
  rw [e, List.range'_succ]
  congr 1
  rw [List.range'_concat]
  congr 2
  omega

/-- WILSON. -/
theorem wilson {h : Nat} (hp : Prm (2 * (h : Int) + 1)) : (2 * (h : Int) + 1) ∣ pr (fun k => (k : Int)) (upto (2 * h)) + 1 := by
  have hp2 := hp.1
  have hh : 1 ≤ h := by omega
  have hpn : Prm ((2 * h + 1 : Nat) : Int) := by simpa using hp
  have h1 : ¬ ((2 * h + 1 : Nat) : Int) ∣ 1 := fun hd => by have := Int.le_of_dvd (by decide) hd; omega
  have key := pairs (p := 2 * (h : Int) + 1) (c := 1) (F := fun k => (k : Int)) (s := other 1 (2 * h + 1)) _ (List.range' 2 (2 * h - 2)) rfl (List.nodup_range' 1) (fun x hx => ?_) (fun x hx => ?_)
  · rw [Int.one_pow] at key
    rw [upto_ends hh]
    simp only [pr]
    rw [pr_append]
    simp only [pr]
    have e : ((1 : Nat) : Int) * (pr (fun k => (k : Int)) (List.range' 2 (2 * h - 2)) * (((2 * h : Nat) : Int) * 1)) + 1 = (pr (fun k => (k : Int)) (List.range' 2 (2 * h - 2)) - 1) * (2 * h) + (2 * h + 1) := by
      rw [Int.sub_mul]
      have : ((2 * h : Nat) : Int) = 2 * h := by omega
      rw [this, Int.mul_one]
      simp
      omega
    rw [e]
    exact Int.dvd_add (Int.dvd_trans key (Int.dvd_mul_right _ _)) (Int.dvd_refl _)
  · rw [List.mem_range'_1] at hx
    have hx1 : 1 ≤ x := by omega
    have hx2 : x < 2 * h + 1 := by omega
    obtain ⟨o1, o2⟩ := other_facts hpn h1 hx1 hx2
    have d1 := other_mul (a := 1) hpn (small_not hx1 hx2)
    have l1 := other_lt (a := 1) (x := x) hpn
    have eqs : ∀ y : Nat, 1 ≤ y → y < 2 * h + 1 → ((2 * h + 1 : Nat) : Int) ∣ (y : Int) * y - 1 → y = 1 ∨ y = 2 * h := fun y y1 y2 hd => by
      have e : (y : Int) * y - 1 = ((y : Int) - 1) * (y + 1) := by rw [Int.sub_mul, Int.mul_add]; omega
      rw [e] at hd
      rcases euclid hpn hd with h3 | h3
      · left
        exact same_of y2 (by omega) (by simpa using h3)
      · right
        have := Int.le_of_dvd (by omega) h3
        omega
    refine ⟨?_, o2, fun he => ?_⟩
    · rw [List.mem_range'_1]
      have n1 : other 1 (2 * h + 1) x ≠ 1 := fun he => by
        rw [he] at d1
        have := same_of hx2 (show 1 < 2 * h + 1 by omega) (by simpa using d1)
        omega
      have n2 : other 1 (2 * h + 1) x ≠ 2 * h := fun he => by
        rw [he] at d1
        have e : (x : Int) * ((2 * h : Nat) : Int) - 1 = ((2 * h + 1 : Nat) : Int) * x - (x + 1) := by
          have : ((2 * h + 1 : Nat) : Int) = ((2 * h : Nat) : Int) + 1 := by omega
          rw [this, Int.add_mul, Int.mul_comm (x : Int)]; omega
        rw [e] at d1
        have d2 := Int.dvd_sub (Int.dvd_mul_right ((2 * h + 1 : Nat) : Int) (x : Int)) d1
        have e2 : ((2 * h + 1 : Nat) : Int) * (x : Int) - (((2 * h + 1 : Nat) : Int) * x - (x + 1)) = x + 1 := by omega
        rw [e2] at d2
        have := Int.le_of_dvd (by omega) d2
        omega
      omega
    · rw [he] at d1
      rcases eqs x hx1 hx2 d1 with h3 | h3 <;> omega
  · rw [List.mem_range'_1] at hx
    have := other_mul (a := 1) (x := x) hpn (small_not (by omega) (by omega))
    simpa using this

/-- a is a square by p. -/
def IsSq (a : Int) (p : Nat) : Prop := ∃ x : Int, (p : Int) ∣ x * x - a

theorem isSq_small {a : Int} {p : Nat} (hp : 0 < p) (h : IsSq a p) : ∃ x : Nat, x < p ∧ (p : Int) ∣ (x : Int) * x - a := by
  obtain ⟨x, hx⟩ := h
  have h1 := Int.emod_nonneg x (b := (p : Int)) (by omega)
  have h2 := Int.emod_lt_of_pos x (b := (p : Int)) (by omega)
  have h3 := Int.mul_ediv_add_emod x p
  refine ⟨(x % p).toNat, by omega, ?_⟩
  rw [Int.toNat_of_nonneg h1]
  have e : x % p * (x % p) - a = (x * x - a) - p * (x / p * (x + x % p)) := by
    have e1 : p * (x / p * (x + x % p)) = (x - x % p) * (x + x % p) := by
      rw [← Int.mul_assoc]
      congr 1
      omega
    rw [e1, Int.sub_mul, Int.mul_add, Int.mul_add, Int.mul_comm (x % p) x]
    omega
  rw [e]
  exact Int.dvd_sub hx (Int.dvd_mul_right _ _)

/-- EULER's rule. -/
theorem euler_yes {h : Nat} {a : Int} (hp : Prm (2 * (h : Int) + 1)) (ha : ¬ (2 * (h : Int) + 1) ∣ a) (hs : IsSq a (2 * h + 1)) : (2 * (h : Int) + 1) ∣ a ^ h - 1 := by
  obtain ⟨x, hx⟩ := hs
  have eP : ((2 * h + 1 : Nat) : Int) = 2 * h + 1 := by omega
  rw [eP] at hx
  have hnx : ¬ (2 * (h : Int) + 1) ∣ x := fun hd => ha (by
    have := Int.dvd_sub (Int.dvd_trans hd (Int.dvd_mul_right x x)) hx
    rwa [show x * x - (x * x - a) = a by omega] at this)
  have h1 := fermat_one hp hnx
  have e2 : (2 * (h : Int) + 1).toNat - 1 = 2 * h := by omega
  rw [e2, ipow_mul, show x ^ 2 = x * x by rw [Int.pow_succ, Int.pow_succ]; simp] at h1
  unfold Rs.One at h1
  have h3 : ∀ k : Nat, (2 * (h : Int) + 1) ∣ (x * x) ^ k - a ^ k := fun k => by
    induction k with
    | zero => simp
    | succ k ih =>
      rw [Int.pow_succ, Int.pow_succ]
      have e : (x * x) ^ k * (x * x) - a ^ k * a = ((x * x) ^ k - a ^ k) * (x * x) + a ^ k * (x * x - a) := by
        rw [Int.sub_mul, Int.mul_sub]; omega
      rw [e]
      exact Int.dvd_add (Int.dvd_trans ih (Int.dvd_mul_right _ _)) (Int.dvd_trans hx (Int.dvd_mul_left _ _))
  have := Int.dvd_sub h1 (h3 h)
  rwa [show (x * x) ^ h - 1 - ((x * x) ^ h - a ^ h) = a ^ h - 1 by omega] at this

theorem euler_no {h : Nat} {a : Int} (hp : Prm (2 * (h : Int) + 1)) (ha : ¬ (2 * (h : Int) + 1) ∣ a) (hs : ¬ IsSq a (2 * h + 1)) : (2 * (h : Int) + 1) ∣ a ^ h + 1 := by
  have hpn : Prm ((2 * h + 1 : Nat) : Int) := by simpa using hp
  have han : ¬ ((2 * h + 1 : Nat) : Int) ∣ a := by simpa using ha
  have key := pairs (p := 2 * (h : Int) + 1) (c := a) (F := fun k => (k : Int)) (s := other a (2 * h + 1)) _ (upto (2 * h)) rfl (upto_nodup _) (fun x hx => ?_) (fun x hx => ?_)
  · rw [upto_length, Nat.mul_div_cancel_left _ (by omega)] at key
    have := Int.dvd_sub (wilson hp) key
    rwa [show pr (fun k => (k : Int)) (upto (2 * h)) + 1 - (pr (fun k => (k : Int)) (upto (2 * h)) - a ^ h) = a ^ h + 1 by omega] at this
  · obtain ⟨x1, x2⟩ := mem_upto.mp hx
    obtain ⟨o1, o2⟩ := other_facts hpn han x1 (by omega)
    have l1 := other_lt (a := a) (x := x) hpn
    refine ⟨mem_upto.mpr ⟨o1, by omega⟩, o2, fun he => hs ⟨x, ?_⟩⟩
    have := other_mul (a := a) hpn (small_not x1 (show x < 2 * h + 1 by omega))
    rwa [he] at this
  · obtain ⟨x1, x2⟩ := mem_upto.mp hx
    have := other_mul (a := a) hpn (small_not x1 (show x < 2 * h + 1 by omega))
    simpa using this

open Classical in
/-- LEGENDRE's symbol. -/
noncomputable def leg (a : Int) (p : Nat) : Int := if (p : Int) ∣ a then 0 else if IsSq a p then 1 else -1

theorem leg_euler {p : Nat} {a : Int} (hp : Prm (p : Int)) (h2 : p ≠ 2) : (p : Int) ∣ a ^ (p / 2) - leg a p := by
  obtain ⟨ho, h3⟩ := prm_odd hp h2
  obtain ⟨h, rfl⟩ : ∃ h, p = 2 * h + 1 := ⟨p / 2, by omega⟩
  have e : (2 * h + 1) / 2 = h := by omega
  rw [e]
  have eP : ((2 * h + 1 : Nat) : Int) = 2 * h + 1 := by omega
  rw [eP] at hp ⊢
  unfold leg
  rw [eP]
  by_cases hd : (2 * (h : Int) + 1) ∣ a
  · rw [if_pos hd, Int.sub_zero]
    obtain ⟨g, rfl⟩ : ∃ g, h = g + 1 := ⟨h - 1, by omega⟩
    rw [Int.pow_succ]
    exact Int.dvd_trans hd (Int.dvd_mul_left _ _)
  · rw [if_neg hd]
    by_cases hs : IsSq a (2 * h + 1)
    · rw [if_pos hs]; exact euler_yes hp hd hs
    · rw [if_neg hs]
      have := euler_no hp hd hs
      rwa [show a ^ h - -1 = a ^ h + 1 by omega]

theorem leg_sign (a : Int) (p : Nat) : leg a p = 0 ∨ leg a p = 1 ∨ leg a p = -1 := by
  unfold leg
  split
  · exact .inl rfl
  · split
    · exact .inr (.inl rfl)
    · exact .inr (.inr rfl)

/-- At odd primes JACOBI's symbol is LEGENDRE's. -/
theorem jac_prime {p : Nat} {a : Int} (hp : Prm (p : Int)) (h2 : p ≠ 2) : jac a p = leg a p := by
  obtain ⟨ho, h3⟩ := prm_odd hp h2
  by_cases hd : (p : Int) ∣ a
  · rw [jac_no (fun h => (gcd_prm hp).mp h hd)]
    unfold leg
    rw [if_pos hd]
  · rw [jac_yes ((gcd_prm hp).mpr hd)]
    have h4 := leg_euler (a := a) hp h2
    have h5 : (p : Int) ∣ a ^ (p / 2) - sy a (p / 2) := by
      obtain ⟨h, rfl⟩ : ∃ h, p = 2 * h + 1 := ⟨p / 2, by omega⟩
      have e : (2 * h + 1) / 2 = h := by omega
      have eP : ((2 * h + 1 : Nat) : Int) = 2 * h + 1 := by omega
      rw [e]
      rw [eP] at hp hd ⊢
      exact gauss_lemma hp hd
    have h6 := Int.dvd_sub h5 h4
    rw [show a ^ (p / 2) - sy a (p / 2) - (a ^ (p / 2) - leg a p) = leg a p - sy a (p / 2) by omega] at h6
    have h7 : leg a p ≠ 0 := by
      unfold leg
      rw [if_neg hd]
      split <;> decide
    have h8 := sy_sign a (p / 2)
    have h9 := leg_sign a p
    generalize sy a (p / 2) = x at *
    generalize leg a p = y at *
    by_cases he : x = y
    · exact he
    · rcases (show y - x = 2 ∨ y - x = -2 by omega) with h | h <;> rw [h] at h6
      · have := Int.le_of_dvd (by decide) h6; omega
      · have := Int.le_of_dvd (by decide) (Int.dvd_neg.mpr h6); omega

end Go.Proofs.YthlnbomapfjphaaDoor.Sq
