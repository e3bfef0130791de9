/-
  Plain mathematics for package divide: divisors, what is told prime by prime, GAUSS's and MOEBIUS's sums. No Go in sight.
-/
import Derived.Test.YtjccpfpldbjcbaaGma
namespace Go.Proofs.Ytjccpfpldbjcbaa.Dd
open Eu Pr Rs

/-- All divisors of n, the smallest first. -/
def dv (n : Nat) : List Nat := ((List.range n).map (· + 1)).filter fun d => n % d == 0

theorem mem_dv {n d : Nat} (hn : 1 ≤ n) : d ∈ dv n ↔ 1 ≤ d ∧ d ∣ n := by
  unfold dv
  simp only [List.mem_filter, List.mem_map, List.mem_range, beq_iff_eq]
  constructor
  · rintro ⟨⟨a, ha, rfl⟩, h⟩
    exact ⟨by omega, Nat.dvd_of_mod_eq_zero h⟩
  · rintro ⟨h1, h2⟩
    have := Nat.le_of_dvd hn h2
    exact ⟨⟨d - 1, by omega, by omega⟩, Nat.mod_eq_zero_of_dvd h2⟩

theorem dv_lt (n : Nat) : (dv n).Pairwise (· < ·) := by
  unfold dv
  refine List.Pairwise.filter _ ?_
  rw [List.pairwise_map]
  exact List.pairwise_lt_range.imp (fun h => by omega)

theorem nodup_of_lt {l : List Nat} (h : l.Pairwise (· < ·)) : l.Nodup := h.imp (fun h => Nat.ne_of_lt h)

/-- Lists that grow and hold the same are the same. -/
theorem eq_of_lt {l k : List Nat} (hl : l.Pairwise (· < ·)) (hk : k.Pairwise (· < ·)) (h : ∀ d, d ∈ l ↔ d ∈ k) : l = k :=
  List.Perm.eq_of_pairwise (le := (· < ·)) (fun a b _ _ h1 h2 => by omega) hl hk ((List.perm_ext_iff_of_nodup (nodup_of_lt hl) (nodup_of_lt hk)).mpr h)

/-- The sum of F over a list. -/
def sm (F : Nat → Int) : List Nat → Int
  | [] => 0
  | d :: l => F d + sm F l

theorem sm_append (F : Nat → Int) (l k : List Nat) : sm F (l ++ k) = sm F l + sm F k := by
  induction l with
  | nil => simp [sm]
  | cons d l ih => simp only [List.cons_append, sm, ih]; omega

theorem sm_perm (F : Nat → Int) {l k : List Nat} (h : l.Perm k) : sm F l = sm F k := by
  induction h with
  | nil => rfl
  | cons x _ ih => simp only [sm, ih]
  | swap x y l => simp only [sm]; omega
  | trans _ _ ih1 ih2 => rw [ih1, ih2]

theorem sm_congr {F H : Nat → Int} {l : List Nat} (h : ∀ d ∈ l, F d = H d) : sm F l = sm H l := by
  induction l with
  | nil => rfl
  | cons d l ih => simp only [sm]; rw [h d (by simp), ih (fun e he => h e (by simp [he]))]

theorem sm_map (F : Nat → Int) (g : Nat → Nat) (l : List Nat) : sm F (l.map g) = sm (fun d => F (g d)) l := by
  induction l with
  | nil => rfl
  | cons d l ih => simp only [List.map_cons, sm, ih]

theorem sm_mul (c : Int) (F : Nat → Int) (l : List Nat) : sm (fun d => c * F d) l = c * sm F l := by
  induction l with
  | nil => simp [sm]
  | cons d l ih => simp only [sm, ih, Int.mul_add]

theorem sm_flatMap (F : Nat → Int) (g : Nat → List Nat) (l : List Nat) : sm F (l.flatMap g) = sm (fun j => sm F (g j)) l := by
  induction l with
  | nil => rfl
  | cons d l ih => simp only [List.flatMap_cons, sm_append, sm, ih]

theorem sm_mul_right (c : Int) (F : Nat → Int) (l : List Nat) : sm (fun d => F d * c) l = sm F l * c := by
  induction l with
  | nil => simp [sm]
  | cons d l ih => simp only [sm, ih, Int.add_mul]

theorem sm_one (l : List Nat) : sm (fun _ => 1) l = l.length := by
  induction l with
  | nil => rfl
  | cons d l ih => simp only [sm, ih, List.length_cons]; omega

/-- A prime that does not divide has nothing in common. -/
theorem prm_coprime {p e : Nat} (hp : Prm (p : Int)) (h : ¬ p ∣ e) : Nat.Coprime p e := by
  have h1 : Nat.gcd p e ∣ p := Nat.gcd_dvd_left p e
  have hp2 := hp.1
  have hle := Nat.le_of_dvd (by omega) h1
  have hpos : 1 ≤ Nat.gcd p e := Nat.gcd_pos_of_pos_left e (by omega)
  by_cases h2 : Nat.gcd p e = 1
  · exact h2
  · by_cases h3 : Nat.gcd p e = p
    · exact absurd (h3 ▸ Nat.gcd_dvd_right p e) h
    · exact absurd (Int.natCast_dvd_natCast.mpr h1) (hp.2 _ (by omega) (by omega))

/-- How a number is cut by a prime. -/
theorem cut (p : Nat) (hp : 2 ≤ p) : ∀ n : Nat, 1 ≤ n → ∃ j e, n = p ^ j * e ∧ 1 ≤ e ∧ ¬ p ∣ e := by
  intro n
  induction n using Nat.strongRecOn with
  | _ n ih =>
    intro hn
    by_cases h : p ∣ n
    · obtain ⟨m, rfl⟩ := h
      have hm : 1 ≤ m := by
        rcases Nat.eq_zero_or_pos m with h | h
        · subst h; simp at hn
        · exact h
      have hlt : m < p * m := by
        have := Nat.mul_le_mul_right m hp
        omega
      obtain ⟨j, e, h1, h2, h3⟩ := ih m hlt hm
      refine ⟨j + 1, e, ?_, h2, h3⟩
      rw [h1, Nat.pow_succ, Nat.mul_comm (p ^ j) p, Nat.mul_assoc]
    · exact ⟨0, n, by simp, hn, h⟩

theorem cut_uniq {p j j' e e' : Nat} (hp : 2 ≤ p) (h : ¬ p ∣ e) (h' : ¬ p ∣ e') (he : p ^ j * e = p ^ j' * e') : j = j' ∧ e = e' := by
  have hv : ∀ {i : Nat} {x : Nat}, ¬ p ∣ x → Vp (p : Int) ((p ^ i * x : Nat) : Int) i := fun {i x} hx => ⟨(x : Int), by rw [Int.natCast_mul, Int.natCast_pow], fun hh => hx (Int.natCast_dvd_natCast.mp hh)⟩
  have h1 := hv (i := j) h
  rw [he] at h1
  have hj := Vp.uniq (by omega) h1 (hv (i := j') h')
  subst hj
  exact ⟨rfl, Nat.eq_of_mul_eq_mul_left (Nat.pow_pos (by omega)) he⟩

/-- The divisors of p^k m, where p does not divide m. -/
theorem dv_cut {p k m : Nat} (hp : Prm (p : Int)) (hm : 1 ≤ m) (hnd : ¬ p ∣ m) : (dv (p ^ k * m)).Perm ((List.range (k + 1)).flatMap fun j => (dv m).map fun e => p ^ j * e) := by
  have hp2 : 2 ≤ p := by have := hp.1; omega
  have hpos : 1 ≤ p ^ k * m := Nat.mul_pos (Nat.pow_pos (by omega)) hm
  have hne : ∀ e, e ∈ dv m → ¬ p ∣ e := fun e he hh => hnd (Nat.dvd_trans hh ((mem_dv hm).mp he).2)
  refine (List.perm_ext_iff_of_nodup (nodup_of_lt (dv_lt _)) ?_).mpr fun d => ?_
  · unfold List.Nodup
    rw [List.pairwise_flatMap]
    constructor
    · intro j _
      rw [List.pairwise_map]
      refine (dv_lt m).imp (fun {a b} h he => ?_)
      have := Nat.eq_of_mul_eq_mul_left (Nat.pow_pos (by omega)) he
      omega
    · refine List.nodup_range.imp (fun {a b} hab x hx y hy he => ?_)
      simp only [List.mem_map] at hx hy
      obtain ⟨e, he1, rfl⟩ := hx
      obtain ⟨e2, he2, rfl⟩ := hy
      exact hab (cut_uniq hp2 (hne e he1) (hne e2 he2) he).1
  · rw [mem_dv hpos]
    simp only [List.mem_flatMap, List.mem_range, List.mem_map]
    constructor
    · rintro ⟨h1, h2⟩
      obtain ⟨j, e, rfl, he1, he2⟩ := cut p hp2 d h1
      have hc1 : Nat.Coprime e (p ^ k) := (Nat.Coprime.pow_left k (prm_coprime hp he2)).symm
      have hc2 : Nat.Coprime (p ^ j) m := Nat.Coprime.pow_left j (prm_coprime hp hnd)
      have h3 : e ∣ m := hc1.dvd_of_dvd_mul_left (Nat.dvd_trans (Nat.dvd_mul_left _ _) h2)
      have h4 : p ^ j ∣ p ^ k := hc2.dvd_of_dvd_mul_right (Nat.dvd_trans (Nat.dvd_mul_right _ _) h2)
      have h5 := (Nat.pow_dvd_pow_iff_le_right (by omega)).mp h4
      exact ⟨j, by omega, e, (mem_dv hm).mpr ⟨he1, h3⟩, rfl⟩
    · rintro ⟨j, hj, e, he, rfl⟩
      obtain ⟨he1, he2⟩ := (mem_dv hm).mp he
      exact ⟨Nat.mul_pos (Nat.pow_pos (by omega)) he1, Nat.mul_dvd_mul (Nat.pow_dvd_pow p (by omega)) he2⟩

/-- What is told prime by prime: F for each power. -/
def val (F : Nat → Nat → Int) : List (Int × Nat) → Int
  | [] => 1
  | (p, k) :: l => F p.toNat k * val F l

theorem IsMf.uniq {n p q : Int} (h : IsMf n p) (g : IsMf n q) : p = q := by
  have h1 := h.2.2 q g.1
  have h2 := g.2.2 p h.1
  rcases Int.lt_trichotomy p q with h3 | h3 | h3
  · exact absurd h.2.1 (h2 h3)
  · exact h3
  · exact absurd g.2.1 (h1 h3)

/-- A number has one factorisation. -/
theorem Fac.uniq {n : Int} {l k : List (Int × Nat)} (h : Fac n l) (g : Fac n k) : l = k := by
  induction l generalizing n k with
  | nil =>
    have h1 : n = 1 := h
    cases k with
    | nil => rfl
    | cons x k =>
      obtain ⟨q, j⟩ := x
      have h2 := g.1
      have h3 := h2.le (by omega)
      have := h2.1
      omega
  | cons x l ih =>
    obtain ⟨p, i⟩ := x
    obtain ⟨h1, h2, m, h3, h4, h5, h6⟩ := h
    cases k with
    | nil =>
      have h7 : n = 1 := g
      have h8 := h1.le (by omega)
      have := h1.1
      omega
    | cons y k =>
      obtain ⟨q, j⟩ := y
      obtain ⟨g1, g2, m', g3, g4, g5, g6⟩ := g
      obtain rfl := IsMf.uniq h1 g1
      have hp0 : p ≠ 0 := by have := h1.1; omega
      obtain rfl := Vp.uniq hp0 ⟨m, h4, h5⟩ ⟨m', g4, g5⟩
      have hm : m = m' := Int.eq_of_mul_eq_mul_left (pow_ne hp0 i) (by rw [← h4, ← g4])
      subst hm
      rw [ih h6 g6]

/-- Each number has one. -/
theorem fac_some : ∀ n : Nat, 1 ≤ n → ∃ l, Fac (n : Int) l := by
  intro n
  induction n using Nat.strongRecOn with
  | _ n ih =>
    intro hn
    by_cases h1 : n = 1
    · subst h1; exact ⟨[], rfl⟩
    · obtain ⟨q, hq⟩ := mf_some (n := (n : Int)) (by omega)
      have hq2 := hq.1
      obtain ⟨p, rfl⟩ : ∃ p : Nat, q = p := ⟨q.toNat, by omega⟩
      obtain ⟨j, e, he, he1, he2⟩ := cut p (by omega) n hn
      have hj : 1 ≤ j := by
        rcases Nat.eq_zero_or_pos j with h | h
        · subst h
          have := Int.natCast_dvd_natCast.mp hq.2.1
          rw [he] at this
          simp at this
          exact absurd this he2
        · exact h
      have hlt : e < n := by
        have h2 : 2 ≤ p ^ j := by
          calc 2 ≤ p := by omega
            _ = p ^ 1 := by simp
            _ ≤ p ^ j := Nat.pow_le_pow_right (by omega) hj
        have := Nat.mul_le_mul_right e h2
        omega
      obtain ⟨l, hl⟩ := ih e hlt he1
      exact ⟨((p : Int), j) :: l, hq, hj, (e : Int), by omega, by rw [he, Int.natCast_mul, Int.natCast_pow], fun h => he2 (Int.natCast_dvd_natCast.mp h), hl⟩

open Classical in
/-- The factorisation. -/
noncomputable def fc (n : Nat) : List (Int × Nat) := if h : ∃ l, Fac (n : Int) l then h.choose else []

theorem fc_fac {n : Nat} (h : 1 ≤ n) : Fac (n : Int) (fc n) := by
  unfold fc
  rw [dif_pos (fac_some n h)]
  exact (fac_some n h).choose_spec

theorem fc_eq {n : Nat} {l : List (Int × Nat)} (h : Fac (n : Int) l) (hn : 1 ≤ n) : fc n = l := Fac.uniq (fc_fac hn) h

/-- The function that F tells. -/
noncomputable def mult (F : Nat → Nat → Int) (n : Nat) : Int := val F (fc n)

/-- F, and 1 for no power. -/
def F1 (F : Nat → Nat → Int) (p j : Nat) : Int := if j = 0 then 1 else F p j

theorem sum_mult (F : Nat → Nat → Int) {n : Nat} {l : List (Int × Nat)} (h : Fac (n : Int) l) (hn : 1 ≤ n) : sm (mult F) (dv n) = val (fun p k => sm (F1 F p) (List.range (k + 1))) l := by
  induction l generalizing n with
  | nil =>
    have h1 : n = 1 := by have : (n : Int) = 1 := h; omega
    subst h1
    have e1 : fc 1 = [] := fc_eq (show Fac ((1 : Nat) : Int) [] from rfl) (by omega)
    have e2 : dv 1 = [1] := by decide
    rw [e2]
    show mult F 1 + 0 = 1
    unfold mult
    rw [e1]
    rfl
  | cons x l ih =>
    obtain ⟨q, k⟩ := x
    have hall := h
    obtain ⟨hq, hk, m', hm1, hn', hnd, hF⟩ := h
    have hq2 := hq.1
    obtain ⟨p, rfl⟩ : ∃ p : Nat, q = p := ⟨q.toNat, by omega⟩
    obtain ⟨m, rfl⟩ : ∃ m : Nat, m' = m := ⟨m'.toNat, by omega⟩
    have en : n = p ^ k * m := by
      have : (n : Int) = ((p ^ k * m : Nat) : Int) := by rw [hn', Int.natCast_mul, Int.natCast_pow]
      omega
    have hnd2 : ¬ p ∣ m := fun h => hnd (Int.natCast_dvd_natCast.mpr h)
    have hmm : 1 ≤ m := by omega
    rw [en, sm_perm _ (dv_cut hq.prm hmm hnd2), sm_flatMap]
    have key : ∀ j ∈ List.range (k + 1), sm (mult F) ((dv m).map fun e => p ^ j * e) = F1 F p j * sm (mult F) (dv m) := by
      intro j hj
      have hjk : j ≤ k := by simp at hj; omega
      rw [sm_map, ← sm_mul]
      refine sm_congr fun e he => ?_
      obtain ⟨he1, he2⟩ := (mem_dv hmm).mp he
      unfold F1
      by_cases h0 : j = 0
      · rw [if_pos h0, h0]; simp
      · rw [if_neg h0]
        have hpe : 1 ≤ p ^ j * e := Nat.mul_pos (Nat.pow_pos (by omega)) he1
        have hdvn : p ^ j * e ∣ n := by rw [en]; exact Nat.mul_dvd_mul (Nat.pow_dvd_pow p hjk) he2
        have hmf : IsMf ((p ^ j * e : Nat) : Int) p := ⟨hq.1, Int.natCast_dvd_natCast.mpr (Nat.dvd_trans (Nat.dvd_trans (by rw [Nat.pow_succ]; exact Nat.dvd_mul_left _ _ : p ∣ p ^ (j - 1 + 1)) (by rw [show j - 1 + 1 = j by omega]; exact Nat.dvd_refl _)) (Nat.dvd_mul_right _ _)), fun d h1 h2 h3 => hq.2.2 d h1 h2 (Int.dvd_trans h3 (Int.natCast_dvd_natCast.mpr hdvn))⟩
        have hfac : Fac ((p ^ j * e : Nat) : Int) (((p : Int), j) :: fc e) := ⟨hmf, by omega, (e : Int), by omega, by rw [Int.natCast_mul, Int.natCast_pow], fun h => hnd2 (Nat.dvd_trans (Int.natCast_dvd_natCast.mp h) he2), fc_fac he1⟩
        unfold mult
        rw [fc_eq hfac hpe]
        rfl
    rw [sm_congr key, sm_mul_right, ih hF hmm]
    rfl

/-- EULER's totient, prime by prime. -/
def phF (p k : Nat) : Int := ((p ^ (k - 1) * (p - 1) : Nat) : Int)
theorem val_phi (l : List (Int × Nat)) : val phF l = (phiL l : Nat) := by
  induction l with
  | nil => rfl
  | cons x l ih =>
    obtain ⟨p, k⟩ := x
    simp only [val, phiL, phF, ih, Int.natCast_mul]

theorem sum_phF (p k : Nat) (hp : 1 ≤ p) : sm (F1 phF p) (List.range (k + 1)) = ((p ^ k : Nat) : Int) := by
  induction k with
  | zero => rfl
  | succ k ih =>
    rw [List.range_succ, sm_append, ih]
    show _ + (F1 phF p (k + 1) + 0) = _
    unfold F1 phF
    rw [if_neg (by omega), Nat.add_sub_cancel, Int.add_zero, ← Int.natCast_add]
    congr 1
    have h1 : p ^ (k + 1) = p ^ k * (p - 1 + 1) := by rw [Nat.pow_succ]; congr 1; omega
    rw [h1, Nat.mul_add, Nat.mul_one]; omega

theorem val_pow {n : Int} {l : List (Int × Nat)} (h : Fac n l) : val (fun p k => ((p ^ k : Nat) : Int)) l = n := by
  induction l generalizing n with
  | nil => exact (show n = 1 from h).symm
  | cons x l ih =>
    obtain ⟨q, k⟩ := x
    obtain ⟨hq, hk, m, hm1, hn, hnd, hF⟩ := h
    have := hq.1
    simp only [val, ih hF]
    rw [hn, Int.natCast_pow]
    congr 2
    omega

theorem val_congr {F H : Nat → Nat → Int} {l : List (Int × Nat)} (h : ∀ p k, (p, k) ∈ l → F p.toNat k = H p.toNat k) : val F l = val H l := by
  induction l with
  | nil => rfl
  | cons x l ih =>
    obtain ⟨p, k⟩ := x
    simp only [val]
    rw [h p k (by simp), ih (fun q j hq => h q j (by simp [hq]))]

/-- How many numbers have nothing in common with n. -/
noncomputable def ph (n : Nat) : Int := mult phF n

theorem ph_fac {n : Nat} {l : List (Int × Nat)} (h : Fac (n : Int) l) (hn : 1 ≤ n) : ph n = (phiL l : Nat) := by
  unfold ph mult; rw [fc_eq h hn, val_phi]

/-- GAUSS: of all divisors together it is the number. -/
theorem gauss_sum {n : Nat} (hn : 1 ≤ n) : sm ph (dv n) = n := by
  have h := fc_fac hn
  show sm (mult phF) (dv n) = n
  rw [sum_mult phF h hn]
  rw [← val_pow h]
  refine val_congr fun p k hm => ?_
  have := (h.dvd p k hm).1.1
  exact sum_phF _ _ (by omega)

/-- MOEBIUS's function, prime by prime. -/
def muF (_ k : Nat) : Int := if k = 1 then -1 else 0
noncomputable def mu (n : Nat) : Int := mult muF n

theorem sum_muF (p : Nat) : ∀ k : Nat, 1 ≤ k → sm (F1 muF p) (List.range (k + 1)) = 0 := by
  intro k
  induction k with
  | zero => intro h; omega
  | succ k ih =>
    intro _
    rw [List.range_succ, sm_append]
    by_cases h : k = 0
    · subst h; rfl
    · rw [ih (by omega)]
      show 0 + (F1 muF p (k + 1) + 0) = 0
      unfold F1 muF
      rw [if_neg (by omega), if_neg (by omega)]
      rfl

/-- MOEBIUS: of all divisors together it is nothing, but of 1. -/
theorem moebius_sum {n : Nat} (hn : 1 ≤ n) : sm mu (dv n) = if n = 1 then 1 else 0 := by
  have h := fc_fac hn
  show sm (mult muF) (dv n) = _
  rw [sum_mult muF h hn]
  cases hl : fc n with
  | nil =>
    rw [hl] at h
    have h1 : n = 1 := by have : (n : Int) = 1 := h; omega
    rw [if_pos h1]; rfl
  | cons x l =>
    rw [hl] at h
    obtain ⟨p, k⟩ := x
    obtain ⟨hq, hk, _⟩ := h
    have h1 : n ≠ 1 := by
      have := hq.le (by omega)
      have := hq.1
      omega
    rw [if_neg h1]
    simp only [val]
    rw [sum_muF _ _ hk, Int.zero_mul]

theorem mu_one : mu 1 = 1 := by
  have := moebius_sum (n := 1) (by omega)
  have e : dv 1 = [1] := by decide
  rw [e] at this
  simpa [sm] using this

/-- How many divisors there are. -/
theorem dv_count {n : Nat} (hn : 1 ≤ n) : ((dv n).length : Int) = val (fun _ k => ((k + 1 : Nat) : Int)) (fc n) := by
  have h := fc_fac hn
  have h1 := sum_mult (fun _ _ => 1) h hn
  have e : ∀ d, mult (fun _ _ => 1) d = 1 := fun d => by
    unfold mult
    induction fc d with
    | nil => rfl
    | cons x l ih => obtain ⟨p, k⟩ := x; simp only [val, ih]; rfl
  rw [← sm_one, ← sm_congr (F := mult (fun _ _ => 1)) (fun d _ => e d), h1]
  refine val_congr fun p k _ => ?_
  have e2 : ∀ j ∈ List.range (k + 1), F1 (fun _ _ => 1) p.toNat j = 1 := fun j _ => by unfold F1; split <;> rfl
  rw [sm_congr e2, sm_one, List.length_range]

theorem val_append (F : Nat → Nat → Int) (l k : List (Int × Nat)) : val F (l ++ k) = val F l * val F k := by
  induction l with
  | nil => simp [val]
  | cons x l ih => obtain ⟨p, j⟩ := x; simp only [List.cons_append, val, ih, Int.mul_assoc]

theorem val_perm (F : Nat → Nat → Int) {l k : List (Int × Nat)} (h : l.Perm k) : val F l = val F k := by
  induction h with
  | nil => rfl
  | cons x _ ih => obtain ⟨p, j⟩ := x; simp only [val, ih]
  | swap x y l => obtain ⟨p, j⟩ := x; obtain ⟨q, i⟩ := y; simp only [val, Int.mul_left_comm]
  | trans _ _ ih1 ih2 => rw [ih1, ih2]

theorem Fac.nodup {n : Int} {l : List (Int × Nat)} (h : Fac n l) : l.Nodup := by
  induction l generalizing n with
  | nil => exact List.nodup_nil
  | cons x l ih =>
    obtain ⟨q, k⟩ := x
    obtain ⟨hq, hk, m, hm1, hn, hnd, hF⟩ := h
    refine List.nodup_cons.mpr ⟨fun hm => hnd (hF.dvd q k hm).2.2.1, ih hF⟩

theorem Fac.mem_iff {n : Int} {l : List (Int × Nat)} (h : Fac n l) (p : Int) (k : Nat) : (p, k) ∈ l ↔ Prm p ∧ p ∣ n ∧ Vp p n k := by
  constructor
  · intro hm
    have h1 := h.dvd p k hm
    have h2 := h.vp p h1.1
    rw [h.mem_cnt hm] at h2
    exact ⟨h1.1, h1.2.2.1, h2⟩
  · rintro ⟨h1, h2, h3⟩
    obtain ⟨j, hj⟩ := h.has p h1 h2
    have h4 := h.vp p h1
    rw [h.mem_cnt hj] at h4
    have := h1.1
    have := Vp.uniq (by omega) h3 h4
    rw [this]; exact hj

/-- EULER: of two numbers with nothing in common, multiplied, it is both's, multiplied. -/
theorem val_times (F : Nat → Nat → Int) {a b : Nat} (ha : 1 ≤ a) (hb : 1 ≤ b) (hg : G a b = 1) : val F (fc (a * b)) = val F (fc a) * val F (fc b) := by
  have fa := fc_fac ha
  have fb := fc_fac hb
  have fz := fc_fac (Nat.mul_pos ha hb)
  rw [Int.natCast_mul] at fz
  have hco : ∀ p : Int, Prm p → p ∣ (a : Int) → ¬ p ∣ (b : Int) := fun p hp h1 h2 => by
    have h3 := dvd_G h1 h2
    rw [hg] at h3
    have h4 := Int.le_of_dvd (by omega) h3
    have := hp.1
    omega
  rw [← val_append]
  refine val_perm F ((List.perm_ext_iff_of_nodup (Fac.nodup fz) ?_).mpr ?_)
  · refine List.nodup_append.mpr ⟨Fac.nodup fa, Fac.nodup fb, fun x hx y hy he => ?_⟩
    subst he
    obtain ⟨p, k⟩ := x
    have h1 := fa.dvd p k hx
    exact hco p h1.1 h1.2.2.1 (fb.dvd p k hy).2.2.1
  · rintro ⟨p, k⟩
    rw [Fac.mem_iff fz, List.mem_append, Fac.mem_iff fa, Fac.mem_iff fb]
    constructor
    · rintro ⟨h1, h2, h3⟩
      have hp0 : p ≠ 0 := by have := h1.1; omega
      rcases Pr.euclid h1 h2 with h4 | h4
      · have h5 := Vp.mul h1 (fa.vp p h1) (vp_zero (hco p h1 h4))
        have h6 := Vp.uniq hp0 h3 h5
        refine .inl ⟨h1, h4, ?_⟩
        rw [h6]; exact fa.vp p h1
      · have h5 := Vp.mul h1 (vp_zero (fun h => hco p h1 h h4)) (fb.vp p h1)
        have h6 := Vp.uniq hp0 h3 h5
        refine .inr ⟨h1, h4, ?_⟩
        rw [h6, Nat.zero_add]; exact fb.vp p h1
    · rintro (⟨h1, h2, h3⟩ | ⟨h1, h2, h3⟩)
      · exact ⟨h1, Int.dvd_trans h2 (Int.dvd_mul_right _ _), by have := Vp.mul h1 h3 (vp_zero (hco p h1 h2)); rwa [Nat.add_zero] at this⟩
      · exact ⟨h1, Int.dvd_trans h2 (Int.dvd_mul_left _ _), by have := Vp.mul h1 (vp_zero (fun h => hco p h1 h h2)) h3; rwa [Nat.zero_add] at this⟩

theorem ph_times {a b : Nat} (ha : 1 ≤ a) (hb : 1 ≤ b) (hg : G a b = 1) : ph (a * b) = ph a * ph b := val_times phF ha hb hg
theorem mu_times {a b : Nat} (ha : 1 ≤ a) (hb : 1 ≤ b) (hg : G a b = 1) : mu (a * b) = mu a * mu b := val_times muF ha hb hg
theorem dv_times {a b : Nat} (ha : 1 ≤ a) (hb : 1 ≤ b) (hg : G a b = 1) : ((dv (a * b)).length : Int) = (dv a).length * (dv b).length := by
  rw [dv_count (Nat.mul_pos ha hb), dv_count ha, dv_count hb]
  exact val_times _ ha hb hg

end Go.Proofs.Ytjccpfpldbjcbaa.Dd
