/-
  Choices: VANDERMONDE, rows, symmetry, factorials; LEGENDRE, KUMMER; LUCAS. No Go in sight.
-/
import Derived.Test.YtfdhhiibhkepaaaRsMath
namespace Go.Proofs.Ytfdhhiibhkepaaa.Bi
open Pr Eu Rs

theorem ch_step (n k : Nat) : ch (n + 1) (k + 1) = ch n k + ch n (k + 1) := rfl

-- VANDERMONDE.
/-- The first t terms of VANDERMONDE's sum. -/
def vs (m n k : Nat) : Nat → Nat
  | 0 => 0
  | t + 1 => vs m n k t + ch m t * ch n (k - t)

theorem vs_zero (n k : Nat) : ∀ t : Nat, vs 0 n k (t + 1) = ch n k := by
  intro t
  induction t with
  | zero => simp [vs, ch_zero]
  | succ t ih => show vs 0 n k (t + 1) + ch 0 (t + 1) * ch n (k - (t + 1)) = _; rw [ih, ch_big 0 (t + 1) (by omega)]; simp

theorem vs_succ (m n k : Nat) : ∀ t : Nat, vs (m + 1) n (k + 1) (t + 1) = vs m n (k + 1) (t + 1) + vs m n k t := by
  intro t
  induction t with
  | zero => simp [vs, ch_zero]
  | succ t ih =>
    show vs (m + 1) n (k + 1) (t + 1) + ch (m + 1) (t + 1) * ch n (k + 1 - (t + 1)) = (vs m n (k + 1) (t + 1) + ch m (t + 1) * ch n (k + 1 - (t + 1))) + (vs m n k t + ch m t * ch n (k - t))
    rw [ih, ch_step, Nat.add_mul, show k + 1 - (t + 1) = k - t by omega]
    omega

theorem vander (m n : Nat) : ∀ k : Nat, vs m n k (k + 1) = ch (m + n) k := by
  induction m with
  | zero => intro k; rw [vs_zero, Nat.zero_add]
  | succ m ih =>
    intro k
    match k with
    | 0 => simp [vs, ch_zero]
    | k + 1 => rw [vs_succ, ih, ih, show m + 1 + n = m + n + 1 by omega, ch_step, Nat.add_comm]

/-- The first t of a row. -/
def rs (n : Nat) : Nat → Nat
  | 0 => 0
  | t + 1 => rs n t + ch n t

theorem rs_succ (n : Nat) : ∀ t : Nat, rs (n + 1) (t + 1) = rs n (t + 1) + rs n t := by
  intro t
  induction t with
  | zero => simp [rs, ch_zero]
  | succ t ih =>
    show rs (n + 1) (t + 1) + ch (n + 1) (t + 1) = (rs n (t + 1) + ch n (t + 1)) + (rs n t + ch n t)
    rw [ih, ch_step]; omega

/-- A whole row is a power of two. -/
theorem rs_all (n : Nat) : rs n (n + 1) = 2 ^ n := by
  induction n with
  | zero => rfl
  | succ n ih =>
    rw [rs_succ]
    show rs n (n + 1) + ch n (n + 1) + rs n (n + 1) = _
    rw [ch_big n (n + 1) (by omega), ih, Nat.pow_succ]; omega

theorem ch_sym : ∀ (n k : Nat), k ≤ n → ch n (n - k) = ch n k := by
  intro n
  induction n with
  | zero => intro k hk; obtain rfl : k = 0 := by omega
            rfl
  | succ n ih =>
    intro k hk
    match k, hk with
    | 0, _ => rw [Nat.sub_zero, ch_self, ch_zero]
    | k + 1, hk =>
      by_cases he : k = n
      · subst he; rw [Nat.sub_self, ch_self, ch_zero]
      · obtain ⟨j, hj⟩ : ∃ j, n - k = j + 1 := ⟨n - k - 1, by omega⟩
        have h1 := ih k (by omega)
        have h2 := ih (k + 1) (by omega)
        rw [show n + 1 - (k + 1) = j + 1 by omega, ch_step, ch_step, ← h1, ← h2, hj, show n - (k + 1) = j by omega, Nat.add_comm]

/-- From one of a row to the next. -/
theorem ch_next {n i : Nat} (h : i ≤ n) : ch n (i + 1) * (i + 1) = ch n i * (n - i) := by
  have h1 := ch_mul n i
  rw [ch_step, Nat.mul_add] at h1
  obtain ⟨d, rfl⟩ : ∃ d, n = i + d := ⟨n - i, by omega⟩
  rw [show i + d + 1 = (i + 1) + d by omega, Nat.add_mul (i + 1)] at h1
  rw [show i + d - i = d by omega, Nat.mul_comm, Nat.mul_comm (ch (i + d) i)]
  omega

theorem ch_pos {n k : Nat} : k ≤ n → 1 ≤ ch n k := by
  induction n generalizing k with
  | zero => intro h; obtain rfl : k = 0 := by omega
            exact Nat.le_refl 1
  | succ n ih =>
    intro h
    match k, h with
    | 0, _ => rw [ch_zero]; exact Nat.le_refl 1
    | k + 1, h => have := ih (k := k) (by omega); rw [ch_step]; omega

-- How great they are, up to 60.
def nrow (l : List Nat) : List Nat := List.zipWith (· + ·) (0 :: l) (l ++ [0])
def rowsOk : Nat → List Nat → Bool
  | 0, _ => true
  | k + 1, l => l.all (fun x => decide (x ≤ 118264581564861424)) && rowsOk k (nrow l)

def rowN (n : Nat) : List Nat := (List.range (n + 1)).map (ch n)
theorem nrow_row (n : Nat) : nrow (rowN n) = rowN (n + 1) := by
  unfold nrow rowN
  apply List.ext_getElem
  · simp
  · intro i h1 h2
    simp at h1 h2
    rw [List.getElem_zipWith, List.getElem_map, List.getElem_range]
    match i with
    | 0 => simp [ch_zero]
    | i + 1 =>
      rw [List.getElem_cons_succ, List.getElem_map, List.getElem_range, ch_step]
      by_cases h : i + 1 < n + 1
      · rw [List.getElem_append_left (by simpa using h), List.getElem_map, List.getElem_range]
      · rw [List.getElem_append_right (by simp; omega), ch_big n (i + 1) (by omega)]
        simp

theorem rowsOk_at : ∀ (c n : Nat), rowsOk c (rowN n) = true → ∀ d, d < c → ∀ k, k ≤ n + d → ch (n + d) k ≤ 118264581564861424 := by
  intro c
  induction c with
  | zero => intro n _ d hd; omega
  | succ c ih =>
    intro n h d hd k hk
    unfold rowsOk at h
    rw [Bool.and_eq_true] at h
    match d, hd with
    | 0, _ =>
      have := List.all_eq_true.mp h.1 (ch n k) (List.mem_map.mpr ⟨k, List.mem_range.mpr (by omega), rfl⟩)
      simpa using this
    | d + 1, hd =>
      have := ih (n + 1) (by rw [← nrow_row]; exact h.2) d (by omega) k (by omega)
      rwa [show n + 1 + d = n + (d + 1) by omega] at this

theorem ch_bound {n k : Nat} (h : n ≤ 60) : ch n k ≤ 118264581564861424 := by
  by_cases hk : k ≤ n
  · have := rowsOk_at 61 0 (by decide +kernel) n (by omega) k (by omega)
    rwa [Nat.zero_add] at this
  · rw [ch_big n k (by omega)]; omega

-- Factorials, LEGENDRE, KUMMER.
def fa : Nat → Nat
  | 0 => 1
  | n + 1 => (n + 1) * fa n

theorem ch_fa : ∀ (n k : Nat), k ≤ n → ch n k * (fa k * fa (n - k)) = fa n := by
  intro n
  induction n with
  | zero => intro k hk; obtain rfl : k = 0 := by omega
            rfl
  | succ n ih =>
    intro k hk
    match k, hk with
    | 0, _ => rw [ch_zero, Nat.sub_zero]; show 1 * (1 * fa (n + 1)) = _; omega
    | k + 1, hk =>
      have h1 := ih k (by omega)
      rw [show n + 1 - (k + 1) = n - k by omega]
      show ch (n + 1) (k + 1) * ((k + 1) * fa k * fa (n - k)) = (n + 1) * fa n
      rw [← h1, Nat.mul_assoc (k + 1), ← Nat.mul_assoc, Nat.mul_comm (ch (n + 1) (k + 1)), ch_mul, Nat.mul_assoc]

/-- How often p divides what n things can be ordered in: LEGENDRE. -/
def often (p n : Nat) : Nat := if _h : 2 ≤ p ∧ 0 < n then n / p + often p (n / p) else 0
termination_by n
decreasing_by exact Nat.div_lt_self _h.2 (by omega)

theorem often_zero (p : Nat) : often p 0 = 0 := by rw [often, dif_neg (by omega)]
theorem often_step {p : Nat} (hp : 2 ≤ p) (n : Nat) : often p n = n / p + often p (n / p) := by
  by_cases h : 0 < n
  · rw [often, dif_pos ⟨hp, h⟩]
  · obtain rfl : n = 0 := by omega
    rw [often_zero, Nat.zero_div, often_zero]

theorem vp_some {p : Nat} (hp : 2 ≤ p) : ∀ n : Nat, 1 ≤ n → ∃ k, Vp p n k := by
  intro n
  induction n using Nat.strongRecOn with
  | ind n ih =>
    intro hn
    by_cases hd : p ∣ n
    · obtain ⟨m, rfl⟩ := hd
      have hm : 1 ≤ m := by
        refine Decidable.byContradiction fun h => ?_
        obtain rfl : m = 0 := by omega
        omega
      have hlt : m < p * m := by
        have : 2 * m ≤ p * m := Nat.mul_le_mul_right m hp
        omega
      obtain ⟨k, x, hx, hnx⟩ := ih m hlt hm
      exact ⟨k + 1, x, by rw [Int.natCast_mul, hx, Int.pow_succ]; ac_rfl, hnx⟩
    · exact ⟨0, vp_zero (fun h => hd (Int.natCast_dvd_natCast.mp h))⟩

theorem div_pred {p n : Nat} (hp : 2 ≤ p) (h : n % p ≠ 0) : (n - 1) / p = n / p := by
  have h3 := Nat.div_add_mod n p
  have h4 := Nat.mod_lt n (y := p) (by omega)
  generalize n % p = r at *
  generalize n / p = q at *
  subst h3
  rw [show p * q + r - 1 = (r - 1) + p * q by omega, Nat.add_mul_div_left _ _ (by omega), Nat.div_eq_of_lt (by omega), Nat.zero_add]

theorem often_vp {p : Nat} (hp : Prm p) : ∀ n : Nat, 1 ≤ n → ∀ k, Vp p n k → often p n = often p (n - 1) + k := by
  have hp2 : 2 ≤ p := by have := hp.1; omega
  intro n
  induction n using Nat.strongRecOn with
  | ind n ih =>
    intro hn k hk
    by_cases hd : p ∣ n
    · obtain ⟨m, rfl⟩ := hd
      have hm : 1 ≤ m := by
        refine Decidable.byContradiction fun h => ?_
        obtain rfl : m = 0 := by omega
        omega
      have hlt : m < p * m := by
        have : 2 * m ≤ p * m := Nat.mul_le_mul_right m hp2
        omega
      obtain ⟨j, hj⟩ := vp_some hp2 m hm
      have hj1 : Vp p ((p * m : Nat) : Int) (j + 1) := by
        obtain ⟨x, hx, hnx⟩ := hj
        exact ⟨x, by rw [Int.natCast_mul, hx, Int.pow_succ]; ac_rfl, hnx⟩
      have hkj := hk.uniq (by omega) hj1
      have h1 := ih m hlt hm j hj
      have e1 : p * m / p = m := Nat.mul_div_cancel_left m (by omega)
      have e2 : (p * m - 1) / p = m - 1 := by
        obtain ⟨q, rfl⟩ : ∃ q, m = q + 1 := ⟨m - 1, by omega⟩
        rw [Nat.mul_succ, show p * q + p - 1 = p - 1 + p * q by omega, Nat.add_mul_div_left _ _ (by omega), Nat.div_eq_of_lt (by omega)]
        omega
      rw [often_step hp2 (p * m), often_step hp2 (p * m - 1), e1, e2]
      omega
    · have hk0 := hk.uniq (by omega) (vp_zero (fun h => hd (Int.natCast_dvd_natCast.mp h)))
      have e : n / p = (n - 1) / p := by
        have hne : n % p ≠ 0 := fun h => hd (Nat.dvd_of_mod_eq_zero h)
        exact (div_pred hp2 hne).symm
      rw [often_step hp2 n, often_step hp2 (n - 1), e]
      omega

theorem vp_fa {p : Nat} (hp : Prm p) (n : Nat) : Vp p (fa n : Nat) (often p n) := by
  have hp2 : 2 ≤ p := by have := hp.1; omega
  induction n with
  | zero =>
    rw [often_zero]
    refine vp_zero fun h => ?_
    have := Int.le_of_dvd (by decide) h
    have e : ((fa 0 : Nat) : Int) = 1 := rfl
    omega
  | succ n ih =>
    obtain ⟨k, hk⟩ := vp_some hp2 (n + 1) (by omega)
    have h1 := often_vp hp (n + 1) (by omega) k hk
    rw [show n + 1 - 1 = n by omega] at h1
    have := Vp.mul hp hk ih
    rw [show often p (n + 1) = k + often p n by omega]
    show Vp p (((n + 1) * fa n : Nat) : Int) _
    rw [Int.natCast_mul]
    exact this

/-- LEGENDRE, of choices. -/
theorem kummer {p : Nat} (hp : Prm p) {n k : Nat} (hk : k ≤ n) : ∃ e, Vp p (ch n k : Nat) e ∧ e + (often p k + often p (n - k)) = often p n := by
  have hp2 : 2 ≤ p := by have := hp.1; omega
  obtain ⟨e, he⟩ := vp_some hp2 (ch n k) (ch_pos hk)
  have h1 := Vp.mul hp he (Vp.mul hp (vp_fa hp k) (vp_fa hp (n - k)))
  rw [← Int.natCast_mul, ← Int.natCast_mul, ch_fa n k hk] at h1
  exact ⟨e, he, h1.uniq (by omega) (vp_fa hp n)⟩

theorem vp_pos {p n : Int} {e : Nat} (h : Vp p n e) : 0 < e ↔ p ∣ n := by
  obtain ⟨m, hm, hnd⟩ := h
  constructor
  · intro he
    obtain ⟨j, rfl⟩ : ∃ j, e = j + 1 := ⟨e - 1, by omega⟩
    rw [hm, Int.pow_succ, Int.mul_comm (p ^ j), Int.mul_assoc]
    exact Int.dvd_mul_right _ _
  · intro hd
    refine Decidable.byContradiction fun hc => ?_
    obtain rfl : e = 0 := by omega
    rw [Int.pow_zero, Int.one_mul] at hm
    exact hnd (hm ▸ hd)

/-- What is carried: one place. -/
theorem carry_div {p k l c : Nat} (hp : 2 ≤ p) : (k + l + c) / p = k / p + l / p + (k % p + l % p + c) / p := by
  have h1 := Nat.div_add_mod k p
  have h2 := Nat.div_add_mod l p
  have e : k + l + c = (k % p + l % p + c) + p * (k / p + l / p) := by rw [Nat.mul_add]; omega
  rw [e, Nat.add_mul_div_left _ _ (by omega)]
  have h3 := Nat.mod_mod k p
  omega

theorem carry_often {p k l c : Nat} (hp : 2 ≤ p) {d : Nat} (hd : (k % p + l % p + c) / p = d) {T : Nat} (h : often p (k / p + l / p + d) = often p (k / p) + often p (l / p) + T) :
    often p (k + l + c) = often p k + often p l + (d + T) := by
  rw [often_step hp (k + l + c), often_step hp k, often_step hp l, carry_div hp, hd, h]
  omega

-- LUCAS.
theorem vs_mod {p : Nat} (hp : Prm p) (n k : Nat) : ∀ t : Nat, vs p n k (t + 1) % p = (ch n k + if p ≤ t then ch n (k - p) else 0) % p := by
  have hp2 : 2 ≤ p := by have := hp.1; omega
  intro t
  induction t with
  | zero => rw [if_neg (by omega)]; simp [vs, ch_zero]
  | succ t ih =>
    show (vs p n k (t + 1) + ch p (t + 1) * ch n (k - (t + 1))) % p = _
    rw [Nat.add_mod, ih]
    by_cases h1 : t + 1 < p
    · have hd : p ∣ ch p (t + 1) := Int.natCast_dvd_natCast.mp (prm_dvd_ch hp (by omega) h1)
      rw [if_neg (by omega), if_neg (by omega), Nat.mod_eq_zero_of_dvd (Nat.dvd_trans hd (Nat.dvd_mul_right _ _))]
      simp
    · by_cases h2 : t + 1 = p
      · rw [if_neg (by omega), if_pos (by omega), h2, ch_self, Nat.one_mul, Nat.add_zero, ← Nat.add_mod]
      · rw [if_pos (by omega), if_pos (by omega), ch_big p (t + 1) (by omega)]
        simp

theorem ch_add_p {p : Nat} (hp : Prm p) (n k : Nat) : ch (p + n) k % p = (ch n k + if p ≤ k then ch n (k - p) else 0) % p := by
  rw [← vander, vs_mod hp]

theorem lucas_ab {p : Nat} (hp : Prm p) {b d : Nat} (hb : b < p) (hd : d < p) : ∀ a c : Nat, ch (a * p + b) (c * p + d) % p = ch a c * ch b d % p := by
  intro a
  induction a with
  | zero =>
    intro c
    match c with
    | 0 => rw [Nat.zero_mul, Nat.zero_add, Nat.zero_add, ch_zero, Nat.one_mul]
    | c + 1 =>
      rw [Nat.zero_mul, Nat.zero_add, ch_big b _ (by rw [Nat.succ_mul]; omega), ch_big 0 (c + 1) (by omega), Nat.zero_mul]
  | succ a ih =>
    intro c
    rw [show (a + 1) * p + b = p + (a * p + b) by rw [Nat.succ_mul]; omega, ch_add_p hp]
    match c with
    | 0 =>
      have h := ih 0
      rw [Nat.zero_mul, Nat.zero_add, ch_zero] at h ⊢
      rw [if_neg (by omega), Nat.add_zero, h]
    | c + 1 =>
      have e : (c + 1) * p + d - p = c * p + d := by rw [Nat.succ_mul]; omega
      rw [if_pos (by rw [Nat.succ_mul]; omega), e, Nat.add_mod, ih, ih, ← Nat.add_mod, ch_step, Nat.add_mul, Nat.add_comm]

/-- LUCAS. -/
theorem lucas {p : Nat} (hp : Prm p) (n k : Nat) : ch n k % p = ch (n / p) (k / p) * ch (n % p) (k % p) % p := by
  have hp2 : 2 ≤ p := by have := hp.1; omega
  have := lucas_ab hp (Nat.mod_lt n (y := p) (by omega)) (Nat.mod_lt k (y := p) (by omega)) (n / p) (k / p)
  rwa [Nat.mul_comm (n / p), Nat.mul_comm (k / p), Nat.div_add_mod, Nat.div_add_mod] at this

end Go.Proofs.Ytfdhhiibhkepaaa.Bi
