/-
  Several texts in one:
  - Polynomials over the field of 256: values, roots, those through points; VANDERMONDE's and CAUCHY's determinants. No Go in sight.
  - Polynomials over the field of 256: no more roots than numbers; through so many points goes one. No Go in sight.
  - NEWTON: the numbers of the polynomial through points, step by step; its value from them. No Go in sight.
  - Rows of values of a polynomial, some of them wrong: there is one that is near, at most; BERLEKAMP and WELCH. No Go in sight.
-/
import Derived.Test.YtgdfmmdjnifjeaaGmx
namespace Go.Proofs.Ytgdfmmdjnifjeaa.Gf

/-- Its value. -/
def pv : List E → E → E
  | [], _ => 0
  | a :: f, x => a + x * pv f x

/-- The number at a place. -/
def cf (f : List E) (i : Nat) : E := f.getD i 0
theorem cf_zero (a : E) (f : List E) : cf (a :: f) 0 = a := rfl
theorem cf_succ (a : E) (f : List E) (i : Nat) : cf (a :: f) (i + 1) = cf f i := by simp [cf]
theorem cf_nil (i : Nat) : cf [] i = 0 := rfl

/-- Multiplied by itself. -/
def ep (x : E) : Nat → E
  | 0 => 1
  | n + 1 => ep x n * x
theorem ep_v (x : E) : ∀ n, (ep x n).v = gp x.v n := by
  intro n
  induction n with
  | zero => rfl
  | succ n ih => show gm (ep x n).v x.v = _; rw [ih]; rfl
theorem ep_succ (x : E) (n : Nat) : ep x (n + 1) = x * ep x n := E.mul_comm _ _

theorem sg_shift (F : Nat → E) (n : Nat) : sg F (List.range (n + 1)) = F 0 + sg (fun k => F (k + 1)) (List.range n) := by
  rw [List.range_succ_eq_map, sg]
  congr 1
  have : ∀ l : List Nat, sg F (l.map Nat.succ) = sg (fun k => F (k + 1)) l := fun l => by
    induction l with
    | nil => rfl
    | cons k l ih => rw [List.map_cons, sg, sg, ih]
  exact this _

/-- As a sum. -/
theorem pv_sum (x : E) : ∀ (f : List E) (n : Nat), f.length ≤ n → pv f x = sg (fun k => ep x k * cf f k) (List.range n) := by
  intro f
  induction f with
  | nil => intro n _; rw [sg_congr (H := fun _ => 0) fun k _ => by rw [cf_nil, E.mul_zero], sg_zero]; rfl
  | cons a f ih =>
    intro n hn
    obtain ⟨m, rfl⟩ : ∃ m, n = m + 1 := ⟨n - 1, by simp at hn; omega⟩
    rw [sg_shift, pv, ih m (by simpa using hn), ← sg_mul]
    congr 1
    · rw [cf_zero]; exact (E.one_mul a).symm
    · refine sg_congr fun k _ => ?_
      rw [cf_succ, ep_succ, E.mul_assoc]

/-- Times x and b. -/
def ml (b : E) : List E → List E
  | [] => []
  | a :: f => b * a :: (match ml b f with
    | [] => [a]
    | d :: g => (a + d) :: g)

theorem ml_pv (b x : E) : ∀ f, pv (ml b f) x = (x + b) * pv f x := by
  intro f
  induction f with
  | nil => exact (E.mul_zero _).symm
  | cons a f ih =>
    rw [ml]
    cases h : ml b f with
    | nil =>
      rw [h] at ih
      have hz : (x + b) * pv f x = 0 := ih.symm
      have e : (x + b) * (a + x * pv f x) = x * a + b * a := by rw [E.mul_add, E.swap_mul, hz, E.mul_zero, E.add_zero, E.add_mul]
      show b * a + x * (a + x * 0) = (x + b) * (a + x * pv f x)
      rw [e, E.mul_zero, E.add_zero, E.add_comm]
    | cons d g =>
      rw [h] at ih
      have hz : d + x * pv g x = (x + b) * pv f x := ih
      have e : (x + b) * (a + x * pv f x) = x * a + b * a + x * (d + x * pv g x) := by rw [E.mul_add, E.swap_mul, ← hz, E.add_mul]
      show b * a + x * (a + d + x * pv g x) = (x + b) * (a + x * pv f x)
      rw [e, E.mul_add, E.mul_add, E.mul_add]
      ac_rfl

theorem ml_length (b : E) : ∀ f, f ≠ [] → (ml b f).length = f.length + 1 := by
  intro f
  induction f with
  | nil => intro h; exact absurd rfl h
  | cons a f ih =>
    intro _
    rw [ml]
    by_cases hf : f = []
    · subst hf
      rfl
    · have := ih hf
      cases h : ml b f with
      | nil => rw [h] at this; simp at this
      | cons d g => rw [h] at this; simpa using this
theorem ml_last (b : E) : ∀ f, f ≠ [] → cf (ml b f) f.length = cf f (f.length - 1) := by
  intro f
  induction f with
  | nil => intro h; exact absurd rfl h
  | cons a f ih =>
    intro _
    rw [ml]
    by_cases hf : f = []
    · subst hf
      rfl
    · have h1 := ih hf
      have h2 := ml_length b f hf
      have hp := List.length_pos_iff.mpr hf
      cases h : ml b f with
      | nil => rw [h] at h2; simp at h2
      | cons d g =>
        rw [h] at h1 h2
        rw [List.length_cons, cf_succ]
        obtain ⟨m, hm⟩ : ∃ m, f.length = m + 1 := ⟨f.length - 1, by omega⟩
        rw [hm] at h1 ⊢
        rw [cf_succ] at h1 ⊢
        rw [h1, Nat.add_sub_cancel, Nat.add_sub_cancel, cf_succ]

/-- What vanishes at the places before j. -/
def np (x : Nat → E) : Nat → List E
  | 0 => [1]
  | j + 1 => ml (x j) (np x j)
theorem np_length (x : Nat → E) : ∀ j, (np x j).length = j + 1 := by
  intro j
  induction j with
  | zero => rfl
  | succ j ih => rw [np, ml_length _ _ (by intro e; rw [e] at ih; simp at ih), ih]
theorem np_last (x : Nat → E) : ∀ j, cf (np x j) j = 1 := by
  intro j
  induction j with
  | zero => rfl
  | succ j ih =>
    have h := ml_last (x j) (np x j) (by intro e; have := np_length x j; rw [e] at this; simp at this)
    rw [np_length, Nat.add_sub_cancel] at h
    rw [np, h, ih]

/-- The product over the places before j. -/
def pd (F : Nat → E) : Nat → E
  | 0 => 1
  | j + 1 => F j * pd F j
theorem np_pv (x : Nat → E) (y : E) : ∀ j, pv (np x j) y = pd (fun k => y + x k) j := by
  intro j
  induction j with
  | zero => show 1 + y * 0 = 1; rw [E.mul_zero, E.add_zero]
  | succ j ih => rw [np, ml_pv, ih, pd]
theorem pd_none {F : Nat → E} {k : Nat} (h : F k = 0) : ∀ j, k < j → pd F j = 0 := by
  intro j
  induction j with
  | zero => intro h; omega
  | succ j ih =>
    intro hk
    rw [pd]
    by_cases e : k = j
    · rw [← e, h, E.zero_mul]
    · rw [ih (by omega), E.mul_zero]
theorem pd_not {F : Nat → E} : ∀ j, (∀ k, k < j → F k ≠ 0) → pd F j ≠ 0 := by
  intro j
  induction j with
  | zero => intro _; exact E.one_ne
  | succ j ih =>
    intro h e
    rcases E.none e with h1 | h1
    · exact h j (by omega) h1
    · exact ih (fun k hk => h k (by omega)) h1

/-- The columns in any order. -/
theorem dt_cols : ∀ (rs : List Rw) (C D : List Nat), C.Perm D → C.Nodup → dt rs C = dt rs D := by
  intro rs
  induction rs with
  | nil => intro C D _ _; rfl
  | cons r rs ih =>
    intro C D h hC
    rw [dt, dt, sg_perm _ h]
    exact sg_congr fun k _ => by rw [ih (C.erase k) (D.erase k) (h.erase k) (hC.erase k)]

/-- A product over pairs. -/
def pds (M : Nat → Nat → E) : List (Nat × Nat) → E
  | [] => 1
  | a :: P => M a.1 a.2 * pds M P

/-- A step form's determinant. -/
theorem dt_tri (M : Nat → Nat → E) : ∀ (P : List (Nat × Nat)), (P.map (·.2)).Nodup → P.Pairwise (fun a b => M b.1 a.2 = 0) → dt ((P.map (·.1)).map M) (P.map (·.2)) = pds M P := by
  intro P
  induction P with
  | nil => intro _ _; rfl
  | cons a P ih =>
    intro hn hp
    have hn1 := List.nodup_cons.mp (show (a.2 :: P.map (·.2)).Nodup from hn)
    have hp1 := List.pairwise_cons.mp hp
    show dt (M a.1 :: (P.map (·.1)).map M) (a.2 :: P.map (·.2)) = M a.1 a.2 * pds M P
    rw [dt, sg, List.erase_cons_head, ih hn1.2 hp1.2, sg_congr (H := fun _ => 0) fun k hk => ?_, sg_zero, E.add_zero]
    have hne : a.2 ≠ k := by rintro e; exact hn1.1 (by rw [e]; exact hk)
    rw [List.erase_cons_tail (by simpa using hne), dt_colz _ _ (List.nodup_cons.mpr ⟨fun h => hn1.1 (List.mem_of_mem_erase h), hn1.2.erase k⟩) ?_ fun r hr => ?_, E.mul_zero]
    · rw [List.length_erase_of_mem hk]
      have := List.length_pos_of_mem hk
      simp only [List.length_map] at *
      omega
    · simp only [List.mem_map] at hr
      obtain ⟨i, ⟨b, hb, rfl⟩, rfl⟩ := hr
      exact hp1.1 b hb

/-- Places on the diagonal. -/
theorem diag_one (n : Nat) : ((List.range n).map fun i => (i, i)).map (·.1) = List.range n ∧ ((List.range n).map fun i => (i, i)).map (·.2) = List.range n := by
  constructor <;> simp [Function.comp_def]

theorem dt_low {M : Nat → Nat → E} {n : Nat} (h : ∀ i j, i < j → j < n → M i j = 0) : dt ((List.range n).map M) (List.range n) = pds M (((List.range n).map fun i => (i, i)).reverse) := by
  have h1 := dt_tri M (((List.range n).map fun i => (i, i)).reverse)
  rw [List.map_reverse, List.map_reverse, (diag_one n).1, (diag_one n).2] at h1
  rw [← h1]
  · rw [dt_cols _ _ _ (List.reverse_perm (List.range n)).symm List.nodup_range]
    exact dt_perm ((List.reverse_perm (List.range n)).symm.map M) ((List.reverse_perm _).nodup_iff.mpr List.nodup_range)
  · exact (List.reverse_perm _).nodup_iff.mpr List.nodup_range
  · rw [List.pairwise_reverse, List.pairwise_map]
    refine List.Pairwise.imp_of_mem ?_ List.pairwise_lt_range
    intro a b _ hb hab
    exact h a b hab (List.mem_range.mp hb)

theorem dt_up {M : Nat → Nat → E} {n : Nat} (h : ∀ i j, j < i → i < n → M i j = 0) : dt ((List.range n).map M) (List.range n) = pds M ((List.range n).map fun i => (i, i)) := by
  have h1 := dt_tri M ((List.range n).map fun i => (i, i))
  rw [(diag_one n).1, (diag_one n).2] at h1
  refine h1 List.nodup_range ?_
  rw [List.pairwise_map]
  refine List.Pairwise.imp_of_mem ?_ List.pairwise_lt_range
  intro a b _ hb hab
  exact h b a hab (List.mem_range.mp hb)

theorem pds_ones {M : Nat → Nat → E} : ∀ {P : List (Nat × Nat)}, (∀ a ∈ P, M a.1 a.2 = 1) → pds M P = 1 := by
  intro P
  induction P with
  | nil => intro _; rfl
  | cons a P ih => intro h; rw [pds, h a List.mem_cons_self, E.one_mul, ih fun b hb => h b (List.mem_cons_of_mem _ hb)]
theorem pds_not {M : Nat → Nat → E} : ∀ {P : List (Nat × Nat)}, (∀ a ∈ P, M a.1 a.2 ≠ 0) → pds M P ≠ 0 := by
  intro P
  induction P with
  | nil => intro _; exact E.one_ne
  | cons a P ih =>
    intro h e
    rcases E.none e with h1 | h1
    · exact h a List.mem_cons_self h1
    · exact ih (fun b hb => h b (List.mem_cons_of_mem _ hb)) h1
theorem pds_congr {M N : Nat → Nat → E} : ∀ {P : List (Nat × Nat)}, (∀ a ∈ P, M a.1 a.2 = N a.1 a.2) → pds M P = pds N P := by
  intro P
  induction P with
  | nil => intro _; rfl
  | cons a P ih => intro h; rw [pds, pds, h a List.mem_cons_self, ih fun b hb => h b (List.mem_cons_of_mem _ hb)]
theorem pds_perm {M : Nat → Nat → E} {P Q : List (Nat × Nat)} (h : P.Perm Q) : pds M P = pds M Q := by
  induction h with
  | nil => rfl
  | cons x _ ih => rw [pds, pds, ih]
  | swap x y l => rw [pds, pds, pds, pds, E.swap_mul]
  | trans _ _ ih1 ih2 => rw [ih1, ih2]

/-- Two matrices multiplied, by places below n. -/
theorem dt_prod (A B : Nat → Nat → E) (n : Nat) : dt ((List.range n).map fun i => rb (A i) B (List.range n)) (List.range n) = dt ((List.range n).map A) (List.range n) * dt ((List.range n).map B) (List.range n) := by
  have h := dt_mul B (C := List.range n) List.nodup_range ((List.range n).map A) (List.range n) [] List.nodup_range (by simp)
  rw [List.append_nil, List.append_nil, List.map_map] at h
  exact h

/-- VANDERMONDE. -/
theorem vander (x : Nat → E) (n : Nat) : dt ((List.range n).map fun i j => ep (x i) j) (List.range n) = pds (fun i j => pd (fun k => x i + x k) j) ((List.range n).map fun i => (i, i)) := by
  have h1 := dt_prod (fun i j => ep (x i) j) (fun k j => cf (np x j) k) n
  have h2 : dt ((List.range n).map fun k j => cf (np x j) k) (List.range n) = 1 := by
    rw [dt_up fun i j hij _ => ?_]
    · refine pds_ones fun a ha => ?_
      obtain ⟨i, _, rfl⟩ := List.mem_map.mp ha
      exact np_last x i
    · unfold cf
      rw [List.getD_eq_getElem?_getD, List.getElem?_eq_none (by rw [np_length]; omega)]
      rfl
  rw [h2, E.mul_one] at h1
  rw [← h1, dt_entries (C := List.range n) (ss := (List.range n).map fun i j => pd (fun k => x i + x k) j) (fun j h => h) (by simp) fun i g1 g2 j hj => ?_, dt_low fun i j hij _ => pd_none (E.add_self _) j hij]
  · exact pds_perm (List.reverse_perm _)
  · simp only [List.getElem_map, List.getElem_range]
    show sg (fun k => ep (x i) k * cf (np x j) k) (List.range n) = _
    rw [← np_pv, pv_sum (x i) (np x j) n (by rw [np_length]; exact List.mem_range.mp hj)]

theorem vander_not {x : Nat → E} {n : Nat} (hx : ∀ i k, k < i → i < n → x i ≠ x k) : dt ((List.range n).map fun i j => ep (x i) j) (List.range n) ≠ 0 := by
  rw [vander]
  refine pds_not fun a ha => ?_
  obtain ⟨i, hi, rfl⟩ := List.mem_map.mp ha
  refine pd_not i fun k hk e => hx i k hk (List.mem_range.mp hi) ?_
  have h2 : x i + x k + x k = 0 + x k := by rw [e]
  rwa [E.add_assoc, E.add_self, E.add_zero, E.zero_add] at h2

/-- What vanishes at all places below n but j. -/
def op (y : Nat → E) (j : Nat) : Nat → List E
  | 0 => [1]
  | k + 1 => if k = j then op y j k else ml (y k) (op y j k)
def od (F : Nat → E) (j : Nat) : Nat → E
  | 0 => 1
  | k + 1 => if k = j then od F j k else F k * od F j k
theorem op_pv (y : Nat → E) (j : Nat) (z : E) : ∀ n, pv (op y j n) z = od (fun k => z + y k) j n := by
  intro n
  induction n with
  | zero => show 1 + z * 0 = 1; rw [E.mul_zero, E.add_zero]
  | succ n ih =>
    rw [op, od]
    split
    · exact ih
    · rw [ml_pv, ih]
theorem op_length (y : Nat → E) (j : Nat) : ∀ n, (op y j n).length = if j < n then n else n + 1 := by
  intro n
  induction n with
  | zero => rfl
  | succ n ih =>
    rw [op]
    split
    · rename_i h
      rw [ih, if_neg (by omega), if_pos (by omega)]
    · rw [ml_length _ _ (by intro e; rw [e] at ih; split at ih <;> simp at ih; omega), ih]
      split <;> split <;> omega
theorem od_none {F : Nat → E} {j k : Nat} (h : F k = 0) (hne : k ≠ j) : ∀ n, k < n → od F j n = 0 := by
  intro n
  induction n with
  | zero => intro h; omega
  | succ n ih =>
    intro hk
    rw [od]
    by_cases e : k = n
    · subst e
      rw [if_neg hne, h, E.zero_mul]
    · split
      · exact ih (by omega)
      · rw [ih (by omega), E.mul_zero]
theorem od_not {F : Nat → E} {j : Nat} : ∀ n, (∀ k, k < n → k ≠ j → F k ≠ 0) → od F j n ≠ 0 := by
  intro n
  induction n with
  | zero => intro _; exact E.one_ne
  | succ n ih =>
    intro h
    rw [od]
    split
    · exact ih fun k hk hne => h k (by omega) hne
    · rename_i hn
      intro e
      rcases E.none e with h1 | h1
      · exact h n (by omega) hn h1
      · exact ih (fun k hk hne => h k (by omega) hne) h1
/-- All of them: the one times the others. -/
theorem od_all (F : Nat → E) (j : Nat) : ∀ n, j < n → F j * od F j n = pd F n := by
  intro n
  induction n with
  | zero => intro h; omega
  | succ n ih =>
    intro h
    rw [od, pd]
    by_cases e : n = j
    · subst e
      rw [if_pos rfl]
      congr 1
      have : ∀ m, m ≤ n → od F n m = pd F m := by
        intro m
        induction m with
        | zero => intro _; rfl
        | succ m ihm => intro hm; rw [od, pd, if_neg (by omega), ihm (by omega)]
      exact this n (Nat.le_refl n)
    · rw [if_neg e, E.swap_mul, ih (by omega)]

/-- A row is scaled. -/
theorem dt_scales (a : Nat → E) (M : Nat → Nat → E) : ∀ (R C : List Nat), dt (R.map fun i j => a i * M i j) C = (R.map a).foldr (· * ·) 1 * dt (R.map M) C := by
  intro R
  induction R with
  | nil => intro C; exact (E.one_mul _).symm
  | cons i R ih =>
    intro C
    rw [List.map_cons, dt_scale (a i) (M i), dt, List.map_cons, List.map_cons, List.foldr_cons, dt, E.mul_assoc, ← sg_mul ((R.map a).foldr (· * ·) 1)]
    congr 1
    refine sg_congr fun k _ => ?_
    rw [ih, E.swap_mul]

/-- CAUCHY: places told apart, and the one's from the other's. -/
theorem cauchy_not {x y : Nat → E} {n : Nat} (hx : ∀ i k, k < i → i < n → x i ≠ x k) (hy : ∀ i k, k < i → i < n → y i ≠ y k) (hxy : ∀ i k, i < n → k < n → x i ≠ y k) : dt ((List.range n).map fun i j => (x i + y j).inv) (List.range n) ≠ 0 := by
  have ne : ∀ {a b : E}, a ≠ b → a + b ≠ 0 := fun {a b} h e => h (by
    have h2 : a + b + b = 0 + b := by rw [e]
    rwa [E.add_assoc, E.add_self, E.add_zero, E.zero_add] at h2)
  have hy2 : ∀ i k, i < n → k < n → i ≠ k → y i ≠ y k := fun i k hi hk h => by
    rcases Nat.lt_or_gt_of_ne h with h | h
    · exact (hy k i h hk).symm
    · exact hy i k h hi
  have hlen : ∀ j, j < n → (op y j n).length ≤ n := fun j hj => by rw [op_length, if_pos hj]; exact Nat.le_refl _
  -- the numbers of those that vanish but at one place: not 0
  have hT : dt ((List.range n).map fun k j => cf (op y j n) k) (List.range n) ≠ 0 := by
    have h1 := dt_prod (fun i j => ep (y i) j) (fun k j => cf (op y j n) k) n
    have h2 : dt ((List.range n).map fun i => rb (fun j => ep (y i) j) (fun k j => cf (op y j n) k) (List.range n)) (List.range n) ≠ 0 := by
      rw [dt_entries (C := List.range n) (ss := (List.range n).map fun i j => od (fun k => y i + y k) j n) (fun j h => h) (by simp) fun i g1 g2 j hj => ?_, dt_low fun i j hij hj => od_none (k := i) (E.add_self _) (by omega) n (by omega)]
      · refine pds_not fun a ha => ?_
        obtain ⟨i, hi, rfl⟩ := List.mem_map.mp (List.mem_reverse.mp ha)
        exact od_not n fun k hk hne => ne (hy2 i k (List.mem_range.mp hi) hk (Ne.symm hne))
      · simp only [List.getElem_map, List.getElem_range]
        show sg (fun k => ep (y i) k * cf (op y j n) k) (List.range n) = _
        rw [← op_pv, pv_sum (y i) (op y j n) n (hlen j (List.mem_range.mp hj))]
    intro e
    rw [h1, e, E.mul_zero] at h2
    exact h2 rfl
  have h3 := dt_prod (fun i j => ep (x i) j) (fun k j => cf (op y j n) k) n
  have h4 : dt ((List.range n).map fun i => rb (fun j => ep (x i) j) (fun k j => cf (op y j n) k) (List.range n)) (List.range n) = dt ((List.range n).map fun i j => pd (fun k => x i + y k) n * (x i + y j).inv) (List.range n) := by
    refine dt_entries (C := List.range n) (fun j h => h) (by simp) fun i g1 g2 j hj => ?_
    simp only [List.getElem_map, List.getElem_range]
    show sg (fun k => ep (x i) k * cf (op y j n) k) (List.range n) = _
    have hi : i < n := by simpa using g1
    have hj := List.mem_range.mp hj
    rw [← pv_sum (x i) (op y j n) n (hlen j hj), op_pv, ← od_all (fun k => x i + y k) j n hj, E.mul_comm (x i + y j), E.mul_assoc, E.mul_inv (ne (hxy i j hi hj)), E.mul_one]
  rw [h4, dt_scales] at h3
  intro e
  rw [e, E.mul_zero] at h3
  rcases E.none h3.symm with h | h
  · exact vander_not hx h
  · exact hT h

end Go.Proofs.Ytgdfmmdjnifjeaa.Gf

namespace Go.Proofs.Ytgdfmmdjnifjeaa.Gf

theorem add_eq {a b : E} (h : a + b = 0) : a = b := by
  have h2 : a + b + b = 0 + b := by rw [h]
  rwa [E.add_assoc, E.add_self, E.add_zero, E.zero_add] at h2

/-- RUFFINI: divided by x and a. -/
def rf (a : E) : List E → List E
  | [] => []
  | _ :: f => (match f with
    | [] => []
    | _ :: _ => pv f a :: rf a f)

theorem rf_length (a : E) : ∀ f, (rf a f).length = f.length - 1 := by
  intro f
  induction f with
  | nil => rfl
  | cons b f ih =>
    cases f with
    | nil => rfl
    | cons d g => rw [rf, List.length_cons, ih]; simp

theorem rf_pv (a x : E) : ∀ f, pv f x + pv f a = (x + a) * pv (rf a f) x := by
  intro f
  induction f with
  | nil => show (0 : E) + 0 = (x + a) * 0; rw [E.mul_zero, E.add_zero]
  | cons b f ih =>
    cases f with
    | nil =>
      show (b + x * 0) + (b + a * 0) = (x + a) * 0
      rw [E.mul_zero, E.mul_zero, E.mul_zero, E.add_zero, E.add_self]
    | cons d g =>
      rw [rf]
      show (b + x * pv (d :: g) x) + (b + a * pv (d :: g) a) = (x + a) * (pv (d :: g) a + x * pv (rf a (d :: g)) x)
      have e : pv (d :: g) x = pv (d :: g) a + (x + a) * pv (rf a (d :: g)) x := by
        rw [← ih, E.add_comm (pv (d :: g) x), ← E.add_assoc, E.add_self, E.zero_add]
      rw [e]
      generalize pv (d :: g) a = u
      generalize pv (rf a (d :: g)) x = v
      rw [E.mul_add (x + a), E.mul_add x, E.add_mul x a u, E.swap_mul x (x + a) v]
      have e2 : b + (x * u + (x + a) * (x * v)) + (b + a * u) = b + b + (x * u + a * u + (x + a) * (x * v)) := by ac_rfl
      rw [e2, E.add_self, E.zero_add]

theorem rf_cf (a : E) : ∀ (f : List E) (i : Nat), cf f (i + 1) = cf (rf a f) i + a * cf (rf a f) (i + 1) := by
  intro f
  induction f with
  | nil => intro i; show (0 : E) = 0 + a * 0; rw [E.mul_zero, E.add_zero]
  | cons b f ih =>
    intro i
    cases f with
    | nil => show (0 : E) = 0 + a * 0; rw [E.mul_zero, E.add_zero]
    | cons d g =>
      rw [rf, cf_succ, cf_succ]
      cases i with
      | zero =>
        show d = pv (d :: g) a + a * cf (rf a (d :: g)) 0
        cases g with
        | nil => show d = d + a * 0 + a * 0; rw [E.mul_zero, E.add_zero, E.add_zero]
        | cons e g =>
          show d = d + a * pv (e :: g) a + a * pv (e :: g) a
          rw [E.add_assoc, E.add_self, E.add_zero]
      | succ i => rw [cf_succ]; exact ih i

/-- Nought at so many places as it has numbers: nought. -/
theorem none_of_roots : ∀ (n : Nat) (f : List E), f.length ≤ n → ∀ x : Nat → E, (∀ i k, k < i → i < n → x i ≠ x k) → (∀ i, i < n → pv f (x i) = 0) → ∀ i, cf f i = 0 := by
  intro n
  induction n with
  | zero =>
    intro f hl x _ _ i
    have : f = [] := List.length_eq_zero_iff.mp (by omega)
    rw [this]; rfl
  | succ n ih =>
    intro f hl x hx h0
    have h1 : ∀ i, cf (rf (x n) f) i = 0 := by
      refine ih (rf (x n) f) (by rw [rf_length]; omega) x (fun i k hk hi => hx i k hk (by omega)) fun i hi => ?_
      have h2 := rf_pv (x n) (x i) f
      rw [h0 i (by omega), h0 n (by omega), E.add_self] at h2
      rcases E.none h2.symm with h | h
      · exact absurd (add_eq h).symm (hx n i hi (by omega))
      · exact h
    have h2 : ∀ i, cf f (i + 1) = 0 := fun i => by rw [rf_cf (x n), h1, h1, E.mul_zero, E.add_zero]
    have h3 : cf f 0 = 0 := by
      cases f with
      | nil => rfl
      | cons b f =>
        have h4 := h0 n (by omega)
        rw [pv_sum (x n) (b :: f) (n + 1) hl, sg_shift, sg_congr (H := fun _ => 0) fun k _ => by rw [h2, E.mul_zero], sg_zero, E.add_zero] at h4
        have h5 : (1 : E) * cf (b :: f) 0 = 0 := h4
        rwa [E.one_mul] at h5
    intro i
    cases i with
    | zero => exact h3
    | succ i => exact h2 i

/-- Two, taken together. -/
def ad : List E → List E → List E
  | [], g => g
  | f, [] => f
  | a :: f, b :: g => (a + b) :: ad f g
theorem ad_pv (x : E) : ∀ f g, pv (ad f g) x = pv f x + pv g x := by
  intro f
  induction f with
  | nil => intro g; show pv g x = 0 + pv g x; rw [E.zero_add]
  | cons a f ih =>
    intro g
    cases g with
    | nil => show pv (a :: f) x = pv (a :: f) x + 0; rw [E.add_zero]
    | cons b g =>
      show a + b + x * pv (ad f g) x = a + x * pv f x + (b + x * pv g x)
      rw [ih, E.mul_add]
      ac_rfl
theorem ad_length : ∀ f g, (ad f g).length = max f.length g.length := by
  intro f
  induction f with
  | nil => intro g; simp [ad]
  | cons a f ih =>
    intro g
    cases g with
    | nil => simp [ad]
    | cons b g => simp only [ad, List.length_cons, ih]; omega
/-- So many times. -/
def tm (t : E) (f : List E) : List E := f.map (t * ·)
theorem tm_pv (t x : E) : ∀ f, pv (tm t f) x = t * pv f x := by
  intro f
  induction f with
  | nil => exact (E.mul_zero t).symm
  | cons a f ih =>
    show t * a + x * pv (tm t f) x = t * (a + x * pv f x)
    rw [ih, E.mul_add, E.swap_mul]

/-- Two that agree at so many places as they have numbers agree everywhere. -/
theorem alike {f g : List E} {n : Nat} {x : Nat → E} (hf : f.length ≤ n) (hg : g.length ≤ n) (hx : ∀ i k, k < i → i < n → x i ≠ x k) (h : ∀ i, i < n → pv f (x i) = pv g (x i)) (z : E) : pv f z = pv g z := by
  have h1 := none_of_roots n (ad f g) (by rw [ad_length]; omega) x hx fun i hi => by rw [ad_pv, h i hi, E.add_self]
  refine add_eq ?_
  rw [← ad_pv, pv_sum z (ad f g) n (by rw [ad_length]; omega), sg_congr (H := fun _ => 0) fun k _ => by rw [h1, E.mul_zero], sg_zero]

/-- NEWTON: through so many points goes one. -/
theorem through {n : Nat} {x : Nat → E} (y : Nat → E) (hx : ∀ i k, k < i → i < n → x i ≠ x k) : ∃ f : List E, f.length ≤ n ∧ ∀ i, i < n → pv f (x i) = y i := by
  have : ∀ m, m ≤ n → ∃ f : List E, f.length ≤ m ∧ ∀ i, i < m → pv f (x i) = y i := by
    intro m
    induction m with
    | zero => intro _; exact ⟨[], Nat.le_refl _, fun i hi => by omega⟩
    | succ m ih =>
      intro hm
      obtain ⟨f, hl, hf⟩ := ih (by omega)
      have hn : pd (fun k => x m + x k) m ≠ 0 := pd_not m fun k hk e => hx m k hk (by omega) (add_eq e)
      refine ⟨ad f (tm ((y m + pv f (x m)) * (pd (fun k => x m + x k) m).inv) (np x m)), ?_, fun i hi => ?_⟩
      · rw [ad_length, tm, List.length_map, np_length]
        omega
      · rw [ad_pv, tm_pv, np_pv]
        by_cases h : i = m
        · subst h
          rw [E.mul_assoc, E.mul_comm (E.inv _), E.mul_inv hn, E.mul_one, E.add_comm (y i), ← E.add_assoc, E.add_self, E.zero_add]
        · rw [pd_none (F := fun k => x i + x k) (k := i) (E.add_self _) m (by omega), E.mul_zero, E.add_zero]
          exact hf i (by omega)
  exact this n (Nat.le_refl n)

end Go.Proofs.Ytgdfmmdjnifjeaa.Gf

namespace Go.Proofs.Ytgdfmmdjnifjeaa.Gf

theorem cf_over {f : List E} {i : Nat} (h : f.length ≤ i) : cf f i = 0 := by simp [cf, h]
theorem cf_at {f : List E} {i : Nat} (h : i < f.length) : cf f i = f[i] := by simp [cf, h]
theorem cf_ad : ∀ (f g : List E) (i : Nat), cf (ad f g) i = cf f i + cf g i := by
  intro f
  induction f with
  | nil => intro g i; show cf g i = 0 + cf g i; rw [E.zero_add]
  | cons a f ih =>
    intro g i
    cases g with
    | nil => show cf (a :: f) i = cf (a :: f) i + 0; rw [E.add_zero]
    | cons b g =>
      cases i with
      | zero => rfl
      | succ i => show cf ((a + b) :: ad f g) (i + 1) = _; rw [cf_succ, cf_succ, cf_succ]; exact ih g i
theorem cf_tm (t : E) (f : List E) (i : Nat) : cf (tm t f) i = t * cf f i := by
  by_cases h : i < f.length
  · rw [cf_at h, cf_at (by simpa [tm] using h)]; simp [tm]
  · rw [cf_over (by simp [tm]; omega), cf_over (by omega), E.mul_zero]

/-- Times x and b. -/
def ly (b : E) (f : List E) : List E := ad (0 :: f) (tm b f)
theorem ly_pv (b z : E) (f : List E) : pv (ly b f) z = (z + b) * pv f z := by
  unfold ly
  rw [ad_pv, tm_pv]
  show 0 + z * pv f z + b * pv f z = _
  rw [E.zero_add, E.add_mul]
theorem ly_length (b : E) (f : List E) : (ly b f).length = f.length + 1 := by
  unfold ly
  rw [ad_length, List.length_cons, tm, List.length_map]
  omega
theorem ly_cf (b : E) (f : List E) (i : Nat) : cf (ly b f) (i + 1) = cf f i + b * cf f (i + 1) := by
  unfold ly
  rw [cf_ad, cf_tm, cf_succ]

theorem pv_same {f g : List E} (h : ∀ i, cf f i = cf g i) (z : E) : pv f z = pv g z := by
  rw [pv_sum z f (max f.length g.length) (by omega), pv_sum z g (max f.length g.length) (by omega)]
  exact sg_congr fun k _ => by rw [h]

theorem cf_take (f : List E) (n i : Nat) : cf (f.take n) i = if i < n then cf f i else 0 := by
  unfold cf
  rw [List.getD_eq_getElem?_getD, List.getD_eq_getElem?_getD, List.getElem?_take]
  split <;> rfl

/-- No more roots than numbers that are not nought. -/
theorem none_of_roots2 {n : Nat} {f : List E} (hf : ∀ i, n ≤ i → cf f i = 0) {x : Nat → E} (hx : ∀ i k, k < i → i < n → x i ≠ x k) (h : ∀ i, i < n → pv f (x i) = 0) : ∀ i, cf f i = 0 := by
  have e : ∀ i, cf (f.take n) i = cf f i := fun i => by
    rw [cf_take]
    by_cases hi : i < n
    · rw [if_pos hi]
    · rw [if_neg hi, hf i (by omega)]
  have h1 := none_of_roots n (f.take n) (by rw [List.length_take]; omega) x hx fun i hi => by rw [pv_same e]; exact h i hi
  intro i
  rw [← e]; exact h1 i

/-- The polynomial through the points s to s + m. -/
def IsW (x y : Nat → E) (s m : Nat) (f : List E) : Prop := f.length ≤ m + 1 ∧ ∀ i, s ≤ i → i ≤ s + m → pv f (x i) = y i

theorem isW_some {x : Nat → E} (y : Nat → E) {s m k : Nat} (hx : ∀ i j, j < i → i < k → x i ≠ x j) (h : s + m < k) : ∃ f, IsW x y s m f := by
  obtain ⟨f, h1, h2⟩ := through (n := m + 1) (x := fun i => x (s + i)) (fun i => y (s + i)) fun i j hj hi => hx _ _ (by omega) (by omega)
  refine ⟨f, h1, fun i hi hi2 => ?_⟩
  have := h2 (i - s) (by omega)
  rwa [show s + (i - s) = i by omega] at this

/-- What stands ahead of the highest power. -/
theorem isW_top {x y : Nat → E} {s m k : Nat} {f g h : List E} (hx : ∀ i j, j < i → i < k → x i ≠ x j) (hk : s + m + 1 < k) (hf : IsW x y s m f) (hg : IsW x y (s + 1) m g) (hh : IsW x y s (m + 1) h) :
    (x (s + m + 1) + x s) * cf h (m + 1) = cf g m + cf f m := by
  have hz := none_of_roots (m + 2) (ad (ad (ly (x s) g) (ly (x (s + m + 1)) f)) (tm (x (s + m + 1) + x s) h)) (by
      have := hf.1; have := hg.1; have := hh.1
      rw [ad_length, ad_length, ly_length, ly_length, tm, List.length_map]; omega) (fun i => x (s + i)) (fun i j hj hi => hx _ _ (by omega) (by omega)) (fun i hi => by
      show pv _ (x (s + i)) = 0
      rw [ad_pv, ad_pv, ly_pv, ly_pv, tm_pv, hh.2 (s + i) (by omega) (by omega)]
      by_cases h0 : i = 0
      · subst h0
        rw [Nat.add_zero, E.add_self, E.zero_mul, E.zero_add, hf.2 s (by omega) (by omega), E.add_comm (x s), E.add_self]
      · by_cases h1 : i = m + 1
        · subst h1
          rw [hg.2 _ (by omega) (by omega), show s + (m + 1) = s + m + 1 by omega, E.add_self (x (s + m + 1)), E.zero_mul, E.add_zero, E.add_self]
        · rw [hf.2 _ (by omega) (by omega), hg.2 _ (by omega) (by omega), ← E.add_mul, ← E.add_mul]
          have e : x (s + i) + x s + (x (s + i) + x (s + m + 1)) + (x (s + m + 1) + x s) = 0 := by
            have e2 : x (s + i) + x s + (x (s + i) + x (s + m + 1)) + (x (s + m + 1) + x s) = x (s + i) + x (s + i) + (x s + x s) + (x (s + m + 1) + x (s + m + 1)) := by ac_rfl
            rw [e2, E.add_self (x (s + i)), E.add_self (x s), E.add_self (x (s + m + 1)), E.zero_add, E.zero_add]
          rw [e, E.zero_mul]) (m + 1)
  rw [cf_ad, cf_ad, ly_cf, ly_cf, cf_tm, cf_over (f := g) (i := m + 1) hg.1, cf_over (f := f) (i := m + 1) hf.1, E.mul_zero, E.mul_zero, E.add_zero, E.add_zero] at hz
  exact (add_eq hz).symm

/-- One point more. -/
theorem isW_next {x y : Nat → E} {m k : Nat} {f h : List E} (hx : ∀ i j, j < i → i < k → x i ≠ x j) (hk : m + 1 < k) (hf : IsW x y 0 m f) (hh : IsW x y 0 (m + 1) h) (z : E) :
    pv h z = pv f z + cf h (m + 1) * pd (fun j => z + x j) (m + 1) := by
  have hz := none_of_roots2 (n := m + 1) (f := ad (ad h (tm (cf h (m + 1)) (np x (m + 1)))) f) (fun i hi => by
      rw [cf_ad, cf_ad, cf_tm, cf_over (f := f) (i := i) (by have := hf.1; omega), E.add_zero]
      by_cases e : i = m + 1
      · subst e; rw [np_last, E.mul_one, E.add_self]
      · rw [cf_over (f := h) (by have := hh.1; omega), cf_over (f := np x (m + 1)) (by rw [np_length]; omega), E.mul_zero, E.add_zero]) (x := x) (fun i j hj hi => hx _ _ hj (by omega)) fun i hi => by
      rw [ad_pv, ad_pv, tm_pv, np_pv, pd_none (F := fun j => x i + x j) (k := i) (E.add_self _) _ hi, E.mul_zero, E.add_zero, hh.2 i (by omega) (by omega), hf.2 i (by omega) (by omega), E.add_self]
  have h1 := pv_same (g := []) (fun i => by rw [hz i]; rfl) z
  rw [ad_pv, ad_pv, tm_pv, np_pv] at h1
  have h2 := add_eq h1
  have h3 : pv h z + cf h (m + 1) * pd (fun j => z + x j) (m + 1) + cf h (m + 1) * pd (fun j => z + x j) (m + 1) = pv f z + cf h (m + 1) * pd (fun j => z + x j) (m + 1) := by rw [h2]
  rwa [E.add_assoc, E.add_self, E.add_zero] at h3

/-- The numbers after n rounds. -/
def dv (x y : Nat → E) : Nat → Nat → E
  | 0, i => y i
  | n + 1, i => if n + 1 ≤ i then (dv x y n i + dv x y n (i - 1)) * (x i + x (i - (n + 1))).inv else dv x y n i

theorem dv_top {x y : Nat → E} {k : Nat} (hx : ∀ i j, j < i → i < k → x i ≠ x j) : ∀ (n i : Nat) (f : List E), n ≤ i → i < k → IsW x y (i - n) n f → dv x y n i = cf f n := by
  intro n
  induction n with
  | zero =>
    intro i f _ hi hf
    have h1 := hf.2 i (by omega) (by omega)
    show y i = cf f 0
    have hl := hf.1
    match f, hl with
    | [], _ => exact h1.symm
    | [a], _ =>
      have e : pv [a] (x i) = a := by show a + x i * 0 = a; rw [E.mul_zero, E.add_zero]
      rw [e] at h1
      exact h1.symm
    | a :: b :: f, hl => simp at hl
  | succ n ih =>
    intro i f hn hi hf
    obtain ⟨g, hg⟩ := isW_some y (s := i - n) (m := n) hx (by omega)
    obtain ⟨e, he⟩ := isW_some y (s := i - (n + 1)) (m := n) hx (by omega)
    have h1 := isW_top (s := i - (n + 1)) hx (by omega) he (by rw [show i - (n + 1) + 1 = i - n by omega]; exact hg) hf
    rw [show i - (n + 1) + n + 1 = i by omega] at h1
    rw [dv, if_pos hn, ih i g (by omega) hi hg, ih (i - 1) e (by omega) (by omega) (by rw [show i - 1 - n = i - (n + 1) by omega]; exact he), ← h1]
    have hne : x i + x (i - (n + 1)) ≠ 0 := fun h => hx i (i - (n + 1)) (by omega) hi (add_eq h)
    rw [E.mul_comm, ← E.mul_assoc, E.mul_comm (E.inv _), E.mul_inv hne, E.one_mul]

theorem dv_stay (x y : Nat → E) : ∀ (n i : Nat), i ≤ n → dv x y n i = dv x y i i := by
  intro n
  induction n with
  | zero => intro i h; obtain rfl : i = 0 := by omega
            rfl
  | succ n ih =>
    intro i h
    by_cases e : i = n + 1
    · rw [e]
    · rw [dv, if_neg (by omega)]
      exact ih i (by omega)

/-- The value, from place k down to place i. -/
def hn (x d : Nat → E) (z : E) (k : Nat) : Nat → E
  | 0 => 0
  | t + 1 => hn x d z k t * (z + x (k - 1 - t)) + d (k - 1 - t)

/-- NEWTON's value is that of the polynomial. -/
theorem newton {x y : Nat → E} {k : Nat} {F : List E} (hx : ∀ i j, j < i → i < k → x i ≠ x j) (hF : F.length ≤ k) (hy : ∀ i, i < k → pv F (x i) = y i) (z : E) : hn x (dv x y (k - 1)) z k k = pv F z := by
  have key : ∀ t, t ≤ k → ∀ f : List E, (k - t = 0 → f = []) → (1 ≤ k - t → IsW x y 0 (k - t - 1) f) → pv f z + pd (fun j => z + x j) (k - t) * hn x (dv x y (k - 1)) z k t = pv F z := by
    intro t
    induction t with
    | zero =>
      intro _ f h0 h1
      show pv f z + pd _ (k - 0) * 0 = _
      rw [E.mul_zero, E.add_zero]
      by_cases hk : k = 0
      · rw [h0 (by omega)]
        have : F = [] := List.length_eq_zero_iff.mp (by omega)
        rw [this]
      · have hw := h1 (by omega)
        exact alike (n := k) (by have := hw.1; omega) hF hx (fun i hi => by rw [hw.2 i (by omega) (by omega), hy i hi]) z
    | succ t ih =>
      intro ht f h0 h1
      obtain ⟨g, hg⟩ := isW_some y (s := 0) (m := k - t - 1) (k := k) hx (by omega)
      have h2 := ih (by omega) g (fun h => by omega) fun _ => hg
      have hd : dv x y (k - 1) (k - 1 - t) = cf g (k - t - 1) := by
        rw [dv_stay x y (k - 1) (k - 1 - t) (by omega)]
        rw [show k - 1 - t = k - t - 1 by omega]
        exact dv_top hx (k - t - 1) (k - t - 1) g (Nat.le_refl _) (by omega) (by rw [Nat.sub_self]; exact hg)
      have hp : pd (fun j => z + x j) (k - t) = (z + x (k - 1 - t)) * pd (fun j => z + x j) (k - (t + 1)) := by
        rw [show k - t = k - (t + 1) + 1 by omega, pd, show k - (t + 1) = k - 1 - t by omega]
      have hv : pv g z = pv f z + cf g (k - t - 1) * pd (fun j => z + x j) (k - (t + 1)) := by
        by_cases hk : k - (t + 1) = 0
        · rw [h0 hk, hk]
          show pv g z = 0 + cf g (k - t - 1) * 1
          have e : k - t - 1 = 0 := by omega
          have hl := hg.1
          rw [e] at hl ⊢
          rw [E.zero_add, E.mul_one]
          match g, hl with
          | [], _ => rfl
          | [a], _ => show a + z * 0 = a; rw [E.mul_zero, E.add_zero]
          | a :: b :: g, hl => simp at hl
        · obtain ⟨m, hm⟩ : ∃ m, k - (t + 1) = m + 1 := ⟨k - (t + 1) - 1, by omega⟩
          have hw := h1 (by omega)
          rw [hm, Nat.add_sub_cancel] at hw
          rw [show k - t - 1 = m + 1 by omega] at hg ⊢
          rw [hm]
          exact isW_next hx (by omega) hw hg z
      rw [← h2, hv, hp, hn, hd]
      generalize hn x (dv x y (k - 1)) z k t = u
      generalize pd (fun j => z + x j) (k - (t + 1)) = v
      generalize cf g (k - t - 1) = a
      rw [E.mul_add, E.add_assoc]
      congr 1
      rw [E.add_comm]
      congr 1
      · exact E.mul_comm _ _
      · ac_rfl
  have := key k (Nat.le_refl _) [] (fun _ => rfl) fun h => by omega
  rw [Nat.sub_self] at this
  rw [← this]
  show _ = 0 + 1 * _
  rw [E.zero_add, E.one_mul]

end Go.Proofs.Ytgdfmmdjnifjeaa.Gf

namespace Go.Proofs.Ytgdfmmdjnifjeaa.Gf

/-- Where two rows differ. -/
def ms (F G : Nat → E) (l : List Nat) : Nat := (l.filter fun i => (F i).v != (G i).v).length
def eqs (F G : Nat → E) (l : List Nat) : List Nat := l.filter fun i => (F i).v == (G i).v
theorem ms_eqs (F G : Nat → E) (l : List Nat) : ms F G l + (eqs F G l).length = l.length := by
  induction l with
  | nil => rfl
  | cons i l ih =>
    unfold ms eqs at ih ⊢
    by_cases h : (F i).v = (G i).v
    · rw [List.filter_cons_of_neg (by simpa using h), List.filter_cons_of_pos (by simpa using h), List.length_cons, List.length_cons]
      omega
    · rw [List.filter_cons_of_pos (by simpa using h), List.filter_cons_of_neg (by simpa using h), List.length_cons, List.length_cons]
      omega
theorem ms_comm (F G : Nat → E) (l : List Nat) : ms F G l = ms G F l := by
  unfold ms
  congr 2
  funext i
  rw [bne_comm]
theorem ms_cons (F G : Nat → E) (i : Nat) (l : List Nat) : ms F G (i :: l) = (if (F i).v = (G i).v then 0 else 1) + ms F G l := by
  unfold ms
  by_cases h : (F i).v = (G i).v
  · rw [List.filter_cons_of_neg (by simpa using h), if_pos h, Nat.zero_add]
  · rw [List.filter_cons_of_pos (by simpa using h), if_neg h, List.length_cons, Nat.add_comm]
theorem ms_three (F G H : Nat → E) (l : List Nat) : ms F H l ≤ ms F G l + ms G H l := by
  induction l with
  | nil => exact Nat.le_refl 0
  | cons i l ih =>
    rw [ms_cons, ms_cons, ms_cons]
    by_cases h1 : (F i).v = (G i).v
    · rw [h1, if_pos rfl]; omega
    · rw [if_neg h1]; split <;> omega
theorem mem_eqs {F G : Nat → E} {l : List Nat} {i : Nat} : i ∈ eqs F G l ↔ i ∈ l ∧ F i = G i := by
  unfold eqs
  rw [List.mem_filter, beq_iff_eq]
  exact ⟨fun h => ⟨h.1, E.ext h.2⟩, fun h => ⟨h.1, congrArg E.v h.2⟩⟩

/-- Alike at enough places of a list. -/
theorem alike_on {f g : List E} {m n : Nat} {x : Nat → E} {L : List Nat} (hf : f.length ≤ m) (hg : g.length ≤ m) (hx : ∀ i k, i < n → k < n → x i = x k → i = k) (hn : L.Nodup)
    (hl : m ≤ L.length) (hL : ∀ i ∈ L, i < n ∧ pv f (x i) = pv g (x i)) (z : E) : pv f z = pv g z := by
  have hi : ∀ i, i < m → L.getD i 0 ∈ L := fun i h => by
    have : i < L.length := by omega
    simp [this]
  refine alike (x := fun i => x (L.getD i 0)) hf hg (fun i k hki him e => ?_) (fun i h => (hL _ (hi i h)).2) z
  have h1 := hx _ _ (hL _ (hi i him)).1 (hL _ (hi k (by omega))).1 e
  have a : i < L.length := by omega
  have b : k < L.length := by omega
  simp only [List.getD_eq_getElem?_getD, a, b, List.getElem?_eq_getElem, Option.getD_some] at h1
  exact List.pairwise_iff_getElem.mp hn k i b a hki h1.symm

/-- So rows of unlike polynomials are alike at few places; and there is one near row at most. -/
theorem near_one {f g : List E} {k n : Nat} {x : Nat → E} {v : Nat → E} (hf : f.length ≤ k) (hg : g.length ≤ k) (hx : ∀ i k, i < n → k < n → x i = x k → i = k)
    (h : ms (fun i => pv f (x i)) v (List.range n) + ms (fun i => pv g (x i)) v (List.range n) + k ≤ n) (z : E) : pv f z = pv g z := by
  have h1 := ms_three (fun i => pv f (x i)) v (fun i => pv g (x i)) (List.range n)
  rw [ms_comm v] at h1
  have h2 := ms_eqs (fun i => pv f (x i)) (fun i => pv g (x i)) (List.range n)
  rw [List.length_range] at h2
  refine alike_on (L := eqs (fun i => pv f (x i)) (fun i => pv g (x i)) (List.range n)) hf hg hx (List.nodup_range.filter _) (by omega) (fun i hi => ?_) z
  have := mem_eqs.mp hi
  exact ⟨List.mem_range.mp this.1, this.2⟩

/-- The product of two. -/
def mu : List E → List E → List E
  | [], _ => []
  | a :: f, g => ad (tm a g) (0 :: mu f g)
theorem mu_pv (x : E) : ∀ f g, pv (mu f g) x = pv f x * pv g x := by
  intro f
  induction f with
  | nil => intro g; exact (E.zero_mul _).symm
  | cons a f ih =>
    intro g
    rw [mu, ad_pv, tm_pv, pv, ih, pv, E.zero_add, E.add_mul, E.mul_assoc]
theorem mu_length : ∀ (f g : List E) (m n : Nat), f.length ≤ m + 1 → g.length ≤ n + 1 → (mu f g).length ≤ m + n + 1 := by
  intro f
  induction f with
  | nil => intro g m n _ _; exact Nat.zero_le _
  | cons a f ih =>
    intro g m n hf hg
    have e : (tm a g).length = g.length := by simp [tm]
    rw [mu, ad_length, e, List.length_cons]
    match f, m, ih, hf with
    | [], m, _, _ =>
      have : (mu [] g).length = 0 := rfl
      omega
    | b :: f, 0, _, hf => simp at hf
    | b :: f, m + 1, ih, hf =>
      have := ih g m n (by simpa using hf) hg
      omega

/-- BERLEKAMP and WELCH: what vanishes at the wrong places, and its product with the polynomial, fit the row. -/
theorem welch_some {f : List E} {x v : Nat → E} {s : List E} {n : Nat} (h : ∀ i, i < n → pv f (x i) = v i ∨ pv s (x i) = 0) (i : Nat) (hi : i < n) : pv (mu s f) (x i) = v i * pv s (x i) := by
  rw [mu_pv, E.mul_comm]
  rcases h i hi with h | h <;> rw [h]
  rw [E.mul_zero, E.mul_zero]
/-- And whatever fits the row is such a product. -/
theorem welch_all {f s q : List E} {x v : Nat → E} {k e n : Nat} (hq : q.length ≤ e + k) (hx : ∀ i k, i < n → k < n → x i = x k → i = k)
    (hv : ms (fun i => pv f (x i)) v (List.range n) + (e + k) ≤ n) (h : ∀ i, i < n → pv q (x i) = v i * pv s (x i)) (hl : (mu s f).length ≤ e + k) (z : E) : pv q z = pv s z * pv f z := by
  have h2 := ms_eqs (fun i => pv f (x i)) v (List.range n)
  rw [List.length_range] at h2
  rw [← mu_pv]
  refine alike_on (L := eqs (fun i => pv f (x i)) v (List.range n)) hq hl hx (List.nodup_range.filter _) (by omega) (fun i hi => ?_) z
  have h3 := mem_eqs.mp hi
  have hin := List.mem_range.mp h3.1
  exact ⟨hin, by rw [mu_pv, h i hin, ← h3.2, E.mul_comm]⟩

end Go.Proofs.Ytgdfmmdjnifjeaa.Gf
