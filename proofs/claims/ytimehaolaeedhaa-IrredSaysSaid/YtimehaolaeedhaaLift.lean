/-
  Plain mathematics for Lift and Lower: the rows on their way. No Go in sight.
-/
import Derived.Test.YtimehaolaeedhaaDvInv
import Derived.Test.YtimehaolaeedhaaGro
namespace Go.Proofs.Ytimehaolaeedhaa
open Eu Pr Rs Dd

/-- The list as a function from 1 on. -/
def at1 (f : List Int) (d : Nat) : Int := nth f (d - 1)

/-- The sum over the divisors of n up to i. -/
def part (F : Nat → Int) (i n : Nat) : Int := sm F ((dv n).filter fun d => decide (d ≤ i))

theorem part_zero (F : Nat → Int) {n : Nat} (hn : 1 ≤ n) : part F 0 n = 0 := by
  unfold part
  have : (dv n).filter (fun d => decide (d ≤ 0)) = [] := by
    rw [List.filter_eq_nil_iff]
    intro d hd
    have := (mem_dv hn).mp hd
    simp
    omega
  rw [this]
  rfl

theorem part_all (F : Nat → Int) {i n : Nat} (hn : 1 ≤ n) (hi : n ≤ i) : part F i n = sm F (dv n) := by
  unfold part
  congr 1
  rw [List.filter_eq_self]
  intro d hd
  have := (mem_dv hn).mp hd
  have := Nat.le_of_dvd hn this.2
  simp
  omega

theorem part_yes (F : Nat → Int) {i n : Nat} (hn : 1 ≤ n) (h : n % (i + 1) = 0) : part F (i + 1) n = part F i n + F (i + 1) := by
  unfold part
  have : (dv n).filter (fun d => decide (d ≤ i + 1)) = (dv n).filter (fun d => decide (d ≤ i)) ++ [i + 1] := by
    refine eq_of_lt (List.Pairwise.filter _ (dv_lt n)) ?_ fun d => ?_
    · refine List.pairwise_append.mpr ⟨List.Pairwise.filter _ (dv_lt n), List.pairwise_singleton .., fun a ha b hb => ?_⟩
      rw [List.mem_singleton.mp hb]
      have := (List.mem_filter.mp ha).2
      simp at this
      omega
    · rw [List.mem_append, List.mem_filter, List.mem_filter, List.mem_singleton, decide_eq_true_eq, decide_eq_true_eq]
      constructor
      · rintro ⟨a, b⟩
        by_cases e : d = i + 1
        · exact .inr e
        · exact .inl ⟨a, by omega⟩
      · rintro (⟨a, b⟩ | rfl)
        · exact ⟨a, by omega⟩
        · exact ⟨(mem_dv hn).mpr ⟨by omega, Nat.dvd_of_mod_eq_zero h⟩, Nat.le_refl _⟩
  rw [this, sm_append]
  simp [sm]

theorem part_no (F : Nat → Int) {i n : Nat} (hn : 1 ≤ n) (h : n % (i + 1) ≠ 0) : part F (i + 1) n = part F i n := by
  unfold part
  congr 1
  apply List.filter_congr
  intro d hd
  have h2 := (mem_dv hn).mp hd
  have h3 : d ≠ i + 1 := fun e => h (Nat.mod_eq_zero_of_dvd (e ▸ h2.2))
  simp only [decide_eq_decide]
  omega

theorem part_bound {F : Nat → Int} {B : Int} (hB : 0 ≤ B) {i n : Nat} (hn : n ≤ 60) (hF : ∀ d, -B ≤ F d ∧ F d ≤ B) : -(B * 60) ≤ part F i n ∧ part F i n ≤ B * 60 := by
  have h := sm_le (F := F) (B := B) (l := (dv n).filter fun d => decide (d ≤ i)) (fun d _ => hF d)
  have h2 : ((dv n).filter fun d => decide (d ≤ i)).length ≤ 60 := by
    have h3 := List.length_filter_le (fun d => decide (d ≤ i)) (dv n)
    have h4 := dv_length n
    omega
  have h5 : B * (((dv n).filter fun d => decide (d ≤ i)).length : Int) ≤ B * 60 := Int.mul_le_mul_of_nonneg_left (by omega) hB
  unfold part
  omega

/-- The multiples' way: what is between a multiple and the next is no multiple. -/
theorem not_mult {i c t : Nat} (h1 : (i + 1) * c < t + 1) (h2 : t + 1 < (i + 1) * (c + 1)) : (t + 1) % (i + 1) ≠ 0 := by
  intro h
  obtain ⟨e, he⟩ := Nat.dvd_of_mod_eq_zero h
  rw [he] at h1 h2
  have a1 : c < e := Nat.lt_of_mul_lt_mul_left h1
  have a2 : e < c + 1 := Nat.lt_of_mul_lt_mul_left h2
  omega

/-- The sums' row on its way: n = (i + 1) c is next. -/
def liftAt (F : Nat → Int) (i n : Nat) (t : Nat) : Int := if t + 1 < n then part F (i + 1) (t + 1) else part F i (t + 1)

theorem liftAt_start (F : Nat → Int) (i : Nat) {t : Nat} : liftAt F i (i + 1) t = part F i (t + 1) := by
  unfold liftAt
  by_cases h : t + 1 < i + 1
  · rw [if_pos h]
    exact part_no F (by omega) (by rw [Nat.mod_eq_of_lt h]; omega)
  · rw [if_neg h]

theorem liftAt_step (F : Nat → Int) (i c : Nat) (hc : 1 ≤ c) {t : Nat} :
    (upd (liftAt F i ((i + 1) * c)) ((i + 1) * c - 1) (liftAt F i ((i + 1) * c) ((i + 1) * c - 1) + F (i + 1))) t = liftAt F i ((i + 1) * c + (i + 1)) t := by
  have hp : 1 ≤ (i + 1) * c := Nat.mul_pos (by omega) hc
  unfold upd liftAt
  by_cases h : t = (i + 1) * c - 1
  · subst h
    rw [if_pos rfl, if_neg (by omega), if_pos (by omega), part_yes F (by omega) (by rw [show (i + 1) * c - 1 + 1 = (i + 1) * c by omega]; exact Nat.mul_mod_right _ _)]
  · rw [if_neg h]
    by_cases h2 : t + 1 < (i + 1) * c
    · rw [if_pos h2, if_pos (by omega)]
    · rw [if_neg h2]
      by_cases h3 : t + 1 < (i + 1) * c + (i + 1)
      · rw [if_pos h3]
        exact (part_no F (by omega) (not_mult (c := c) (by omega) (by rw [Nat.mul_succ]; omega))).symm
      · rw [if_neg h3]

theorem liftAt_end (F : Nat → Int) (i n : Nat) {L t : Nat} (hn : L < n) (ht : t < L) : liftAt F i n t = part F (i + 1) (t + 1) := if_pos (by omega)

theorem liftAt_bound {F : Nat → Int} (hF : ∀ d, -1000000000 ≤ F d ∧ F d ≤ 1000000000) (i n : Nat) {t : Nat} (ht : t < 60) : -60000000000 ≤ liftAt F i n t ∧ liftAt F i n t ≤ 60000000000 := by
  unfold liftAt
  split
  · have := part_bound (by decide) (i := i + 1) (n := t + 1) (by omega) hF
    omega
  · have := part_bound (by decide) (i := i) (n := t + 1) (by omega) hF
    omega

/-- The undone row on its way, between two rounds. -/
noncomputable def lowRow (F : Nat → Int) (i t : Nat) : Int := if t + 1 ≤ i then undo F (t + 1) else F (t + 1) - part (undo F) i (t + 1)

theorem lowRow_here (F : Nat → Int) (i : Nat) : lowRow F i i = undo F (i + 1) := by
  unfold lowRow
  rw [if_neg (by omega)]
  have h1 := part_yes (undo F) (i := i) (n := i + 1) (by omega) (Nat.mod_self _)
  have h2 := part_all (undo F) (i := i + 1) (n := i + 1) (by omega) (Nat.le_refl _)
  have h3 := undo_sum F (n := i + 1) (by omega)
  omega

theorem lowRow_zero (F : Nat → Int) (t : Nat) : lowRow F 0 t = F (t + 1) := by
  unfold lowRow
  rw [if_neg (by omega), part_zero _ (by omega)]
  omega

/-- .. within a round: n = (i + 1) c is next. -/
noncomputable def lowAt (F : Nat → Int) (i n : Nat) (t : Nat) : Int := if t + 1 < n then lowRow F (i + 1) t else lowRow F i t

theorem lowRow_same (F : Nat → Int) {i t : Nat} (h : t ≤ i ∨ (t + 1) % (i + 1) ≠ 0) : lowRow F (i + 1) t = lowRow F i t := by
  by_cases h1 : t + 1 ≤ i
  · unfold lowRow
    rw [if_pos h1, if_pos (by omega)]
  · by_cases h2 : t = i
    · subst h2
      rw [lowRow_here]
      unfold lowRow
      rw [if_pos (Nat.le_refl _)]
    · unfold lowRow
      rw [if_neg h1, if_neg (by omega), part_no _ (by omega) (by rcases h with h | h; omega; exact h)]

theorem lowAt_start (F : Nat → Int) (i : Nat) {t : Nat} : lowAt F i ((i + 1) * 2) t = lowRow F i t := by
  unfold lowAt
  by_cases h : t + 1 < (i + 1) * 2
  · rw [if_pos h]
    refine lowRow_same F ?_
    by_cases h2 : t ≤ i
    · exact .inl h2
    · exact .inr (not_mult (c := 1) (by omega) (by omega))
  · rw [if_neg h]

theorem lowAt_step (F : Nat → Int) (i c : Nat) (hc : 2 ≤ c) {t : Nat} :
    (upd (lowAt F i ((i + 1) * c)) ((i + 1) * c - 1) (lowAt F i ((i + 1) * c) ((i + 1) * c - 1) - undo F (i + 1))) t = lowAt F i ((i + 1) * c + (i + 1)) t := by
  have hp : (i + 1) * 2 ≤ (i + 1) * c := Nat.mul_le_mul_left _ hc
  unfold upd lowAt
  by_cases h : t = (i + 1) * c - 1
  · subst h
    rw [if_pos rfl, if_neg (by omega), if_pos (by omega)]
    unfold lowRow
    rw [if_neg (by omega), if_neg (by omega), part_yes _ (by omega) (by rw [show (i + 1) * c - 1 + 1 = (i + 1) * c by omega]; exact Nat.mul_mod_right _ _)]
    omega
  · rw [if_neg h]
    by_cases h2 : t + 1 < (i + 1) * c
    · rw [if_pos h2, if_pos (by omega)]
    · rw [if_neg h2]
      by_cases h3 : t + 1 < (i + 1) * c + (i + 1)
      · rw [if_pos h3]
        exact (lowRow_same F (.inr (not_mult (c := c) (by omega) (by rw [Nat.mul_succ]; omega)))).symm
      · rw [if_neg h3]

theorem lowAt_end (F : Nat → Int) (i n : Nat) {L t : Nat} (hn : L < n) (ht : t < L) : lowAt F i n t = lowRow F (i + 1) t := if_pos (by omega)

theorem lowAt_before (F : Nat → Int) (i n : Nat) (hn : i + 1 < n) : lowAt F i n i = undo F (i + 1) := by
  unfold lowAt
  rw [if_pos (by omega), lowRow_same F (.inl (Nat.le_refl _)), lowRow_here]

theorem undo_bound {F : Nat → Int} (hF : ∀ d, -1000000000 ≤ F d ∧ F d ≤ 1000000000) {n : Nat} (hn : n ≤ 60) : -60000000000 ≤ undo F n ∧ undo F n ≤ 60000000000 := by
  have h := sm_le (F := fun c => mu (n / c) * F c) (B := 1000000000) (l := dv n) (fun d _ => by
    have h1 := mu_bound (n / d)
    have h2 := hF d
    rcases h1 with h1 | h1 | h1 <;> (rw [h1]; omega))
  have h4 := dv_length n
  unfold undo
  omega

/-- The undone function, nought beyond 60. -/
theorem part_undo_bound {F : Nat → Int} (hF : ∀ d, -1000000000 ≤ F d ∧ F d ≤ 1000000000) {i n : Nat} (hn1 : 1 ≤ n) (hn : n ≤ 60) : -3600000000000 ≤ part (undo F) i n ∧ part (undo F) i n ≤ 3600000000000 := by
  have h := sm_le (F := undo F) (B := 60000000000) (l := (dv n).filter fun d => decide (d ≤ i)) (fun d hd => by
    have h1 := (mem_dv hn1).mp (List.mem_filter.mp hd).1
    have h2 := Nat.le_of_dvd hn1 h1.2
    exact undo_bound hF (by omega))
  have h2 : ((dv n).filter fun d => decide (d ≤ i)).length ≤ 60 := by
    have h3 := List.length_filter_le (fun d => decide (d ≤ i)) (dv n)
    have h4 := dv_length n
    omega
  unfold part
  omega

theorem lowAt_bound {F : Nat → Int} (hF : ∀ d, -1000000000 ≤ F d ∧ F d ≤ 1000000000) (i n : Nat) {t : Nat} (ht : t < 60) : -3700000000000 ≤ lowAt F i n t ∧ lowAt F i n t ≤ 3700000000000 := by
  have h1 := undo_bound hF (n := t + 1) (by omega)
  have h2 := hF (t + 1)
  unfold lowAt lowRow
  split
  · split
    · omega
    · have := part_undo_bound hF (i := i + 1) (n := t + 1) (by omega) (by omega)
      omega
  · split
    · omega
    · have := part_undo_bound hF (i := i) (n := t + 1) (by omega) (by omega)
      omega

def badV (x : Int) : Bool := decide (x < -1000000000) || decide (1000000000 < x)
/-- What divide.check says of a list. -/
def dchk (f : List Int) : Int := if 60 < f.length then 2 else if f.any badV then 1 else 0

theorem dchk_zero {f : List Int} : dchk f = 0 ↔ f.length ≤ 60 ∧ ∀ x ∈ f, -1000000000 ≤ x ∧ x ≤ 1000000000 := by
  unfold dchk
  constructor
  · intro h
    split at h
    · omega
    · split at h
      · omega
      · rename_i h1 h2
        refine ⟨by omega, fun x hx => ?_⟩
        rw [Bool.not_eq_true, List.any_eq_false] at h2
        have := h2 x hx
        simp [badV] at this
        omega
  · rintro ⟨h1, h2⟩
    rw [if_neg (by omega), if_neg]
    rw [Bool.not_eq_true, List.any_eq_false]
    intro x hx
    have := h2 x hx
    simp [badV]
    omega

theorem at1_bound {f : List Int} (h : ∀ x ∈ f, -1000000000 ≤ x ∧ x ≤ 1000000000) (d : Nat) : -1000000000 ≤ at1 f d ∧ at1 f d ≤ 1000000000 := by
  unfold at1
  by_cases hd : d - 1 < f.length
  · exact h _ (nth_mem hd)
  · have : nth f (d - 1) = 0 := by unfold nth; rw [List.getD_eq_getElem?_getD, List.getElem?_eq_none (by omega)]; rfl
    omega

/-- Lift's answer; Lower's. -/
def liftL (f : List Int) : List Int := fl f.length fun t => sm (at1 f) (dv (t + 1))
noncomputable def lowerL (f : List Int) : List Int := fl f.length fun t => undo (at1 f) (t + 1)
theorem liftL_length (f : List Int) : (liftL f).length = f.length := fl_length _ _
theorem lowerL_length (f : List Int) : (lowerL f).length = f.length := fl_length _ _

theorem at1_fl {L : Nat} {F : Nat → Int} {n : Nat} (h1 : 1 ≤ n) (h2 : n ≤ L) : at1 (fl L F) n = F (n - 1) := fl_nth (by omega)
theorem sm_dv_congr {F H : Nat → Int} {L : Nat} (h : ∀ d, 1 ≤ d → d ≤ L → F d = H d) {n : Nat} (h1 : 1 ≤ n) (h2 : n ≤ L) : sm F (dv n) = sm H (dv n) :=
  sm_congr fun d hd => by
    have h3 := (mem_dv h1).mp hd
    have := Nat.le_of_dvd h1 h3.2
    exact h d h3.1 (by omega)

theorem at1_all {f g : List Int} (hl : f.length = g.length) (h : ∀ n, 1 ≤ n → n ≤ f.length → at1 f n = at1 g n) : f = g := by
  apply List.ext_getElem hl
  intro t h1 h2
  have := h (t + 1) (by omega) (by omega)
  unfold at1 at this
  rwa [Nat.add_sub_cancel, nth_eq h1, nth_eq h2] at this

/-- Lower undoes Lift, Lift undoes Lower. -/
theorem lift_lower (f : List Int) : liftL (lowerL f) = f := by
  refine at1_all (by rw [liftL_length, lowerL_length]) fun n h1 h2 => ?_
  rw [liftL_length, lowerL_length] at h2
  unfold liftL
  rw [lowerL_length, at1_fl h1 h2, show n - 1 + 1 = n by omega]
  rw [sm_dv_congr (H := undo (at1 f)) (L := f.length) (fun d d1 d2 => by unfold lowerL; rw [at1_fl d1 d2, show d - 1 + 1 = d by omega]) h1 h2]
  exact undo_sum _ h1

theorem lower_lift (f : List Int) : lowerL (liftL f) = f := by
  have h0 := lift_lower (liftL f)
  refine at1_all (by rw [lowerL_length, liftL_length]) fun n h1 h2 => ?_
  rw [lowerL_length, liftL_length] at h2
  refine sums_tell (N := f.length) (fun m m1 m2 => ?_) n h1 h2
  have h3 : at1 (liftL (lowerL (liftL f))) m = at1 (liftL f) m := by rw [h0]
  have e1 : at1 (liftL (lowerL (liftL f))) m = sm (at1 (lowerL (liftL f))) (dv m) := by
    show at1 (fl _ _) m = _
    rw [at1_fl m1 (by rw [lowerL_length, liftL_length]; exact m2), show m - 1 + 1 = m by omega]
  have e2 : at1 (liftL f) m = sm (at1 f) (dv m) := by
    show at1 (fl _ _) m = _
    rw [at1_fl m1 m2, show m - 1 + 1 = m by omega]
  rw [e1, e2] at h3
  exact h3

end Go.Proofs.Ytimehaolaeedhaa
