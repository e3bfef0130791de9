/-
  Several texts in one:
  - Words of bits: how many ones; what is even with what; sums of signs over codes: the dual code, MACWILLIAMS. No Go in sight.
  - The reduced basis of a code: the highest bits of its words tell all of them. No Go in sight.
  - Bounds of codes: HAMMING, SINGLETON, PLOTKIN; KRAWTCHOUK's numbers as sums. No Go in sight.
  - The document's words of a code: of all sets of generators; each once, in order. No Go in sight.
  - The rows of a reduced basis, one word more at a time. No Go in sight.
  - GRIESMER: what is left where one word of fewest ones is 0. No Go in sight.
  - A code's words, its reduced basis, its weights, as lists that are reckoned. No Go in sight.
-/
import Derived.Test.YtjccpfpldbjcbaaDvMath
namespace Go.Proofs.Ytjccpfpldbjcbaa.Ln
open Dd Rs

theorem sum_add (F H : Nat → Int) (l : List Nat) : sm (fun d => F d + H d) l = sm F l + sm H l := by
  induction l with
  | nil => rfl
  | cons d l ih => simp only [sm, ih]; omega
theorem sum_zero (l : List Nat) : sm (fun _ => 0) l = 0 := by
  induction l with
  | nil => rfl
  | cons d l ih => simp only [sm, ih]; omega
theorem sum_swap (F : Nat → Nat → Int) (l k : List Nat) : sm (fun x => sm (F x) k) l = sm (fun y => sm (fun x => F x y) l) k := by
  induction l with
  | nil => simp only [sm]; exact (sum_zero k).symm
  | cons x l ih => simp only [sm, ih]; exact (sum_add _ _ k).symm
theorem sum_count (b : Nat → Bool) (l : List Nat) : sm (fun x => if b x = true then 1 else 0) l = ((l.filter b).length : Int) := by
  induction l with
  | nil => rfl
  | cons x l ih =>
    rw [sm, ih]
    cases h : b x
    · rw [List.filter_cons_of_neg (by simp [h])]; simp
    · rw [List.filter_cons_of_pos h, List.length_cons]; simp; omega
theorem sum_filter (F : Nat → Int) (b : Nat → Bool) (l : List Nat) : sm F (l.filter b) = sm (fun x => if b x = true then F x else 0) l := by
  induction l with
  | nil => rfl
  | cons x l ih =>
    rw [sm]
    cases h : b x
    · rw [List.filter_cons_of_neg (by simp [h]), ih]; simp
    · rw [List.filter_cons_of_pos h, sm, ih]; simp
theorem sum_le {F H : Nat → Int} {l : List Nat} (h : ∀ d ∈ l, F d ≤ H d) : sm F l ≤ sm H l := by
  induction l with
  | nil => exact Int.le_refl _
  | cons d l ih =>
    have h1 := h d List.mem_cons_self
    have h2 := ih fun e he => h e (List.mem_cons_of_mem _ he)
    simp only [sm]
    omega
theorem sum_neg (F : Nat → Int) (l : List Nat) : sm (fun x => - F x) l = - sm F l := by
  induction l with
  | nil => rfl
  | cons d l ih => simp only [sm, ih]; omega

/-- All numbers below twice as many: the even ones, and the odd ones. -/
theorem sum_bits (F : Nat → Int) (n : Nat) : sm F (List.range (2 ^ (n + 1))) = sm (fun v => F (2 * v) + F (2 * v + 1)) (List.range (2 ^ n)) := by
  have : ∀ m, sm F (List.range (2 * m)) = sm (fun v => F (2 * v) + F (2 * v + 1)) (List.range m) := by
    intro m
    induction m with
    | zero => rfl
    | succ m ih =>
      rw [show 2 * (m + 1) = 2 * m + 1 + 1 by omega, List.range_succ, List.range_succ, List.range_succ, sm_append, sm_append, sm_append, ih]
      simp only [sm]
      omega
  rw [Nat.pow_succ, Nat.mul_comm]
  exact this _

/-- How many of the lowest n bits are set. -/
def on : Nat → Nat → Nat
  | 0, _ => 0
  | n + 1, w => w % 2 + on n (w / 2)

theorem on_le : ∀ n w, on n w ≤ n := by
  intro n
  induction n with
  | zero => intro w; exact Nat.le_refl 0
  | succ n ih =>
    intro w
    have := ih (w / 2)
    rw [on]
    omega

/-- A sign: -1 if c and v have an odd number of bits together. -/
def si : Nat → Nat → Nat → Int
  | 0, _, _ => 1
  | n + 1, c, v => (if c % 2 = 1 ∧ v % 2 = 1 then -1 else 1) * si n (c / 2) (v / 2)

theorem si_comm : ∀ n c v, si n c v = si n v c := by
  intro n
  induction n with
  | zero => intro c v; rfl
  | succ n ih =>
    intro c v
    rw [si, si, ih]
    congr 1
    by_cases h : c % 2 = 1 ∧ v % 2 = 1
    · rw [if_pos h, if_pos ⟨h.2, h.1⟩]
    · rw [if_neg h, if_neg fun e => h ⟨e.2, e.1⟩]

theorem si_one : ∀ n c v, si n c v = 1 ∨ si n c v = -1 := by
  intro n
  induction n with
  | zero => intro c v; exact .inl rfl
  | succ n ih =>
    intro c v
    rw [si]
    rcases ih (c / 2) (v / 2) with h | h <;> rw [h] <;> split <;> simp

theorem si_zero : ∀ n c, si n c 0 = 1 := by
  intro n
  induction n with
  | zero => intro c; rfl
  | succ n ih => intro c; rw [si, Nat.zero_div, ih, if_neg (by omega)]; rfl

theorem xor_half (b c : Nat) : (b ^^^ c) / 2 = b / 2 ^^^ c / 2 := Nat.xor_div_two
theorem xor_odd (b c : Nat) : (b ^^^ c) % 2 = (b % 2) ^^^ (c % 2) := by
  have := Nat.xor_mod_two_pow (a := b) (b := c) (n := 1)
  simpa using this
theorem and_half (b c : Nat) : (b &&& c) / 2 = b / 2 &&& c / 2 := Nat.and_div_two
theorem and_odd (b c : Nat) : (b &&& c) % 2 = (b % 2) &&& (c % 2) := by
  have := Nat.and_mod_two_pow (a := b) (b := c) (n := 1)
  simpa using this

/-- It goes over sums. -/
theorem si_xor : ∀ n c v w, si n c (v ^^^ w) = si n c v * si n c w := by
  intro n
  induction n with
  | zero => intro c v w; rfl
  | succ n ih =>
    intro c v w
    rw [si, si, si, xor_half, ih, xor_odd]
    rcases Nat.mod_two_eq_zero_or_one c with h1 | h1 <;> rcases Nat.mod_two_eq_zero_or_one v with h2 | h2 <;> rcases Nat.mod_two_eq_zero_or_one w with h3 | h3 <;> rw [h1, h2, h3] <;> simp <;> grind

/-- It tells whether the number of common bits is even. -/
theorem si_even : ∀ n c v, si n c v = if on n (c &&& v) % 2 = 0 then 1 else -1 := by
  intro n
  induction n with
  | zero => intro c v; rfl
  | succ n ih =>
    intro c v
    rw [si, on, and_half, and_odd, ih]
    rcases Nat.mod_two_eq_zero_or_one c with h1 | h1 <;> rcases Nat.mod_two_eq_zero_or_one v with h2 | h2 <;> rw [h1, h2] <;> rcases Nat.mod_two_eq_zero_or_one (on n (c / 2 &&& v / 2)) with h3 | h3
    all_goals simp [Nat.add_mod, h3]

/-- Over all words: only 0 does not cancel. -/
theorem si_all : ∀ n c, c < 2 ^ n → sm (fun v => si n c v) (List.range (2 ^ n)) = if c = 0 then ((2 ^ n : Nat) : Int) else 0 := by
  intro n
  induction n with
  | zero =>
    intro c hc
    have : c = 0 := by simpa using hc
    subst this
    rfl
  | succ n ih =>
    intro c hc
    rw [sum_bits]
    have h1 := ih (c / 2) (by rw [Nat.pow_succ] at hc; omega)
    have e1 : ∀ v, si (n + 1) c (2 * v) = si n (c / 2) v := fun v => by
      rw [si, if_neg (by omega), show 2 * v / 2 = v by omega, Int.one_mul]
    have e2 : ∀ v, si (n + 1) c (2 * v + 1) = (if c % 2 = 1 then -1 else 1) * si n (c / 2) v := fun v => by
      rw [si, show (2 * v + 1) / 2 = v by omega]
      congr 1
      by_cases h : c % 2 = 1
      · rw [if_pos ⟨h, by omega⟩, if_pos h]
      · rw [if_neg (by omega), if_neg h]
    rw [sm_congr (H := fun v => si n (c / 2) v + (if c % 2 = 1 then -1 else 1) * si n (c / 2) v) fun v _ => by rw [e1, e2], sum_add, sm_mul, h1]
    by_cases h : c % 2 = 1
    · rw [if_pos h, if_neg (show ¬ c = 0 by omega)]
      omega
    · rw [if_neg h]
      by_cases h0 : c = 0
      · subst h0
        rw [if_pos rfl, if_pos rfl, Nat.pow_succ]
        omega
      · rw [if_neg (by omega), if_neg h0]
        rfl

/-- A code: words of n bits, and their sums. -/
structure Cd (n : Nat) (W : List Nat) : Prop where
  nd : W.Nodup
  lt : ∀ w ∈ W, w < 2 ^ n
  zero : 0 ∈ W
  xor : ∀ v ∈ W, ∀ w ∈ W, v ^^^ w ∈ W

/-- Even with all of them. -/
def Ev (n : Nat) (W : List Nat) (v : Nat) : Bool := W.all fun w => on n (w &&& v) % 2 == 0
theorem ev_iff {n : Nat} {W : List Nat} {v : Nat} : Ev n W v = true ↔ ∀ w ∈ W, si n w v = 1 := by
  unfold Ev
  rw [List.all_eq_true]
  constructor
  · intro h w hw
    rw [si_even, if_pos (by simpa using h w hw)]
  · intro h w hw
    have := h w hw
    rw [si_even] at this
    by_cases h2 : on n (w &&& v) % 2 = 0
    · simpa using h2
    · rw [if_neg h2] at this
      exact absurd this (by decide)

/-- All words added to one of them: they change places. -/
theorem Cd.turn {n : Nat} {W : List Nat} (h : Cd n W) {c : Nat} (hc : c ∈ W) : (W.map (c ^^^ ·)).Perm W := by
  refine (List.perm_ext_iff_of_nodup ?_ h.nd).mpr fun x => ?_
  · unfold List.Nodup
    rw [List.pairwise_map]
    exact h.nd.imp fun hne e => hne (by
      have := congrArg (c ^^^ ·) e
      simpa [← Nat.xor_assoc] using this)
  · rw [List.mem_map]
    constructor
    · rintro ⟨w, hw, rfl⟩
      exact h.xor c hc w hw
    · intro hx
      exact ⟨c ^^^ x, h.xor c hc x hx, by rw [← Nat.xor_assoc, Nat.xor_self, Nat.zero_xor]⟩

/-- Over a code: only what is even with all does not cancel. -/
theorem Cd.signs {n : Nat} {W : List Nat} (h : Cd n W) (v : Nat) : sm (fun c => si n c v) W = if Ev n W v = true then (W.length : Int) else 0 := by
  by_cases he : Ev n W v = true
  · rw [if_pos he, sm_congr (H := fun _ => 1) fun c hc => ev_iff.mp he c hc, sm_one]
  · rw [if_neg he]
    obtain ⟨c, hc, hne⟩ : ∃ c ∈ W, si n c v ≠ 1 := by
      refine Classical.byContradiction fun hn => he (ev_iff.mpr fun w hw => Classical.byContradiction fun h2 => hn ⟨w, hw, h2⟩)
    have h1 : si n c v = -1 := (si_one n c v).resolve_left hne
    have h2 := sm_perm (fun c => si n c v) (h.turn hc)
    rw [sm_map] at h2
    rw [sm_congr (H := fun w => - si n w v) fun w _ => ?_, sum_neg] at h2
    · omega
    · show si n (c ^^^ w) v = _
      rw [si_comm, si_xor, si_comm n v c, h1, si_comm n v w]
      omega

/-- What is even with all. -/
def du (n : Nat) (W : List Nat) : List Nat := (List.range (2 ^ n)).filter (Ev n W)
theorem mem_du {n : Nat} {W : List Nat} {v : Nat} : v ∈ du n W ↔ v < 2 ^ n ∧ Ev n W v = true := by
  unfold du
  rw [List.mem_filter, List.mem_range]
theorem du_cd (n : Nat) (W : List Nat) : Cd n (du n W) := by
  refine ⟨List.Pairwise.filter _ List.nodup_range, fun w hw => (mem_du.mp hw).1, mem_du.mpr ⟨Nat.pow_pos (by decide), ev_iff.mpr fun w _ => si_zero n w⟩, fun v hv w hw => ?_⟩
  have hv := mem_du.mp hv
  have hw := mem_du.mp hw
  refine mem_du.mpr ⟨Nat.xor_lt_two_pow hv.1 hw.1, ev_iff.mpr fun c hc => ?_⟩
  rw [si_xor, ev_iff.mp hv.2 c hc, ev_iff.mp hw.2 c hc]
  rfl

/-- A code and its dual are, multiplied, as many as there are words. -/
theorem Cd.both {n : Nat} {W : List Nat} (h : Cd n W) : W.length * (du n W).length = 2 ^ n := by
  have h1 : sm (fun v => sm (fun c => si n c v) W) (List.range (2 ^ n)) = (W.length : Int) * (du n W).length := by
    rw [sm_congr (H := fun v => (W.length : Int) * if Ev n W v = true then 1 else 0) fun v _ => ?_, sm_mul, sum_count]
    · rfl
    · rw [h.signs]
      split
      · omega
      · omega
  rw [sum_swap] at h1
  rw [sm_congr (H := fun c => if c = 0 then ((2 ^ n : Nat) : Int) else 0) fun c hc => si_all n c (h.lt c hc)] at h1
  have h2 : ∀ l : List Nat, l.Nodup → 0 ∈ l → sm (fun c => if c = 0 then ((2 ^ n : Nat) : Int) else 0) l = ((2 ^ n : Nat) : Int) := by
    intro l
    induction l with
    | nil => intro _ h; cases h
    | cons x l ih =>
      intro hn hm
      have hn := List.nodup_cons.mp hn
      rw [sm]
      by_cases hx : x = 0
      · subst hx
        rw [if_pos rfl, sm_congr (H := fun _ => 0) fun d hd => if_neg (by rintro rfl; exact hn.1 hd), sum_zero]
        omega
      · rw [if_neg hx, ih hn.2 ((List.mem_cons.mp hm).resolve_left (Ne.symm hx))]
        omega
  rw [h2 W h.nd h.zero] at h1
  have h3 : ((W.length * (du n W).length : Nat) : Int) = ((2 ^ n : Nat) : Int) := by rw [Int.natCast_mul, ← h1]
  exact Int.ofNat.inj h3

theorem nodup_len : ∀ (A B : List Nat), A.Nodup → (∀ x ∈ A, x ∈ B) → A.length ≤ B.length := by
  intro A
  induction A with
  | nil => intro B _ _; exact Nat.zero_le _
  | cons x A ih =>
    intro B hn hs
    have hx := hs x List.mem_cons_self
    have h1 := List.nodup_cons.mp hn
    have := ih (B.erase x) h1.2 fun y hy => (List.mem_erase_of_ne (by rintro rfl; exact h1.1 hy)).mpr (hs y (List.mem_cons_of_mem _ hy))
    have h2 := List.length_erase_of_mem hx
    have h3 := List.length_pos_of_mem hx
    simp only [List.length_cons]
    omega

/-- As many, and some of the others: all. -/
theorem all_of_len {A B : List Nat} (hA : A.Nodup) (hs : ∀ x ∈ A, x ∈ B) (hl : B.length ≤ A.length) : ∀ x ∈ B, x ∈ A := fun x hx => Classical.byContradiction fun hn => by
  have := nodup_len (x :: A) B (List.nodup_cons.mpr ⟨hn, hA⟩) fun y hy => by
    rcases List.mem_cons.mp hy with rfl | hy
    · exact hx
    · exact hs y hy
  simp only [List.length_cons] at this
  omega

/-- The dual of the dual. -/
theorem Cd.back {n : Nat} {W : List Nat} (h : Cd n W) (v : Nat) : v ∈ du n (du n W) ↔ v ∈ W := by
  have hs : ∀ x ∈ W, x ∈ du n (du n W) := fun x hx => mem_du.mpr ⟨h.lt x hx, ev_iff.mpr fun w hw => by
    rw [si_comm]
    exact ev_iff.mp (mem_du.mp hw).2 x hx⟩
  have h1 := h.both
  have h2 := (du_cd n W).both
  have hd := du_cd n (du n W)
  have hp : 0 < (du n W).length := List.length_pos_of_mem (du_cd n W).zero
  refine ⟨fun hv => all_of_len h.nd hs ?_ v hv, hs v⟩
  have h3 : (du n W).length * (du n (du n W)).length = (du n W).length * W.length := by rw [h2, ← h1, Nat.mul_comm]
  exact Nat.le_of_eq (Nat.eq_of_mul_eq_mul_left hp h3)

/-- How many words of W have j ones. -/
def wn (n : Nat) (W : List Nat) (j : Nat) : Int := sm (fun w => if on n w = j then 1 else 0) W

/-- One place before. -/
def bf (F : Nat → Int) : Nat → Int
  | 0 => 0
  | j + 1 => F j

/-- KRAWTCHOUK's numbers, one bit after the other: no ones, m noughts. -/
def k0 : Nat → Nat → Int
  | 0, j => if j = 0 then 1 else 0
  | m + 1, j => k0 m j + bf (k0 m) j
/-- i ones, m noughts. -/
def kr : Nat → Nat → Nat → Int
  | 0, m, j => k0 m j
  | i + 1, m, j => kr i m j - bf (kr i m) j

theorem kr_ones (i m j : Nat) : kr (i + 1) m j = kr i m j - bf (kr i m) j := rfl

theorem kr_noughts : ∀ i m j, kr i (m + 1) j = kr i m j + bf (kr i m) j := by
  intro i
  induction i with
  | zero => intro m j; rfl
  | succ i ih =>
    intro m j
    rw [kr_ones, kr_ones, ih]
    cases j with
    | zero => show _ + (0 : Int) - 0 = _ - 0 + 0; omega
    | succ j =>
      show kr i m (j + 1) + kr i m j - kr i (m + 1) j = kr i m (j + 1) - kr i m j + kr (i + 1) m j
      rw [ih, kr_ones]
      omega

/-- Signs of the words with j ones. -/
theorem si_weight : ∀ n c j, sm (fun v => if on n v = j then si n c v else 0) (List.range (2 ^ n)) = kr (on n c) (n - on n c) j := by
  intro n
  induction n with
  | zero =>
    intro c j
    show (if 0 = j then (1 : Int) else 0) + 0 = if j = 0 then 1 else 0
    by_cases h : j = 0
    · subst h; rfl
    · rw [if_neg (by omega), if_neg h]; rfl
  | succ n ih =>
    intro c j
    rw [sum_bits]
    have e1 : ∀ v, (if on (n + 1) (2 * v) = j then si (n + 1) c (2 * v) else 0) = if on n v = j then si n (c / 2) v else 0 := fun v => by
      have h1 : on (n + 1) (2 * v) = on n v := by rw [on, show 2 * v / 2 = v by omega]; omega
      have h2 : si (n + 1) c (2 * v) = si n (c / 2) v := by rw [si, show 2 * v / 2 = v by omega, if_neg (by omega), Int.one_mul]
      rw [h1, h2]
    have e2 : ∀ v, (if on (n + 1) (2 * v + 1) = j then si (n + 1) c (2 * v + 1) else 0) = (if c % 2 = 1 then -1 else 1) * bf (fun j => if on n v = j then si n (c / 2) v else 0) j := fun v => by
      have h1 : on (n + 1) (2 * v + 1) = on n v + 1 := by rw [on, show (2 * v + 1) / 2 = v by omega]; omega
      have h2 : si (n + 1) c (2 * v + 1) = (if c % 2 = 1 then -1 else 1) * si n (c / 2) v := by
        rw [si, show (2 * v + 1) / 2 = v by omega]
        congr 1
        by_cases h : c % 2 = 1
        · rw [if_pos ⟨h, by omega⟩, if_pos h]
        · rw [if_neg (by omega), if_neg h]
      rw [h1, h2]
      cases j with
      | zero => rw [if_neg (by omega)]; exact (Int.mul_zero _).symm
      | succ j =>
        show _ = _ * (if on n v = j then si n (c / 2) v else 0)
        by_cases h : on n v = j
        · rw [if_pos (by omega), if_pos h]
        · rw [if_neg (by omega), if_neg h, Int.mul_zero]
    rw [sm_congr (H := fun v => (if on n v = j then si n (c / 2) v else 0) + (if c % 2 = 1 then -1 else 1) * bf (fun j => if on n v = j then si n (c / 2) v else 0) j) fun v _ => by rw [e1, e2], sum_add, sm_mul, ih]
    have e3 : sm (fun v => bf (fun j => if on n v = j then si n (c / 2) v else 0) j) (List.range (2 ^ n)) = bf (kr (on n (c / 2)) (n - on n (c / 2))) j := by
      cases j with
      | zero => exact sum_zero _
      | succ j => exact ih (c / 2) j
    rw [e3, on]
    have hle := on_le n (c / 2)
    by_cases h : c % 2 = 1
    · rw [if_pos h, h, Nat.add_comm 1, kr_ones, show n + 1 - (on n (c / 2) + 1) = n - on n (c / 2) by omega]
      omega
    · rw [if_neg h, show c % 2 = 0 by omega, Nat.zero_add, show n + 1 - on n (c / 2) = n - on n (c / 2) + 1 by omega, kr_noughts]
      omega

/-- MACWILLIAMS. -/
theorem Cd.williams {n : Nat} {W : List Nat} (h : Cd n W) (j : Nat) : (W.length : Int) * wn n (du n W) j = sm (fun c => kr (on n c) (n - on n c) j) W := by
  have h1 : sm (fun v => sm (fun c => if on n v = j then si n c v else 0) W) (List.range (2 ^ n)) = (W.length : Int) * wn n (du n W) j := by
    unfold wn du
    rw [sum_filter, ← sm_mul]
    refine sm_congr fun v _ => ?_
    by_cases hj : on n v = j
    · rw [sm_congr (H := fun c => si n c v) fun c _ => if_pos hj, h.signs, if_pos hj]
      split <;> omega
    · rw [sm_congr (H := fun _ => 0) fun c _ => if_neg hj, sum_zero, if_neg hj]
      split <;> simp
  rw [← h1, sum_swap]
  exact sm_congr fun c _ => si_weight n c j

end Go.Proofs.Ytjccpfpldbjcbaa.Ln

namespace Go.Proofs.Ytjccpfpldbjcbaa.Ln
open Dd Rs

/-- Bit k. -/
def bt (k w : Nat) : Nat := w / 2 ^ k % 2
theorem bt_two (k w : Nat) : bt k w = 0 ∨ bt k w = 1 := Nat.mod_two_eq_zero_or_one _
theorem bt_xor (k a b : Nat) : bt k (a ^^^ b) = (bt k a + bt k b) % 2 := by
  unfold bt
  rw [Nat.xor_div_two_pow, xor_odd]
  rcases Nat.mod_two_eq_zero_or_one (a / 2 ^ k) with h1 | h1 <;> rcases Nat.mod_two_eq_zero_or_one (b / 2 ^ k) with h2 | h2 <;> rw [h1, h2] <;> rfl
theorem bt_high {k m w : Nat} (h : w < 2 ^ m) (hk : m ≤ k) : bt k w = 0 := by
  unfold bt
  rw [Nat.div_eq_of_lt (Nat.lt_of_lt_of_le h (Nat.pow_le_pow_right (by decide) hk))]

/-- k is the highest bit of w. -/
def Top (k w : Nat) : Prop := 2 ^ k ≤ w ∧ w < 2 ^ (k + 1)
theorem top_some {w : Nat} (h : w ≠ 0) : ∃ k, Top k w := by
  have : ∀ n, w < 2 ^ n → ∃ k, Top k w := by
    intro n
    induction n with
    | zero => intro h2; exact absurd (by simpa using h2) h
    | succ n ih =>
      intro h2
      by_cases h3 : w < 2 ^ n
      · exact ih h3
      · exact ⟨n, by omega, h2⟩
  exact this w Nat.lt_two_pow_self
theorem Top.bt {k w : Nat} (h : Top k w) : Ln.bt k w = 1 := by
  have hp : 0 < 2 ^ k := Nat.pow_pos (by decide)
  have e : w / 2 ^ k = 1 := by
    have h1 := h.1
    have h2 := h.2
    rw [Nat.pow_succ] at h2
    refine Nat.div_eq_of_lt_le ?_ ?_ <;> omega
  unfold Ln.bt
  rw [e]
theorem Top.lt {k n w : Nat} (h : Top k w) (hw : w < 2 ^ n) : k < n := by
  refine Nat.lt_of_not_le fun hle => ?_
  have := Nat.pow_le_pow_right (n := 2) (by decide) hle
  have := h.1
  omega
theorem Top.uniq {k j w : Nat} (h : Top k w) (g : Top j w) : k = j := by
  have h1 := Nat.lt_or_gt_of_ne (a := k) (b := j)
  refine Classical.byContradiction fun hne => ?_
  rcases h1 hne with h2 | h2
  · have := Nat.pow_le_pow_right (n := 2) (by decide) (show k + 1 ≤ j by omega)
    have := h.2
    have := g.1
    omega
  · have := Nat.pow_le_pow_right (n := 2) (by decide) (show j + 1 ≤ k by omega)
    have := g.2
    have := h.1
    omega

/-- k is the highest bit of a word of W. -/
def Hd (W : List Nat) (k : Nat) : Prop := ∃ w ∈ W, Top k w
theorem Hd.lt {n : Nat} {W : List Nat} (h : Cd n W) {k : Nat} (hk : Hd W k) : k < n := by
  obtain ⟨w, hw, ht⟩ := hk
  exact ht.lt (h.lt w hw)

/-- A word that is 0 at all of them is 0. -/
theorem hd_none {W : List Nat} {w : Nat} (hw : w ∈ W) (h0 : ∀ k, Hd W k → bt k w = 0) : w = 0 := by
  refine Classical.byContradiction fun hne => ?_
  obtain ⟨k, hk⟩ := top_some hne
  have := h0 k ⟨w, hw, hk⟩
  rw [hk.bt] at this
  cases this

/-- So words that are alike there are one. -/
theorem Cd.one {n : Nat} {W : List Nat} (h : Cd n W) {v w : Nat} (hv : v ∈ W) (hw : w ∈ W) (he : ∀ k, Hd W k → bt k v = bt k w) : v = w := by
  have h1 : v ^^^ w = 0 := hd_none (h.xor v hv w hw) fun k hk => by
    rw [bt_xor, he k hk]
    omega
  have := congrArg (· ^^^ w) h1
  simpa [Nat.xor_assoc] using this

/-- And there is one, whatever is asked there. -/
theorem Cd.any {n : Nat} {W : List Nat} (h : Cd n W) (T : Nat → Nat) (hT : ∀ k, T k = 0 ∨ T k = 1) : ∃ w ∈ W, ∀ k, Hd W k → bt k w = T k := by
  have go : ∀ d, d ≤ n → ∃ w ∈ W, ∀ k, n - d ≤ k → Hd W k → bt k w = T k := by
    intro d
    induction d with
    | zero => intro _; exact ⟨0, h.zero, fun k hk hh => by have := hh.lt h; omega⟩
    | succ d ih =>
      intro hd
      obtain ⟨w, hw, hk⟩ := ih (by omega)
      by_cases hh : Hd W (n - (d + 1))
      · by_cases hb : bt (n - (d + 1)) w = T (n - (d + 1))
        · refine ⟨w, hw, fun k h1 h2 => ?_⟩
          by_cases e : k = n - (d + 1)
          · rw [e]; exact hb
          · exact hk k (by omega) h2
        · obtain ⟨v, hv, ht⟩ := hh
          refine ⟨w ^^^ v, h.xor w hw v hv, fun k h1 h2 => ?_⟩
          rw [bt_xor]
          by_cases e : k = n - (d + 1)
          · rw [e, ht.bt]
            have a1 := hT (n - (d + 1))
            have a2 := bt_two (n - (d + 1)) w
            omega
          · rw [bt_high ht.2 (by omega), hk k (by omega) h2]
            have a1 := hT k
            omega
      · refine ⟨w, hw, fun k h1 h2 => ?_⟩
        by_cases e : k = n - (d + 1)
        · rw [e] at h2; exact absurd h2 hh
        · exact hk k (by omega) h2
  obtain ⟨w, hw, hk⟩ := go n (Nat.le_refl n)
  exact ⟨w, hw, fun k h2 => hk k (by omega) h2⟩

/-- The word of the basis for one of them. -/
def Bs (W : List Nat) (k b : Nat) : Prop := b ∈ W ∧ bt k b = 1 ∧ ∀ j, Hd W j → j ≠ k → bt j b = 0
theorem Cd.base_some {n : Nat} {W : List Nat} (h : Cd n W) (k : Nat) (hk : Hd W k) : ∃ b, Bs W k b := by
  obtain ⟨w, hw, h1⟩ := h.any (fun j => if j = k then 1 else 0) fun j => by by_cases e : j = k <;> simp [e]
  refine ⟨w, hw, ?_, fun j hj hne => ?_⟩
  · have := h1 k hk
    simpa using this
  · have := h1 j hj
    rwa [if_neg hne] at this
theorem Cd.base_one {n : Nat} {W : List Nat} (h : Cd n W) {k b c : Nat} (hb : Bs W k b) (hc : Bs W k c) : b = c :=
  h.one hb.1 hc.1 fun j hj => by
    by_cases e : j = k
    · rw [e, hb.2.1, hc.2.1]
    · rw [hb.2.2 j hj e, hc.2.2 j hj e]
/-- Its highest bit. -/
theorem base_top {W : List Nat} {k b : Nat} (hb : Bs W k b) : Top k b := by
  have hne : b ≠ 0 := fun e => by
    have := hb.2.1
    rw [e] at this
    simp [bt] at this
  obtain ⟨j, hj⟩ := top_some hne
  have hh : Hd W j := ⟨b, hb.1, hj⟩
  by_cases e : j = k
  · rw [← e]; exact hj
  · have := hb.2.2 j hh e
    rw [hj.bt] at this
    cases this

/-- All sums of some words. -/
def sums : List Nat → List Nat
  | [] => [0]
  | x :: l => sums l ++ (sums l).map (x ^^^ ·)
theorem sums_length (l : List Nat) : (sums l).length = 2 ^ l.length := by
  induction l with
  | nil => rfl
  | cons x l ih => rw [sums, List.length_append, List.length_map, ih, List.length_cons, Nat.pow_succ]; omega
theorem sums_zero (l : List Nat) : 0 ∈ sums l := by
  induction l with
  | nil => simp [sums]
  | cons x l ih => exact List.mem_append_left _ ih
theorem mem_sums {x : Nat} {l : List Nat} {w : Nat} : w ∈ sums (x :: l) ↔ w ∈ sums l ∨ x ^^^ w ∈ sums l := by
  rw [sums, List.mem_append, List.mem_map]
  constructor
  · rintro (h | ⟨v, hv, rfl⟩)
    · exact .inl h
    · refine .inr ?_
      rwa [← Nat.xor_assoc, Nat.xor_self, Nat.zero_xor]
  · rintro (h | h)
    · exact .inl h
    · exact .inr ⟨_, h, by rw [← Nat.xor_assoc, Nat.xor_self, Nat.zero_xor]⟩
theorem sums_xor : ∀ (l : List Nat) {v w : Nat}, v ∈ sums l → w ∈ sums l → v ^^^ w ∈ sums l := by
  intro l
  induction l with
  | nil =>
    intro v w hv hw
    simp only [sums, List.mem_singleton] at hv hw ⊢
    rw [hv, hw]
    rfl
  | cons x l ih =>
    intro v w hv hw
    rw [mem_sums] at hv hw ⊢
    rcases hv with hv | hv <;> rcases hw with hw | hw
    · exact .inl (ih hv hw)
    · refine .inr ?_
      have := ih hv hw
      rwa [← Nat.xor_assoc, Nat.xor_comm v x, Nat.xor_assoc] at this
    · refine .inr ?_
      have := ih hv hw
      rwa [Nat.xor_assoc] at this
    · refine .inl ?_
      have := ih hv hw
      rwa [Nat.xor_comm x v, Nat.xor_assoc, ← Nat.xor_assoc x x, Nat.xor_self, Nat.zero_xor] at this
theorem sums_own {l : List Nat} {x : Nat} (h : x ∈ l) : x ∈ sums l := by
  induction l with
  | nil => cases h
  | cons y l ih =>
    rw [mem_sums]
    rcases List.mem_cons.mp h with rfl | h
    · exact .inr (by rw [Nat.xor_self]; exact sums_zero l)
    · exact .inl (ih h)
theorem sums_lt {n : Nat} : ∀ {l : List Nat}, (∀ x ∈ l, x < 2 ^ n) → ∀ w ∈ sums l, w < 2 ^ n := by
  intro l
  induction l with
  | nil =>
    intro _ w hw
    simp only [sums, List.mem_singleton] at hw
    rw [hw]
    exact Nat.pow_pos (by decide)
  | cons x l ih =>
    intro h w hw
    have h1 := ih fun y hy => h y (List.mem_cons_of_mem _ hy)
    rw [sums, List.mem_append, List.mem_map] at hw
    rcases hw with hw | ⟨v, hv, rfl⟩
    · exact h1 w hw
    · exact Nat.xor_lt_two_pow (h x List.mem_cons_self) (h1 v hv)
/-- Those of a code lie in it. -/
theorem Cd.sums {n : Nat} {W : List Nat} (h : Cd n W) : ∀ {l : List Nat}, (∀ x ∈ l, x ∈ W) → ∀ w ∈ Ln.sums l, w ∈ W := by
  intro l
  induction l with
  | nil =>
    intro _ w hw
    simp only [Ln.sums, List.mem_singleton] at hw
    rw [hw]
    exact h.zero
  | cons x l ih =>
    intro hl w hw
    have h1 := ih fun y hy => hl y (List.mem_cons_of_mem _ hy)
    rw [Ln.sums, List.mem_append, List.mem_map] at hw
    rcases hw with hw | ⟨v, hv, rfl⟩
    · exact h1 w hw
    · exact h.xor x (hl x List.mem_cons_self) v (h1 v hv)

/-- A basis as a row: the highest bits k, the words b: each has its bit, and no other's. -/
structure Red (n : Nat) (K B : List Nat) : Prop where
  len : K.length = B.length
  nd : K.Nodup
  own : ∀ i (h1 : i < K.length) (h2 : i < B.length), Top K[i] B[i]
  other : ∀ i j (h1 : i < K.length) (h2 : j < B.length), i ≠ j → bt K[i] B[j] = 0

/-- What its words make: told by the bits. -/
theorem red_bits {n : Nat} : ∀ {K B : List Nat}, Red n K B → ∀ w ∈ sums B, (∀ k ∈ K, bt k w = 0) → w = 0 := by
  intro K B hR w hw h0
  -- w is the sum of those whose bit it has
  have go : ∀ (B : List Nat) (K : List Nat), K.length = B.length → (∀ i (h1 : i < K.length) (h2 : i < B.length), bt K[i] B[i] = 1) → (∀ i j (h1 : i < K.length) (h2 : j < B.length), i ≠ j → bt K[i] B[j] = 0) → ∀ w ∈ sums B, (∀ k ∈ K, bt k w = 0) → w = 0 := by
    intro B
    induction B with
    | nil =>
      intro K _ _ _ w hw _
      simpa [sums] using hw
    | cons b B ih =>
      intro K hl ho hz w hw h0
      match K, hl with
      | k :: K, hl =>
        have hl2 : K.length = B.length := by simpa using hl
        have hbk : bt k b = 1 := by
          have := ho 0 (by simp) (by simp)
          simpa using this
        have hB : ∀ v ∈ sums B, bt k v = 0 := by
          have hz2 : ∀ j (h2 : j < B.length), bt k B[j] = 0 := fun j h2 => by
            have := hz 0 (j + 1) (by simp) (by simpa using h2) (by omega)
            simpa using this
          have gen : ∀ C : List Nat, (∀ x ∈ C, bt k x = 0) → ∀ v ∈ sums C, bt k v = 0 := by
            intro C
            induction C with
            | nil =>
              intro _ v hv
              have : v = 0 := by simpa [sums] using hv
              rw [this]; simp [bt]
            | cons x C ihC =>
              intro hC v hv
              have h1 := ihC fun y hy => hC y (List.mem_cons_of_mem _ hy)
              rw [sums, List.mem_append, List.mem_map] at hv
              rcases hv with hv | ⟨u, hu, rfl⟩
              · exact h1 v hv
              · rw [bt_xor, hC x List.mem_cons_self, h1 u hu]
          exact gen B fun x hx => by
            obtain ⟨j, hj, rfl⟩ := List.getElem_of_mem hx
            exact hz2 j hj
        have ih2 := ih K hl2 (fun i h1 h2 => by
          have := ho (i + 1) (by simpa using h1) (by simpa using h2)
          simpa using this) fun i j h1 h2 hne => by
          have := hz (i + 1) (j + 1) (by simpa using h1) (by simpa using h2) (by omega)
          simpa using this
        rw [sums, List.mem_append, List.mem_map] at hw
        rcases hw with hw | ⟨v, hv, rfl⟩
        · exact ih2 w hw fun k hk => h0 k (List.mem_cons_of_mem _ hk)
        · have h1 := h0 k List.mem_cons_self
          rw [bt_xor, hbk, hB v hv] at h1
          cases h1
  exact go B K hR.len (fun i h1 h2 => (hR.own i h1 h2).bt) hR.other w hw h0

/-- The higher of two highest bits stays. -/
theorem Top.xor {i j a b : Nat} (ha : Top i a) (hb : Top j b) (h : i < j) : Top j (a ^^^ b) := by
  have hp := Nat.pow_le_pow_right (n := 2) (by decide) (show i + 1 ≤ j by omega)
  have ha2 : a < 2 ^ (j + 1) := by
    have := ha.2
    have := Nat.pow_le_pow_right (n := 2) (by decide) (show i + 1 ≤ j + 1 by omega)
    omega
  have hlt : a ^^^ b < 2 ^ (j + 1) := Nat.xor_lt_two_pow ha2 hb.2
  refine ⟨Nat.le_of_not_lt fun hc => ?_, hlt⟩
  have h1 : Ln.bt j (a ^^^ b) = 0 := bt_high hc (Nat.le_refl j)
  rw [bt_xor, hb.bt, bt_high ha.2 (by omega)] at h1
  cases h1

/-- The highest bit of a sum is that of one of them, if no two have the same. -/
theorem sums_top : ∀ (B : List Nat), (∀ b ∈ B, b ≠ 0) → B.Pairwise (fun a b => ∀ k, Top k a → ¬ Top k b) → ∀ w ∈ sums B, w ≠ 0 → ∀ k, Top k w → ∃ b ∈ B, Top k b := by
  intro B
  induction B with
  | nil =>
    intro _ _ w hw h0
    exact absurd (by simpa [sums] using hw) h0
  | cons x B ih =>
    intro hn hd w hw h0 k ht
    have hd2 := List.pairwise_cons.mp hd
    have ih2 := ih (fun b hb => hn b (List.mem_cons_of_mem _ hb)) hd2.2
    rw [sums, List.mem_append, List.mem_map] at hw
    rcases hw with hw | ⟨v, hv, rfl⟩
    · obtain ⟨b, hb, h1⟩ := ih2 w hw h0 k ht
      exact ⟨b, List.mem_cons_of_mem _ hb, h1⟩
    · by_cases hv0 : v = 0
      · rw [hv0, Nat.xor_zero] at ht
        exact ⟨x, List.mem_cons_self, ht⟩
      · obtain ⟨j, hj⟩ := top_some hv0
        obtain ⟨i, hi⟩ := top_some (hn x List.mem_cons_self)
        obtain ⟨b, hb, h1⟩ := ih2 v hv hv0 j hj
        have hne : i ≠ j := fun e => hd2.1 b hb i hi (by rw [e]; exact h1)
        rcases Nat.lt_or_gt_of_ne hne with h | h
        · have := (Top.xor hi hj h).uniq ht
          subst this
          exact ⟨b, List.mem_cons_of_mem _ hb, h1⟩
        · have h2 := Top.xor hj hi h
          rw [Nat.xor_comm] at h2
          have := h2.uniq ht
          subst this
          exact ⟨x, List.mem_cons_self, hi⟩

/-- The highest bits of what such words make are theirs. -/
theorem red_heads {n : Nat} {K B W : List Nat} (hR : Red n K B) (hW : ∀ w, w ∈ W ↔ w ∈ sums B) (k : Nat) : Hd W k ↔ k ∈ K := by
  constructor
  · rintro ⟨w, hw, ht⟩
    have h0 : w ≠ 0 := fun e => by
      have h1 := ht.1
      have : 0 < 2 ^ k := Nat.pow_pos (by decide)
      omega
    have hl := hR.len
    obtain ⟨b, hb, h1⟩ := sums_top B (fun b hb e => by
        obtain ⟨i, hi, rfl⟩ := List.getElem_of_mem hb
        have h2 := (hR.own i (by omega) hi).1
        have : 0 < 2 ^ K[i]'(by omega) := Nat.pow_pos (by decide)
        omega)
      (List.pairwise_iff_getElem.mpr fun i j hi hj hij m h1 h2 => by
        have a1 := (hR.own i (by omega) hi).uniq h1
        have a2 := hR.other i j (by omega) hj (by omega)
        rw [a1, h2.bt] at a2
        cases a2) w ((hW w).mp hw) h0 k ht
    obtain ⟨i, hi, rfl⟩ := List.getElem_of_mem hb
    rw [h1.uniq (hR.own i (by omega) hi)]
    exact List.getElem_mem _
  · intro hk
    obtain ⟨i, hi, rfl⟩ := List.getElem_of_mem hk
    have hl := hR.len
    exact ⟨B[i]'(by omega), (hW _).mpr (sums_own (List.getElem_mem _)), hR.own i hi (by omega)⟩

/-- So such words are the reduced basis of what they make. -/
theorem red_base {n : Nat} {K B W : List Nat} (hR : Red n K B) (hW : ∀ w, w ∈ W ↔ w ∈ sums B) (i : Nat) (h1 : i < K.length) (h2 : i < B.length) : Bs W K[i] B[i] := by
  refine ⟨(hW _).mpr (sums_own (List.getElem_mem _)), (hR.own i h1 h2).bt, fun j hj hne => ?_⟩
  obtain ⟨m, hm, rfl⟩ := List.getElem_of_mem ((red_heads hR hW j).mp hj)
  exact hR.other m i hm h2 fun e => hne (by subst e; rfl)

end Go.Proofs.Ytjccpfpldbjcbaa.Ln

namespace Go.Proofs.Ytjccpfpldbjcbaa.Ln
open Dd Rs

theorem k0_ch : ∀ m j, k0 m j = (ch m j : Nat) := by
  intro m
  induction m with
  | zero =>
    intro j
    cases j with
    | zero => rfl
    | succ j => rfl
  | succ m ih =>
    intro j
    cases j with
    | zero =>
      show k0 m 0 + 0 = _
      rw [ih, ch_zero, ch_zero]
      rfl
    | succ j =>
      show k0 m (j + 1) + k0 m j = ((ch m j + ch m (j + 1) : Nat) : Int)
      rw [ih, ih]
      omega

/-- A sign for each. -/
def sgn : Nat → Int
  | 0 => 1
  | s + 1 => - sgn s

/-- KRAWTCHOUK's numbers as a sum. -/
def kf (i m j : Nat) : Int := sm (fun s => sgn s * ((ch i s : Nat) * (ch m (j - s) : Nat))) (List.range (j + 1))

theorem sm_shift (F : Nat → Int) (n : Nat) : sm F (List.range (n + 1)) = F 0 + sm (fun k => F (k + 1)) (List.range n) := by
  rw [List.range_succ_eq_map, sm, sm_map]

theorem kr_sum : ∀ i m j, kr i m j = kf i m j := by
  intro i
  induction i with
  | zero =>
    intro m j
    show k0 m j = _
    rw [k0_ch, kf, sm_shift, sm_congr (H := fun _ => 0) fun s _ => ?_, sum_zero]
    · rw [ch_zero, Nat.sub_zero]
      simp [sgn]
    · show sgn (s + 1) * ((0 : Nat) * _) = 0
      simp
  | succ i ih =>
    intro m j
    rw [kr_ones, ih]
    have hb : bf (kr i m) j = bf (kf i m) j := by
      cases j with
      | zero => rfl
      | succ j => exact ih m j
    rw [hb, kf, kf, sm_shift, sm_shift]
    have e0 : ∀ n, ((ch n 0 : Nat) : Int) = 1 := fun n => by rw [ch_zero]; rfl
    rw [e0, e0]
    have e1 : sm (fun k => sgn (k + 1) * ((ch (i + 1) (k + 1) : Nat) * (ch m (j - (k + 1)) : Nat))) (List.range j)
        = sm (fun k => sgn (k + 1) * ((ch i (k + 1) : Nat) * (ch m (j - (k + 1)) : Nat))) (List.range j) + sm (fun k => sgn (k + 1) * ((ch i k : Nat) * (ch m (j - (k + 1)) : Nat))) (List.range j) := by
      rw [← sum_add]
      refine sm_congr fun k _ => ?_
      show sgn (k + 1) * (((ch i k + ch i (k + 1) : Nat) : Int) * _) = _
      rw [Int.natCast_add, Int.add_mul, Int.mul_add]
      omega
    have e2 : sm (fun k => sgn (k + 1) * ((ch i k : Nat) * (ch m (j - (k + 1)) : Nat))) (List.range j) = - bf (kf i m) j := by
      cases j with
      | zero => rfl
      | succ j =>
        show _ = - kf i m j
        rw [kf, ← sum_neg]
        refine sm_congr fun k _ => ?_
        rw [show j + 1 - (k + 1) = j - k by omega]
        show - sgn k * _ = _
        rw [Int.neg_mul]
    rw [e1, e2]
    omega

theorem on_zero : ∀ n, on n 0 = 0 := by
  intro n
  induction n with
  | zero => rfl
  | succ n ih => rw [on, Nat.zero_div, ih]

/-- How many words have j ones. -/
theorem weight_count (n j : Nat) : sm (fun v => if on n v = j then 1 else 0) (List.range (2 ^ n)) = (ch n j : Nat) := by
  have h := si_weight n 0 j
  rw [on_zero, Nat.sub_zero, show kr 0 n j = k0 n j from rfl, k0_ch] at h
  rw [← h]
  refine sm_congr fun v _ => ?_
  rw [si_comm, si_zero]

theorem on_xor : ∀ n a b, on n (a ^^^ b) ≤ on n a + on n b := by
  intro n
  induction n with
  | zero => intro a b; exact Nat.le_refl 0
  | succ n ih =>
    intro a b
    rw [on, on, on, xor_half, xor_odd]
    have := ih (a / 2) (b / 2)
    rcases Nat.mod_two_eq_zero_or_one a with h1 | h1 <;> rcases Nat.mod_two_eq_zero_or_one b with h2 | h2 <;> rw [h1, h2] <;> simp <;> omega

theorem on_none : ∀ n w, w < 2 ^ n → on n w = 0 → w = 0 := by
  intro n
  induction n with
  | zero => intro w h _; simpa using h
  | succ n ih =>
    intro w h h0
    rw [on] at h0
    have := ih (w / 2) (by rw [Nat.pow_succ] at h; omega) (by omega)
    omega

/-- A word below 2 to the m has no more than m ones. -/
theorem on_small : ∀ n m w, w < 2 ^ m → on n w ≤ m := by
  intro n
  induction n with
  | zero => intro m w _; exact Nat.zero_le _
  | succ n ih =>
    intro m w h
    cases m with
    | zero =>
      have : w = 0 := by simpa using h
      subst this
      rw [on_zero]
      exact Nat.le_refl 0
    | succ m =>
      have := ih m (w / 2) (by rw [Nat.pow_succ] at h; omega)
      rw [on]
      omega

/-- The code's words, but 0, have d ones at least. -/
def Dist (n d : Nat) (W : List Nat) : Prop := ∀ w ∈ W, w ≠ 0 → d ≤ on n w

theorem Cd.apart {n d : Nat} {W : List Nat} (h : Cd n W) (hd : Dist n d W) {v w : Nat} (hv : v ∈ W) (hw : w ∈ W) (hl : on n (v ^^^ w) < d) : v = w := by
  refine Classical.byContradiction fun hne => ?_
  have h0 : v ^^^ w ≠ 0 := fun e => hne (by
    have := congrArg (· ^^^ w) e
    simpa [Nat.xor_assoc] using this)
  have := hd _ (h.xor v hv w hw) h0
  omega

/-- SINGLETON. -/
theorem Cd.singleton {n d : Nat} {W : List Nat} (h : Cd n W) (hd : Dist n d W) (d1 : 1 ≤ d) (dn : d ≤ n) : W.length ≤ 2 ^ (n - (d - 1)) := by
  have h1 : (W.map (· / 2 ^ (d - 1))).Nodup := by
    unfold List.Nodup
    rw [List.pairwise_map]
    have : W.Pairwise (fun x y => x ∈ W ∧ y ∈ W ∧ x ≠ y) := by
      refine (List.pairwise_iff_getElem.mpr fun i j hi hj hij => ⟨List.getElem_mem hi, List.getElem_mem hj, ?_⟩)
      exact List.pairwise_iff_getElem.mp h.nd i j hi hj hij
    refine this.imp fun {v w} ⟨hv, hw, hne⟩ e => hne (h.apart hd hv hw ?_)
    have e2 : (v ^^^ w) / 2 ^ (d - 1) = 0 := by rw [Nat.xor_div_two_pow, e, Nat.xor_self]
    have h3 : v ^^^ w < 2 ^ (d - 1) := by
      have := Nat.pow_pos (n := d - 1) (show 0 < 2 by decide)
      exact (Nat.div_eq_zero_iff.mp e2).resolve_left (by omega)
    have := on_small n (d - 1) _ h3
    omega
  have h2 := nodup_len (W.map (· / 2 ^ (d - 1))) (List.range (2 ^ (n - (d - 1)))) h1 fun x hx => by
    obtain ⟨w, hw, rfl⟩ := List.mem_map.mp hx
    rw [List.mem_range]
    refine Nat.div_lt_of_lt_mul ?_
    rw [← Nat.pow_add, show d - 1 + (n - (d - 1)) = n by omega]
    exact h.lt w hw
  rwa [List.length_map, List.length_range] at h2

/-- HAMMING: what is nearer than half is apart. -/
theorem Cd.packed {n d t : Nat} {W : List Nat} (h : Cd n W) (hd : Dist n d W) (ht : 2 * t < d) : (W.length : Int) * sm (fun i => ((ch n i : Nat) : Int)) (List.range (t + 1)) ≤ ((2 ^ n : Nat) : Int) := by
  obtain ⟨B, hB⟩ : ∃ B, (List.range (2 ^ n)).filter (fun v => decide (on n v ≤ t)) = B := ⟨_, rfl⟩
  have mB : ∀ v, v ∈ B ↔ v < 2 ^ n ∧ on n v ≤ t := fun v => by rw [← hB, List.mem_filter, List.mem_range]; simp
  have lB : (B.length : Int) = sm (fun i => ((ch n i : Nat) : Int)) (List.range (t + 1)) := by
    rw [← hB, ← sum_count, sm_congr (l := List.range (t + 1)) (H := fun i => sm (fun v => if on n v = i then 1 else 0) (List.range (2 ^ n))) fun i _ => (weight_count n i).symm, sum_swap]
    refine sm_congr fun v _ => ?_
    have : ∀ m, sm (fun i => if on n v = i then (1 : Int) else 0) (List.range m) = if on n v < m then 1 else 0 := by
      intro m
      induction m with
      | zero => rfl
      | succ m ih =>
        rw [List.range_succ, sm_append, ih]
        simp only [sm]
        by_cases h1 : on n v < m
        · rw [if_pos h1, if_neg (by omega), if_pos (by omega)]; rfl
        · by_cases h2 : on n v = m
          · rw [if_neg h1, if_pos h2, if_pos (by omega)]; rfl
          · rw [if_neg h1, if_neg h2, if_neg (by omega)]; rfl
    rw [this]
    by_cases h1 : on n v ≤ t
    · rw [if_pos (by simpa using h1), if_pos (by omega)]
    · rw [if_neg (by simpa using h1), if_neg (by omega)]
  have nd : ∀ V : List Nat, (∀ v ∈ V, v ∈ W) → V.Nodup → (V.flatMap fun c => B.map (c ^^^ ·)).Nodup := by
    intro V
    induction V with
    | nil => intro _ _; exact List.nodup_nil
    | cons c V ih =>
      intro hV hn
      have hn := List.nodup_cons.mp hn
      rw [List.flatMap_cons, List.nodup_append]
      refine ⟨?_, ih (fun v hv => hV v (List.mem_cons_of_mem _ hv)) hn.2, fun a ha b hb e => ?_⟩
      · unfold List.Nodup
        rw [List.pairwise_map]
        have hBn : B.Nodup := by rw [← hB]; exact List.Pairwise.filter _ List.nodup_range
        exact hBn.imp fun hne e => hne (by
          have := congrArg (c ^^^ ·) e
          simpa [← Nat.xor_assoc] using this)
      · subst e
        obtain ⟨e1, he1, rfl⟩ := List.mem_map.mp ha
        obtain ⟨c2, hc2, h2⟩ := List.mem_flatMap.mp hb
        obtain ⟨e2, he2, h3⟩ := List.mem_map.mp h2
        have h3 : c2 ^^^ e2 = c ^^^ e1 := h3
        have h4 : c ^^^ c2 = e1 ^^^ e2 := by
          have := congrArg (fun z => c2 ^^^ z ^^^ e1) h3
          rw [← Nat.xor_assoc c2, Nat.xor_self, Nat.zero_xor, ← Nat.xor_assoc c2, Nat.xor_assoc (c2 ^^^ c), Nat.xor_self, Nat.xor_zero] at this
          rw [Nat.xor_comm c, ← this, Nat.xor_comm e1]
        have h5 := on_xor n e1 e2
        rw [← h4] at h5
        have k1 := ((mB e1).mp he1).2
        have k2 := ((mB e2).mp he2).2
        have := h.apart hd (hV c List.mem_cons_self) (hV c2 (List.mem_cons_of_mem _ hc2)) (by omega)
        subst this
        exact hn.1 hc2
  have hlen : ∀ V : List Nat, (V.flatMap fun c => B.map (c ^^^ ·)).length = V.length * B.length := by
    intro V
    induction V with
    | nil => simp
    | cons c V ih => rw [List.flatMap_cons, List.length_append, ih, List.length_map, List.length_cons, Nat.succ_mul]; omega
  have h1 := nodup_len _ (List.range (2 ^ n)) (nd W (fun _ h => h) h.nd) fun x hx => by
    obtain ⟨c, hc, h2⟩ := List.mem_flatMap.mp hx
    obtain ⟨e, he, rfl⟩ := List.mem_map.mp h2
    exact List.mem_range.mpr (Nat.xor_lt_two_pow (h.lt c hc) ((mB e).mp he).1)
  rw [hlen, List.length_range] at h1
  rw [← lB, ← Int.natCast_mul]
  exact Int.ofNat_le.mpr h1

/-- Ones, place by place. -/
theorem on_places : ∀ n w, ((on n w : Nat) : Int) = sm (fun k => ((w / 2 ^ k % 2 : Nat) : Int)) (List.range n) := by
  intro n
  induction n with
  | zero => intro w; rfl
  | succ n ih =>
    intro w
    rw [sm_shift, on, Int.natCast_add, ih, Nat.pow_zero, Nat.div_one]
    congr 1
    refine sm_congr fun k _ => ?_
    rw [Nat.div_div_eq_div_mul, Nat.pow_succ, Nat.mul_comm]

theorem si_bit : ∀ n c k, k < n → si n c (2 ^ k) = 1 - 2 * ((c / 2 ^ k % 2 : Nat) : Int) := by
  intro n
  induction n with
  | zero => intro c k h; omega
  | succ n ih =>
    intro c k h
    rw [si]
    cases k with
    | zero =>
      rw [Nat.pow_zero, show 1 / 2 = 0 by decide, si_zero, Nat.div_one]
      rcases Nat.mod_two_eq_zero_or_one c with h1 | h1 <;> rw [h1] <;> simp
    | succ k =>
      rw [Nat.pow_succ, show 2 ^ k * 2 / 2 = 2 ^ k by omega, show 2 ^ k * 2 % 2 = 0 by omega, if_neg (by omega), Int.one_mul, ih (c / 2) k (by omega), Nat.div_div_eq_div_mul, Nat.mul_comm 2]

/-- PLOTKIN. -/
theorem Cd.plotkin {n d : Nat} {W : List Nat} (h : Cd n W) (hd : Dist n d W) : 2 * ((d : Int) * ((W.length : Int) - 1)) ≤ (n : Int) * W.length := by
  have h1 : (d : Int) * ((W.length : Int) - 1) ≤ sm (fun w => ((on n w : Nat) : Int)) W := by
    have h2 : sm (fun w => (d : Int) * 1 + (if w = 0 then - (d : Int) else 0)) W ≤ sm (fun w => ((on n w : Nat) : Int)) W := sum_le fun w hw => by
      by_cases h0 : w = 0
      · subst h0
        rw [if_pos rfl, on_zero]
        omega
      · rw [if_neg h0]
        have := hd w hw h0
        omega
    rw [sum_add, sm_mul, sm_one] at h2
    have h3 : ∀ l : List Nat, l.Nodup → 0 ∈ l → sm (fun w => if w = 0 then - (d : Int) else 0) l = - (d : Int) := by
      intro l
      induction l with
      | nil => intro _ h; cases h
      | cons x l ih =>
        intro hn hm
        have hn := List.nodup_cons.mp hn
        rw [sm]
        by_cases hx : x = 0
        · subst hx
          rw [if_pos rfl, sm_congr (H := fun _ => 0) fun d hd => if_neg (by rintro rfl; exact hn.1 hd), sum_zero]
          omega
        · rw [if_neg hx, ih hn.2 ((List.mem_cons.mp hm).resolve_left (Ne.symm hx))]
          omega
    rw [h3 W h.nd h.zero] at h2
    rw [Int.mul_sub, Int.mul_one]
    omega
  have h2 : sm (fun w => ((on n w : Nat) : Int)) W = sm (fun k => sm (fun w => ((w / 2 ^ k % 2 : Nat) : Int)) W) (List.range n) := by
    rw [← sum_swap]
    exact sm_congr fun w _ => on_places n w
  have h3 : 2 * sm (fun k => sm (fun w => ((w / 2 ^ k % 2 : Nat) : Int)) W) (List.range n) ≤ sm (fun _ => (W.length : Int) * 1) (List.range n) := by
    rw [← sm_mul]
    refine sum_le fun k hk => ?_
    have hk := List.mem_range.mp hk
    have h4 := h.signs (2 ^ k)
    rw [sm_congr (H := fun c => 1 + (-2) * ((c / 2 ^ k % 2 : Nat) : Int)) fun c _ => by rw [si_bit n c k hk]; omega, sum_add, sm_mul, sm_one] at h4
    split at h4 <;> omega
  rw [sm_mul, sm_one, List.length_range] at h3
  rw [h2] at h1
  rw [Int.mul_comm (n : Int)]
  omega

end Go.Proofs.Ytjccpfpldbjcbaa.Ln

namespace Go.Proofs.Ytjccpfpldbjcbaa.Ln

/-- The sum by the set s, as far as generator k. -/
def wk (l : List Nat) (s : Nat) : Nat → Nat
  | 0 => 0
  | k + 1 => wk l s k ^^^ l.getD k 0 * (s / 2 ^ k % 2)

theorem wk_cons (x : Nat) (l : List Nat) (s : Nat) : ∀ k, wk (x :: l) s (k + 1) = x * (s % 2) ^^^ wk l (s / 2) k := by
  intro k
  induction k with
  | zero => rw [wk, wk, wk, Nat.pow_zero, Nat.div_one, Nat.zero_xor, Nat.xor_zero]; rfl
  | succ k ih =>
    rw [wk, ih, wk, ← Nat.xor_assoc]
    congr 1
    rw [Nat.pow_succ, Nat.mul_comm (2 ^ k), ← Nat.div_div_eq_div_mul, List.getD_cons_succ]

/-- All sums, by sets. -/
theorem mem_wk : ∀ (l : List Nat) (w : Nat), w ∈ sums l ↔ ∃ s, s < 2 ^ l.length ∧ wk l s l.length = w := by
  intro l
  induction l with
  | nil =>
    intro w
    rw [sums, List.mem_singleton]
    constructor
    · rintro rfl; exact ⟨0, by decide, rfl⟩
    · rintro ⟨s, _, rfl⟩; rfl
  | cons x l ih =>
    intro w
    rw [mem_sums, List.length_cons]
    constructor
    · rintro (h | h)
      · obtain ⟨s, s1, s2⟩ := (ih w).mp h
        refine ⟨2 * s, by rw [Nat.pow_succ]; omega, ?_⟩
        rw [wk_cons, show 2 * s % 2 = 0 by omega, show 2 * s / 2 = s by omega, Nat.mul_zero, Nat.zero_xor, s2]
      · obtain ⟨s, s1, s2⟩ := (ih _).mp h
        refine ⟨2 * s + 1, by rw [Nat.pow_succ]; omega, ?_⟩
        rw [wk_cons, show (2 * s + 1) % 2 = 1 by omega, show (2 * s + 1) / 2 = s by omega, Nat.mul_one, s2, ← Nat.xor_assoc, Nat.xor_self, Nat.zero_xor]
    · rintro ⟨s, s1, s2⟩
      rw [Nat.pow_succ] at s1
      have h1 := (ih (wk l (s / 2) l.length)).mpr ⟨s / 2, by omega, rfl⟩
      rw [wk_cons] at s2
      rcases Nat.mod_two_eq_zero_or_one s with h | h
      · rw [h, Nat.mul_zero, Nat.zero_xor] at s2
        exact .inl (s2 ▸ h1)
      · rw [h, Nat.mul_one] at s2
        refine .inr ?_
        rw [← s2, ← Nat.xor_assoc, Nat.xor_self, Nat.zero_xor]
        exact h1

/-- Of equal neighbours one. -/
def cpt : List Nat → List Nat
  | [] => []
  | a :: l => if l.head? = some a then cpt l else a :: cpt l
theorem mem_cpt : ∀ (l : List Nat) (w : Nat), w ∈ cpt l ↔ w ∈ l := by
  intro l
  induction l with
  | nil => intro w; exact Iff.rfl
  | cons a l ih =>
    intro w
    rw [cpt]
    by_cases h : l.head? = some a
    · rw [if_pos h, ih, List.mem_cons]
      refine ⟨.inr, ?_⟩
      rintro (rfl | h2)
      · exact List.mem_of_mem_head? h
      · exact h2
    · rw [if_neg h, List.mem_cons, List.mem_cons, ih]
theorem cpt_lt : ∀ (l : List Nat), l.Pairwise (· ≤ ·) → (cpt l).Pairwise (· < ·) := by
  intro l
  induction l with
  | nil => intro _; exact List.Pairwise.nil
  | cons a l ih =>
    intro h
    rw [List.pairwise_cons] at h
    rw [cpt]
    by_cases h2 : l.head? = some a
    · rw [if_pos h2]; exact ih h.2
    · rw [if_neg h2]
      refine List.pairwise_cons.mpr ⟨fun b hb => ?_, ih h.2⟩
      have hb := (mem_cpt l b).mp hb
      have h3 := h.1 b hb
      refine Nat.lt_of_le_of_ne h3 fun e => h2 ?_
      subst e
      cases l with
      | nil => cases hb
      | cons c l =>
        show some c = some a
        have h4 := h.1 c List.mem_cons_self
        rcases List.mem_cons.mp hb with h5 | h5
        · rw [h5]
        · have := (List.pairwise_cons.mp h.2).1 a h5
          rw [show c = a by omega]

/-- Two in order with the same members are one. -/
theorem lt_one : ∀ (l k : List Nat), l.Pairwise (· < ·) → k.Pairwise (· < ·) → (∀ w, w ∈ l ↔ w ∈ k) → l = k := by
  intro l
  induction l with
  | nil =>
    intro k _ _ h
    cases k with
    | nil => rfl
    | cons a k => have := (h a).mpr List.mem_cons_self; cases this
  | cons a l ih =>
    intro k hl hk h
    cases k with
    | nil => have := (h a).mp List.mem_cons_self; cases this
    | cons b k =>
      rw [List.pairwise_cons] at hl hk
      have e : a = b := by
        rcases List.mem_cons.mp ((h a).mp List.mem_cons_self) with h1 | h1
        · exact h1
        · rcases List.mem_cons.mp ((h b).mpr List.mem_cons_self) with h2 | h2
          · exact h2.symm
          · have := hk.1 a h1; have := hl.1 b h2; omega
      subst e
      congr 1
      refine ih k hl.2 hk.2 fun w => ⟨fun hw => ?_, fun hw => ?_⟩
      · rcases List.mem_cons.mp ((h w).mp (List.mem_cons_of_mem _ hw)) with h1 | h1
        · have := hl.1 w hw; omega
        · exact h1
      · rcases List.mem_cons.mp ((h w).mpr (List.mem_cons_of_mem _ hw)) with h1 | h1
        · have := hk.1 w hw; omega
        · exact h1

end Go.Proofs.Ytjccpfpldbjcbaa.Ln

namespace Go.Proofs.Ytjccpfpldbjcbaa.Ln
open Dd Rs

/-- A bit that none of them has, no sum has. -/
theorem sums_bit {k : Nat} : ∀ {B : List Nat}, (∀ b ∈ B, bt k b = 0) → ∀ w ∈ sums B, bt k w = 0 := by
  intro B
  induction B with
  | nil =>
    intro _ w hw
    simp only [sums, List.mem_singleton] at hw
    rw [hw]
    simp [bt]
  | cons x B ih =>
    intro h w hw
    have h1 := ih fun y hy => h y (List.mem_cons_of_mem _ hy)
    rw [sums, List.mem_append, List.mem_map] at hw
    rcases hw with hw | ⟨v, hv, rfl⟩
    · exact h1 w hw
    · rw [bt_xor, h x List.mem_cons_self, h1 v hv]

/-- Sums of sums are sums. -/
theorem sums_sub {A B : List Nat} (h : ∀ a ∈ A, a ∈ sums B) : ∀ w ∈ sums A, w ∈ sums B := by
  induction A with
  | nil =>
    intro w hw
    simp only [sums, List.mem_singleton] at hw
    rw [hw]
    exact sums_zero B
  | cons x A ih =>
    intro w hw
    have h1 := ih fun y hy => h y (List.mem_cons_of_mem _ hy)
    rw [sums, List.mem_append, List.mem_map] at hw
    rcases hw with hw | ⟨v, hv, rfl⟩
    · exact h1 w hw
    · exact sums_xor B (h x List.mem_cons_self) (h1 v hv)

theorem Red.tail {n k b : Nat} {K B : List Nat} (h : Red n (k :: K) (b :: B)) : Red n K B where
  len := by simpa using h.len
  nd := (List.nodup_cons.mp h.nd).2
  own i h1 h2 := by
    have := h.own (i + 1) (by simpa using h1) (by simpa using h2)
    simpa using this
  other i j h1 h2 hne := by
    have := h.other (i + 1) (j + 1) (by simpa using h1) (by simpa using h2) (by omega)
    simpa using this
theorem Red.head {n k b : Nat} {K B : List Nat} (h : Red n (k :: K) (b :: B)) : Top k b := h.own 0 (by simp) (by simp)
theorem Red.rest {n k b : Nat} {K B : List Nat} (h : Red n (k :: K) (b :: B)) : ∀ c ∈ B, bt k c = 0 := by
  intro c hc
  obtain ⟨i, hi, rfl⟩ := List.getElem_of_mem hc
  have := h.other 0 (i + 1) (by simp) (by simpa using hi) (by omega)
  simpa using this
theorem Red.over {n k b : Nat} {K B : List Nat} (h : Red n (k :: K) (b :: B)) : ∀ j ∈ K, bt j b = 0 := by
  intro c hc
  obtain ⟨i, hi, rfl⟩ := List.getElem_of_mem hc
  have := h.other (i + 1) 0 (by simpa using hi) (by simp) (by omega)
  simpa using this

/-- Every sum of such rows is another. -/
theorem Red.sums_nodup {n : Nat} : ∀ {B K : List Nat}, Red n K B → (sums B).Nodup := by
  intro B
  induction B with
  | nil => intro K _; simp [sums]
  | cons b B ih =>
    intro K h
    match K, h with
    | [], h => have := h.len; simp at this
    | k :: K, h =>
      have h1 := ih h.tail
      rw [sums]
      refine List.nodup_append.mpr ⟨h1, ?_, ?_⟩
      · refine List.pairwise_map.mpr (h1.imp fun hne he => hne ?_)
        have := congrArg (b ^^^ ·) he
        simpa [← Nat.xor_assoc] using this
      · intro v hv w hw he
        obtain ⟨u, hu, rfl⟩ := List.mem_map.mp hw
        have e1 := sums_bit h.rest v hv
        rw [he, bt_xor, h.head.bt, sums_bit h.rest u hu] at e1
        cases e1
/-- So a code with such rows has 2^k words. -/
theorem Red.words {n : Nat} {K B W : List Nat} (hR : Red n K B) (hd : W.Nodup) (hW : ∀ w, w ∈ W ↔ w ∈ sums B) : W.length = 2 ^ K.length := by
  have h1 := nodup_len W (sums B) hd fun x hx => (hW x).mp hx
  have h2 := nodup_len (sums B) W hR.sums_nodup fun x hx => (hW x).mpr hx
  rw [sums_length] at h1 h2
  rw [hR.len]
  omega

/-- A word less the rows whose bits it has. -/
def rd : List Nat → List Nat → Nat → Nat
  | k :: K, b :: B, v => rd K B (if bt k v = 1 then v ^^^ b else v)
  | _, _, v => v
theorem rd_keep {j : Nat} : ∀ (K B : List Nat) (v : Nat), (∀ b ∈ B, bt j b = 0) → bt j (rd K B v) = bt j v := by
  intro K
  induction K with
  | nil => intro B v _; rfl
  | cons k K ih =>
    intro B v h
    match B, h with
    | [], _ => rfl
    | b :: B, h =>
      rw [rd, ih B _ fun c hc => h c (List.mem_cons_of_mem _ hc)]
      split
      · have := bt_two j v
        rw [bt_xor, h b List.mem_cons_self]
        omega
      · rfl
theorem rd_bits {n : Nat} : ∀ {K B : List Nat} (v : Nat), Red n K B → ∀ k ∈ K, bt k (rd K B v) = 0 := by
  intro K
  induction K with
  | nil => intro B v _ k hk; cases hk
  | cons k K ih =>
    intro B v h j hj
    match B, h with
    | [], h => have := h.len; simp at this
    | b :: B, h =>
      rw [rd]
      rcases List.mem_cons.mp hj with rfl | hj
      · rw [rd_keep K B _ h.rest]
        split
        · rename_i e
          rw [bt_xor, e, h.head.bt]
        · rename_i e
          exact (bt_two j v).resolve_right e
      · exact ih _ h.tail j hj
theorem rd_sum : ∀ (K B : List Nat) (v : Nat), v ^^^ rd K B v ∈ sums B := by
  intro K
  induction K with
  | nil => intro B v; rw [rd.eq_2 _ _ _ (by intros; contradiction), Nat.xor_self]; exact sums_zero B
  | cons k K ih =>
    intro B v
    match B with
    | [] => rw [rd.eq_2 _ _ _ (by intros; contradiction), Nat.xor_self]; exact sums_zero []
    | b :: B =>
      rw [rd]
      split
      · refine mem_sums.mpr (.inr ?_)
        have := ih B (v ^^^ b)
        rwa [Nat.xor_comm v b, Nat.xor_assoc, Nat.xor_comm b v] at this
      · exact mem_sums.mpr (.inl (ih B v))
/-- A word is made of the rows when nothing of it is left. -/
theorem rd_zero {n : Nat} {K B : List Nat} (h : Red n K B) (v : Nat) : rd K B v = 0 ↔ v ∈ sums B := by
  have h1 := rd_sum K B v
  constructor
  · intro e
    rwa [e, Nat.xor_zero] at h1
  · intro hv
    refine red_bits h _ ?_ (rd_bits v h)
    have := sums_xor B hv h1
    rwa [← Nat.xor_assoc, Nat.xor_self, Nat.zero_xor] at this

/-- One row more: it is struck from those that have its bit. -/
theorem Red.insert {n k r : Nat} {K B : List Nat} (h : Red n K B) (hr : ∀ j ∈ K, bt j r = 0) (ht : Top k r) :
    Red n (k :: K) (r :: B.map fun b => if bt k b = 1 then b ^^^ r else b) := by
  have hk : k ∉ K := fun e => by
    have := hr k e
    rw [ht.bt] at this
    cases this
  refine ⟨by simpa using h.len, List.nodup_cons.mpr ⟨hk, h.nd⟩, ?_, ?_⟩
  · intro i h1 h2
    match i with
    | 0 => exact ht
    | i + 1 =>
      have g1 : i < K.length := by simpa using h1
      have g2 : i < B.length := by simpa using h2
      simp only [List.getElem_cons_succ, List.getElem_map]
      have ho := h.own i g1 g2
      split
      · rename_i e
        have hne : k ≠ K[i] := fun e2 => hk (e2 ▸ List.getElem_mem g1)
        rcases Nat.lt_or_gt_of_ne hne with hlt | hlt
        · have := Top.xor ht ho hlt
          rwa [Nat.xor_comm] at this
        · have := bt_high ho.2 (show K[i] + 1 ≤ k by omega)
          rw [e] at this
          cases this
      · exact ho
  · intro i j h1 h2 hne
    match i, j with
    | 0, 0 => exact absurd rfl hne
    | 0, j + 1 =>
      simp only [List.getElem_cons_succ, List.getElem_map, List.getElem_cons_zero]
      split
      · rename_i e
        rw [bt_xor, e, ht.bt]
      · rename_i e
        exact (bt_two _ _).resolve_right e
    | i + 1, 0 =>
      simp only [List.getElem_cons_succ, List.getElem_cons_zero]
      exact hr _ (List.getElem_mem _)
    | i + 1, j + 1 =>
      have g1 : i < K.length := by simpa using h1
      have g2 : j < B.length := by simpa using h2
      simp only [List.getElem_cons_succ, List.getElem_map]
      have ho := h.other i j g1 g2 (by omega)
      split
      · rw [bt_xor, ho, hr _ (List.getElem_mem g1)]
      · exact ho
/-- And what they make is what the rows and the word made. -/
theorem insert_sums (k r : Nat) (B : List Nat) (w : Nat) : w ∈ sums (r :: B.map fun b => if bt k b = 1 then b ^^^ r else b) ↔ w ∈ sums (r :: B) := by
  constructor
  · refine sums_sub (fun a ha => ?_) w
    rcases List.mem_cons.mp ha with rfl | ha
    · exact sums_own List.mem_cons_self
    · obtain ⟨b, hb, rfl⟩ := List.mem_map.mp ha
      have hb1 : b ∈ sums (r :: B) := sums_own (List.mem_cons_of_mem _ hb)
      split
      · exact sums_xor _ hb1 (sums_own List.mem_cons_self)
      · exact hb1
  · refine sums_sub (fun a ha => ?_) w
    rcases List.mem_cons.mp ha with rfl | ha
    · exact sums_own List.mem_cons_self
    · have hr : r ∈ sums (r :: B.map fun b => if bt k b = 1 then b ^^^ r else b) := sums_own List.mem_cons_self
      have hb : (if bt k a = 1 then a ^^^ r else a) ∈ sums (r :: B.map fun b => if bt k b = 1 then b ^^^ r else b) :=
        sums_own (List.mem_cons_of_mem _ (List.mem_map.mpr ⟨a, ha, rfl⟩))
      split at hb
      · have := sums_xor _ hb hr
        rwa [Nat.xor_assoc, Nat.xor_self, Nat.xor_zero] at this
      · exact hb
/-- The same with a word less the rows in place of the word. -/
theorem rest_sums (K B : List Nat) (v w : Nat) : w ∈ sums (rd K B v :: B) ↔ w ∈ sums (v :: B) := by
  have up : ∀ {x y : Nat}, x ∈ sums B → x ∈ sums (y :: B) := fun h => mem_sums.mpr (.inl h)
  constructor
  · refine sums_sub (fun a ha => ?_) w
    rcases List.mem_cons.mp ha with rfl | ha
    · have := sums_xor _ (sums_own (List.mem_cons_self (a := v) (l := B))) (up (y := v) (rd_sum K B v))
      rwa [← Nat.xor_assoc, Nat.xor_self, Nat.zero_xor] at this
    · exact sums_own (List.mem_cons_of_mem _ ha)
  · refine sums_sub (fun a ha => ?_) w
    rcases List.mem_cons.mp ha with rfl | ha
    · have := sums_xor _ (up (y := rd K B a) (rd_sum K B a)) (sums_own (List.mem_cons_self (a := rd K B a) (l := B)))
      rwa [Nat.xor_assoc, Nat.xor_self, Nat.xor_zero] at this
    · exact sums_own (List.mem_cons_of_mem _ ha)

end Go.Proofs.Ytjccpfpldbjcbaa.Ln

namespace Go.Proofs.Ytjccpfpldbjcbaa.Ln
open Dd Rs

/-- What there must be: d, and half of that, and so on, k times. -/
def gr : Nat → Nat → Nat
  | 0, _ => 0
  | k + 1, d => d + gr k ((d + 1) / 2)

theorem gr_mono : ∀ k d e, d ≤ e → gr k d ≤ gr k e := by
  intro k
  induction k with
  | zero => intro d e _; exact Nat.le_refl 0
  | succ k ih =>
    intro d e h
    have := ih ((d + 1) / 2) ((e + 1) / 2) (by omega)
    rw [gr, gr]
    omega

theorem on_split : ∀ n x y, on n x = on n (x &&& y) + on n (x ^^^ (x &&& y)) := by
  intro n
  induction n with
  | zero => intro x y; rfl
  | succ n ih =>
    intro x y
    have h := ih (x / 2) (y / 2)
    rw [on, on, on, and_half, xor_half, and_half, and_odd, xor_odd, and_odd]
    rcases Nat.mod_two_eq_zero_or_one x with h1 | h1 <;> rcases Nat.mod_two_eq_zero_or_one y with h2 | h2 <;> rw [h1, h2] <;> simp <;> omega

theorem bits_a (w c m : Nat) : ((w ^^^ c) &&& m) &&& c = (m &&& c) ^^^ ((m &&& c) &&& w) := by
  apply Nat.eq_of_testBit_eq
  intro i
  simp only [Nat.testBit_xor, Nat.testBit_and]
  cases w.testBit i <;> cases c.testBit i <;> cases m.testBit i <;> rfl
theorem bits_b (w c m : Nat) : ((w ^^^ c) &&& m) ^^^ (((w ^^^ c) &&& m) &&& c) = (w &&& m) ^^^ ((w &&& m) &&& c) := by
  apply Nat.eq_of_testBit_eq
  intro i
  simp only [Nat.testBit_xor, Nat.testBit_and]
  cases w.testBit i <;> cases c.testBit i <;> cases m.testBit i <;> rfl
theorem bits_c (w c m : Nat) : w &&& (m ^^^ (m &&& c)) = (w &&& m) ^^^ ((w &&& m) &&& c) := by
  apply Nat.eq_of_testBit_eq
  intro i
  simp only [Nat.testBit_xor, Nat.testBit_and]
  cases w.testBit i <;> cases c.testBit i <;> cases m.testBit i <;> rfl
theorem bits_d (w c m : Nat) : (w &&& m) &&& c = (m &&& c) &&& w := by
  apply Nat.eq_of_testBit_eq
  intro i
  simp only [Nat.testBit_and]
  cases w.testBit i <;> cases c.testBit i <;> cases m.testBit i <;> rfl

theorem least_of {P : Nat → Prop} : ∀ n, P n → ∃ m, P m ∧ ∀ k, P k → m ≤ k := by
  intro n
  induction n using Nat.strongRecOn with
  | ind n ih =>
    intro h
    by_cases hm : ∃ k, P k ∧ k < n
    · obtain ⟨k, hk, hlt⟩ := hm
      exact ih k hlt hk
    · exact ⟨n, h, fun k hk => Nat.le_of_not_lt fun hlt => hm ⟨k, hk, hlt⟩⟩

/-- By a mask: words are told where it is. -/
theorem griesmer_mask {n : Nat} {W : List Nat} (h : Cd n W) : ∀ (k d m : Nat), m < 2 ^ n → (∀ w ∈ W, w &&& m ≠ 0 → d ≤ on n (w &&& m)) → 2 ^ k * (W.filter fun w => w &&& m == 0).length ≤ W.length → gr k d ≤ on n m := by
  intro k
  induction k with
  | zero => intro d m _ _ _; exact Nat.zero_le _
  | succ k ih =>
    intro d m hm hd hl
    have lt : ∀ w, w &&& m < 2 ^ n := fun w => Nat.lt_of_le_of_lt Nat.and_le_right hm
    -- there is a word that is not 0 there
    have hz : 0 < (W.filter fun w => w &&& m == 0).length := List.length_pos_of_mem (a := 0) (List.mem_filter.mpr ⟨h.zero, by simp⟩)
    have hex : ∃ j, ∃ w ∈ W, w &&& m ≠ 0 ∧ on n (w &&& m) = j := by
      refine Classical.byContradiction fun hn => ?_
      have hall : W.filter (fun w => w &&& m == 0) = W := List.filter_eq_self.mpr fun w hw => by
        refine Classical.byContradiction fun h2 => hn ⟨_, w, hw, fun e => h2 (by simpa using e), rfl⟩
      rw [hall] at hl hz
      have : 2 ^ (k + 1) * W.length ≥ 2 * W.length := by
        have : 2 ^ (k + 1) ≥ 2 := by
          have := Nat.pow_le_pow_right (n := 2) (by decide) (show 1 ≤ k + 1 by omega)
          simpa using this
        exact Nat.mul_le_mul_right _ this
      omega
    obtain ⟨j0, hj0⟩ := hex
    obtain ⟨d', ⟨c, hc, hc0, hcd⟩, hmin⟩ := least_of (P := fun j => ∃ w ∈ W, w &&& m ≠ 0 ∧ on n (w &&& m) = j) j0 hj0
    have hdd : d ≤ d' := by rw [← hcd]; exact hd c hc hc0
    have hmin2 : ∀ w ∈ W, w &&& m ≠ 0 → d' ≤ on n (w &&& m) := fun w hw h0 => hmin _ ⟨w, hw, h0, rfl⟩
    have hmc : on n (m &&& c) = d' := by rw [Nat.and_comm]; exact hcd
    -- the rest
    have e1 := on_split n m c
    rw [hmc] at e1
    have hm2 : m ^^^ (m &&& c) < 2 ^ n := Nat.xor_lt_two_pow hm (Nat.lt_of_le_of_lt Nat.and_le_left hm)
    have key : ∀ w ∈ W, w &&& (m ^^^ (m &&& c)) ≠ 0 → (d + 1) / 2 ≤ on n (w &&& (m ^^^ (m &&& c))) := fun w hw h0 => by
      rw [bits_c] at h0 ⊢
      obtain ⟨b, hb⟩ : ∃ b, on n ((w &&& m) ^^^ ((w &&& m) &&& c)) = b := ⟨_, rfl⟩
      obtain ⟨a, ha⟩ : ∃ a, on n ((w &&& m) &&& c) = a := ⟨_, rfl⟩
      have s1 := on_split n (w &&& m) c
      have s2 := on_split n ((w ^^^ c) &&& m) c
      have s3 := on_split n (m &&& c) w
      rw [bits_b, hb, bits_a, ← bits_d] at s2
      rw [ha, hb] at s1
      rw [hmc, ← bits_d, ha] at s3
      have hb0 : 0 < b := by
        refine Nat.pos_of_ne_zero fun e => h0 ?_
        refine on_none n _ (Nat.xor_lt_two_pow (lt w) (Nat.lt_of_le_of_lt Nat.and_le_left (lt w))) ?_
        rw [hb, e]
      have w1 : w &&& m ≠ 0 := fun e => by
        rw [e, on_zero] at s1
        omega
      have w2 : (w ^^^ c) &&& m ≠ 0 := fun e => by
        rw [e, on_zero] at s2
        omega
      have g1 := hmin2 w hw w1
      have g2 := hmin2 (w ^^^ c) (h.xor w hw c hc) w2
      rw [hb]
      omega
    have hZ : (W.filter fun w => w &&& (m ^^^ (m &&& c)) == 0).length ≤ 2 * (W.filter fun w => w &&& m == 0).length := by
      have := nodup_len (W.filter fun w => w &&& (m ^^^ (m &&& c)) == 0) ((W.filter fun w => w &&& m == 0) ++ (W.filter fun w => w &&& m == 0).map (c ^^^ ·)) (List.Pairwise.filter _ h.nd) fun w hw => by
        rw [List.mem_filter, beq_iff_eq, bits_c] at hw
        obtain ⟨hw, h0⟩ := hw
        by_cases w1 : w &&& m = 0
        · exact List.mem_append_left _ (List.mem_filter.mpr ⟨hw, by simpa using w1⟩)
        · refine List.mem_append_right _ (List.mem_map.mpr ⟨c ^^^ w, List.mem_filter.mpr ⟨h.xor c hc w hw, ?_⟩, by rw [← Nat.xor_assoc, Nat.xor_self, Nat.zero_xor]⟩)
          have s1 := on_split n (w &&& m) c
          have s3 := on_split n (m &&& c) w
          rw [h0, on_zero] at s1
          rw [hmc, ← bits_d] at s3
          have g1 := hmin2 w hw w1
          have z1 : (m &&& c) ^^^ ((w &&& m) &&& c) = 0 := on_none n _ (Nat.xor_lt_two_pow (Nat.lt_of_le_of_lt Nat.and_le_left hm) (Nat.lt_of_le_of_lt Nat.and_le_left (lt w))) (by omega)
          have s2 : ((w ^^^ c) &&& m) ^^^ (((w ^^^ c) &&& m) &&& c) = 0 := by rw [bits_b]; exact h0
          rw [bits_a, ← bits_d, z1, Nat.xor_zero] at s2
          rw [Nat.xor_comm c w, beq_iff_eq]
          exact s2
      rw [List.length_append, List.length_map] at this
      omega
    have hrec := ih ((d + 1) / 2) (m ^^^ (m &&& c)) hm2 key (by
      have := Nat.mul_le_mul_left (2 ^ k) hZ
      rw [Nat.pow_succ, Nat.mul_assoc] at hl
      exact Nat.le_trans this hl)
    rw [gr, e1]
    omega

theorem on_full : ∀ n, on n (2 ^ n - 1) = n := by
  intro n
  induction n with
  | zero => rfl
  | succ n ih =>
    have hp : 0 < 2 ^ n := Nat.pow_pos (by decide)
    rw [on, Nat.pow_succ, show (2 ^ n * 2 - 1) / 2 = 2 ^ n - 1 by omega, ih]
    omega

/-- GRIESMER. -/
theorem Cd.griesmer {n d k : Nat} {W : List Nat} (h : Cd n W) (hd : Dist n d W) (hk : 2 ^ k ≤ W.length) : gr k d ≤ n := by
  have hp : 0 < 2 ^ n := Nat.pow_pos (by decide)
  have hw : ∀ w ∈ W, w &&& (2 ^ n - 1) = w := fun w hw => by
    rw [Nat.and_two_pow_sub_one_eq_mod, Nat.mod_eq_of_lt (h.lt w hw)]
  have hf : (W.filter fun w => w &&& (2 ^ n - 1) == 0).length ≤ 1 := by
    have := nodup_len (W.filter fun w => w &&& (2 ^ n - 1) == 0) [0] (List.Pairwise.filter _ h.nd) fun w hw2 => by
      rw [List.mem_filter, beq_iff_eq] at hw2
      rw [hw w hw2.1] at hw2
      simp [hw2.2]
    simpa using this
  have := griesmer_mask h k d (2 ^ n - 1) (by omega) (fun w hw1 h0 => by
    rw [hw w hw1] at h0 ⊢
    exact hd w hw1 h0) (by
    have := Nat.mul_le_mul_left (2 ^ k) hf
    omega)
  rwa [on_full] at this

end Go.Proofs.Ytjccpfpldbjcbaa.Ln

namespace Go.Proofs.Ytjccpfpldbjcbaa.Ln
open Dd Rs

/-- The words of what is made of l, in order. -/
def cw (n : Nat) (l : List Nat) : List Nat := (List.range (2 ^ n)).filter fun w => decide (w ∈ sums l)
theorem mem_cw {n : Nat} {l : List Nat} (hl : ∀ x ∈ l, x < 2 ^ n) {w : Nat} : w ∈ cw n l ↔ w ∈ sums l := by
  unfold cw
  rw [List.mem_filter, List.mem_range, decide_eq_true_iff]
  exact ⟨fun h => h.2, fun h => ⟨sums_lt hl w h, h⟩⟩
theorem range_lt (n : Nat) : (List.range n).Pairwise (· < ·) := by
  refine List.pairwise_iff_getElem.mpr fun i j hi hj hij => ?_
  rw [List.getElem_range, List.getElem_range]
  exact hij
theorem cw_lt (n : Nat) (l : List Nat) : (cw n l).Pairwise (· < ·) := (range_lt _).filter _
theorem lt_nodup {l : List Nat} (h : l.Pairwise (· < ·)) : l.Nodup := h.imp fun h => by omega
theorem sums_length_pos (l : List Nat) : 0 < (sums l).length := by rw [sums_length]; exact Nat.pow_pos (by decide)
theorem cw_cd {n : Nat} {l : List Nat} (hl : ∀ x ∈ l, x < 2 ^ n) : Cd n (cw n l) where
  nd := lt_nodup (cw_lt n l)
  lt w hw := sums_lt hl w ((mem_cw hl).mp hw)
  zero := (mem_cw hl).mpr (sums_zero l)
  xor _ hv _ hw := (mem_cw hl).mpr (sums_xor l ((mem_cw hl).mp hv) ((mem_cw hl).mp hw))
theorem cw_of {n : Nat} {l W : List Nat} (hl : ∀ x ∈ l, x < 2 ^ n) (hW : W.Pairwise (· < ·)) (h : ∀ w, w ∈ W ↔ w ∈ sums l) : W = cw n l :=
  lt_one _ _ hW (cw_lt n l) fun w => (h w).trans (mem_cw hl).symm
theorem cw_le {n : Nat} {l : List Nat} (hl : ∀ x ∈ l, x < 2 ^ n) : (cw n l).length ≤ 2 ^ l.length := by
  rw [← sums_length l]
  exact nodup_len _ _ (lt_nodup (cw_lt n l)) fun x hx => (mem_cw hl).mp hx
/-- The least is 0. -/
theorem cw_head {n : Nat} {l : List Nat} (hl : ∀ x ∈ l, x < 2 ^ n) (h0 : 0 < (cw n l).length) : (cw n l)[0] = 0 := by
  obtain ⟨i, hi, e⟩ := List.getElem_of_mem (cw_cd hl).zero
  rcases Nat.eq_zero_or_pos i with h | h
  · subst h; exact e
  · have := List.pairwise_iff_getElem.mp (cw_lt n l) 0 i h0 hi h
    omega

/-- Is k the highest bit of one of them? -/
def hdb (W : List Nat) (k : Nat) : Bool := W.any fun w => decide (2 ^ k ≤ w ∧ w < 2 ^ (k + 1))
theorem hdb_iff {W : List Nat} {k : Nat} : hdb W k = true ↔ Hd W k := by
  unfold hdb Hd Top
  rw [List.any_eq_true]
  simp
/-- Has w, of the highest bits, k alone? -/
def isB (W : List Nat) (k w : Nat) : Bool := (List.range 16).all fun j => decide (bt j w * (if hdb W j = true then 1 else 0) = if j = k then 1 else 0)
theorem isB_iff {n : Nat} {W : List Nat} (h : Cd n W) (hn : n ≤ 16) {k w : Nat} (hk : Hd W k) (hw : w ∈ W) : isB W k w = true ↔ Bs W k w := by
  unfold isB Bs
  rw [List.all_eq_true]
  have kn := hk.lt h
  constructor
  · intro h2
    refine ⟨hw, ?_, fun j hj hne => ?_⟩
    · have := of_decide_eq_true (h2 k (List.mem_range.mpr (by omega)))
      rw [if_pos (hdb_iff.mpr hk), if_pos rfl] at this
      omega
    · have := of_decide_eq_true (h2 j (List.mem_range.mpr (by have := hj.lt h; omega)))
      rw [if_pos (hdb_iff.mpr hj), if_neg hne] at this
      omega
  · rintro ⟨_, h2, h3⟩ j hj
    refine decide_eq_true ?_
    by_cases e : j = k
    · subst e
      rw [if_pos (hdb_iff.mpr hk), if_pos rfl, h2]
    · rw [if_neg e]
      by_cases hh : hdb W j = true
      · rw [if_pos hh, h3 j (hdb_iff.mp hh) e]
      · rw [if_neg hh, Nat.mul_zero]

/-- The highest bits, falling. -/
def hk (W : List Nat) : List Nat := (List.range 16).reverse.filter (hdb W)
/-- The reduced basis, falling. -/
def bs (W : List Nat) : List Nat := (List.range 16).reverse.flatMap fun k => if hdb W k = true then W.filter (isB W k) else []
theorem mem_hk {n : Nat} {W : List Nat} (h : Cd n W) (hn : n ≤ 16) {k : Nat} : k ∈ hk W ↔ Hd W k := by
  unfold hk
  rw [List.mem_filter, List.mem_reverse, List.mem_range, hdb_iff]
  exact ⟨fun h => h.2, fun hh => ⟨by have := hh.lt h; omega, hh⟩⟩
theorem hk_nodup (W : List Nat) : (hk W).Nodup := by
  exact List.Pairwise.filter _ ((List.reverse_perm _).nodup_iff.mpr List.nodup_range)

theorem filter_one {p : Nat → Bool} {b : Nat} : ∀ {W : List Nat}, W.Nodup → b ∈ W → (∀ w ∈ W, p w = true ↔ w = b) → W.filter p = [b] := by
  intro W
  induction W with
  | nil => intro _ h _; cases h
  | cons a W ih =>
    intro hn hb hp
    rw [List.nodup_cons] at hn
    by_cases e : a = b
    · subst e
      have h1 : p a = true := (hp a List.mem_cons_self).mpr rfl
      have h2 : W.filter p = [] := by
        rw [List.filter_eq_nil_iff]
        intro w hw h3
        have := (hp w (List.mem_cons_of_mem _ hw)).mp h3
        subst this
        exact hn.1 hw
      rw [List.filter_cons_of_pos h1, h2]
    · have h1 : ¬ p a = true := fun h => e ((hp a List.mem_cons_self).mp h)
      rw [List.filter_cons_of_neg h1]
      exact ih hn.2 ((List.mem_cons.mp hb).resolve_left fun h => e h.symm) fun w hw => hp w (List.mem_cons_of_mem _ hw)

/-- The basis' word for k. -/
def bsw (W : List Nat) (k : Nat) : Nat := (W.filter (isB W k)).headD 0
theorem bsw_one {n : Nat} {W : List Nat} (h : Cd n W) (hn : n ≤ 16) {k : Nat} (hk : Hd W k) : W.filter (isB W k) = [bsw W k] ∧ Bs W k (bsw W k) := by
  obtain ⟨b, hb⟩ := h.base_some k hk
  have e : W.filter (isB W k) = [b] := filter_one h.nd hb.1 fun w hw => by
    rw [isB_iff h hn hk hw]
    exact ⟨fun h2 => h.base_one h2 hb, fun e => e ▸ hb⟩
  have e2 : bsw W k = b := by unfold bsw; rw [e]; rfl
  rw [e2]
  exact ⟨e, hb⟩
theorem bs_map {n : Nat} {W : List Nat} (h : Cd n W) (hn : n ≤ 16) : bs W = (hk W).map (bsw W) := by
  unfold bs hk
  have gen : ∀ l : List Nat, (l.flatMap fun k => if hdb W k = true then W.filter (isB W k) else []) = (l.filter (hdb W)).map (bsw W) := by
    intro l
    induction l with
    | nil => rfl
    | cons k l ih =>
      rw [List.flatMap_cons, ih]
      by_cases e : hdb W k = true
      · rw [if_pos e, List.filter_cons_of_pos e, (bsw_one h hn (hdb_iff.mp e)).1, List.map_cons]
        rfl
      · rw [if_neg e, List.filter_cons_of_neg e]
        rfl
  exact gen _
theorem bs_red {n : Nat} {W : List Nat} (h : Cd n W) (hn : n ≤ 16) : Red n (hk W) (bs W) := by
  have hm := bs_map h hn
  refine ⟨by rw [hm, List.length_map], hk_nodup W, fun i h1 h2 => ?_, fun i j h1 h2 hne => ?_⟩
  · have e : (bs W)[i] = bsw W (hk W)[i] := by simp only [hm, List.getElem_map]
    rw [e]
    exact base_top (bsw_one h hn ((mem_hk h hn).mp (List.getElem_mem _))).2
  · have h3 : j < (hk W).length := by rw [hm, List.length_map] at h2; exact h2
    have e : (bs W)[j] = bsw W (hk W)[j] := by simp only [hm, List.getElem_map]
    rw [e]
    refine (bsw_one h hn ((mem_hk h hn).mp (List.getElem_mem _))).2.2.2 _ ((mem_hk h hn).mp (List.getElem_mem _)) fun e2 => ?_
    exact hne ((List.getElem_inj (hk_nodup W)).mp e2)
theorem bs_mem {n : Nat} {W : List Nat} (h : Cd n W) (hn : n ≤ 16) : ∀ b ∈ bs W, b ∈ W := by
  intro b hb
  rw [bs_map h hn] at hb
  obtain ⟨k, hk1, rfl⟩ := List.mem_map.mp hb
  exact (bsw_one h hn ((mem_hk h hn).mp hk1)).2.1
theorem bs_lt {n : Nat} {W : List Nat} (h : Cd n W) (hn : n ≤ 16) : ∀ b ∈ bs W, b < 2 ^ n := fun b hb => h.lt b (bs_mem h hn b hb)
/-- It makes all the words. -/
theorem bs_sums {n : Nat} {W : List Nat} (h : Cd n W) (hn : n ≤ 16) (w : Nat) : w ∈ W ↔ w ∈ sums (bs W) := by
  have hR := bs_red h hn
  have hin := h.sums (bs_mem h hn)
  refine ⟨fun hw => (rd_zero hR w).mp ?_, hin w⟩
  have h1 : w ^^^ rd (hk W) (bs W) w ∈ W := hin _ (rd_sum _ _ _)
  have h2 : rd (hk W) (bs W) w ∈ W := by
    have := h.xor _ hw _ h1
    rwa [← Nat.xor_assoc, Nat.xor_self, Nat.zero_xor] at this
  exact hd_none h2 fun k hk2 => rd_bits w hR k ((mem_hk h hn).mpr hk2)
theorem bs_words {n : Nat} {W : List Nat} (h : Cd n W) (hn : n ≤ 16) : W.length = 2 ^ (bs W).length := by
  have hR := bs_red h hn
  rw [← hR.len]
  exact hR.words h.nd (bs_sums h hn)
theorem bs_le {n : Nat} {W : List Nat} (h : Cd n W) (hn : n ≤ 16) : (bs W).length ≤ n := by
  have h1 := bs_words h hn
  have h2 : W.length ≤ 2 ^ n := by
    have := nodup_len W (List.range (2 ^ n)) h.nd fun x hx => List.mem_range.mpr (h.lt x hx)
    rwa [List.length_range] at this
  rw [h1] at h2
  exact (Nat.pow_le_pow_iff_right (by decide)).mp h2
/-- Of the words it is told, not of their order. -/
theorem bs_same {n : Nat} {V W : List Nat} (hV : Cd n V) (hW : Cd n W) (hn : n ≤ 16) (he : ∀ w, w ∈ V ↔ w ∈ W) : bs V = bs W := by
  have h1 : ∀ k, hdb V k = hdb W k := fun k => by
    refine Bool.eq_iff_iff.mpr ?_
    rw [hdb_iff, hdb_iff]
    exact ⟨fun ⟨w, a, b⟩ => ⟨w, (he w).mp a, b⟩, fun ⟨w, a, b⟩ => ⟨w, (he w).mpr a, b⟩⟩
  have h2 : hk V = hk W := by unfold hk; rw [show hdb V = hdb W from funext h1]
  rw [bs_map hV hn, bs_map hW hn, h2]
  refine List.map_congr_left fun k hk1 => ?_
  have hh := (mem_hk hW hn).mp hk1
  have hv : Hd V k := by rw [← hdb_iff, h1, hdb_iff]; exact hh
  refine hW.base_one (k := k) ?_ (bsw_one hW hn hh).2
  obtain ⟨a, b, c⟩ := (bsw_one hV hn hv).2
  exact ⟨(he _).mp a, b, fun j hj hne => c j (by rw [← hdb_iff, h1, hdb_iff]; exact hj) hne⟩
/-- Of what the basis makes, the words are these. -/
theorem cw_bs {n : Nat} {W : List Nat} (h : Cd n W) (hn : n ≤ 16) (ho : W.Pairwise (· < ·)) : cw n (bs W) = W := (cw_of (bs_lt h hn) ho (bs_sums h hn)).symm

theorem du_lt (n : Nat) (W : List Nat) : (du n W).Pairwise (· < ·) := (range_lt _).filter _
/-- The dimensions add up. -/
theorem bs_both {n : Nat} {W : List Nat} (h : Cd n W) (hn : n ≤ 16) : (bs W).length + (bs (du n W)).length = n := by
  have h1 := h.both
  rw [bs_words h hn, bs_words (du_cd n W) hn, ← Nat.pow_add] at h1
  exact Nat.le_antisymm ((Nat.pow_le_pow_iff_right (by decide)).mp (Nat.le_of_eq h1)) ((Nat.pow_le_pow_iff_right (by decide)).mp (Nat.le_of_eq h1.symm))
theorem du_back {n : Nat} {W : List Nat} (h : Cd n W) (ho : W.Pairwise (· < ·)) : du n (du n W) = W := lt_one _ _ (du_lt _ _) ho h.back

/-- How many have so many ones, for each number. -/
def wts (n : Nat) (W : List Nat) : List Int := (List.range (n + 1)).map (wn n W)
theorem wts_length (n : Nat) (W : List Nat) : (wts n W).length = n + 1 := by simp [wts]
theorem wn_count (n : Nat) (W : List Nat) (j : Nat) : wn n W j = ((W.filter fun w => on n w == j).length : Int) := by
  unfold wn
  rw [← sum_count]
  refine congrFun (congrArg sm (funext fun w => ?_)) W
  by_cases h : on n w = j <;> simp [h]
theorem wn_pos {n : Nat} {W : List Nat} {j : Nat} : 0 < wn n W j ↔ ∃ w ∈ W, on n w = j := by
  rw [wn_count]
  constructor
  · intro h
    have h1 : 0 < (W.filter fun w => on n w == j).length := by omega
    obtain ⟨w, hw⟩ := List.exists_mem_of_length_pos h1
    rw [List.mem_filter] at hw
    exact ⟨w, hw.1, by simpa using hw.2⟩
  · rintro ⟨w, h1, h2⟩
    have : w ∈ W.filter fun w => on n w == j := List.mem_filter.mpr ⟨h1, by simpa using h2⟩
    have := List.length_pos_of_mem this
    omega
theorem wn_nonneg (n : Nat) (W : List Nat) (j : Nat) : 0 ≤ wn n W j := by rw [wn_count]; omega

/-- The least number of ones of a word that is not 0. -/
def IsFar (n : Nat) (W : List Nat) (d : Nat) : Prop := Dist n d W ∧ 1 ≤ d ∧ ∃ w ∈ W, w ≠ 0 ∧ on n w = d
theorem far_some {n : Nat} {W : List Nat} (h : Cd n W) (h1 : 1 < W.length) : ∃ d, IsFar n W d := by
  have h2 : ∃ w ∈ W, w ≠ 0 := by
    refine Classical.byContradiction fun hn => ?_
    have := nodup_len W [0] h.nd fun x hx => by
      rcases Decidable.em (x = 0) with e | e
      · rw [e]; exact List.mem_cons_self
      · exact absurd ⟨x, hx, e⟩ hn
    simp at this
    omega
  obtain ⟨w, hw, h0⟩ := h2
  obtain ⟨d, ⟨v, hv, v0, hd⟩, hm⟩ := least_of (P := fun d => ∃ w ∈ W, w ≠ 0 ∧ on n w = d) _ ⟨w, hw, h0, rfl⟩
  refine ⟨d, fun x hx hx0 => hm _ ⟨x, hx, hx0, rfl⟩, ?_, v, hv, v0, hd⟩
  rcases Nat.eq_zero_or_pos d with e | e
  · exact absurd (on_none n v (h.lt v hv) (by omega)) v0
  · exact e
theorem far_uniq {n : Nat} {W : List Nat} {d e : Nat} (h : IsFar n W d) (k : IsFar n W e) : d = e := by
  obtain ⟨h1, _, w, hw, w0, hwd⟩ := h
  obtain ⟨k1, _, v, hv, v0, hvd⟩ := k
  have := h1 v hv v0
  have := k1 w hw w0
  omega
theorem far_none {n : Nat} {W : List Nat} (h : Cd n W) (h1 : W.length ≤ 1) : ∀ w ∈ W, w = 0 := by
  intro w hw
  refine Classical.byContradiction fun hn => ?_
  have := nodup_len [0, w] W (by simp [Ne.symm hn]) fun x hx => by
    simp only [List.mem_cons, List.not_mem_nil, or_false] at hx
    rcases hx with rfl | rfl
    · exact h.zero
    · exact hw
  simp at this
  omega

end Go.Proofs.Ytjccpfpldbjcbaa.Ln
