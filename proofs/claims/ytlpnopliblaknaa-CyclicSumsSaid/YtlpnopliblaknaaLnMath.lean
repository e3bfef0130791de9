/-
  Words of bits: how many ones; what is even with what; sums of signs over codes: the dual code, MACWILLIAMS. No Go in sight.
-/
import Derived.Test.YtlpnopliblaknaaDvMath
namespace Go.Proofs.Ytlpnopliblaknaa.Ln
open Dd Rs

theorem sum_add (F H : Nat → Int) (l : List Nat) : sm (fun d => F d + H d) l = sm F l + sm H l := by
  induction l with
  | nil => rfl
  | cons d l ih => simp only [sm, ih]; omega
theorem sum_zero (l : List Nat) : sm (fun _ => 0) l = 0 := by
  induction l with
  | nil => rfl
  | cons d l ih => simp only [sm, ih]; omega
theorem sum_swap (F : Nat → Nat → Int) (l k : List Nat) : sm (fun x => sm (F x) k) l = sm (fun y => sm (fun x => F x y) l) k := by
  induction l with
  | nil => simp only [sm]; exact (sum_zero k).symm
  | cons x l ih => simp only [sm, ih]; exact (sum_add _ _ k).symm
theorem sum_count (b : Nat → Bool) (l : List Nat) : sm (fun x => if b x = true then 1 else 0) l = ((l.filter b).length : Int) := by
  induction l with
  | nil => rfl
  | cons x l ih =>
    rw [sm, ih]
    cases h : b x
    · rw [List.filter_cons_of_neg (by simp [h])]; simp
    · rw [List.filter_cons_of_pos h, List.length_cons]; simp; omega
theorem sum_filter (F : Nat → Int) (b : Nat → Bool) (l : List Nat) : sm F (l.filter b) = sm (fun x => if b x = true then F x else 0) l := by
  induction l with
  | nil => rfl
  | cons x l ih =>
    rw [sm]
    cases h : b x
    · rw [List.filter_cons_of_neg (by simp [h]), ih]; simp
    · rw [List.filter_cons_of_pos h, sm, ih]; simp
theorem sum_le {F H : Nat → Int} {l : List Nat} (h : ∀ d ∈ l, F d ≤ H d) : sm F l ≤ sm H l := by
  induction l with
  | nil => exact Int.le_refl _
  | cons d l ih =>
    have h1 := h d List.mem_cons_self
    have h2 := ih fun e he => h e (List.mem_cons_of_mem _ he)
    simp only [sm]
    omega
theorem sum_neg (F : Nat → Int) (l : List Nat) : sm (fun x => - F x) l = - sm F l := by
  induction l with
  | nil => rfl
  | cons d l ih => simp only [sm, ih]; omega

/-- All numbers below twice as many: the even ones, and the odd ones. -/
theorem sum_bits (F : Nat → Int) (n : Nat) : sm F (List.range (2 ^ (n + 1))) = sm (fun v => F (2 * v) + F (2 * v + 1)) (List.range (2 ^ n)) := by
  have : ∀ m, sm F (List.range (2 * m)) = sm (fun v => F (2 * v) + F (2 * v + 1)) (List.range m) := by
    intro m
    induction m with
    | zero => rfl
    | succ m ih =>
      rw [show 2 * (m + 1) = 2 * m + 1 + 1 by omega, List.range_succ, List.range_succ, List.range_succ, sm_append, sm_append, sm_append, ih]
      simp only [sm]
      omega
  rw [Nat.pow_succ, Nat.mul_comm]
  exact this _

/-- How many of the lowest n bits are set. -/
def on : Nat → Nat → Nat
  | 0, _ => 0
  | n + 1, w => w % 2 + on n (w / 2)

theorem on_le : ∀ n w, on n w ≤ n := by
  intro n
  induction n with
  | zero => intro w; exact Nat.le_refl 0
  | succ n ih =>
    intro w
    have := ih (w / 2)
    rw [on]
    omega

/-- A sign: -1 if c and v have an odd number of bits together. -/
def si : Nat → Nat → Nat → Int
  | 0, _, _ => 1
  | n + 1, c, v => (if c % 2 = 1 ∧ v % 2 = 1 then -1 else 1) * si n (c / 2) (v / 2)

theorem si_comm : ∀ n c v, si n c v = si n v c := by
  intro n
  induction n with
  | zero => intro c v; rfl
  | succ n ih =>
    intro c v
    rw [si, si, ih]
    congr 1
    by_cases h : c % 2 = 1 ∧ v % 2 = 1
    · rw [if_pos h, if_pos ⟨h.2, h.1⟩]
    · rw [if_neg h, if_neg fun e => h ⟨e.2, e.1⟩]

theorem si_one : ∀ n c v, si n c v = 1 ∨ si n c v = -1 := by
  intro n
  induction n with
  | zero => intro c v; exact .inl rfl
  | succ n ih =>
    intro c v
    rw [si]
    rcases ih (c / 2) (v / 2) with h | h <;> rw [h] <;> split <;> simp

theorem si_zero : ∀ n c, si n c 0 = 1 := by
  intro n
  induction n with
  | zero => intro c; rfl
  | succ n ih => intro c; rw [si, Nat.zero_div, ih, if_neg (by omega)]; rfl

theorem xor_half (b c : Nat) : (b ^^^ c) / 2 = b / 2 ^^^ c / 2 := Nat.xor_div_two
theorem xor_odd (b c : Nat) : (b ^^^ c) % 2 = (b % 2) ^^^ (c % 2) := by
  have := Nat.xor_mod_two_pow (a := b) (b := c) (n := 1)
  simpa using this
theorem and_half (b c : Nat) : (b &&& c) / 2 = b / 2 &&& c / 2 := Nat.and_div_two
theorem and_odd (b c : Nat) : (b &&& c) % 2 = (b % 2) &&& (c % 2) := by
  have := Nat.and_mod_two_pow (a := b) (b := c) (n := 1)
  simpa using this

/-- It goes over sums. -/
theorem si_xor : ∀ n c v w, si n c (v ^^^ w) = si n c v * si n c w := by
  intro n
  induction n with
  | zero => intro c v w; rfl
  | succ n ih =>
    intro c v w
    rw [si, si, si, xor_half, ih, xor_odd]
    rcases Nat.mod_two_eq_zero_or_one c with h1 | h1 <;> rcases Nat.mod_two_eq_zero_or_one v with h2 | h2 <;> rcases Nat.mod_two_eq_zero_or_one w with h3 | h3 <;> rw [h1, h2, h3] <;> simp <;> grind

/-- It tells whether the number of common bits is even. -/
theorem si_even : ∀ n c v, si n c v = if on n (c &&& v) % 2 = 0 then 1 else -1 := by
  intro n
  induction n with
  | zero => intro c v; rfl
  | succ n ih =>
    intro c v
    rw [si, on, and_half, and_odd, ih]
    rcases Nat.mod_two_eq_zero_or_one c with h1 | h1 <;> rcases Nat.mod_two_eq_zero_or_one v with h2 | h2 <;> rw [h1, h2] <;> rcases Nat.mod_two_eq_zero_or_one (on n (c / 2 &&& v / 2)) with h3 | h3
    all_goals simp [Nat.add_mod, h3]

/-- Over all words: only 0 does not cancel. -/
theorem si_all : ∀ n c, c < 2 ^ n → sm (fun v => si n c v) (List.range (2 ^ n)) = if c = 0 then ((2 ^ n : Nat) : Int) else 0 := by
  intro n
  induction n with
  | zero =>
    intro c hc
    have : c = 0 := by simpa using hc
    subst this
    rfl
  | succ n ih =>
    intro c hc
    rw [sum_bits]
    have h1 := ih (c / 2) (by rw [Nat.pow_succ] at hc; omega)
    have e1 : ∀ v, si (n + 1) c (2 * v) = si n (c / 2) v := fun v => by
      rw [si, if_neg (by omega), show 2 * v / 2 = v by omega, Int.one_mul]
    have e2 : ∀ v, si (n + 1) c (2 * v + 1) = (if c % 2 = 1 then -1 else 1) * si n (c / 2) v := fun v => by
      rw [si, show (2 * v + 1) / 2 = v by omega]
      congr 1
      by_cases h : c % 2 = 1
      · rw [if_pos ⟨h, by omega⟩, if_pos h]
      · rw [if_neg (by omega), if_neg h]
    rw [sm_congr (H := fun v => si n (c / 2) v + (if c % 2 = 1 then -1 else 1) * si n (c / 2) v) fun v _ => by rw [e1, e2], sum_add, sm_mul, h1]
    by_cases h : c % 2 = 1
    · rw [if_pos h, if_neg (show ¬ c = 0 by omega)]
      omega
    · rw [if_neg h]
      by_cases h0 : c = 0
      · subst h0
        rw [if_pos rfl, if_pos rfl, Nat.pow_succ]
        omega
      · rw [if_neg (by omega), if_neg h0]
        rfl

/-- A code: words of n bits, and their sums. -/
structure Cd (n : Nat) (W : List Nat) : Prop where
  nd : W.Nodup
  lt : ∀ w ∈ W, w < 2 ^ n
  zero : 0 ∈ W
  xor : ∀ v ∈ W, ∀ w ∈ W, v ^^^ w ∈ W

/-- Even with all of them. -/
def Ev (n : Nat) (W : List Nat) (v : Nat) : Bool := W.all fun w => on n (w &&& v) % 2 == 0
theorem ev_iff {n : Nat} {W : List Nat} {v : Nat} : Ev n W v = true ↔ ∀ w ∈ W, si n w v = 1 := by
  unfold Ev
  rw [List.all_eq_true]
  constructor
  · intro h w hw
    rw [si_even, if_pos (by simpa using h w hw)]
  · intro h w hw
    have := h w hw
    rw [si_even] at this
    by_cases h2 : on n (w &&& v) % 2 = 0
    · simpa using h2
    · rw [if_neg h2] at this
      exact absurd this (by decide)

/-- All words added to one of them: they change places. -/
theorem Cd.turn {n : Nat} {W : List Nat} (h : Cd n W) {c : Nat} (hc : c ∈ W) : (W.map (c ^^^ ·)).Perm W := by
  refine (List.perm_ext_iff_of_nodup ?_ h.nd).mpr fun x => ?_
  · unfold List.Nodup
    rw [List.pairwise_map]
    exact h.nd.imp fun hne e => hne (by
      have := congrArg (c ^^^ ·) e
      simpa [← Nat.xor_assoc] using this)
  · rw [List.mem_map]
    constructor
    · rintro ⟨w, hw, rfl⟩
      exact h.xor c hc w hw
    · intro hx
      exact ⟨c ^^^ x, h.xor c hc x hx, by rw [← Nat.xor_assoc, Nat.xor_self, Nat.zero_xor]⟩

/-- Over a code: only what is even with all does not cancel. -/
theorem Cd.signs {n : Nat} {W : List Nat} (h : Cd n W) (v : Nat) : sm (fun c => si n c v) W = if Ev n W v = true then (W.length : Int) else 0 := by
  by_cases he : Ev n W v = true
  · rw [if_pos he, sm_congr (H := fun _ => 1) fun c hc => ev_iff.mp he c hc, sm_one]
  · rw [if_neg he]
    obtain ⟨c, hc, hne⟩ : ∃ c ∈ W, si n c v ≠ 1 := by
      refine Classical.byContradiction fun hn => he (ev_iff.mpr fun w hw => Classical.byContradiction fun h2 => hn ⟨w, hw, h2⟩)
    have h1 : si n c v = -1 := (si_one n c v).resolve_left hne
    have h2 := sm_perm (fun c => si n c v) (h.turn hc)
    rw [sm_map] at h2
    rw [sm_congr (H := fun w => - si n w v) fun w _ => ?_, sum_neg] at h2
    · omega
    · show si n (c ^^^ w) v = _
      rw [si_comm, si_xor, si_comm n v c, h1, si_comm n v w]
      omega

/-- What is even with all. -/
def du (n : Nat) (W : List Nat) : List Nat := (List.range (2 ^ n)).filter (Ev n W)
theorem mem_du {n : Nat} {W : List Nat} {v : Nat} : v ∈ du n W ↔ v < 2 ^ n ∧ Ev n W v = true := by
  unfold du
  rw [List.mem_filter, List.mem_range]
theorem du_cd (n : Nat) (W : List Nat) : Cd n (du n W) := by
  refine ⟨List.Pairwise.filter _ List.nodup_range, fun w hw => (mem_du.mp hw).1, mem_du.mpr ⟨Nat.pow_pos (by decide), ev_iff.mpr fun w _ => si_zero n w⟩, fun v hv w hw => ?_⟩
  have hv := mem_du.mp hv
  have hw := mem_du.mp hw
  refine mem_du.mpr ⟨Nat.xor_lt_two_pow hv.1 hw.1, ev_iff.mpr fun c hc => ?_⟩
  rw [si_xor, ev_iff.mp hv.2 c hc, ev_iff.mp hw.2 c hc]
  rfl

/-- A code and its dual are, multiplied, as many as there are words. -/
theorem Cd.both {n : Nat} {W : List Nat} (h : Cd n W) : W.length * (du n W).length = 2 ^ n := by
  have h1 : sm (fun v => sm (fun c => si n c v) W) (List.range (2 ^ n)) = (W.length : Int) * (du n W).length := by
    rw [sm_congr (H := fun v => (W.length : Int) * if Ev n W v = true then 1 else 0) fun v _ => ?_, sm_mul, sum_count]
    · rfl
    · rw [h.signs]
      split
      · omega
      · omega
  rw [sum_swap] at h1
  rw [sm_congr (H := fun c => if c = 0 then ((2 ^ n : Nat) : Int) else 0) fun c hc => si_all n c (h.lt c hc)] at h1
  have h2 : ∀ l : List Nat, l.Nodup → 0 ∈ l → sm (fun c => if c = 0 then ((2 ^ n : Nat) : Int) else 0) l = ((2 ^ n : Nat) : Int) := by
    intro l
    induction l with
    | nil => intro _ h; cases h
    | cons x l ih =>
      intro hn hm
      have hn := List.nodup_cons.mp hn
      rw [sm]
      by_cases hx : x = 0
      · subst hx
        rw [if_pos rfl, sm_congr (H := fun _ => 0) fun d hd => if_neg (by rintro rfl; exact hn.1 hd), sum_zero]
        omega
      · rw [if_neg hx, ih hn.2 ((List.mem_cons.mp hm).resolve_left (Ne.symm hx))]
        omega
  rw [h2 W h.nd h.zero] at h1
  have h3 : ((W.length * (du n W).length : Nat) : Int) = ((2 ^ n : Nat) : Int) := by rw [Int.natCast_mul, ← h1]
  exact Int.ofNat.inj h3

theorem nodup_len : ∀ (A B : List Nat), A.Nodup → (∀ x ∈ A, x ∈ B) → A.length ≤ B.length := by
  intro A
  induction A with
  | nil => intro B _ _; exact Nat.zero_le _
  | cons x A ih =>
    intro B hn hs
    have hx := hs x List.mem_cons_self
    have h1 := List.nodup_cons.mp hn
    have := ih (B.erase x) h1.2 fun y hy => (List.mem_erase_of_ne (by rintro rfl; exact h1.1 hy)).mpr (hs y (List.mem_cons_of_mem _ hy))
    have h2 := List.length_erase_of_mem hx
    have h3 := List.length_pos_of_mem hx
    simp only [List.length_cons]
    omega

/-- As many, and some of the others: all. -/
theorem all_of_len {A B : List Nat} (hA : A.Nodup) (hs : ∀ x ∈ A, x ∈ B) (hl : B.length ≤ A.length) : ∀ x ∈ B, x ∈ A := fun x hx => Classical.byContradiction fun hn => by
  have := nodup_len (x :: A) B (List.nodup_cons.mpr ⟨hn, hA⟩) fun y hy => by
    rcases List.mem_cons.mp hy with rfl | hy
    · exact hx
    · exact hs y hy
  simp only [List.length_cons] at this
  omega

/-- The dual of the dual. -/
theorem Cd.back {n : Nat} {W : List Nat} (h : Cd n W) (v : Nat) : v ∈ du n (du n W) ↔ v ∈ W := by
  have hs : ∀ x ∈ W, x ∈ du n (du n W) := fun x hx => mem_du.mpr ⟨h.lt x hx, ev_iff.mpr fun w hw => by
    rw [si_comm]
    exact ev_iff.mp (mem_du.mp hw).2 x hx⟩
  have h1 := h.both
  have h2 := (du_cd n W).both
  have hd := du_cd n (du n W)
  have hp : 0 < (du n W).length := List.length_pos_of_mem (du_cd n W).zero
  refine ⟨fun hv => all_of_len h.nd hs ?_ v hv, hs v⟩
  have h3 : (du n W).length * (du n (du n W)).length = (du n W).length * W.length := by rw [h2, ← h1, Nat.mul_comm]
  exact Nat.le_of_eq (Nat.eq_of_mul_eq_mul_left hp h3)

/-- How many words of W have j ones. -/
def wn (n : Nat) (W : List Nat) (j : Nat) : Int := sm (fun w => if on n w = j then 1 else 0) W

/-- One place before. -/
def bf (F : Nat → Int) : Nat → Int
  | 0 => 0
  | j + 1 => F j

/-- KRAWTCHOUK's numbers, one bit after the other: no ones, m noughts. -/
def k0 : Nat → Nat → Int
  | 0, j => if j = 0 then 1 else 0
  | m + 1, j => k0 m j + bf (k0 m) j
/-- i ones, m noughts. -/
def kr : Nat → Nat → Nat → Int
  | 0, m, j => k0 m j
  | i + 1, m, j => kr i m j - bf (kr i m) j

theorem kr_ones (i m j : Nat) : kr (i + 1) m j = kr i m j - bf (kr i m) j := rfl

theorem kr_noughts : ∀ i m j, kr i (m + 1) j = kr i m j + bf (kr i m) j := by
  intro i
  induction i with
  | zero => intro m j; rfl
  | succ i ih =>
    intro m j
    rw [kr_ones, kr_ones, ih]
    cases j with
    | zero => show _ + (0 : Int) - 0 = _ - 0 + 0; omega
    | succ j =>
      show kr i m (j + 1) + kr i m j - kr i (m + 1) j = kr i m (j + 1) - kr i m j + kr (i + 1) m j
      rw [ih, kr_ones]
      omega

/-- Signs of the words with j ones. -/
theorem si_weight : ∀ n c j, sm (fun v => if on n v = j then si n c v else 0) (List.range (2 ^ n)) = kr (on n c) (n - on n c) j := by
  intro n
  induction n with
  | zero =>
    intro c j
    show (if 0 = j then (1 : Int) else 0) + 0 = if j = 0 then 1 else 0
    by_cases h : j = 0
    · subst h; rfl
    · rw [if_neg (by omega), if_neg h]; rfl
  | succ n ih =>
    intro c j
    rw [sum_bits]
    have e1 : ∀ v, (if on (n + 1) (2 * v) = j then si (n + 1) c (2 * v) else 0) = if on n v = j then si n (c / 2) v else 0 := fun v => by
      have h1 : on (n + 1) (2 * v) = on n v := by rw [on, show 2 * v / 2 = v by omega]; omega
      have h2 : si (n + 1) c (2 * v) = si n (c / 2) v := by rw [si, show 2 * v / 2 = v by omega, if_neg (by omega), Int.one_mul]
      rw [h1, h2]
    have e2 : ∀ v, (if on (n + 1) (2 * v + 1) = j then si (n + 1) c (2 * v + 1) else 0) = (if c % 2 = 1 then -1 else 1) * bf (fun j => if on n v = j then si n (c / 2) v else 0) j := fun v => by
      have h1 : on (n + 1) (2 * v + 1) = on n v + 1 := by rw [on, show (2 * v + 1) / 2 = v by omega]; omega
      have h2 : si (n + 1) c (2 * v + 1) = (if c % 2 = 1 then -1 else 1) * si n (c / 2) v := by
        rw [si, show (2 * v + 1) / 2 = v by omega]
        congr 1
        by_cases h : c % 2 = 1
        · rw [if_pos ⟨h, by omega⟩, if_pos h]
        · rw [if_neg (by omega), if_neg h]
      rw [h1, h2]
      cases j with
      | zero => rw [if_neg (by omega)]; exact (Int.mul_zero _).symm
      | succ j =>
        show _ = _ * (if on n v = j then si n (c / 2) v else 0)
        by_cases h : on n v = j
        · rw [if_pos (by omega), if_pos h]
        · rw [if_neg (by omega), if_neg h, Int.mul_zero]
    rw [sm_congr (H := fun v => (if on n v = j then si n (c / 2) v else 0) + (if c % 2 = 1 then -1 else 1) * bf (fun j => if on n v = j then si n (c / 2) v else 0) j) fun v _ => by rw [e1, e2], sum_add, sm_mul, ih]
    have e3 : sm (fun v => bf (fun j => if on n v = j then si n (c / 2) v else 0) j) (List.range (2 ^ n)) = bf (kr (on n (c / 2)) (n - on n (c / 2))) j := by
      cases j with
      | zero => exact sum_zero _
      | succ j => exact ih (c / 2) j
    rw [e3, on]
    have hle := on_le n (c / 2)
    by_cases h : c % 2 = 1
    · rw [if_pos h, h, Nat.add_comm 1, kr_ones, show n + 1 - (on n (c / 2) + 1) = n - on n (c / 2) by omega]
      omega
    · rw [if_neg h, show c % 2 = 0 by omega, Nat.zero_add, show n + 1 - on n (c / 2) = n - on n (c / 2) + 1 by omega, kr_noughts]
      omega

/-- MACWILLIAMS. -/
theorem Cd.williams {n : Nat} {W : List Nat} (h : Cd n W) (j : Nat) : (W.length : Int) * wn n (du n W) j = sm (fun c => kr (on n c) (n - on n c) j) W := by
  have h1 : sm (fun v => sm (fun c => if on n v = j then si n c v else 0) W) (List.range (2 ^ n)) = (W.length : Int) * wn n (du n W) j := by
    unfold wn du
    rw [sum_filter, ← sm_mul]
    refine sm_congr fun v _ => ?_
    by_cases hj : on n v = j
    · rw [sm_congr (H := fun c => si n c v) fun c _ => if_pos hj, h.signs, if_pos hj]
      split <;> omega
    · rw [sm_congr (H := fun _ => 0) fun c _ => if_neg hj, sum_zero, if_neg hj]
      split <;> simp
  rw [← h1, sum_swap]
  exact sm_congr fun c _ => si_weight n c j

end Go.Proofs.Ytlpnopliblaknaa.Ln
