/-
  Several texts in one:
  - Polynomials: what the rows of a walk come to, told by a function of the place. No Go in sight.
  - Package poly: Field, Check, checkBoth; and the document's errors.
  - Package poly: trim, addMultiple.
  - Package poly: Add, Mul.
  - Package poly: Mul.
  - Package poly: divide, Div.
  - Package poly: divide where there are steps to take; Div.
  - Package poly: monic, Gcd.
-/
import Derived.Test.YthlnbomapfjphaaGma
import Derived.Test.YthlnbomapfjphaaGro
import Derived.Test.YthlnbomapfjphaaGnu
import Derived.StillTailTactics
namespace Go.Proofs.Ythlnbomapfjphaa.Po
open Pr Rs

theorem c_nth (f : List Int) (i : Nat) : c f i = nth f i := rfl
theorem c_fl {L : Nat} {F : Nat → Int} {i : Nat} (h : i < L) : c (fl L F) i = F i := fl_nth h
theorem c_fl_over {L : Nat} {F : Nat → Int} {i : Nat} (h : L ≤ i) : c (fl L F) i = 0 := c_over (by rw [fl_length]; exact h)
theorem c_fl_nth {f : List Int} {L : Nat} (h : f.length ≤ L) (i : Nat) : c (fl L (nth f)) i = c f i := by
  by_cases hi : i < L
  · rw [c_fl hi]; rfl
  · rw [c_fl_over (by omega), c_over (by omega)]

/-- Numbers from 0 to p - 1. -/
def Bnd (p : Int) (f : List Int) : Prop := ∀ x ∈ f, 0 ≤ x ∧ x < p
theorem Can.bnd {p : Int} {f : List Int} (h : Can p f) : Bnd p f := h.1
theorem Bnd.nil (p : Int) : Bnd p [] := fun x h => by cases h
theorem Bnd.at {p : Int} {f : List Int} (h : Bnd p f) (hp : 0 < p) (i : Nat) : 0 ≤ nth f i ∧ nth f i < p := by
  by_cases hi : i < f.length
  · exact h _ (nth_mem hi)
  · have : nth f i = 0 := c_over (by omega)
    omega
theorem Bnd.take {p : Int} {f : List Int} (h : Bnd p f) (k : Nat) : Bnd p (f.take k) := fun x hx => h x (List.mem_of_mem_take hx)
theorem bnd_fl {p : Int} {L : Nat} {F : Nat → Int} (h : ∀ t, t < L → 0 ≤ F t ∧ F t < p) : Bnd p (fl L F) := fun x hx => by
  unfold fl at hx
  simp only [List.mem_map, List.mem_range] at hx
  obtain ⟨t, ht, rfl⟩ := hx
  exact h t ht

theorem short_can {p : Int} {f : List Int} (h : Bnd p f) : Can p (short f) := ⟨fun x hx => h x (short_mem _ _ hx), short_last f⟩
theorem cg_short (p : Int) (f : List Int) : Cg p (short f) f := Cg.of_eq (c_short f)
theorem short_red {p : Int} {f R : List Int} (hp : 0 < p) (hB : Bnd p R) (h : Cg p R f) : short R = red p f :=
  (short_can hB).ext hp (can_red hp f) ((cg_short p R).trans (h.trans (cg_red p f).symm))
theorem row_red {p : Int} {f R : List Int} (hp : 0 < p) (hB : Bnd p R) (h : Cg p R f) (hl : R.length ≤ (red p f).length) : R = red p f := by
  have e := short_red hp hB h
  have t := short_take R
  rw [e, List.take_of_length_le hl] at t
  exact t.symm
theorem can_short {p : Int} {f : List Int} (h : Can p f) : short f = f := short_id h.2

-- The loop that strikes noughts from the end.
theorem strike {f : List Int} {n : Nat} (h : n < f.length) (h0 : nth f n = 0) : short (f.take (n + 1)) = short (f.take n) := by
  have e : f.take (n + 1) = f.take n ++ [f[n]] := (List.take_append_getElem h).symm
  rw [nth_eq h] at h0
  rw [e, short_snoc, if_pos h0]
theorem stay {f : List Int} {n : Nat} (h : n < f.length) (h0 : nth f n ≠ 0) : short (f.take (n + 1)) = f.take (n + 1) := by
  have e : f.take (n + 1) = f.take n ++ [f[n]] := (List.take_append_getElem h).symm
  rw [nth_eq h] at h0
  rw [e, short_snoc, if_neg h0]

-- So many times g goes over, so much higher, as far as n.
def addm (p : Int) (F : Nat → Int) (off : Nat) (a : Int) (g : List Int) (n : Nat) : Nat → Int := fun t => if off ≤ t ∧ t < off + n then (F t + a * nth g (t - off)) % p else F t
theorem addm_zero (p : Int) (F : Nat → Int) (off : Nat) (a : Int) (g : List Int) : addm p F off a g 0 = F := by
  funext t
  exact if_neg (by omega)
theorem addm_here (p : Int) (F : Nat → Int) (off : Nat) (a : Int) (g : List Int) (n : Nat) : addm p F off a g n (off + n) = F (off + n) := if_neg (by omega)
theorem addm_step (p : Int) (F : Nat → Int) (off : Nat) (a : Int) (g : List Int) (n : Nat) : upd (addm p F off a g n) (off + n) ((F (off + n) + a * nth g n) % p) = addm p F off a g (n + 1) := by
  funext t
  by_cases h : t = off + n
  · subst h
    rw [upd_at]
    unfold addm
    rw [if_pos (by omega), Nat.add_sub_cancel_left]
  · rw [upd_ne h]
    unfold addm
    by_cases h2 : off ≤ t ∧ t < off + n
    · rw [if_pos h2, if_pos (by omega)]
    · rw [if_neg h2, if_neg (by omega)]
theorem addm_bnd {p a : Int} {F : Nat → Int} {off L n : Nat} {g : List Int} (hp : 0 < p) (h : ∀ t, t < L → 0 ≤ F t ∧ F t < p) : ∀ t, t < L → 0 ≤ addm p F off a g n t ∧ addm p F off a g n t < p := fun t ht => by
  unfold addm
  split
  · exact ⟨Int.emod_nonneg _ (by omega), Int.emod_lt_of_pos _ hp⟩
  · exact h t ht
theorem addm_cg {p a : Int} {F : Nat → Int} {off L : Nat} {g : List Int} (h : off + g.length ≤ L) : Cg p (fl L (addm p F off a g g.length)) (plus (fl L F) a g off) := fun i => by
  rw [c_plus]
  by_cases hi : i < L
  · rw [c_fl hi, c_fl hi]
    unfold addm
    by_cases h1 : off ≤ i ∧ i < off + g.length
    · have hni : ¬ i < off := by omega
      rw [if_pos h1, if_neg hni]
      have h2 := Int.mul_ediv_add_emod (F i + a * nth g (i - off)) p
      exact ⟨-((F i + a * nth g (i - off)) / p), by rw [Int.mul_neg, c_nth]; omega⟩
    · rw [if_neg h1]
      by_cases h2 : i < off
      · rw [if_pos h2]; simp
      · rw [if_neg h2, c_over (f := g) (by omega)]; simp
  · have hni : ¬ i < off := by omega
    rw [c_fl_over (by omega), c_fl_over (by omega), if_neg hni, c_over (f := g) (by omega)]
    simp

theorem Cg.plus {p : Int} {f f' : List Int} (h : Cg p f f') (a : Int) (g : List Int) (n : Nat) : Cg p (plus f a g n) (plus f' a g n) := h.add (Cg.refl p _)
theorem Cg.times {p a b : Int} (f g : List Int) (n : Nat) (h : p ∣ a - b) : Cg p (Po.plus f a g n) (Po.plus f b g n) := fun i => by
  rw [c_plus, c_plus]
  have := Int.dvd_mul_of_dvd_left (c := if i < n then 0 else c g (i - n)) h
  rw [Int.sub_mul] at this
  rwa [show c f i + a * (if i < n then 0 else c g (i - n)) - (c f i + b * (if i < n then 0 else c g (i - n))) = a * (if i < n then 0 else c g (i - n)) - b * (if i < n then 0 else c g (i - n)) by omega]
theorem plus_one (f g : List Int) (i : Nat) : c (plus f 1 g 0) i = c (add f g) i := by rw [c_plus, c_add]; simp
theorem mul_next {f g : List Int} {k : Nat} (h : k < f.length) (i : Nat) : c (plus (mul (f.take k) g) (c f k) g k) i = c (mul (f.take (k + 1)) g) i := by
  have e : f.take (k + 1) = f.take k ++ [c f k] := by rw [c_at h, List.take_append_getElem h]
  have hl : (f.take k).length = k := by simp; omega
  rw [e, mul_snoc, hl, plus, c_add, c_sc]

-- Division.
/-- q times, and r is left. -/
def IsDv (p : Int) (f g q r : List Int) : Prop := Can p q ∧ Can p r ∧ r.length < g.length ∧ Dv p f g q r
theorem IsDv.uniq {p : Int} {f g q r q' r' : List Int} (hp : Prm p) (hg : Can p g) (h0 : g ≠ []) (h : IsDv p f g q r) (h' : IsDv p f g q' r') : q = q' ∧ r = r' :=
  div_uniq hp hg h0 h.1 h.2.1 h'.1 h'.2.1 h.2.2.1 h'.2.2.1 h.2.2.2 h'.2.2.2
theorem Dv.red {p : Int} {f g q r : List Int} (h : Dv p f g q r) : Dv p f g (red p q) r := h.cg (cg_red p q) (Cg.refl p r)

/-- What a division holds when m steps are left. -/
structure DvI (p : Int) (f g : List Int) (n L : Nat) (Q R : Nat → Int) (m : Nat) : Prop where
  q : ∀ t, t < n → 0 ≤ Q t ∧ Q t < p
  z : ∀ t, t < m → Q t = 0
  r : ∀ t, t < L → 0 ≤ R t ∧ R t < p
  top : ∀ t, t < L → m + g.length ≤ t + 1 → R t = 0
  dv : Dv p f g (fl n Q) (fl L R)

theorem DvI.begin {p : Int} {f g : List Int} (hp : 0 < p) (hf : Bnd p f) {n : Nat} (hn : f.length + 1 ≤ n + g.length) : DvI p f g n f.length (fun _ => 0) (nth f) n :=
  ⟨fun _ _ => by omega, fun _ _ => rfl, fun t _ => hf.at hp t, fun t ht h => by omega, by
    refine Dv.cg (dv_start p f g) (Cg.of_eq fun i => ?_) (Cg.of_eq fun i => ?_)
    · by_cases hi : i < n
      · rw [c_fl hi]; rfl
      · rw [c_fl_over (by omega)]; rfl
    · exact c_fl_nth (Nat.le_refl _) i⟩

theorem DvI.step {p v : Int} {f g : List Int} {n L i : Nat} {Q R : Nat → Int} (hp : 0 < p) (h0 : g ≠ []) (hv : p ∣ v * nth g (g.length - 1) - 1) (h : DvI p f g n L Q R (i + 1)) (hi : i < n) (hL : i + g.length ≤ L) :
    DvI p f g n L (upd Q i (R (i + g.length - 1) * v % p)) (addm p R i (p - R (i + g.length - 1) * v % p) g g.length) i := by
  have l0 := List.length_pos_iff.mpr h0
  obtain ⟨a, ha⟩ : ∃ a, R (i + g.length - 1) * v % p = a := ⟨_, rfl⟩
  have a0 : 0 ≤ a := by rw [← ha]; exact Int.emod_nonneg _ (by omega)
  have a1 : a < p := by rw [← ha]; exact Int.emod_lt_of_pos _ hp
  have ad : p ∣ R (i + g.length - 1) * v - a := by
    rw [← ha]
    exact ⟨R (i + g.length - 1) * v / p, by have := Int.mul_ediv_add_emod (R (i + g.length - 1) * v) p; omega⟩
  rw [ha]
  refine ⟨fun t ht => ?_, fun t ht => ?_, addm_bnd hp h.r, fun t ht htm => ?_, ?_⟩
  · by_cases e : t = i
    · subst e; rw [upd_at]; exact ⟨a0, a1⟩
    · rw [upd_ne e]; exact h.q t ht
  · rw [upd_ne (by omega)]; exact h.z t (by omega)
  · by_cases e : t = i + g.length - 1
    · subst e
      unfold addm
      rw [if_pos (by omega)]
      refine Int.emod_eq_zero_of_dvd ?_
      rw [show i + g.length - 1 - i = g.length - 1 by omega]
      obtain ⟨k, hk⟩ := ad
      obtain ⟨j, hj⟩ := hv
      generalize nth g (g.length - 1) = z at *
      generalize R (i + g.length - 1) = y at *
      refine ⟨z + k * z - y * j, ?_⟩
      have h1 : a = y * v - p * k := by omega
      have h2 : v * z = 1 + p * j := by omega
      subst h1
      grind
    · unfold addm
      rw [if_neg (by omega)]
      exact h.top t ht (by omega)
  · refine Dv.cg (dv_step h.dv a i) (Cg.of_eq fun t => ?_) ?_
    · rw [c_plus]
      by_cases ht : t < n
      · rw [c_fl ht, c_fl ht]
        by_cases e : t = i
        · subst e
          have hni : ¬ t < t := by omega
          rw [upd_at, h.z t (by omega), if_neg hni, Nat.sub_self, c_zero]
          omega
        · rw [upd_ne e]
          by_cases h2 : t < i
          · rw [if_pos h2]; omega
          · rw [if_neg h2, c_over (by simp; omega)]; omega
      · have hni : ¬ t < i := by omega
        rw [c_fl_over (by omega), c_fl_over (by omega), if_neg hni, c_over (by simp; omega)]
        omega
    · refine (addm_cg hL).trans (Cg.times _ g i ⟨1, by omega⟩)

theorem DvI.done {p : Int} {f g : List Int} {n : Nat} {Q R : Nat → Int} (hp : Prm p) (hf : Can p f) (h0 : g ≠ []) (hn : n = f.length + 1 - g.length) (h : DvI p f g n f.length Q R 0) : IsDv p f g (fl n Q) (short (fl f.length R)) := by
  have p0 := hp.1
  have l0 := List.length_pos_iff.mpr h0
  have hr : Can p (short (fl f.length R)) := short_can (bnd_fl h.r)
  have hlt : (short (fl f.length R)).length < g.length := by
    refine Decidable.byContradiction fun hc => ?_
    have hne : short (fl f.length R) ≠ [] := fun e => by rw [e, List.length_nil] at hc; omega
    apply short_last _ hne
    rw [c_short]
    by_cases hi : (short (fl f.length R)).length - 1 < f.length
    · rw [c_fl hi]; exact h.top _ hi (by omega)
    · exact c_fl_over (by omega)
  have hD : Dv p f g (fl n Q) (short (fl f.length R)) := h.dv.cg (Cg.refl p _) (cg_short p _)
  refine ⟨⟨bnd_fl h.q, fun hne hz => ?_⟩, hr, hlt, hD⟩
  rw [fl_length] at hz
  have hn0 : 0 < n := by
    refine Decidable.byContradiction fun hc => hne ?_
    have : n = 0 := by omega
    rw [this]; rfl
  have hfne : f ≠ [] := fun e => by rw [e] at hn; simp at hn; omega
  have hl := mul_last (n - 1) (fl n Q) g (g.length - 1) (by rw [fl_length]; omega) (by omega)
  have hd := hD (f.length - 1)
  rw [c_add, show f.length - 1 = n - 1 + (g.length - 1) by omega, hl, hz, Int.zero_mul, c_over (f := short (fl f.length R)) (by omega)] at hd
  apply can_last hp hf hfne
  rw [show f.length - 1 = n - 1 + (g.length - 1) by omega]
  have := Int.dvd_neg.mpr hd
  rwa [show -(0 + 0 - c f (n - 1 + (g.length - 1))) = c f (n - 1 + (g.length - 1)) by omega] at this

theorem last_inv {p : Int} {g : List Int} (hp : Prm p) (hg : Can p g) (h0 : g ≠ []) : ∃ b, 1 ≤ b ∧ b < p ∧ p ∣ b * nth g (g.length - 1) - 1 := inv_some hp (can_last hp hg h0)

theorem dv_some {p : Int} {f g : List Int} (hp : Prm p) (hf : Can p f) (hg : Can p g) (h0 : g ≠ []) : ∃ q r, IsDv p f g q r := by
  have p0 := hp.1
  have l0 := List.length_pos_iff.mpr h0
  obtain ⟨v, _, _, hv⟩ := last_inv hp hg h0
  have go : ∀ m, ∀ Q R, m ≤ f.length + 1 - g.length → DvI p f g (f.length + 1 - g.length) f.length Q R m → ∃ q r, IsDv p f g q r := by
    intro m
    induction m with
    | zero => intro Q R _ h; exact ⟨_, _, h.done hp hf h0 rfl⟩
    | succ m ih => intro Q R hm h; exact ih _ _ (by omega) (h.step (by omega) h0 hv (by omega) (by omega))
  exact go _ _ _ (Nat.le_refl _) (DvI.begin (by omega) hf.1 (by omega))

-- The greatest common divisor.
theorem one_c (a : Int) (f : List Int) (i : Nat) : c (mul [a] f) i = a * c f i := by
  rw [c_mul]
  have : pre (c (mul [] f)) i = 0 := by cases i <;> rfl
  omega
theorem can_one {p a : Int} (h1 : 1 ≤ a) (h2 : a < p) : Can p [a] := ⟨fun x hx => by simp at hx; omega, fun _ => by show a ≠ 0; omega⟩
theorem mon_len {p v : Int} {f : List Int} (hp : Prm p) (hf : Can p f) (h0 : f ≠ []) (h1 : 1 ≤ v) (h2 : v < p) : (red p (mul [v] f)).length = f.length := by
  have l0 := List.length_pos_iff.mpr h0
  rw [red_mul_length hp (can_one h1 h2) hf (by simp) h0]
  simp
theorem isG_mon {p v : Int} {f : List Int} (hp : Prm p) (hf : Can p f) (h0 : f ≠ []) (h1 : 1 ≤ v) (h2 : v < p) (hv : p ∣ v * nth f (f.length - 1) - 1) : IsG p (red p (mul [v] f)) f [] := by
  have p0 := hp.1
  refine IsG.last ⟨can_red (by omega) _, fun _ => ?_⟩ ⟨nth f (f.length - 1), by rw [Int.mul_comm]; exact hv⟩
  rw [mon_len hp hf h0 h1 h2, c_red, one_c]
  obtain ⟨k, hk⟩ := hv
  rw [show v * c f (f.length - 1) = 1 + p * k by rw [c_nth]; omega, Int.add_mul_emod_self_left]
  exact Int.emod_eq_of_lt (by omega) (by omega)

theorem isG_some {p : Int} (hp : Prm p) : ∀ (n : Nat) (f g : List Int), g.length ≤ n → Can p f → Can p g → ∃ d, IsG p d f g := by
  have p0 := hp.1
  intro n
  induction n with
  | zero =>
    intro f g hl hf hg
    obtain rfl : g = [] := List.length_eq_zero_iff.mp (by omega)
    by_cases h0 : f = []
    · subst h0; exact ⟨[], isG_none⟩
    · obtain ⟨v, h1, h2, hv⟩ := last_inv hp hf h0
      exact ⟨_, isG_mon hp hf h0 h1 h2 hv⟩
  | succ n ih =>
    intro f g hl hf hg
    by_cases h0 : g = []
    · subst h0; exact ih f [] (by simp) hf hg
    · obtain ⟨q, r, hD⟩ := dv_some hp hf hg h0
      obtain ⟨d, hd⟩ := ih g r (by have := hD.2.2.1; omega) hg hD.2.1
      exact ⟨d, hd.step hD.2.2.2⟩

theorem IsG.next {p : Int} {d f g q r : List Int} (hp : Prm p) (hg : Can p g) (hr : Can p r) (hD : Dv p f g q r) (h : IsG p d f g) : IsG p d g r := by
  obtain ⟨e, he⟩ := isG_some hp r.length g r (Nat.le_refl _) hg hr
  have := (he.step hD).uniq hp h
  rw [← this]; exact he
theorem IsG.zero {p : Int} {d : List Int} (hp : Prm p) (h : IsG p d [] []) : d = [] := h.uniq hp isG_none

end Go.Proofs.Ythlnbomapfjphaa.Po

namespace Go.Proofs.Ythlnbomapfjphaa
open Go.RowKit
open Pr Po

/-- Field's error. -/
def fieldE (p : Int) : Int := if pb p = true ∧ p ≤ 997 then 0 else 1
theorem fieldE_zero {p : Int} : fieldE p = 0 ↔ Prm p ∧ p ≤ 997 := by
  unfold fieldE
  by_cases h : pb p = true ∧ p ≤ 997
  · rw [if_pos h]; exact ⟨fun _ => ⟨(pb_iff p).mp h.1, h.2⟩, fun _ => rfl⟩
  · rw [if_neg h]; exact ⟨fun h2 => by simp at h2, fun h2 => absurd ⟨(pb_iff p).mpr h2.1, h2.2⟩ h⟩
theorem fieldE_two (p : Int) : fieldE p = 0 ∨ fieldE p = 1 := by unfold fieldE; split <;> simp

def outB (p x : Int) : Bool := decide (x < 0) || decide (p ≤ x)
theorem outB_no {p x : Int} : outB p x = false ↔ 0 ≤ x ∧ x < p := by unfold outB; simp
theorem outB_yes {p x : Int} (h : x < 0 ∨ p ≤ x) : outB p x = true := by unfold outB; simp; exact h
theorem any_out {p : Int} {f : List Int} : f.any (outB p) = false ↔ Bnd p f := by
  rw [List.any_eq_false]
  exact ⟨fun h x hx => outB_no.mp (by simpa using h x hx), fun h x hx => by rw [outB_no.mpr (h x hx)]; simp⟩

/-- Check's error. -/
def polyE (p : Int) (f : List Int) : Int := if fieldE p ≠ 0 then 1 else if 40 < f.length then 2 else if f.any (outB p) = true then 1 else if f ≠ [] ∧ nth f (f.length - 1) = 0 then 3 else 0
/-- That of the first, or else that of the second. -/
def bothE (p : Int) (f g : List Int) : Int := if polyE p f ≠ 0 then polyE p f else polyE p g

theorem polyE_zero {p : Int} {f : List Int} : polyE p f = 0 ↔ Prm p ∧ p ≤ 997 ∧ f.length ≤ 40 ∧ Po.Can p f := by
  unfold polyE
  by_cases h1 : fieldE p = 0
  · rw [if_neg (by simpa using h1)]
    have hp := fieldE_zero.mp h1
    by_cases h2 : 40 < f.length
    · rw [if_pos h2]; simp; omega
    · rw [if_neg h2]
      by_cases h3 : f.any (outB p) = true
      · rw [if_pos h3]
        constructor
        · intro h; simp at h
        · rintro ⟨_, _, _, h⟩
          rw [any_out.mpr h.1] at h3
          cases h3
      · rw [if_neg h3]
        have hB := any_out.mp (by simpa using h3)
        by_cases h4 : f ≠ [] ∧ nth f (f.length - 1) = 0
        · rw [if_pos h4]
          constructor
          · intro h; simp at h
          · rintro ⟨_, _, _, h⟩
            exact absurd h4.2 (h.2 h4.1)
        · rw [if_neg h4]
          exact ⟨fun _ => ⟨hp.1, hp.2, by omega, hB, fun hn hz => h4 ⟨hn, hz⟩⟩, fun _ => rfl⟩
  · rw [if_pos h1]
    constructor
    · intro h; simp at h
    · rintro ⟨h2, h3, _⟩
      exact absurd (fieldE_zero.mpr ⟨h2, h3⟩) h1
theorem polyE_bound (p : Int) (f : List Int) : 0 ≤ polyE p f ∧ polyE p f ≤ 3 := by unfold polyE; repeat' split <;> omega
theorem bothE_zero {p : Int} {f g : List Int} : bothE p f g = 0 ↔ Prm p ∧ p ≤ 997 ∧ f.length ≤ 40 ∧ Po.Can p f ∧ g.length ≤ 40 ∧ Po.Can p g := by
  unfold bothE
  by_cases h : polyE p f = 0
  · rw [if_neg (by simpa using h), polyE_zero]
    have h1 := polyE_zero.mp h
    exact ⟨fun h2 => ⟨h1.1, h1.2.1, h1.2.2.1, h1.2.2.2, h2.2.2⟩, fun h2 => ⟨h1.1, h1.2.1, h2.2.2.2.2⟩⟩
  · rw [if_pos h]
    exact ⟨fun h2 => absurd h2 h, fun h2 => absurd (polyE_zero.mpr ⟨h2.1, h2.2.1, h2.2.2.1, h2.2.2.2.1⟩) h⟩
theorem bothE_bound (p : Int) (f g : List Int) : 0 ≤ bothE p f g ∧ bothE p f g ≤ 3 := by unfold bothE; split <;> exact polyE_bound _ _

set_option maxHeartbeats 400000 in
theorem field_any (p : Int) (w : World) : Calls Try.prog 113 #[.int .i64 p] w (Says (.int .i64 (fieldE p)) w) := by
  by_cases h : p < 0 ∨ 1000000 < p
  · have HE : Hid (fieldE p = 1) := Lib.hid (by
      unfold fieldE
      rw [if_neg]
      rintro ⟨h1, h2⟩
      have := ((pb_iff p).mp h1).1
      omega)
    have HC := Lib.hid fun w2 => is_no p w2 h
    clear h
    go_enter Try.func113, Try.ntmps113
    go_wp2_with (go_at_call 129; (with_reducible refine (HC.out _).mono ?_); rintro e w2 ⟨rfl, hw2⟩)
    go_ret
    exact ⟨by rw [HE.out]; rfl, hw2⟩
  · have HC := Lib.hid fun w2 => is_ok p w2 (by omega) (by omega)
    clear h
    cases hb : pb p
    · have HE : Hid (fieldE p = 1) := Lib.hid (by unfold fieldE; rw [if_neg (by simp [hb])])
      rw [hb] at HC
      clear hb
      go_enter Try.func113, Try.ntmps113
      go_wp2_with (go_at_call 129; (with_reducible refine (HC.out _).mono ?_); rintro e w2 ⟨rfl, hw2⟩)
      go_ret
      exact ⟨by rw [HE.out]; rfl, hw2⟩
    · rw [hb] at HC
      by_cases h9 : 997 < p
      · have HE : Hid (fieldE p = 1) := Lib.hid (by unfold fieldE; rw [if_neg (by omega)])
        clear hb
        go_enter Try.func113, Try.ntmps113
        go_wp2_with (go_at_call 129; (with_reducible refine (HC.out _).mono ?_); rintro e w2 ⟨rfl, hw2⟩)
        go_ret
        exact ⟨by rw [HE.out]; rfl, hw2⟩
      · have HE : Hid (fieldE p = 0) := Lib.hid (by unfold fieldE; rw [if_pos ⟨hb, by omega⟩])
        clear hb
        go_enter Try.func113, Try.ntmps113
        go_wp2_with (go_at_call 129; (with_reducible refine (HC.out _).mono ?_); rintro e w2 ⟨rfl, hw2⟩)
        go_ret
        exact ⟨by rw [HE.out]; rfl, hw2⟩


set_option maxRecDepth 100000 in
set_option maxHeartbeats 1000000 in
theorem pcheck_any (p : Int) (f : List Int) (a : Option Addr) (cap : Nat) (w : World) (hl : f.length ≤ maxLen) (hr : Reads w .i64 a f) :
    Calls Try.prog 85 #[.int .i64 p, .slice a f.length cap] w (Says (.int .i64 (polyE p f)) w) := by
  unfold maxLen at hl
  have HF := Lib.hid fun w2 => field_any p w2
  have HR := Lib.hid hr
  rcases fieldE_two p with h1 | h1
  · rw [h1] at HF
    by_cases h6 : 40 < f.length
    · have HE : Hid (polyE p f = 2) := Lib.hid (by unfold polyE; rw [if_neg (by simpa using h1), if_pos h6])
      have hb : decide ((40 : Int) < (f.length : Int)) = true := decide_eq_true (by omega)
      clear hr h1
      go_enter Try.func85, Try.ntmps85
      go_wp2_with (go_at_call 113; (with_reducible refine (HF.out _).mono ?_); rintro e w2 ⟨rfl, hw2⟩)
      go_ret
      exact ⟨by rw [HE.out]; rfl, hw2⟩
    · have H1 : Hid (f.any (outB p) = true → polyE p f = 1) := Lib.hid fun h => by unfold polyE; rw [if_neg (by simpa using h1), if_neg h6, if_pos h]
      have H3 : Hid (f.any (outB p) = false → f ≠ [] → nth f (f.length - 1) = 0 → polyE p f = 3) := Lib.hid fun h hn hz => by unfold polyE; rw [if_neg (by simpa using h1), if_neg h6, if_neg (by rw [h]; decide), if_pos ⟨hn, hz⟩]
      have H0 : Hid (f.any (outB p) = false → (f ≠ [] → nth f (f.length - 1) ≠ 0) → polyE p f = 0) := Lib.hid fun h hz => by unfold polyE; rw [if_neg (by simpa using h1), if_neg h6, if_neg (by rw [h]; decide), if_neg (fun hc => hz hc.1 hc.2)]
      have h7 : f.length ≤ 40 := by omega
      have hpb : p ≤ 997 := (fieldE_zero.mp h1).2
      have hp2 : 2 ≤ p := (fieldE_zero.mp h1).1.1
      clear hr h6 h1
      go_enter Try.func85, Try.ntmps85
      go_wp2_with (go_at_call 113; (with_reducible refine (HF.out _).mono ?_); rintro e w2 ⟨rfl, hw2⟩)
      go_loopg [18] f.length (fun k vSLOT x => ∃ (t : Nat), t ≤ f.length ∧ vSLOT = .int .i64 t ∧ Hid (∀ j, j < t → outB p (nth f j) = false) ∧ Hid (k = f.length - t) ∧ Ex w x)
      case atStart => exact ⟨0, by omega, rfl, Lib.hid (fun j hj => absurd hj (Nat.not_lt_zero _)), Lib.hid rfl, hw2⟩
      case round =>
        obtain ⟨t, ht, rfl, hB, hk, hx⟩ := hrel
        by_cases hlt : t < f.length
        · rcases (HR.out.ex hx) with hn | ⟨b, off, rfl, hc⟩
          · rw [hn] at hlt; exact absurd hlt (Nat.not_lt_zero _)
          have hct := hc t hlt
          have HB1 : Hid (outB p (nth f t) = true → polyE p f = 1) := Lib.hid fun h => H1.out (List.any_eq_true.mpr ⟨_, nth_mem hlt, h⟩)
          have HB0 : Hid (outB p (nth f t) = false → ∀ j, j < t + 1 → outB p (nth f j) = false) := Lib.hid fun h j hj => by
            rcases Nat.lt_succ_iff_lt_or_eq.mp hj with h2 | h2
            · exact hB.out j h2
            · rw [h2]; exact h
          obtain ⟨x, hxx⟩ : ∃ x, nth f t = x := ⟨_, rfl⟩
          rw [hxx] at hct HB1 HB0
          clear hc hxx
          by_cases x1 : x < 0
          · have HE := Lib.hid (HB1.out (outB_yes (.inl x1)))
            go_wp2
            go_ret
            exact ⟨by rw [HE.out]; rfl, hx⟩
          · by_cases x2 : p ≤ x
            · have HE := Lib.hid (HB1.out (outB_yes (.inr x2)))
              have g1 : decide (x < 0) = false := by simpa using x1
              go_wp2
              go_ret
              exact ⟨by rw [HE.out]; rfl, hx⟩
            · have HE := Lib.hid (HB0.out (outB_no.mpr (by omega)))
              have g1 : decide (x < 0) = false := by simpa using x1
              have g2 : decide (p ≤ x) = false := by simpa using x2
              go_wp2
              go_roundg (f.length - (t + 1))
              case measure => have := hk.out; omega
              case rel => exact ⟨t + 1, by omega, by go_num, HE, Lib.hid rfl, hx⟩
        · have e : t = f.length := by omega
          have HA : Hid (f.any (outB p) = false) := Lib.hid (by
            rw [List.any_eq_false]
            intro y hy
            obtain ⟨j, hj, rfl⟩ := List.getElem_of_mem hy
            have := hB.out j (by omega)
            rw [nth_eq hj] at this
            simp [this])
          have hnl : ¬ ((t : Int) < (f.length : Int)) := by omega
          by_cases h0 : f = []
          · have HE := Lib.hid (H0.out HA.out (fun h => absurd h0 h))
            have hl0 : f.length = 0 := by rw [h0]; rfl
            have hg : decide ((0 : Int) < (f.length : Int)) = false := decide_eq_false (by omega)
            clear h0
            go_wp2
            go_ret
            exact ⟨by rw [HE.out]; rfl, hx⟩
          · have hl0 : 0 < f.length := List.length_pos_iff.mpr h0
            have hg : decide ((0 : Int) < (f.length : Int)) = true := decide_eq_true (by omega)
            rcases (HR.out.ex hx) with hn | ⟨b, off, rfl, hc⟩
            · exact absurd hn h0
            have hct := hc (f.length - 1) (by omega)
            have HZ : Hid (nth f (f.length - 1) = 0 → polyE p f = 3) := Lib.hid (H3.out HA.out h0)
            have HN : Hid (nth f (f.length - 1) ≠ 0 → polyE p f = 0) := Lib.hid fun h => H0.out HA.out (fun _ => h)
            obtain ⟨x, hxx⟩ : ∃ x, nth f (f.length - 1) = x := ⟨_, rfl⟩
            rw [hxx] at hct HZ HN
            subst e
            obtain ⟨M, hM⟩ : ∃ M, f.length = M + 1 := ⟨f.length - 1, by omega⟩
            rw [hM] at hct hg hnl hl0 hl h7 ⊢
            rw [Nat.add_sub_cancel] at hct
            clear hc hxx h0 hM ht hlt hB hk
            by_cases hz : x = 0
            · have HE := Lib.hid (HZ.out hz)
              subst hz
              go_wp2
              go_ret
              exact ⟨by rw [HE.out]; rfl, hx⟩
            · have HE := Lib.hid (HN.out hz)
              have g1 : (x == 0) = false := by simpa using hz
              go_wp2
              go_ret
              exact ⟨by rw [HE.out]; rfl, hx⟩
  · rw [h1] at HF
    have HE : Hid (polyE p f = 1) := Lib.hid (by unfold polyE; rw [if_pos (by rw [h1]; decide)])
    clear hr h1
    go_enter Try.func85, Try.ntmps85
    go_wp2_with (go_at_call 113; (with_reducible refine (HF.out _).mono ?_); rintro e w2 ⟨rfl, hw2⟩)
    go_ret
    exact ⟨by rw [HE.out]; rfl, hw2⟩

set_option maxHeartbeats 400000 in
theorem both_any (p : Int) (f g : List Int) (a b : Option Addr) (ca cb : Nat) (w : World) (hl : f.length ≤ maxLen) (hr : Reads w .i64 a f) (hl2 : g.length ≤ maxLen) (hr2 : Reads w .i64 b g) :
    Calls Try.prog 117 #[.int .i64 p, .slice a f.length ca, .slice b g.length cb] w (Says (.int .i64 (bothE p f g)) w) := by
  have HF := Lib.hid (pcheck_any p f a ca w hl hr)
  have HG := Lib.hid fun w2 (hx : Ex w w2) => pcheck_any p g b cb w2 hl2 (hr2.ex hx)
  clear hr hr2 hl hl2
  by_cases h : polyE p f = 0
  · have HE : Hid (bothE p f g = polyE p g) := Lib.hid (if_neg (by simpa using h))
    rw [h] at HF
    clear h
    go_enter Try.func117, Try.ntmps117
    go_wp2_with (first
      | (go_at_call 85; (with_reducible refine (HF.out).mono ?_); rintro e w2 ⟨rfl, hw2⟩)
      | (go_at_call 85; (with_reducible refine (HG.out _ hw2).mono ?_); rintro e w3 ⟨rfl, hw3⟩))
    go_ret
    exact ⟨by rw [HE.out]; rfl, hw2.trans hw3⟩
  · have HE : Hid (bothE p f g = polyE p f) := Lib.hid (if_pos h)
    obtain ⟨c, hc⟩ : ∃ c, polyE p f = c := ⟨_, rfl⟩
    rw [hc] at HF HE h
    have hb : (c != 0) = true := by simpa using h
    clear h hc
    go_enter Try.func117, Try.ntmps117
    go_wp2_with (go_at_call 85; (with_reducible refine (HF.out).mono ?_); rintro e w2 ⟨rfl, hw2⟩)
    go_ret
    exact ⟨by rw [HE.out]; rfl, hw2⟩




end Go.Proofs.Ythlnbomapfjphaa

namespace Go.Proofs.Ythlnbomapfjphaa
open Go.RowKit
open Po

theorem mul_bound {a b : Int} {A B : Int} (h1 : 0 ≤ a) (h2 : a ≤ A) (h3 : 0 ≤ b) (h4 : b ≤ B) : 0 ≤ a * b ∧ a * b ≤ A * B :=
  ⟨Int.mul_nonneg h1 h3, Int.mul_le_mul h2 h4 h3 (by omega)⟩

set_option maxHeartbeats 1000000 in
theorem trim_row (xs : List Int) (v : Value) (base : Nat) (w : World) (h : Row 3 .i64 w base v xs) (hl : xs.length ≤ 1000) :
    Calls Try.prog 118 #[v] w (fun e w2 => ∃ u, e = .returned u ∧ Hid (Row 3 .i64 w2 base u (short xs)) ∧ u.ownBlock = v.ownBlock ∧ Ex w w2) := by
  rcases h.form with ⟨rfl, rfl⟩ | ⟨g, cap, rfl, hg1, hg2, hc1, hc2, hc, hf⟩
  · go_enter Try.func118, Try.ntmps118
    go_wp2
    go_loopg [3] 0 (fun k vSLOT x => vSLOT = .int .i64 0 ∧ x = w)
    case atStart => exact ⟨rfl, rfl⟩
    case round =>
      obtain ⟨rfl, rfl⟩ := hrel
      go_wp2
      go_ret
      exact ⟨_, rfl, Lib.hid (Row.nil _ _ _ _), rfl, Ex.refl _⟩
  · have HR := Lib.hid h
    have HC : Hid (∀ i, i < xs.length → w.cell? ⟨g, i, none⟩ = some (.int .i64 (nth xs i))) := hc
    have HS : Hid (short (xs.take xs.length) = short xs) := Lib.hid (by rw [List.take_length])
    unfold maxLen at hc2
    clear h hc hf
    obtain ⟨L, hL⟩ : ∃ L, xs.length = L := ⟨_, rfl⟩
    have HL := Lib.hid hL
    rw [hL] at hl hc1 HC HS ⊢
    have HR2 : Hid (Row 3 .i64 w base (.slice (some ⟨g, 0, none⟩) L cap) xs) := Lib.hid (by
      have := HR.out; rw [HL.out] at this; exact this)
    clear hL HR
    go_enter Try.func118, Try.ntmps118
    go_wp2
    go_loopg [3] L (fun k vSLOT x => ∃ n : Nat, n ≤ L ∧ vSLOT = .int .i64 n ∧ Hid (short (xs.take n) = short xs) ∧ Hid (k = n) ∧ Ex w x)
    case atStart => exact ⟨L, Nat.le_refl _, rfl, HS, Lib.hid rfl, Ex.refl _⟩
    case round =>
      obtain ⟨n, hn, rfl, hS, hk, hx⟩ := hrel
      cases n with
      | zero =>
        have HE : Hid (short xs = xs.take 0) := Lib.hid (by rw [← hS.out]; rfl)
        have hg : decide ((0 : Int) < ((0 : Nat) : Int)) = false := rfl
        go_wp2
        go_ret
        exact ⟨_, rfl, Lib.hid (by rw [HE.out]; exact (HR2.out.ex hx).cut HL.out.symm (Nat.zero_le _)), rfl, hx⟩
      | succ n =>
        have hcn := hx.cell (HC.out n (by omega))
        have HST : Hid (nth xs n = 0 → short (xs.take n) = short xs) := Lib.hid fun h0 => by rw [← hS.out, strike (by have := HL.out; omega) h0]
        have HSY : Hid (nth xs n ≠ 0 → short xs = xs.take (n + 1)) := Lib.hid fun h0 => by rw [← hS.out, stay (by have := HL.out; omega) h0]
        have hg : decide ((0 : Int) < ((n + 1 : Nat) : Int)) = true := decide_eq_true (by omega)
        obtain ⟨y, hy⟩ : ∃ y, nth xs n = y := ⟨_, rfl⟩
        rw [hy] at hcn HST HSY
        clear hy
        by_cases h0 : y = 0
        · have HT := Lib.hid (HST.out h0)
          subst h0
          go_wp2
          go_roundg n
          case measure => have := hk.out; omega
          case rel => exact ⟨n, by omega, by go_num, HT, Lib.hid rfl, hx⟩
        · have HT := Lib.hid (HSY.out h0)
          have g1 : (y == 0) = false := by simpa using h0
          go_wp2
          go_ret
          exact ⟨_, rfl, Lib.hid (by rw [HT.out]; exact (HR2.out.ex hx).cut HL.out.symm hn), rfl, hx⟩

set_option maxRecDepth 100000 in
set_option maxHeartbeats 2000000 in
theorem addMul_row (p t : Int) (F : Nat → Int) (L cap b off : Nat) (g : List Int) (ag : Option Addr) (cg base : Nat) (w0 w : World) (p0 : 1 ≤ p) (p1 : p ≤ 997) (t0 : 0 ≤ t) (t1 : t ≤ 997)
    (hF : ∀ i, i < L → 0 ≤ F i ∧ F i < p) (hg : Bnd p g) (hL : off + g.length ≤ L) (hLc : L ≤ 1000) (hx : Ex w0 w) (hr : Reads w0 .i64 ag g) (hb : w0.heap.size ≤ b) (hR : Row 3 .i64 w base (.slice (some ⟨b, 0, none⟩) L cap) (fl L F)) :
    Calls Try.prog 119 #[.int .i64 p, .slice (some ⟨b, off, none⟩) (L - off : Nat) (cap - off : Nat), .slice ag g.length cg, .int .i64 t] w
      (fun e w2 => e = .returned (.tuple #[]) ∧ Hid (Row 3 .i64 w2 base (.slice (some ⟨b, 0, none⟩) L cap) (fl L (addm p F off t g g.length))) ∧ Hid (w.grownBy w2 (some b))) := by
  have HG := Lib.hid fun i => hg.at (by omega) i
  have HF := Lib.hid fun n => addm_bnd (n := n) (a := t) (off := off) (g := g) (by omega : 0 < p) hF
  have HH := Lib.hid fun n => addm_here p F off t g n
  have HS := Lib.hid fun n => addm_step p F off t g n
  have HR : Hid (Row 3 .i64 w base (.slice (some ⟨b, 0, none⟩) L cap) (fl L (addm p F off t g 0))) := Lib.hid (by rw [addm_zero]; exact hR)
  have HX := Lib.hid hx
  have HRD := Lib.hid hr
  have HB := Lib.hid hb
  obtain ⟨K, hK⟩ : ∃ K, g.length = K := ⟨_, rfl⟩
  have HK := Lib.hid hK
  rw [hK] at hL ⊢
  clear hg hF hx hr hR hb hK
  obtain ⟨S, hSd⟩ : ∃ S, addm p F off t g = S := ⟨_, rfl⟩
  rw [hSd] at HF HS HR ⊢
  simp only [hSd] at HH
  clear hSd
  go_enter Try.func119, Try.ntmps119
  go_wp2
  go_loopg [12] K (fun k vSLOT x => ∃ i : Nat, i ≤ K ∧ vSLOT = .int .i64 i ∧ Hid (Row 3 .i64 x base (.slice (some ⟨b, 0, none⟩) L cap) (fl L (S i))) ∧ Hid (k = K - i) ∧ Hid (w.grownBy x (some b)))
  case atStart => exact ⟨0, by omega, rfl, HR, Lib.hid rfl, Lib.hid ⟨rfl, rfl, rfl, Nat.le_refl _, fun _ _ _ => rfl⟩⟩
  case round =>
    obtain ⟨i, hi, rfl, hRi, hk, hgr⟩ := hrel
    by_cases hlt : i < K
    · have hx : Ex w0 wr := ex_grown HX.out hgr.out (by intro j hj; cases hj; exact HB.out)
      rcases (HRD.out.ex hx) with hn | ⟨bg, og, rfl, hc⟩
      · have := HK.out; rw [hn] at this; simp at this; omega
      have hci := hc i (by have := HK.out; omega)
      obtain ⟨_, _, hcf, hfr⟩ := hRi.out.flat
      have hcs := hcf (off + i) (by omega)
      have hfs := hfr (off + i)
      have HE := HS.out i
      rw [← HH.out i] at HE
      obtain ⟨x0, x1⟩ := HF.out i (off + i) (by omega)
      obtain ⟨y0, y1⟩ := HG.out i
      have HS0 := hRi.out.flset (off + i) ((S i (off + i) + t * nth g i) % p)
      rw [HE] at HS0
      have HS1 := Lib.hid HS0.1
      have HS2 := Lib.hid (hgr.out.trans HS0.2)
      obtain ⟨X, hX⟩ : ∃ X, S i (off + i) = X := ⟨_, rfl⟩
      obtain ⟨Y, hY⟩ : ∃ Y, nth g i = Y := ⟨_, rfl⟩
      rw [hX] at hcs x0 x1 HS1 HS2
      rw [hY] at hci y0 y1 HS1 HS2
      have m := mul_bound (A := 997) (B := 997) t0 t1 y0 (by omega)
      obtain ⟨m0, m1⟩ := m
      clear hc hcf hfr HE HS0 hX hY hx
      go_wp2
      go_roundg (K - (i + 1))
      case measure => have := hk.out; omega
      case rel => exact ⟨i + 1, by omega, by go_num, HS1, Lib.hid rfl, HS2⟩
    · have e : i = K := by omega
      subst e
      go_wp2
      go_end0
      exact ⟨rfl, hRi, hgr⟩

end Go.Proofs.Ythlnbomapfjphaa

namespace Go.Proofs.Ythlnbomapfjphaa
open Go.RowKit
open Pr Po

/-- A row of its own comes back, and no error. -/
def Rowed (xs : List Int) (w : World) (e : Ending) (w2 : World) : Prop := ∃ v, e = .returned (.tuple #[v, .int .i64 0]) ∧ Hid (Row 3 .i64 w2 w.heap.size v xs) ∧ Ex w w2

set_option maxRecDepth 100000 in
set_option maxHeartbeats 2000000 in
theorem add_no (p : Int) (f g : List Int) (a b : Option Addr) (ca cb : Nat) (w : World) (hl : f.length ≤ maxLen) (hr : Reads w .i64 a f) (hl2 : g.length ≤ maxLen) (hr2 : Reads w .i64 b g) (h : bothE p f g ≠ 0) :
    Calls Try.prog 82 #[.int .i64 p, .slice a f.length ca, .slice b g.length cb] w (Says (.tuple #[.slice none 0 0, .int .i64 (bothE p f g)]) w) := by
  have HC := Lib.hid (both_any p f g a b ca cb w hl hr hl2 hr2)
  obtain ⟨c, hc⟩ : ∃ c, bothE p f g = c := ⟨_, rfl⟩
  rw [hc] at HC h ⊢
  have hb : (c != 0) = true := by simpa using h
  clear hl hr hl2 hr2 h hc
  go_enter Try.func82, Try.ntmps82
  go_wp2_with (go_at_call 117; (with_reducible refine (HC.out).mono ?_); rintro e w2 ⟨rfl, hw2⟩)
  go_ret2
  exact ⟨rfl, hw2⟩

set_option maxRecDepth 100000 in
set_option maxHeartbeats 4000000 in
theorem add_ok (p : Int) (f g : List Int) (a b : Option Addr) (ca cb : Nat) (w : World) (hr : Reads w .i64 a f) (hr2 : Reads w .i64 b g) (h : bothE p f g = 0) :
    Calls Try.prog 82 #[.int .i64 p, .slice a f.length ca, .slice b g.length cb] w (Rowed (red p (add f g)) w) := by
  obtain ⟨hp, hp9, hl, hcf, hl2, hcg⟩ := bothE_zero.mp h
  have HC := Lib.hid (both_any p f g a b ca cb w (by unfold maxLen; omega) hr (by unfold maxLen; omega) hr2)
  rw [h] at HC
  have p2 := hp.1
  have HRF := Lib.hid fun w2 (hx : Ex w w2) => hr.ex hx
  have HRG := Lib.hid fun w2 (hx : Ex w w2) => hr2.ex hx
  have HG := Lib.hid fun i => hcg.bnd.at (by omega) i
  have HNF : Hid (∀ t, (if t < f.length then nth f t else 0) = nth f t) := Lib.hid fun t => by
    split
    · rfl
    · exact (c_over (by omega)).symm
  obtain ⟨L, hLd⟩ : ∃ L, max f.length g.length = L := ⟨_, rfl⟩
  have HLF : Hid (f.length ≤ L) := Lib.hid (by omega)
  have HLG : Hid (g.length ≤ L) := Lib.hid (by omega)
  have HLM : Hid (L ≤ 1000) := Lib.hid (by omega)
  have HF := Lib.hid fun n => addm_bnd (n := n) (a := 1) (off := 0) (g := g) (L := L) (by omega : 0 < p) fun t (_ : t < L) => hcf.bnd.at (by omega) t
  have HH : Hid (∀ n, addm p (nth f) 0 1 g n n = nth f n) := Lib.hid fun n => by
    have := addm_here p (nth f) 0 1 g n
    rwa [Nat.zero_add] at this
  have HS : Hid (∀ n, upd (addm p (nth f) 0 1 g n) n ((nth f n + nth g n) % p) = addm p (nth f) 0 1 g (n + 1)) := Lib.hid fun n => by
    have := addm_step p (nth f) 0 1 g n
    rwa [Nat.zero_add, Int.one_mul] at this
  have HEND : Hid (short (fl L (addm p (nth f) 0 1 g g.length)) = red p (add f g)) := Lib.hid (by
    refine short_red (by omega) (bnd_fl (addm_bnd (by omega) fun t _ => hcf.bnd.at (by omega) t)) ((addm_cg (by omega)).trans ?_)
    refine (Cg.plus (Cg.of_eq (c_fl_nth (by omega))) 1 g 0).trans (Cg.of_eq (plus_one f g)))
  obtain ⟨J, hJ⟩ : ∃ J, f.length = J := ⟨_, rfl⟩
  obtain ⟨K, hK⟩ : ∃ K, g.length = K := ⟨_, rfl⟩
  have HK := Lib.hid hK
  have HJ := Lib.hid hJ
  have hpI : p ≤ 997 := hp9
  clear h hp hcf hcg hr hr2
  have hLb : L ≤ 40 := by omega
  by_cases hm : f.length < g.length
  · have hL : L = K := by omega
    subst hL
    rw [hK] at HLG
    rw [hK] at HEND
    have hd : decide ((J : Int) < (L : Int)) = true := decide_eq_true (by omega)
    rw [hJ] at HC ⊢
    rw [hK] at HC ⊢
    have hJL : J < L := by omega
    clear hLd hm hK hl hl2
    have HLF2 := HLF
    go_enter Try.func82, Try.ntmps82
    go_wp2_with (first
      | (go_at_call 117; (with_reducible refine (HC.out).mono ?_); rintro e w1 ⟨rfl, hw1⟩)
      | (at_make; refine wpList_make_ints rfl _ _ 61 rfl w1.heap.size 3 .i64 8 Try.underlying61 info_int _ _ L rfl rfl (by omega) (by unfold maxLen; omega) (Nat.le_refl _) ?_; intro w2 hown2 hgrow2
         have HX2 : Hid (Ex w1 w2) := Lib.hid (ex_grown (Ex.refl w1) hgrow2 (by intro k hk; cases hk))
         have HR2 : Hid (Row 3 .i64 w2 w1.heap.size (.slice (some ⟨w1.heap.size, 0, none⟩) L L) (fl L fun _ => 0)) := Lib.hid (by rw [fl_zero] at hown2; exact hown2)
         clear hown2 hgrow2)
      | (refine wpList_copy_ints rfl _ _ 61 61 rfl w1.heap.size 3 .i64 Try.underlying61 (by kernel_rfl) w1.heap.size L L (fun _ => 0) rfl HR2.out f _ HJ.out _ _ rfl (HRF.out _ (hw1.trans HX2.out)) (by have := HLF.out; have := HJ.out; omega) ?_; intro w3 hown3 hgrow3
         have HX3 : Hid (Ex w1 w3) := Lib.hid (ex_grown HX2.out hgrow3 (by intro k hk; cases hk; exact Nat.le_refl _))
         have HR3 := Lib.hid (hown3.flcong (H := nth f) fun t _ => by rw [← HJ.out]; exact HNF.out t)
         clear hown3 hgrow3))
    have HX1 := Lib.hid hw1
    have HS1 : Hid (w.heap.size ≤ w1.heap.size) := Lib.hid hw1.size
    obtain ⟨b0, hb0⟩ : ∃ b0, w1.heap.size = b0 := ⟨_, rfl⟩
    have HB := Lib.hid hb0
    rw [hb0] at HR3 HS1 ⊢
    clear hb0 HR2 HX2
    have HR4 : Hid (Row 3 .i64 w3 b0 (.slice (some ⟨b0, 0, none⟩) L L) (fl L (addm p (nth f) 0 1 g 0))) := Lib.hid (by rw [addm_zero]; exact HR3.out)
    clear HR3
    obtain ⟨S, hSd⟩ : ∃ S, addm p (nth f) 0 1 g = S := ⟨_, rfl⟩
    rw [hSd] at HF HS HR4 HEND
    simp only [hSd] at HH
    clear hSd
    go_loopg [30] L (fun k vSLOT x => ∃ i : Nat, i ≤ L ∧ vSLOT = .int .i64 i ∧ Hid (Row 3 .i64 x b0 (.slice (some ⟨b0, 0, none⟩) L L) (fl L (S i))) ∧ Hid (k = L - i) ∧ Ex w1 x)
    case atStart => exact ⟨0, by omega, rfl, HR4, Lib.hid rfl, HX3.out⟩
    case round =>
      obtain ⟨i, hi, rfl, hRi, hk, hx⟩ := hrel
      by_cases hlt : i < L
      · rcases (HRG.out _ (HX1.out.trans hx)) with hn | ⟨bg, og, rfl, hc⟩
        · have := HK.out; rw [hn] at this; simp at this; omega
        have hci := hc i (by have := HK.out; omega)
        obtain ⟨_, _, hcf, hfr⟩ := hRi.out.flat
        have hcs := hcf i (by have := HLG.out; omega)
        have hfs := hfr i
        have HE := HS.out i
        rw [← HH.out i] at HE
        obtain ⟨x0, x1⟩ := HF.out i i (by have := HLG.out; omega)
        obtain ⟨y0, y1⟩ := HG.out i
        have HS0 := hRi.out.flset i ((S i i + nth g i) % p)
        rw [HE] at HS0
        have HS1 := Lib.hid HS0.1
        have HS2 := Lib.hid (ex_grown hx HS0.2 (by intro k hk; cases hk; rw [HB.out]; exact Nat.le_refl _))
        obtain ⟨X, hX⟩ : ∃ X, S i i = X := ⟨_, rfl⟩
        obtain ⟨Y, hY⟩ : ∃ Y, nth g i = Y := ⟨_, rfl⟩
        rw [hX] at hcs x0 x1 HS1 HS2
        rw [hY] at hci y0 y1 HS1 HS2
        have hil : i < L := by have := HLG.out; omega
        clear hc hcf hfr HE HS0 hX hY
        go_wp2
        go_roundg (L - (i + 1))
        case measure => have := hk.out; omega
        case rel => exact ⟨i + 1, by omega, by go_num, HS1, Lib.hid rfl, HS2.out⟩
      · have e : i = L := by omega
        subst e
        have HT := Lib.hid (trim_row _ _ _ wr hRi.out (by rw [fl_length]; exact HLM.out))
        go_wp2_with (go_at_call 118; (with_reducible refine (HT.out).mono ?_); rintro e w5 ⟨u, rfl, hu, _, hw5⟩)
        go_ret2
        exact ⟨_, rfl, Lib.hid (by rw [← HEND.out]; exact hu.out.less HS1.out), HX1.out.trans (hx.trans hw5)⟩
  · have hL : L = J := by omega
    subst hL
    rw [hK] at HLG
    rw [hK] at HEND
    have hJL : K ≤ L := by omega
    have hd : decide ((L : Int) < (K : Int)) = false := decide_eq_false (by omega)
    rw [hJ] at HC ⊢
    rw [hK] at HC ⊢
    clear hLd hm hK hl hl2
    go_enter Try.func82, Try.ntmps82
    go_wp2_with (first
      | (go_at_call 117; (with_reducible refine (HC.out).mono ?_); rintro e w1 ⟨rfl, hw1⟩)
      | (at_make; refine wpList_make_ints rfl _ _ 61 rfl w1.heap.size 3 .i64 8 Try.underlying61 info_int _ _ L rfl rfl (by omega) (by unfold maxLen; omega) (Nat.le_refl _) ?_; intro w2 hown2 hgrow2
         have HX2 : Hid (Ex w1 w2) := Lib.hid (ex_grown (Ex.refl w1) hgrow2 (by intro k hk; cases hk))
         have HR2 : Hid (Row 3 .i64 w2 w1.heap.size (.slice (some ⟨w1.heap.size, 0, none⟩) L L) (fl L fun _ => 0)) := Lib.hid (by rw [fl_zero] at hown2; exact hown2)
         clear hown2 hgrow2)
      | (refine wpList_copy_ints rfl _ _ 61 61 rfl w1.heap.size 3 .i64 Try.underlying61 (by kernel_rfl) w1.heap.size L L (fun _ => 0) rfl HR2.out f _ HJ.out _ _ rfl (HRF.out _ (hw1.trans HX2.out)) (by have := HLF.out; have := HJ.out; omega) ?_; intro w3 hown3 hgrow3
         have HX3 : Hid (Ex w1 w3) := Lib.hid (ex_grown HX2.out hgrow3 (by intro k hk; cases hk; exact Nat.le_refl _))
         have HR3 := Lib.hid (hown3.flcong (H := nth f) fun t _ => by rw [← HJ.out]; exact HNF.out t)
         clear hown3 hgrow3))
    have HX1 := Lib.hid hw1
    have HS1 : Hid (w.heap.size ≤ w1.heap.size) := Lib.hid hw1.size
    obtain ⟨b0, hb0⟩ : ∃ b0, w1.heap.size = b0 := ⟨_, rfl⟩
    have HB := Lib.hid hb0
    rw [hb0] at HR3 HS1 ⊢
    clear hb0 HR2 HX2
    have HR4 : Hid (Row 3 .i64 w3 b0 (.slice (some ⟨b0, 0, none⟩) L L) (fl L (addm p (nth f) 0 1 g 0))) := Lib.hid (by rw [addm_zero]; exact HR3.out)
    clear HR3
    obtain ⟨S, hSd⟩ : ∃ S, addm p (nth f) 0 1 g = S := ⟨_, rfl⟩
    rw [hSd] at HF HS HR4 HEND
    simp only [hSd] at HH
    clear hSd
    go_loopg [30] K (fun k vSLOT x => ∃ i : Nat, i ≤ K ∧ vSLOT = .int .i64 i ∧ Hid (Row 3 .i64 x b0 (.slice (some ⟨b0, 0, none⟩) L L) (fl L (S i))) ∧ Hid (k = K - i) ∧ Ex w1 x)
    case atStart => exact ⟨0, by omega, rfl, HR4, Lib.hid rfl, HX3.out⟩
    case round =>
      obtain ⟨i, hi, rfl, hRi, hk, hx⟩ := hrel
      by_cases hlt : i < K
      · rcases (HRG.out _ (HX1.out.trans hx)) with hn | ⟨bg, og, rfl, hc⟩
        · have := HK.out; rw [hn] at this; simp at this; omega
        have hci := hc i (by have := HK.out; omega)
        obtain ⟨_, _, hcf, hfr⟩ := hRi.out.flat
        have hcs := hcf i (by have := HLG.out; omega)
        have hfs := hfr i
        have HE := HS.out i
        rw [← HH.out i] at HE
        obtain ⟨x0, x1⟩ := HF.out i i (by have := HLG.out; omega)
        obtain ⟨y0, y1⟩ := HG.out i
        have HS0 := hRi.out.flset i ((S i i + nth g i) % p)
        rw [HE] at HS0
        have HS1 := Lib.hid HS0.1
        have HS2 := Lib.hid (ex_grown hx HS0.2 (by intro k hk; cases hk; rw [HB.out]; exact Nat.le_refl _))
        obtain ⟨X, hX⟩ : ∃ X, S i i = X := ⟨_, rfl⟩
        obtain ⟨Y, hY⟩ : ∃ Y, nth g i = Y := ⟨_, rfl⟩
        rw [hX] at hcs x0 x1 HS1 HS2
        rw [hY] at hci y0 y1 HS1 HS2
        have hil : i < L := by have := HLG.out; omega
        clear hc hcf hfr HE HS0 hX hY
        go_wp2
        go_roundg (K - (i + 1))
        case measure => have := hk.out; omega
        case rel => exact ⟨i + 1, by omega, by go_num, HS1, Lib.hid rfl, HS2.out⟩
      · have e : i = K := by omega
        subst e
        have HT := Lib.hid (trim_row _ _ _ wr hRi.out (by rw [fl_length]; exact HLM.out))
        go_wp2_with (go_at_call 118; (with_reducible refine (HT.out).mono ?_); rintro e w5 ⟨u, rfl, hu, _, hw5⟩)
        go_ret2
        exact ⟨_, rfl, Lib.hid (by rw [← HEND.out]; exact hu.out.less HS1.out), HX1.out.trans (hx.trans hw5)⟩

end Go.Proofs.Ythlnbomapfjphaa

namespace Go.Proofs.Ythlnbomapfjphaa
open Go.RowKit
open Pr Po

set_option maxRecDepth 100000 in
set_option maxHeartbeats 2000000 in
theorem mul_no (p : Int) (f g : List Int) (a b : Option Addr) (ca cb : Nat) (w : World) (hl : f.length ≤ maxLen) (hr : Reads w .i64 a f) (hl2 : g.length ≤ maxLen) (hr2 : Reads w .i64 b g) (h : bothE p f g ≠ 0) :
    Calls Try.prog 83 #[.int .i64 p, .slice a f.length ca, .slice b g.length cb] w (Says (.tuple #[.slice none 0 0, .int .i64 (bothE p f g)]) w) := by
  have HC := Lib.hid (both_any p f g a b ca cb w hl hr hl2 hr2)
  obtain ⟨c, hc⟩ : ∃ c, bothE p f g = c := ⟨_, rfl⟩
  rw [hc] at HC h ⊢
  have hb : (c != 0) = true := by simpa using h
  clear hl hr hl2 hr2 h hc
  go_enter Try.func83, Try.ntmps83
  go_wp2_with (go_at_call 117; (with_reducible refine (HC.out).mono ?_); rintro e w2 ⟨rfl, hw2⟩)
  go_ret2
  exact ⟨rfl, hw2⟩

set_option maxRecDepth 100000 in
set_option maxHeartbeats 2000000 in
theorem mul_none (p : Int) (f g : List Int) (a b : Option Addr) (ca cb : Nat) (w : World) (hr : Reads w .i64 a f) (hr2 : Reads w .i64 b g) (h : bothE p f g = 0) (h0 : f = [] ∨ g = []) :
    Calls Try.prog 83 #[.int .i64 p, .slice a f.length ca, .slice b g.length cb] w (Says (.tuple #[.slice none 0 0, .int .i64 0]) w) := by
  obtain ⟨_, _, hl, _, hl2, _⟩ := bothE_zero.mp h
  have HC := Lib.hid (both_any p f g a b ca cb w (by unfold maxLen; omega) hr (by unfold maxLen; omega) hr2)
  rw [h] at HC
  clear hr hr2 h
  by_cases hf : f = []
  · subst hf
    obtain ⟨K, hK⟩ : ∃ K, g.length = K := ⟨_, rfl⟩
    rw [show ([] : List Int).length = 0 from rfl, hK] at HC ⊢
    clear h0 hl hl2 hK
    go_enter Try.func83, Try.ntmps83
    go_wp2_with (go_at_call 117; (with_reducible refine (HC.out).mono ?_); rintro e w2 ⟨rfl, hw2⟩)
    go_ret2
    exact ⟨rfl, hw2⟩
  · obtain rfl : g = [] := h0.resolve_left hf
    have hj := List.length_pos_iff.mpr hf
    obtain ⟨K, hK⟩ : ∃ K, f.length = K := ⟨_, rfl⟩
    rw [show ([] : List Int).length = 0 from rfl, hK] at HC ⊢
    rw [hK] at hj hl
    have hb : ((K : Int) == 0) = false := by simp; omega
    clear h0 hl2 hK hf
    go_enter Try.func83, Try.ntmps83
    go_wp2_with (go_at_call 117; (with_reducible refine (HC.out).mono ?_); rintro e w2 ⟨rfl, hw2⟩)
    go_ret2
    exact ⟨rfl, hw2⟩

set_option maxRecDepth 100000 in
set_option maxHeartbeats 2000000 in
theorem mul_large (p : Int) (f g : List Int) (a b : Option Addr) (ca cb : Nat) (w : World) (hr : Reads w .i64 a f) (hr2 : Reads w .i64 b g) (h : bothE p f g = 0) (hf : f ≠ []) (hg : g ≠ []) (hm : 41 < f.length + g.length) :
    Calls Try.prog 83 #[.int .i64 p, .slice a f.length ca, .slice b g.length cb] w (Says (.tuple #[.slice none 0 0, .int .i64 2]) w) := by
  obtain ⟨_, _, hl, _, hl2, _⟩ := bothE_zero.mp h
  have HC := Lib.hid (both_any p f g a b ca cb w (by unfold maxLen; omega) hr (by unfold maxLen; omega) hr2)
  rw [h] at HC
  have hj := List.length_pos_iff.mpr hf
  have hk := List.length_pos_iff.mpr hg
  obtain ⟨J, hJ⟩ : ∃ J, f.length = J := ⟨_, rfl⟩
  obtain ⟨K, hK⟩ : ∃ K, g.length = K := ⟨_, rfl⟩
  rw [hJ] at HC hj hl hm ⊢
  rw [hK] at HC hk hl2 hm ⊢
  have hb1 : ((J : Int) == 0) = false := by simp; omega
  have hb2 : ((K : Int) == 0) = false := by simp; omega
  clear hr hr2 h hf hg hJ hK
  go_enter Try.func83, Try.ntmps83
  go_wp2_with (go_at_call 117; (with_reducible refine (HC.out).mono ?_); rintro e w2 ⟨rfl, hw2⟩)
  go_ret2
  exact ⟨rfl, hw2⟩

set_option maxRecDepth 100000 in
set_option maxHeartbeats 4000000 in
theorem mul_full (p : Int) (f g : List Int) (a b : Option Addr) (ca cb : Nat) (w : World) (hr : Reads w .i64 a f) (hr2 : Reads w .i64 b g) (h : bothE p f g = 0) (hf : f ≠ []) (hg : g ≠ []) (hm : f.length + g.length ≤ 41) :
    Calls Try.prog 83 #[.int .i64 p, .slice a f.length ca, .slice b g.length cb] w (Rowed (red p (mul f g)) w) := by
  obtain ⟨hp, hp9, hl, hcf, hl2, hcg⟩ := bothE_zero.mp h
  have p2 := hp.1
  have HC := Lib.hid (both_any p f g a b ca cb w (by unfold maxLen; omega) hr (by unfold maxLen; omega) hr2)
  rw [h] at HC
  have hj := List.length_pos_iff.mpr hf
  have hk := List.length_pos_iff.mpr hg
  have HRF := Lib.hid fun w2 (hx : Ex w w2) => hr.ex hx
  have HRG := Lib.hid fun w2 (hx : Ex w w2) => hr2.ex hx
  have HFB := Lib.hid fun i => hcf.bnd.at (by omega) i
  have HGB := Lib.hid hcg.bnd
  obtain ⟨M, hM⟩ : ∃ M, f.length + g.length = M + 1 := ⟨f.length + g.length - 1, by omega⟩
  have HEND : Hid (∀ F, (∀ t, t < M → 0 ≤ F t ∧ F t < p) → Cg p (fl M F) (mul (f.take f.length) g) → fl M F = red p (mul f g)) := Lib.hid fun F hF hC => by
    rw [List.take_length] at hC
    refine row_red (by omega) (bnd_fl hF) hC ?_
    rw [red_mul_length hp hcf hcg hf hg, fl_length]
    omega
  have HNEXT : Hid (∀ i F, i < f.length → Cg p (fl M F) (mul (f.take i) g) → Cg p (fl M (addm p F i (nth f i) g g.length)) (mul (f.take (i + 1)) g)) := Lib.hid fun i F hi hC =>
    (addm_cg (by omega)).trans ((Cg.plus hC (nth f i) g i).trans (Cg.of_eq (mul_next hi)))
  have HSTART : Hid (Cg p (fl M fun _ => 0) (mul (f.take 0) g)) := Lib.hid (Cg.of_eq fun i => by
    rw [List.take_zero, c_mul_nil]
    by_cases hi : i < M
    · exact c_fl hi
    · exact c_fl_over (by omega))
  obtain ⟨J, hJ⟩ : ∃ J, f.length = J := ⟨_, rfl⟩
  obtain ⟨K, hK⟩ : ∃ K, g.length = K := ⟨_, rfl⟩
  have HK := Lib.hid hK
  have HJ := Lib.hid hJ
  rw [hJ] at HC hj hl hm hM HEND HNEXT ⊢
  rw [hK] at HC hk hl2 hm hM HNEXT ⊢
  have hb1 : ((J : Int) == 0) = false := by simp; omega
  have hb2 : ((K : Int) == 0) = false := by simp; omega
  have hs : (J : Int) + (K : Int) - 1 = (M : Int) := by omega
  have hM40 : M ≤ 40 := by omega
  clear hr hr2 h hf hg hJ hK hp hcf hcg
  go_enter Try.func83, Try.ntmps83
  go_wp2_with (first
    | (go_at_call 117; (with_reducible refine (HC.out).mono ?_); rintro e w1 ⟨rfl, hw1⟩)
    | (at_make; refine wpList_make_ints rfl _ _ 61 rfl w1.heap.size 3 .i64 8 Try.underlying61 info_int _ _ M rfl rfl (by omega) (by unfold maxLen; omega) (Nat.le_refl _) ?_; intro w2 hown2 hgrow2
       have HX2 : Hid (Ex w1 w2) := Lib.hid (ex_grown (Ex.refl w1) hgrow2 (by intro k hk; cases hk))
       have HR2 : Hid (Row 3 .i64 w2 w1.heap.size (.slice (some ⟨w1.heap.size, 0, none⟩) M M) (fl M fun _ => 0)) := Lib.hid (by rw [fl_zero] at hown2; exact hown2)
       clear hown2 hgrow2))
  have HX1 := Lib.hid hw1
  have HS1 : Hid (w.heap.size ≤ w1.heap.size) := Lib.hid hw1.size
  obtain ⟨b0, hb0⟩ : ∃ b0, w1.heap.size = b0 := ⟨_, rfl⟩
  have HB := Lib.hid hb0
  rw [hb0] at HR2 HS1 ⊢
  clear hb0
  go_loopg [40] J (fun k vSLOT x => ∃ (i : Nat) (F : Nat → Int), i ≤ J ∧ vSLOT = .int .i64 i ∧ Hid (∀ t, t < M → 0 ≤ F t ∧ F t < p) ∧ Hid (Cg p (fl M F) (mul (f.take i) g)) ∧ Hid (Row 3 .i64 x b0 (.slice (some ⟨b0, 0, none⟩) M M) (fl M F)) ∧ Hid (k = J - i) ∧ Ex w1 x)
  case atStart => exact ⟨0, _, by omega, rfl, Lib.hid (fun _ _ => by omega), HSTART, HR2, Lib.hid rfl, HX2.out⟩
  case round =>
    obtain ⟨i, F, hi, rfl, hF, hC, hRi, hk, hx⟩ := hrel
    by_cases hlt : i < J
    · rcases (HRF.out _ (HX1.out.trans hx)) with hn | ⟨bg, og, rfl, hc⟩
      · have := HJ.out; rw [hn] at this; simp at this; omega
      have hci := hc i (by have := HJ.out; omega)
      obtain ⟨y0, y1⟩ := HFB.out i
      have HN := Lib.hid (HNEXT.out i F hlt hC.out)
      have HFN := Lib.hid (addm_bnd (n := K) (a := nth f i) (off := i) (g := g) (by omega : 0 < p) hF.out)
      have HA := Lib.hid fun cg ag (hrg : Reads w1 .i64 ag g) => addMul_row p (nth f i) F M M b0 i g ag cg b0 w1 wr (by omega) hp9 y0 (by omega) hF.out HGB.out (by have := HK.out; omega) (by omega) hx hrg (by rw [HB.out]; exact Nat.le_refl _) hRi.out
      rw [HK.out] at HA
      obtain ⟨Y, hY⟩ : ∃ Y, nth f i = Y := ⟨_, rfl⟩
      rw [hY] at hci y0 y1 HN HFN HA
      clear hc hY
      have hiM : i ≤ M := by omega
      go_wp2_with (go_at_call 119; (with_reducible refine (HA.out _ _ (HRG.out _ HX1.out)).mono ?_); rintro e w3 ⟨rfl, hrow3, hg3⟩)
      go_roundg (J - (i + 1))
      case measure => have := hk.out; omega
      case rel => exact ⟨i + 1, _, by omega, by go_num, HFN, HN, hrow3, Lib.hid rfl, ex_grown hx hg3.out (by intro k hk; cases hk; rw [HB.out]; exact Nat.le_refl _)⟩
    · have e : i = J := by omega
      subst e
      have HE := Lib.hid (HEND.out F hF.out (by have := hC.out; exact this))
      go_wp2
      go_ret2
      exact ⟨_, rfl, Lib.hid (by rw [← HE.out]; exact hRi.out.less HS1.out), HX1.out.trans hx⟩

theorem mul_ok (p : Int) (f g : List Int) (a b : Option Addr) (ca cb : Nat) (w : World) (hr : Reads w .i64 a f) (hr2 : Reads w .i64 b g) (h : bothE p f g = 0) (hm : f = [] ∨ g = [] ∨ f.length + g.length ≤ 41) :
    Calls Try.prog 83 #[.int .i64 p, .slice a f.length ca, .slice b g.length cb] w (Rowed (red p (mul f g)) w) := by
  have p2 := (bothE_zero.mp h).1.1
  by_cases h0 : f = [] ∨ g = []
  · refine (mul_none p f g a b ca cb w hr hr2 h h0).mono ?_
    rintro e w2 ⟨rfl, hx⟩
    have hz : red p (mul f g) = [] := (can_red (by omega) _).ext (by omega) (Po.Can.nil p) ((cg_red p _).trans (Cg.of_eq fun i => by
      rw [c_nil]
      rcases h0 with rfl | rfl
      · rfl
      · exact c_mul_nil_right f i))
    exact ⟨_, rfl, Lib.hid (by rw [hz]; exact Row.nil _ _ _ _), hx⟩
  · have h1 : f ≠ [] := fun e => h0 (.inl e)
    have h2 : g ≠ [] := fun e => h0 (.inr e)
    exact mul_full p f g a b ca cb w hr hr2 h h1 h2 (by rcases hm with hm | hm | hm; exact absurd hm h1; exact absurd hm h2; exact hm)

end Go.Proofs.Ythlnbomapfjphaa

namespace Go.Proofs.Ythlnbomapfjphaa
open Go.RowKit
open Pr Po

theorem inv_dvd {p x a : Int} (hp : 2 ≤ p) (h : x * a % p = 1 % p) : p ∣ x * a - 1 := by
  have h1 := Int.mul_ediv_add_emod (x * a) p
  have h2 : (1 : Int) % p = 1 := Int.emod_eq_of_lt (by omega) (by omega)
  exact ⟨x * a / p, by omega⟩

theorem inv_last (p : Int) (g : List Int) (w : World) (hp : Prm p) (hp9 : p ≤ 997) (hg : Po.Can p g) (h0 : g ≠ []) :
    Calls Try.prog 34 #[.int .i64 (nth g (g.length - 1)), .int .i64 p] w (fun e w2 => ∃ v : Int, 1 ≤ v ∧ v < p ∧ Hid (p ∣ v * nth g (g.length - 1) - 1) ∧ Says (.tuple #[.int .i64 v, .int .i64 0]) w e w2) := by
  have p2 := hp.1
  refine (inverse_ok _ p w (by omega) (by omega) (Bi.prm_G hp (can_last hp hg h0))).mono ?_
  rintro e w2 ⟨x, x0, x1, hx, hs⟩
  have hd := inv_dvd p2 hx.out
  refine ⟨x, ?_, x1, Lib.hid hd, hs⟩
  refine Decidable.byContradiction fun hc => ?_
  have : x = 0 := by omega
  subst this
  obtain ⟨k, hk⟩ := hd
  have h1 : p ∣ 1 := ⟨-k, by rw [Int.mul_neg]; omega⟩
  have := Int.le_of_dvd (by omega) h1
  omega

/-- Two rows of one's own, apart. -/
def Rows2 (q r : List Int) (w : World) (e : Ending) (w2 : World) : Prop :=
  ∃ v u, e = .returned (.tuple #[v, u, .int .i64 0]) ∧ Hid (Row 3 .i64 w2 w.heap.size v q) ∧ Hid (Row 3 .i64 w2 w.heap.size u r) ∧ Hid (v.ownBlock = none ∨ u.ownBlock = none ∨ u.ownBlock ≠ v.ownBlock) ∧ Ex w w2


end Go.Proofs.Ythlnbomapfjphaa

namespace Go.Proofs.Ythlnbomapfjphaa
open Go.RowKit
open Pr Po






end Go.Proofs.Ythlnbomapfjphaa

namespace Go.Proofs.Ythlnbomapfjphaa
open Go.RowKit
open Pr Po

theorem rowed_nil {w w2 : World} (h : Ex w w2) : Rowed [] w (.returned (.tuple #[.slice none 0 0, .int .i64 0])) w2 := ⟨_, rfl, Lib.hid (Row.nil _ _ _ _), h⟩




end Go.Proofs.Ythlnbomapfjphaa
