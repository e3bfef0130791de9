/-
  Several texts in one:
  - Polynomials: what the rows of a walk come to, told by a function of the place. No Go in sight.
  - Package poly: Field, Check, checkBoth; and the document's errors.
  - Package poly: trim, addMultiple.
  - Package poly: Add, Mul.
  - Package poly: Mul.
  - Package poly: divide, Div.
  - Package poly: divide where there are steps to take; Div.
  - Package poly: monic, Gcd.
-/
import Derived.Test.YtlpnopliblaknaaDoorGma
import Derived.Test.YtlpnopliblaknaaDoorGro
import Derived.Test.YtlpnopliblaknaaDoorGnu
import Derived.StillTailTactics
namespace Go.Proofs.YtlpnopliblaknaaDoor.Po
open Pr Rs

theorem c_nth (f : List Int) (i : Nat) : c f i = nth f i := rfl
theorem c_fl {L : Nat} {F : Nat → Int} {i : Nat} (h : i < L) : c (fl L F) i = F i := fl_nth h
theorem c_fl_over {L : Nat} {F : Nat → Int} {i : Nat} (h : L ≤ i) : c (fl L F) i = 0 := c_over (by rw [fl_length]; exact h)
theorem c_fl_nth {f : List Int} {L : Nat} (h : f.length ≤ L) (i : Nat) : c (fl L (nth f)) i = c f i := by
  by_cases hi : i < L
  · rw [c_fl hi]; rfl
  · rw [c_fl_over (by omega), c_over (by omega)]

/-- Numbers from 0 to p - 1. -/
def Bnd (p : Int) (f : List Int) : Prop := ∀ x ∈ f, 0 ≤ x ∧ x < p
theorem Can.bnd {p : Int} {f : List Int} (h : Can p f) : Bnd p f := h.1
theorem Bnd.nil (p : Int) : Bnd p [] := fun x h => by cases h
theorem Bnd.at {p : Int} {f : List Int} (h : Bnd p f) (hp : 0 < p) (i : Nat) : 0 ≤ nth f i ∧ nth f i < p := by
  by_cases hi : i < f.length
  · exact h _ (nth_mem hi)
  · have : nth f i = 0 := c_over (by omega)
    omega
theorem Bnd.take {p : Int} {f : List Int} (h : Bnd p f) (k : Nat) : Bnd p (f.take k) := fun x hx => h x (List.mem_of_mem_take hx)
theorem bnd_fl {p : Int} {L : Nat} {F : Nat → Int} (h : ∀ t, t < L → 0 ≤ F t ∧ F t < p) : Bnd p (fl L F) := fun x hx => by
  unfold fl at hx
  simp only [List.mem_map, List.mem_range] at hx
  obtain ⟨t, ht, rfl⟩ := hx
  exact h t ht

theorem short_can {p : Int} {f : List Int} (h : Bnd p f) : Can p (short f) := ⟨fun x hx => h x (short_mem _ _ hx), short_last f⟩
theorem cg_short (p : Int) (f : List Int) : Cg p (short f) f := Cg.of_eq (c_short f)
theorem short_red {p : Int} {f R : List Int} (hp : 0 < p) (hB : Bnd p R) (h : Cg p R f) : short R = red p f :=
  (short_can hB).ext hp (can_red hp f) ((cg_short p R).trans (h.trans (cg_red p f).symm))
theorem row_red {p : Int} {f R : List Int} (hp : 0 < p) (hB : Bnd p R) (h : Cg p R f) (hl : R.length ≤ (red p f).length) : R = red p f := by
  have e := short_red hp hB h
  have t := short_take R
  rw [e, List.take_of_length_le hl] at t
  exact t.symm
theorem can_short {p : Int} {f : List Int} (h : Can p f) : short f = f := short_id h.2

-- The loop that strikes noughts from the end.
theorem strike {f : List Int} {n : Nat} (h : n < f.length) (h0 : nth f n = 0) : short (f.take (n + 1)) = short (f.take n) := by
  have e : f.take (n + 1) = f.take n ++ [f[n]] := (List.take_append_getElem h).symm
  rw [nth_eq h] at h0
  rw [e, short_snoc, if_pos h0]
theorem stay {f : List Int} {n : Nat} (h : n < f.length) (h0 : nth f n ≠ 0) : short (f.take (n + 1)) = f.take (n + 1) := by
  have e : f.take (n + 1) = f.take n ++ [f[n]] := (List.take_append_getElem h).symm
  rw [nth_eq h] at h0
  rw [e, short_snoc, if_neg h0]

-- So many times g goes over, so much higher, as far as n.
def addm (p : Int) (F : Nat → Int) (off : Nat) (a : Int) (g : List Int) (n : Nat) : Nat → Int := fun t => if off ≤ t ∧ t < off + n then (F t + a * nth g (t - off)) % p else F t
theorem addm_zero (p : Int) (F : Nat → Int) (off : Nat) (a : Int) (g : List Int) : addm p F off a g 0 = F := by
  funext t
  exact if_neg (by omega)
theorem addm_here (p : Int) (F : Nat → Int) (off : Nat) (a : Int) (g : List Int) (n : Nat) : addm p F off a g n (off + n) = F (off + n) := if_neg (by omega)
theorem addm_step (p : Int) (F : Nat → Int) (off : Nat) (a : Int) (g : List Int) (n : Nat) : upd (addm p F off a g n) (off + n) ((F (off + n) + a * nth g n) % p) = addm p F off a g (n + 1) := by
  funext t
  by_cases h : t = off + n
  · subst h
    rw [upd_at]
    unfold addm
    rw [if_pos (by omega), Nat.add_sub_cancel_left]
  · rw [upd_ne h]
    unfold addm
    by_cases h2 : off ≤ t ∧ t < off + n
    · rw [if_pos h2, if_pos (by omega)]
    · rw [if_neg h2, if_neg (by omega)]
theorem addm_bnd {p a : Int} {F : Nat → Int} {off L n : Nat} {g : List Int} (hp : 0 < p) (h : ∀ t, t < L → 0 ≤ F t ∧ F t < p) : ∀ t, t < L → 0 ≤ addm p F off a g n t ∧ addm p F off a g n t < p := fun t ht => by
  unfold addm
  split
  · exact ⟨Int.emod_nonneg _ (by omega), Int.emod_lt_of_pos _ hp⟩
  · exact h t ht
theorem addm_cg {p a : Int} {F : Nat → Int} {off L : Nat} {g : List Int} (h : off + g.length ≤ L) : Cg p (fl L (addm p F off a g g.length)) (plus (fl L F) a g off) := fun i => by
  rw [c_plus]
  by_cases hi : i < L
  · rw [c_fl hi, c_fl hi]
    unfold addm
    by_cases h1 : off ≤ i ∧ i < off + g.length
    · have hni : ¬ i < off := by omega
      rw [if_pos h1, if_neg hni]
      have h2 := Int.mul_ediv_add_emod (F i + a * nth g (i - off)) p
      exact ⟨-((F i + a * nth g (i - off)) / p), by rw [Int.mul_neg, c_nth]; omega⟩
    · rw [if_neg h1]
      by_cases h2 : i < off
      · rw [if_pos h2]; simp
      · rw [if_neg h2, c_over (f := g) (by omega)]; simp
  · have hni : ¬ i < off := by omega
    rw [c_fl_over (by omega), c_fl_over (by omega), if_neg hni, c_over (f := g) (by omega)]
    simp

theorem Cg.plus {p : Int} {f f' : List Int} (h : Cg p f f') (a : Int) (g : List Int) (n : Nat) : Cg p (plus f a g n) (plus f' a g n) := h.add (Cg.refl p _)
theorem Cg.times {p a b : Int} (f g : List Int) (n : Nat) (h : p ∣ a - b) : Cg p (Po.plus f a g n) (Po.plus f b g n) := fun i => by
  rw [c_plus, c_plus]
  have := Int.dvd_mul_of_dvd_left (c := if i < n then 0 else c g (i - n)) h
  rw [Int.sub_mul] at this
  rwa [show c f i + a * (if i < n then 0 else c g (i - n)) - (c f i + b * (if i < n then 0 else c g (i - n))) = a * (if i < n then 0 else c g (i - n)) - b * (if i < n then 0 else c g (i - n)) by omega]
theorem plus_one (f g : List Int) (i : Nat) : c (plus f 1 g 0) i = c (add f g) i := by rw [c_plus, c_add]; simp
theorem mul_next {f g : List Int} {k : Nat} (h : k < f.length) (i : Nat) : c (plus (mul (f.take k) g) (c f k) g k) i = c (mul (f.take (k + 1)) g) i := by
  have e : f.take (k + 1) = f.take k ++ [c f k] := by rw [c_at h, List.take_append_getElem h]
  have hl : (f.take k).length = k := by simp; omega
  rw [e, mul_snoc, hl, plus, c_add, c_sc]

-- Division.
/-- q times, and r is left. -/
def IsDv (p : Int) (f g q r : List Int) : Prop := Can p q ∧ Can p r ∧ r.length < g.length ∧ Dv p f g q r
theorem IsDv.uniq {p : Int} {f g q r q' r' : List Int} (hp : Prm p) (hg : Can p g) (h0 : g ≠ []) (h : IsDv p f g q r) (h' : IsDv p f g q' r') : q = q' ∧ r = r' :=
  div_uniq hp hg h0 h.1 h.2.1 h'.1 h'.2.1 h.2.2.1 h'.2.2.1 h.2.2.2 h'.2.2.2
theorem Dv.red {p : Int} {f g q r : List Int} (h : Dv p f g q r) : Dv p f g (red p q) r := h.cg (cg_red p q) (Cg.refl p r)

/-- What a division holds when m steps are left. -/
structure DvI (p : Int) (f g : List Int) (n L : Nat) (Q R : Nat → Int) (m : Nat) : Prop where
  q : ∀ t, t < n → 0 ≤ Q t ∧ Q t < p
  z : ∀ t, t < m → Q t = 0
  r : ∀ t, t < L → 0 ≤ R t ∧ R t < p
  top : ∀ t, t < L → m + g.length ≤ t + 1 → R t = 0
  dv : Dv p f g (fl n Q) (fl L R)

theorem DvI.begin {p : Int} {f g : List Int} (hp : 0 < p) (hf : Bnd p f) {n : Nat} (hn : f.length + 1 ≤ n + g.length) : DvI p f g n f.length (fun _ => 0) (nth f) n :=
  ⟨fun _ _ => by omega, fun _ _ => rfl, fun t _ => hf.at hp t, fun t ht h => by omega, by
    refine Dv.cg (dv_start p f g) (Cg.of_eq fun i => ?_) (Cg.of_eq fun i => ?_)
    · by_cases hi : i < n
      · rw [c_fl hi]; rfl
      · rw [c_fl_over (by omega)]; rfl
    · exact c_fl_nth (Nat.le_refl _) i⟩

theorem DvI.step {p v : Int} {f g : List Int} {n L i : Nat} {Q R : Nat → Int} (hp : 0 < p) (h0 : g ≠ []) (hv : p ∣ v * nth g (g.length - 1) - 1) (h : DvI p f g n L Q R (i + 1)) (hi : i < n) (hL : i + g.length ≤ L) :
    DvI p f g n L (upd Q i (R (i + g.length - 1) * v % p)) (addm p R i (p - R (i + g.length - 1) * v % p) g g.length) i := by
  have l0 := List.length_pos_iff.mpr h0
  obtain ⟨a, ha⟩ : ∃ a, R (i + g.length - 1) * v % p = a := ⟨_, rfl⟩
  have a0 : 0 ≤ a := by rw [← ha]; exact Int.emod_nonneg _ (by omega)
  have a1 : a < p := by rw [← ha]; exact Int.emod_lt_of_pos _ hp
  have ad : p ∣ R (i + g.length - 1) * v - a := by
    rw [← ha]
    exact ⟨R (i + g.length - 1) * v / p, by have := Int.mul_ediv_add_emod (R (i + g.length - 1) * v) p; omega⟩
  rw [ha]
  refine ⟨fun t ht => ?_, fun t ht => ?_, addm_bnd hp h.r, fun t ht htm => ?_, ?_⟩
  · by_cases e : t = i
    · subst e; rw [upd_at]; exact ⟨a0, a1⟩
    · rw [upd_ne e]; exact h.q t ht
  · rw [upd_ne (by omega)]; exact h.z t (by omega)
  · by_cases e : t = i + g.length - 1
    · subst e
      unfold addm
      rw [if_pos (by omega)]
      refine Int.emod_eq_zero_of_dvd ?_
      rw [show i + g.length - 1 - i = g.length - 1 by omega]
      obtain ⟨k, hk⟩ := ad
      obtain ⟨j, hj⟩ := hv
      generalize nth g (g.length - 1) = z at *
      generalize R (i + g.length - 1) = y at *
      refine ⟨z + k * z - y * j, ?_⟩
      have h1 : a = y * v - p * k := by omega
      have h2 : v * z = 1 + p * j := by omega
      subst h1
      grind
    · unfold addm
      rw [if_neg (by omega)]
      exact h.top t ht (by omega)
  · refine Dv.cg (dv_step h.dv a i) (Cg.of_eq fun t => ?_) ?_
    · rw [c_plus]
      by_cases ht : t < n
      · rw [c_fl ht, c_fl ht]
        by_cases e : t = i
        · subst e
          have hni : ¬ t < t := by omega
          rw [upd_at, h.z t (by omega), if_neg hni, Nat.sub_self, c_zero]
          omega
        · rw [upd_ne e]
          by_cases h2 : t < i
          · rw [if_pos h2]; omega
          · rw [if_neg h2, c_over (by simp; omega)]; omega
      · have hni : ¬ t < i := by omega
        rw [c_fl_over (by omega), c_fl_over (by omega), if_neg hni, c_over (by simp; omega)]
        omega
    · refine (addm_cg hL).trans (Cg.times _ g i ⟨1, by omega⟩)

theorem DvI.done {p : Int} {f g : List Int} {n : Nat} {Q R : Nat → Int} (hp : Prm p) (hf : Can p f) (h0 : g ≠ []) (hn : n = f.length + 1 - g.length) (h : DvI p f g n f.length Q R 0) : IsDv p f g (fl n Q) (short (fl f.length R)) := by
  have p0 := hp.1
  have l0 := List.length_pos_iff.mpr h0
  have hr : Can p (short (fl f.length R)) := short_can (bnd_fl h.r)
  have hlt : (short (fl f.length R)).length < g.length := by
    refine Decidable.byContradiction fun hc => ?_
    have hne : short (fl f.length R) ≠ [] := fun e => by rw [e, List.length_nil] at hc; omega
    apply short_last _ hne
    rw [c_short]
    by_cases hi : (short (fl f.length R)).length - 1 < f.length
    · rw [c_fl hi]; exact h.top _ hi (by omega)
    · exact c_fl_over (by omega)
  have hD : Dv p f g (fl n Q) (short (fl f.length R)) := h.dv.cg (Cg.refl p _) (cg_short p _)
  refine ⟨⟨bnd_fl h.q, fun hne hz => ?_⟩, hr, hlt, hD⟩
  rw [fl_length] at hz
  have hn0 : 0 < n := by
    refine Decidable.byContradiction fun hc => hne ?_
    have : n = 0 := by omega
    rw [this]; rfl
  have hfne : f ≠ [] := fun e => by rw [e] at hn; simp at hn; omega
  have hl := mul_last (n - 1) (fl n Q) g (g.length - 1) (by rw [fl_length]; omega) (by omega)
  have hd := hD (f.length - 1)
  rw [c_add, show f.length - 1 = n - 1 + (g.length - 1) by omega, hl, hz, Int.zero_mul, c_over (f := short (fl f.length R)) (by omega)] at hd
  apply can_last hp hf hfne
  rw [show f.length - 1 = n - 1 + (g.length - 1) by omega]
  have := Int.dvd_neg.mpr hd
  rwa [show -(0 + 0 - c f (n - 1 + (g.length - 1))) = c f (n - 1 + (g.length - 1)) by omega] at this

theorem last_inv {p : Int} {g : List Int} (hp : Prm p) (hg : Can p g) (h0 : g ≠ []) : ∃ b, 1 ≤ b ∧ b < p ∧ p ∣ b * nth g (g.length - 1) - 1 := inv_some hp (can_last hp hg h0)

theorem dv_some {p : Int} {f g : List Int} (hp : Prm p) (hf : Can p f) (hg : Can p g) (h0 : g ≠ []) : ∃ q r, IsDv p f g q r := by
  have p0 := hp.1
  have l0 := List.length_pos_iff.mpr h0
  obtain ⟨v, _, _, hv⟩ := last_inv hp hg h0
  have go : ∀ m, ∀ Q R, m ≤ f.length + 1 - g.length → DvI p f g (f.length + 1 - g.length) f.length Q R m → ∃ q r, IsDv p f g q r := by
    intro m
    induction m with
    | zero => intro Q R _ h; exact ⟨_, _, h.done hp hf h0 rfl⟩
    | succ m ih => intro Q R hm h; exact ih _ _ (by omega) (h.step (by omega) h0 hv (by omega) (by omega))
  exact go _ _ _ (Nat.le_refl _) (DvI.begin (by omega) hf.1 (by omega))

-- The greatest common divisor.
theorem one_c (a : Int) (f : List Int) (i : Nat) : c (mul [a] f) i = a * c f i := by
  rw [c_mul]
  have : pre (c (mul [] f)) i = 0 := by cases i <;> rfl
  omega
theorem can_one {p a : Int} (h1 : 1 ≤ a) (h2 : a < p) : Can p [a] := ⟨fun x hx => by simp at hx; omega, fun _ => by show a ≠ 0; omega⟩
theorem mon_len {p v : Int} {f : List Int} (hp : Prm p) (hf : Can p f) (h0 : f ≠ []) (h1 : 1 ≤ v) (h2 : v < p) : (red p (mul [v] f)).length = f.length := by
  have l0 := List.length_pos_iff.mpr h0
  rw [red_mul_length hp (can_one h1 h2) hf (by simp) h0]
  simp
theorem isG_mon {p v : Int} {f : List Int} (hp : Prm p) (hf : Can p f) (h0 : f ≠ []) (h1 : 1 ≤ v) (h2 : v < p) (hv : p ∣ v * nth f (f.length - 1) - 1) : IsG p (red p (mul [v] f)) f [] := by
  have p0 := hp.1
  refine IsG.last ⟨can_red (by omega) _, fun _ => ?_⟩ ⟨nth f (f.length - 1), by rw [Int.mul_comm]; exact hv⟩
  rw [mon_len hp hf h0 h1 h2, c_red, one_c]
  obtain ⟨k, hk⟩ := hv
  rw [show v * c f (f.length - 1) = 1 + p * k by rw [c_nth]; omega, Int.add_mul_emod_self_left]
  exact Int.emod_eq_of_lt (by omega) (by omega)

theorem isG_some {p : Int} (hp : Prm p) : ∀ (n : Nat) (f g : List Int), g.length ≤ n → Can p f → Can p g → ∃ d, IsG p d f g := by
  have p0 := hp.1
  intro n
  induction n with
  | zero =>
    intro f g hl hf hg
    obtain rfl : g = [] := List.length_eq_zero_iff.mp (by omega)
    by_cases h0 : f = []
    · subst h0; exact ⟨[], isG_none⟩
    · obtain ⟨v, h1, h2, hv⟩ := last_inv hp hf h0
      exact ⟨_, isG_mon hp hf h0 h1 h2 hv⟩
  | succ n ih =>
    intro f g hl hf hg
    by_cases h0 : g = []
    · subst h0; exact ih f [] (by simp) hf hg
    · obtain ⟨q, r, hD⟩ := dv_some hp hf hg h0
      obtain ⟨d, hd⟩ := ih g r (by have := hD.2.2.1; omega) hg hD.2.1
      exact ⟨d, hd.step hD.2.2.2⟩

theorem IsG.next {p : Int} {d f g q r : List Int} (hp : Prm p) (hg : Can p g) (hr : Can p r) (hD : Dv p f g q r) (h : IsG p d f g) : IsG p d g r := by
  obtain ⟨e, he⟩ := isG_some hp r.length g r (Nat.le_refl _) hg hr
  have := (he.step hD).uniq hp h
  rw [← this]; exact he
theorem IsG.zero {p : Int} {d : List Int} (hp : Prm p) (h : IsG p d [] []) : d = [] := h.uniq hp isG_none

end Go.Proofs.YtlpnopliblaknaaDoor.Po

namespace Go.Proofs.YtlpnopliblaknaaDoor
open Go.RowKit
open Pr Po

/-- Field's error. -/
def fieldE (p : Int) : Int := if pb p = true ∧ p ≤ 997 then 0 else 1
theorem fieldE_zero {p : Int} : fieldE p = 0 ↔ Prm p ∧ p ≤ 997 := by
  unfold fieldE
  by_cases h : pb p = true ∧ p ≤ 997
  · rw [if_pos h]; exact ⟨fun _ => ⟨(pb_iff p).mp h.1, h.2⟩, fun _ => rfl⟩
  · rw [if_neg h]; exact ⟨fun h2 => by simp at h2, fun h2 => absurd ⟨(pb_iff p).mpr h2.1, h2.2⟩ h⟩
theorem fieldE_two (p : Int) : fieldE p = 0 ∨ fieldE p = 1 := by unfold fieldE; split <;> simp

def outB (p x : Int) : Bool := decide (x < 0) || decide (p ≤ x)
theorem outB_no {p x : Int} : outB p x = false ↔ 0 ≤ x ∧ x < p := by unfold outB; simp
theorem outB_yes {p x : Int} (h : x < 0 ∨ p ≤ x) : outB p x = true := by unfold outB; simp; exact h
theorem any_out {p : Int} {f : List Int} : f.any (outB p) = false ↔ Bnd p f := by
  rw [List.any_eq_false]
  exact ⟨fun h x hx => outB_no.mp (by simpa using h x hx), fun h x hx => by rw [outB_no.mpr (h x hx)]; simp⟩

/-- Check's error. -/
def polyE (p : Int) (f : List Int) : Int := if fieldE p ≠ 0 then 1 else if 40 < f.length then 2 else if f.any (outB p) = true then 1 else if f ≠ [] ∧ nth f (f.length - 1) = 0 then 3 else 0
/-- That of the first, or else that of the second. -/
def bothE (p : Int) (f g : List Int) : Int := if polyE p f ≠ 0 then polyE p f else polyE p g

theorem polyE_zero {p : Int} {f : List Int} : polyE p f = 0 ↔ Prm p ∧ p ≤ 997 ∧ f.length ≤ 40 ∧ Po.Can p f := by
  unfold polyE
  by_cases h1 : fieldE p = 0
  · rw [if_neg (by simpa using h1)]
    have hp := fieldE_zero.mp h1
    by_cases h2 : 40 < f.length
    · rw [if_pos h2]; simp; omega
    · rw [if_neg h2]
      by_cases h3 : f.any (outB p) = true
      · rw [if_pos h3]
        constructor
        · intro h; simp at h
        · rintro ⟨_, _, _, h⟩
          rw [any_out.mpr h.1] at h3
          cases h3
      · rw [if_neg h3]
        have hB := any_out.mp (by simpa using h3)
        by_cases h4 : f ≠ [] ∧ nth f (f.length - 1) = 0
        · rw [if_pos h4]
          constructor
          · intro h; simp at h
          · rintro ⟨_, _, _, h⟩
            exact absurd h4.2 (h.2 h4.1)
        · rw [if_neg h4]
          exact ⟨fun _ => ⟨hp.1, hp.2, by omega, hB, fun hn hz => h4 ⟨hn, hz⟩⟩, fun _ => rfl⟩
  · rw [if_pos h1]
    constructor
    · intro h; simp at h
    · rintro ⟨h2, h3, _⟩
      exact absurd (fieldE_zero.mpr ⟨h2, h3⟩) h1
theorem polyE_bound (p : Int) (f : List Int) : 0 ≤ polyE p f ∧ polyE p f ≤ 3 := by unfold polyE; repeat' split <;> omega
theorem bothE_zero {p : Int} {f g : List Int} : bothE p f g = 0 ↔ Prm p ∧ p ≤ 997 ∧ f.length ≤ 40 ∧ Po.Can p f ∧ g.length ≤ 40 ∧ Po.Can p g := by
  unfold bothE
  by_cases h : polyE p f = 0
  · rw [if_neg (by simpa using h), polyE_zero]
    have h1 := polyE_zero.mp h
    exact ⟨fun h2 => ⟨h1.1, h1.2.1, h1.2.2.1, h1.2.2.2, h2.2.2⟩, fun h2 => ⟨h1.1, h1.2.1, h2.2.2.2.2⟩⟩
  · rw [if_pos h]
    exact ⟨fun h2 => absurd h2 h, fun h2 => absurd (polyE_zero.mpr ⟨h2.1, h2.2.1, h2.2.2.1, h2.2.2.2.1⟩) h⟩
theorem bothE_bound (p : Int) (f g : List Int) : 0 ≤ bothE p f g ∧ bothE p f g ≤ 3 := by unfold bothE; split <;> exact polyE_bound _ _








end Go.Proofs.YtlpnopliblaknaaDoor

namespace Go.Proofs.YtlpnopliblaknaaDoor
open Go.RowKit
open Po

theorem mul_bound {a b : Int} {A B : Int} (h1 : 0 ≤ a) (h2 : a ≤ A) (h3 : 0 ≤ b) (h4 : b ≤ B) : 0 ≤ a * b ∧ a * b ≤ A * B :=
  ⟨Int.mul_nonneg h1 h3, Int.mul_le_mul h2 h4 h3 (by omega)⟩



end Go.Proofs.YtlpnopliblaknaaDoor

namespace Go.Proofs.YtlpnopliblaknaaDoor
open Go.RowKit
open Pr Po

/-- A row of its own comes back, and no error. -/
def Rowed (xs : List Int) (w : World) (e : Ending) (w2 : World) : Prop := ∃ v, e = .returned (.tuple #[v, .int .i64 0]) ∧ Hid (Row 3 .i64 w2 w.heap.size v xs) ∧ Ex w w2



end Go.Proofs.YtlpnopliblaknaaDoor

namespace Go.Proofs.YtlpnopliblaknaaDoor
open Go.RowKit
open Pr Po






end Go.Proofs.YtlpnopliblaknaaDoor

namespace Go.Proofs.YtlpnopliblaknaaDoor
open Go.RowKit
open Pr Po

theorem inv_dvd {p x a : Int} (hp : 2 ≤ p) (h : x * a % p = 1 % p) : p ∣ x * a - 1 := by
  have h1 := Int.mul_ediv_add_emod (x * a) p
  have h2 : (1 : Int) % p = 1 := Int.emod_eq_of_lt (by omega) (by omega)
  exact ⟨x * a / p, by omega⟩


/-- Two rows of one's own, apart. -/
def Rows2 (q r : List Int) (w : World) (e : Ending) (w2 : World) : Prop :=
  ∃ v u, e = .returned (.tuple #[v, u, .int .i64 0]) ∧ Hid (Row 3 .i64 w2 w.heap.size v q) ∧ Hid (Row 3 .i64 w2 w.heap.size u r) ∧ Hid (v.ownBlock = none ∨ u.ownBlock = none ∨ u.ownBlock ≠ v.ownBlock) ∧ Ex w w2


end Go.Proofs.YtlpnopliblaknaaDoor

namespace Go.Proofs.YtlpnopliblaknaaDoor
open Go.RowKit
open Pr Po






end Go.Proofs.YtlpnopliblaknaaDoor

namespace Go.Proofs.YtlpnopliblaknaaDoor
open Go.RowKit
open Pr Po

theorem rowed_nil {w w2 : World} (h : Ex w w2) : Rowed [] w (.returned (.tuple #[.slice none 0 0, .int .i64 0])) w2 := ⟨_, rfl, Lib.hid (Row.nil _ _ _ _), h⟩




end Go.Proofs.YtlpnopliblaknaaDoor
