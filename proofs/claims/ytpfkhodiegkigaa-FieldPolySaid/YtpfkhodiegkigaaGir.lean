/-
  Several texts in one:
  - Polynomials that are no products of smaller ones: EUCLID's lemma, trial by monic ones of half the degree, powers. No Go in sight.
  - How many polynomials are no products of smaller ones: GAUSS: of all degrees d that divide n, d times how many there are make q to the n. No Go in sight.
  - By an irreducible polynomial: what is not nought may be struck; all that are not nought, multiplied: so each, as often as there are polynomials with fewer numbers, is itself. No Go in sight.
  - A polynomial by its own powers: FROBENIUS (a p-th power is what x to the p makes), and RABIN's trial: what has nothing in common with x to the p to the i less x, for each i up to half its degree, is irreducible, and no other. No Go in sight.
-/
import Derived.Test.YtpfkhodiegkigaaGpa
import Derived.Test.YtpfkhodiegkigaaGpb
import Derived.Test.YtpfkhodiegkigaaDvMath
namespace Go.Proofs.Ytpfkhodiegkigaa.Po
open Pr Rs

/-- Nothing of two numbers or more divides it, but what has as many. -/
def Irr (p : Int) (f : List Int) : Prop := Can p f ∧ 2 ≤ f.length ∧ ∀ g, Can p g → 2 ≤ g.length → g.length < f.length → ¬ Di p g f

/-- Of degree n, with 1 at the end. -/
def Mo (p : Int) (n : Nat) (f : List Int) : Prop := Can p f ∧ f.length = n + 1 ∧ c f n = 1

theorem Mo.mon {p : Int} {n : Nat} {f : List Int} (h : Mo p n f) : Mon p f := ⟨h.1, fun _ => by rw [h.2.1]; exact h.2.2⟩
theorem Mo.ne {p : Int} {n : Nat} {f : List Int} (h : Mo p n f) : f ≠ [] := fun e => by have := h.2.1; rw [e] at this; simp at this
theorem mon_mo {p : Int} {f : List Int} (h : Mon p f) (h0 : f ≠ []) : Mo p (f.length - 1) f := by
  have := List.length_pos_iff.mpr h0
  exact ⟨h.1, by omega, h.2 h0⟩

/-- What divides and has as many numbers is divided, too. -/
theorem Di.back {p : Int} {d f : List Int} (hp : Prm p) (hd : Can p d) (hf : Can p f) (h0 : f ≠ []) (h : Di p d f) (hl : d.length = f.length) : Di p f d := by
  obtain ⟨q, q1, q2, q3, q4, q5⟩ := h.length hp hd hf h0
  have a1 := List.length_pos_iff.mpr q2
  have a2 := List.length_pos_iff.mpr q3
  have hq : q.length = 1 := by omega
  match q, hq with
  | [t], _ =>
    have ht := q1.1 t List.mem_cons_self
    have ht0 : t ≠ 0 := q1.2 (by simp)
    have hnd : ¬ p ∣ t := fun hd => by have := Int.le_of_dvd (by omega) hd; omega
    obtain ⟨b, _, _, hb⟩ := inv_some hp hnd
    refine ⟨[b], fun i => ?_⟩
    have h1 := q4 i
    rw [one_c] at h1 ⊢
    have h2 := Int.dvd_mul_of_dvd_right (b := b) h1
    have h3 := Int.dvd_mul_of_dvd_left (c := c d i) hb
    have := Int.dvd_sub h3 h2
    rwa [show (b * t - 1) * c d i - b * (t * c d i - c f i) = b * c f i - c d i by grind] at this

/-- Made monic. -/
theorem monic_of {p : Int} {g : List Int} (hp : Prm p) (hg : Can p g) (h0 : g ≠ []) : ∃ d, Mo p (g.length - 1) d ∧ Di p d g ∧ Di p g d := by
  obtain ⟨v, v1, v2, hv⟩ := last_inv hp hg h0
  have h1 := isG_mon hp hg h0 v1 v2 hv
  have h2 := mon_len hp hg h0 v1 v2
  have hne : red p (mul [v] g) ≠ [] := fun e => by
    rw [e] at h2
    have := List.length_pos_iff.mpr h0
    simp at h2
    omega
  refine ⟨red p (mul [v] g), ?_, h1.l, h1.l.back hp h1.mon.1 hg h0 h2⟩
  have := mon_mo h1.mon hne
  rwa [h2] at this

/-- The other one of two that make a monic one. -/
theorem Mo.other {p : Int} {m n : Nat} {g f : List Int} (hp : Prm p) (hg : Mo p m g) (hf : Mo p n f) (h : Di p g f) : ∃ q, Mo p (n - m) q ∧ Cg p (mul q g) f ∧ m ≤ n := by
  obtain ⟨q, q1, q2, _, q4, q5⟩ := h.length hp hg.1 hf.1 hf.ne
  have a1 := List.length_pos_iff.mpr q2
  have hl := hg.2.1
  have hl2 := hf.2.1
  refine ⟨q, ⟨q1, by omega, ?_⟩, q4, by omega⟩
  have h1 := mul_last (q.length - 1) q g m (by omega) hl
  have h2 := q4 (q.length - 1 + m)
  rw [h1, hg.2.2, Int.mul_one, show q.length - 1 + m = n by omega, hf.2.2, show q.length - 1 = n - m by omega] at h2
  have h3 := q1.bound (by have := hp.1; omega) (n - m)
  have p2 := hp.1
  obtain ⟨k, hk⟩ := h2
  have : k = 0 := by
    refine Decidable.byContradiction fun hc => ?_
    rcases Int.lt_or_gt_of_ne hc with h | h
    · have : p * k ≤ p * (-1) := Int.mul_le_mul_of_nonneg_left (by omega) (by omega)
      omega
    · have : p * 1 ≤ p * k := Int.mul_le_mul_of_nonneg_left (by omega) (by omega)
      omega
  subst this
  omega

/-- Two monic ones, multiplied. -/
theorem Mo.times {p : Int} {m n : Nat} {g f : List Int} (hp : Prm p) (hf : Mo p n f) (hg : Mo p m g) : Mo p (n + m) (red p (mul f g)) := by
  have p2 := hp.1
  have hl := red_mul_length hp hf.1 hg.1 hf.ne hg.ne
  rw [hf.2.1, hg.2.1] at hl
  refine ⟨can_red (by omega) _, by omega, ?_⟩
  rw [c_red, mul_last n f g m hf.2.1 hg.2.1, hf.2.2, hg.2.2]
  exact Int.emod_eq_of_lt (by omega) (by omega)

theorem mo_one {p : Int} (hp : Prm p) : Mo p 0 [1] := by
  have p2 := hp.1
  exact ⟨can_one (by omega) (by omega), rfl, rfl⟩

theorem mo_zero {p : Int} {f : List Int} (h : Mo p 0 f) : f = [1] := by
  match f, h.2.1, h.2.2 with
  | [a], _, h2 => have : a = 1 := h2; rw [this]

/-- Trial by monic ones of half the degree, at most. -/
theorem irr_trial {p : Int} {f : List Int} (hp : Prm p) (hf : Can p f) (hl : 2 ≤ f.length) : Irr p f ↔ ∀ m g, 1 ≤ m → 2 * m ≤ f.length - 1 → Mo p m g → ¬ Di p g f := by
  have h0 : f ≠ [] := fun e => by rw [e] at hl; simp at hl
  constructor
  · intro h m g h1 h2 hg
    exact h.2.2 g hg.1 (by rw [hg.2.1]; omega) (by rw [hg.2.1]; omega)
  · refine fun h => ⟨hf, hl, fun g hg h2 h3 hd => ?_⟩
    obtain ⟨q, q1, q2, q3, q4, q5⟩ := hd.length hp hg hf h0
    by_cases hh : 2 * (g.length - 1) ≤ f.length - 1
    · obtain ⟨d, d1, d2, _⟩ := monic_of hp hg q3
      exact h _ d (by omega) hh d1 (d2.trans hd)
    · obtain ⟨d, d1, d2, _⟩ := monic_of hp q1 q2
      have hq : Di p q f := ⟨g, (Cg.comm p g q).trans q4⟩
      exact h _ d (by omega) (by omega) d1 (d2.trans hq)

theorem di_unit {p : Int} {d : List Int} (hd : Mon p d) (hl : d.length = 1) : d = [1] := by
  have h0 : d ≠ [] := fun e => by rw [e] at hl; simp at hl
  have := mon_mo hd h0
  rw [hl] at this
  exact mo_zero this

/-- EUCLID's lemma. -/
theorem irr_euclid {p : Int} {P a b : List Int} (hp : Prm p) (hP : Irr p P) (h : Di p P (mul a b)) : Di p P a ∨ Di p P b := by
  have p2 := hp.1
  have hP0 : P ≠ [] := fun e => by have := hP.2.1; rw [e] at this; simp at this
  obtain ⟨d, hd⟩ := isG_some hp (red p a).length P (red p a) (Nat.le_refl _) hP.1 (can_red (by omega) a)
  obtain ⟨q, q1, q2, q3, q4, q5⟩ := hd.l.length hp hd.mon.1 hP.1 hP0
  have a1 := List.length_pos_iff.mpr q2
  have a2 := List.length_pos_iff.mpr q3
  by_cases h1 : d.length = 1
  · refine .inr ?_
    have e := di_unit hd.mon h1
    subst e
    obtain ⟨u, v, hb⟩ := hd.bez
    have g1 : Di p P (mul (mul u P) b) := (((Di.self p P).times u).times b).cg (Cg.comm p b (mul u P))
    have g2 : Di p P (mul (mul v (red p a)) b) := by
      refine (h.times v).cg ((Cg.of_eq fun i => (mul_assoc v a b i).symm).trans ?_)
      exact (Cg.mul_right v (cg_red p a).symm).mul (Cg.refl p b)
    refine (g1.add g2).cg ((Cg.of_eq fun i => ?_).trans ((hb.mul (Cg.refl p b)).trans (Cg.of_eq (one_mul b))))
    rw [c_add, add_mul]
  · by_cases h2 : d.length < P.length
    · exact absurd hd.l (hP.2.2 d hd.mon.1 (by omega) h2)
    · have h3 := hd.l.back hp hd.mon.1 hP.1 hP0 (by omega)
      exact .inl ((h3.trans hd.r).cg (cg_red p a))

/-- There is one that divides. -/
theorem irr_some {p : Int} (hp : Prm p) : ∀ (n : Nat) (f : List Int), f.length ≤ n → Can p f → 2 ≤ f.length → ∃ P, Irr p P ∧ Mon p P ∧ Di p P f := by
  intro n
  induction n with
  | zero => intro f h _ h2; omega
  | succ n ih =>
    intro f hn hf hl
    have h0 : f ≠ [] := fun e => by rw [e] at hl; simp at hl
    by_cases hI : Irr p f
    · obtain ⟨d, d1, d2, d3⟩ := monic_of hp hf h0
      refine ⟨d, ⟨d1.1, by rw [d1.2.1]; omega, fun g hg h2 h3 hd => hI.2.2 g hg h2 (by rw [d1.2.1] at h3; omega) (hd.trans d2)⟩, d1.mon, d2⟩
    · have : ∃ g, Can p g ∧ 2 ≤ g.length ∧ g.length < f.length ∧ Di p g f := by
        refine Classical.byContradiction fun hc => hI ⟨hf, hl, fun g hg h2 h3 hd => hc ⟨g, hg, h2, h3, hd⟩⟩
      obtain ⟨g, hg, h2, h3, hd⟩ := this
      obtain ⟨P, h4, h5, h6⟩ := ih g (by omega) hg h2
      exact ⟨P, h4, h5, h6.trans hd⟩

/-- Monic ones that divide one another are one: of two irreducible ones. -/
theorem irr_same {p : Int} {P Q : List Int} (hp : Prm p) (hP : Irr p P) (hQ : Irr p Q) (mP : Mon p P) (mQ : Mon p Q) (h : Di p P Q) : P = Q := by
  have hQ0 : Q ≠ [] := fun e => by have := hQ.2.1; rw [e] at this; simp at this
  obtain ⟨q, _, q2, q3, _, q5⟩ := h.length hp hP.1 hQ.1 hQ0
  have a1 := List.length_pos_iff.mpr q2
  have a2 := List.length_pos_iff.mpr q3
  have hl : P.length = Q.length := by
    refine Decidable.byContradiction fun hc => ?_
    exact hQ.2.2 P hP.1 hP.2.1 (by omega) h
  exact mon_uniq hp mP mQ h (h.back hp hP.1 hQ.1 hQ0 hl)

/-- So many times itself. -/
def pws (P : List Int) : Nat → List Int
  | 0 => [1]
  | k + 1 => mul P (pws P k)

theorem pws_mo {p : Int} {d : Nat} {P : List Int} (hp : Prm p) (hP : Mo p d P) : ∀ k, Mo p (k * d) (red p (pws P k)) := by
  have p2 := hp.1
  intro k
  induction k with
  | zero =>
    rw [Nat.zero_mul, show red p (pws P 0) = [1] from red_can (by omega) (mo_one hp).1]
    exact mo_one hp
  | succ k ih =>
    have h := hP.times hp ih
    rw [show d + k * d = (k + 1) * d by rw [Nat.succ_mul]; omega] at h
    have e : red p (mul P (red p (pws P k))) = red p (pws P (k + 1)) := red_cg (by omega) (Cg.mul_right P (cg_red p _))
    rwa [e] at h

theorem pws_less {p : Int} {P f : List Int} {k : Nat} (h : Di p (pws P (k + 1)) f) : Di p (pws P k) f := by
  refine Di.trans ⟨P, Cg.refl p _⟩ h

theorem congr_mul_right (f : List Int) {g h : List Int} (he : ∀ i, c g i = c h i) (i : Nat) : c (mul f g) i = c (mul f h) i := by
  induction f generalizing i with
  | nil => rfl
  | cons a f ih =>
    rw [c_mul, c_mul, he]
    cases i with
    | zero => rfl
    | succ i => show a * c h (i + 1) + c (mul f g) i = a * c h (i + 1) + c (mul f h) i; rw [ih]

/-- What is not nought may be struck on both sides. -/
theorem mul_cancel {p : Int} {a b g : List Int} (hp : Prm p) (hg : Can p g) (h0 : g ≠ []) (h : Cg p (mul a g) (mul b g)) : Cg p a b := by
  refine Classical.byContradiction fun hc => ?_
  have hn : ¬ ∀ i, p ∣ c (add a (sc (-1) b)) i := fun hall => hc fun i => by
    have := hall i
    rw [c_add, c_sc] at this
    rwa [show c a i - c b i = c a i + -1 * c b i by omega]
  obtain ⟨j, _, hj⟩ := mul_far hp hg h0 hn
  refine hj ?_
  have := h j
  rw [add_mul, sc_mul]
  rwa [show c (mul a g) j + -1 * c (mul b g) j = c (mul a g) j - c (mul b g) j by omega]

/-- Powers' quotients. -/
theorem pws_cancel {p : Int} {d : Nat} {P s t r : List Int} (hp : Prm p) (hP : Mo p d P) (k : Nat) (h : Cg p (mul t (mul r (pws P k))) (mul s (pws P k))) : Cg p (mul t r) s := by
  have hm := pws_mo hp hP k
  refine mul_cancel hp hm.1 hm.ne ?_
  have e := cg_red p (pws P k)
  refine (Cg.mul_right (mul t r) e).trans (Cg.trans (Cg.of_eq fun i => mul_assoc t r (pws P k) i) (h.trans (Cg.mul_right s e.symm)))

/-- A power of another one does not see it. -/
theorem pws_other {p : Int} {P Q g : List Int} (hp : Prm p) (hP : Irr p P) (hQ : Irr p Q) (mP : Mon p P) (mQ : Mon p Q) (hne : P ≠ Q) : ∀ k, Di p (pws P k) (mul g Q) → Di p (pws P k) g := by
  intro k
  have hP0 : P ≠ [] := fun e => by have := hP.2.1; rw [e] at this; simp at this
  induction k with
  | zero => intro _; exact ⟨g, Cg.of_eq fun i => by rw [mul_comm]; exact one_mul g i⟩
  | succ k ih =>
    intro h
    obtain ⟨s, hs⟩ := ih (pws_less h)
    obtain ⟨t, ht⟩ := h
    have h1 : Cg p (mul t (mul P (pws P k))) (mul (mul s Q) (pws P k)) := by
      refine ht.trans ((hs.symm.mul (Cg.refl p Q)).trans (Cg.of_eq fun i => ?_))
      rw [mul_assoc, mul_assoc]
      exact congr_mul_right s (mul_comm (pws P k) Q) i
    have h2 := pws_cancel hp (mon_mo mP hP0) k h1
    have h3 : Di p P (mul s Q) := ⟨t, h2⟩
    rcases irr_euclid hp hP h3 with h4 | h4
    · obtain ⟨r, hr⟩ := h4
      refine ⟨r, ?_⟩
      show Cg p (mul r (mul P (pws P k))) g
      exact ((Cg.of_eq fun i => (mul_assoc r P (pws P k) i).symm).trans (hr.mul (Cg.refl p _))).trans hs
    · exact absurd (irr_same hp hP hQ mP mQ h4) hne

/-- One of its own is seen. -/
theorem pws_own {p : Int} {Q g : List Int} {d : Nat} (hp : Prm p) (hQ : Mo p d Q) (k : Nat) : Di p (pws Q (k + 1)) (mul g Q) ↔ Di p (pws Q k) g := by
  constructor
  · rintro ⟨t, ht⟩
    refine ⟨t, ?_⟩
    refine mul_cancel hp hQ.1 hQ.ne ((Cg.of_eq fun i => ?_).trans ht)
    show c (mul (mul t (pws Q k)) Q) i = c (mul t (mul Q (pws Q k))) i
    rw [mul_assoc]
    exact congr_mul_right t (mul_comm (pws Q k) Q) i
  · rintro ⟨t, ht⟩
    refine ⟨t, (Cg.of_eq fun i => ?_).trans (ht.mul (Cg.refl p Q))⟩
    show c (mul t (mul Q (pws Q k))) i = c (mul (mul t (pws Q k)) Q) i
    rw [mul_assoc]
    exact congr_mul_right t (mul_comm Q (pws Q k)) i

end Go.Proofs.Ytpfkhodiegkigaa.Po

namespace Go.Proofs.Ytpfkhodiegkigaa.Po
open Pr Rs Dd

/-- The lowest n digits of x, to the base q. -/
def dg (q : Nat) : Nat → Nat → List Int
  | 0, _ => []
  | n + 1, x => ((x % q : Nat) : Int) :: dg q n (x / q)

/-- The number with these digits. -/
def vl (q : Nat) : List Int → Nat
  | [] => 0
  | a :: l => a.toNat + q * vl q l

theorem dg_length (q : Nat) : ∀ n x, (dg q n x).length = n := by
  intro n
  induction n with
  | zero => intro x; rfl
  | succ n ih => intro x; rw [dg, List.length_cons, ih]

theorem dg_bound {q : Nat} (hq : 0 < q) : ∀ n x, ∀ a ∈ dg q n x, 0 ≤ a ∧ a < q := by
  intro n
  induction n with
  | zero => intro x a h; cases h
  | succ n ih =>
    intro x a h
    rcases List.mem_cons.mp h with rfl | h
    · have := Nat.mod_lt x hq
      omega
    · exact ih _ a h

theorem vl_dg {q : Nat} : ∀ n x, x < q ^ n → vl q (dg q n x) = x := by
  intro n
  induction n with
  | zero => intro x h; simp at h; subst h; rfl
  | succ n ih =>
    intro x h
    rw [dg, vl, ih (x / q) (by rw [Nat.pow_succ, Nat.mul_comm] at h; exact Nat.div_lt_of_lt_mul h)]
    have := Nat.mod_add_div x q
    omega

theorem dg_vl {q : Nat} (hq : 0 < q) : ∀ l : List Int, (∀ a ∈ l, 0 ≤ a ∧ a < q) → dg q l.length (vl q l) = l := by
  intro l
  induction l with
  | nil => intro _; rfl
  | cons a l ih =>
    intro h
    have ha := h a List.mem_cons_self
    rw [List.length_cons, dg, vl]
    have e1 : (a.toNat + q * vl q l) % q = a.toNat := by rw [Nat.add_mul_mod_self_left, Nat.mod_eq_of_lt (by omega)]
    have e2 : (a.toNat + q * vl q l) / q = vl q l := by rw [Nat.add_mul_div_left _ _ hq, Nat.div_eq_of_lt (by omega), Nat.zero_add]
    rw [e1, e2, ih fun b hb => h b (List.mem_cons_of_mem _ hb)]
    congr 1
    omega

theorem vl_lt {q : Nat} : ∀ l : List Int, (∀ a ∈ l, 0 ≤ a ∧ a < q) → vl q l < q ^ l.length := by
  intro l
  induction l with
  | nil => intro _; simp [vl]
  | cons a l ih =>
    intro h
    have ha := h a List.mem_cons_self
    have h2 := ih fun b hb => h b (List.mem_cons_of_mem _ hb)
    rw [List.length_cons, Nat.pow_succ, vl]
    have : q * (vl q l + 1) ≤ q * q ^ l.length := Nat.mul_le_mul_left q h2
    rw [Nat.mul_add, Nat.mul_comm q (q ^ l.length)] at this
    omega

/-- The monic polynomial of degree n with these digits. -/
def mo (q n x : Nat) : List Int := dg q n x ++ [1]

theorem mo_is {q : Nat} (hp : Prm q) (n x : Nat) : Mo q n (mo q n x) := by
  have p2 := hp.1
  have e : c (mo q n x) n = 1 := by
    rw [c_at (by simp [mo, dg_length])]
    simp [mo, dg_length]
  refine ⟨⟨fun a ha => ?_, fun _ => ?_⟩, by simp [mo, dg_length], e⟩
  · rcases List.mem_append.mp ha with h | h
    · exact dg_bound (by omega) n x a h
    · have : a = 1 := by simpa using h
      omega
  · rw [show (mo q n x).length - 1 = n by simp [mo, dg_length], e]
    decide

/-- The digits of a monic one. -/
def code (q n : Nat) (f : List Int) : Nat := vl q (f.take n)

theorem code_lt {q n : Nat} {f : List Int} (h : Mo q n f) : code q n f < q ^ n := by
  have := vl_lt (q := q) (f.take n) fun a ha => h.1.1 a (List.mem_of_mem_take ha)
  rwa [List.length_take, h.2.1, Nat.min_eq_left (by omega)] at this

theorem mo_code {q n : Nat} {f : List Int} (hp : Prm q) (h : Mo q n f) : mo q n (code q n f) = f := by
  have p2 := hp.1
  have h1 := dg_vl (q := q) (by omega) (f.take n) fun a ha => h.1.1 a (List.mem_of_mem_take ha)
  rw [List.length_take, h.2.1, Nat.min_eq_left (by omega)] at h1
  unfold mo code
  rw [h1]
  have h2 : f = f.take n ++ [f[n]'(by rw [h.2.1]; omega)] := by
    rw [List.take_append_getElem, List.take_of_length_le (by rw [h.2.1]; omega)]
  have h3 := h.2.2
  rw [c_at (by rw [h.2.1]; omega)] at h3
  rw [h3] at h2
  exact h2.symm

theorem mo_inj {q n x y : Nat} (hx : x < q ^ n) (hy : y < q ^ n) (h : mo q n x = mo q n y) : x = y := by
  have h1 : dg q n x = dg q n y := List.append_cancel_right h
  rw [← vl_dg n x hx, ← vl_dg n y hy, h1]

/-- Is it so? -/
noncomputable def yes (P : Prop) : Bool := @decide P (Classical.propDecidable P)
theorem yes_iff {P : Prop} : yes P = true ↔ P := by unfold yes; exact @decide_eq_true_iff P (Classical.propDecidable P)
theorem yes_no {P : Prop} (h : ¬ P) : yes P = false := by
  cases hy : yes P
  · rfl
  · exact absurd (yes_iff.mp hy) h
theorem yes_congr {P Q : Prop} (h : P ↔ Q) : yes P = yes Q := by
  cases hy : yes Q
  · exact yes_no fun hp => by rw [yes_iff.mpr (h.mp hp)] at hy; cases hy
  · exact yes_iff.mpr (h.mpr (yes_iff.mp hy))

/-- 1 if it is so, or else 0. -/
noncomputable def ind (P : Prop) : Int := if yes P = true then 1 else 0
theorem ind_yes {P : Prop} (h : P) : ind P = 1 := if_pos (yes_iff.mpr h)
theorem ind_no {P : Prop} (h : ¬ P) : ind P = 0 := if_neg (by rw [yes_no h]; decide)
theorem ind_congr {P Q : Prop} (h : P ↔ Q) : ind P = ind Q := by unfold ind; rw [yes_congr h]

theorem sm_count (b : Nat → Bool) (l : List Nat) : sm (fun x => if b x = true then 1 else 0) l = ((l.filter b).length : Int) := by
  induction l with
  | nil => rfl
  | cons x l ih =>
    rw [sm, ih]
    cases h : b x
    · rw [List.filter_cons_of_neg (by simp [h])]; simp
    · rw [List.filter_cons_of_pos h, List.length_cons]; simp; omega

theorem sm_add (F H : Nat → Int) (l : List Nat) : sm (fun d => F d + H d) l = sm F l + sm H l := by
  induction l with
  | nil => rfl
  | cons d l ih => simp only [sm, ih]; omega

theorem sm_zero (l : List Nat) : sm (fun _ => 0) l = 0 := by
  induction l with
  | nil => rfl
  | cons d l ih => simp only [sm, ih]; omega

theorem sm_swap (F : Nat → Nat → Int) (l k : List Nat) : sm (fun x => sm (F x) k) l = sm (fun y => sm (fun x => F x y) l) k := by
  induction l with
  | nil => simp only [sm]; exact (sm_zero k).symm
  | cons x l ih => simp only [sm, ih]; exact (sm_add _ _ k).symm

theorem sm_single {l : List Nat} (hl : l.Nodup) {a : Nat} (ha : a ∈ l) (F : Nat → Int) : sm (fun x => if x = a then F x else 0) l = F a := by
  induction l with
  | nil => cases ha
  | cons x l ih =>
    rw [List.nodup_cons] at hl
    rw [sm]
    rcases List.mem_cons.mp ha with rfl | h
    · rw [if_pos rfl, sm_congr (H := fun _ => 0) fun d hd => if_neg fun e => hl.1 (by rw [← e]; exact hd), sm_zero]
      omega
    · rw [if_neg fun e => hl.1 (by rw [e]; exact h), ih hl.2 h]
      omega

theorem nodup_map {l : List Nat} (hn : l.Nodup) {f : Nat → Nat} (hi : ∀ x ∈ l, ∀ y ∈ l, f x = f y → x = y) : (l.map f).Nodup := by
  unfold List.Nodup at *
  rw [List.pairwise_map]
  have : l.Pairwise (fun x y => x ∈ l ∧ y ∈ l ∧ x ≠ y) := by
    refine (List.pairwise_iff_getElem.mpr fun i j hi hj hij => ⟨List.getElem_mem hi, List.getElem_mem hj, ?_⟩)
    exact List.pairwise_iff_getElem.mp hn i j hi hj hij
  exact this.imp fun {a b} ⟨ha, hb, hne⟩ he => hne (hi a ha b hb he)

/-- How many monic ones of degree n a monic one of degree m divides. -/
theorem multiples {q m n : Nat} {g : List Int} (hp : Prm q) (hg : Mo q m g) (hmn : m ≤ n) : sm (fun x => ind (Di q g (mo q n x))) (List.range (q ^ n)) = ((q ^ (n - m) : Nat) : Int) := by
  have p2 := hp.1
  show sm (fun x => if yes (Di q g (mo q n x)) = true then 1 else 0) (List.range (q ^ n)) = _
  rw [sm_count fun x => yes (Di q g (mo q n x))]
  have hT : ∀ y, Mo q n (red q (mul (mo q (n - m) y) g)) := fun y => by
    have := Mo.times hp (mo_is hp (n - m) y) hg
    rwa [show n - m + m = n by omega] at this
  have hperm : ((List.range (q ^ (n - m))).map fun y => code q n (red q (mul (mo q (n - m) y) g))).Perm ((List.range (q ^ n)).filter fun x => yes (Di q g (mo q n x))) := by
    refine (List.perm_ext_iff_of_nodup (nodup_map List.nodup_range fun x hx y hy he => ?_) (List.Pairwise.filter _ List.nodup_range)).mpr fun x => ?_
    · have hx := List.mem_range.mp hx
      have hy := List.mem_range.mp hy
      have e1 : red q (mul (mo q (n - m) x) g) = red q (mul (mo q (n - m) y) g) := by
        rw [← mo_code hp (hT x), ← mo_code hp (hT y), he]
      have e2 : Cg q (mul (mo q (n - m) x) g) (mul (mo q (n - m) y) g) := (cg_red _ _).symm.trans (by rw [e1]; exact cg_red _ _)
      have e3 := mul_cancel hp hg.1 hg.ne e2
      exact mo_inj hx hy ((mo_is hp _ _).1.ext (by omega) (mo_is hp _ _).1 e3)
    · simp only [List.mem_map, List.mem_range, List.mem_filter, yes_iff]
      constructor
      · rintro ⟨y, _, rfl⟩
        refine ⟨code_lt (hT y), ?_⟩
        rw [mo_code hp (hT y)]
        exact ⟨mo q (n - m) y, (cg_red _ _).symm⟩
      · rintro ⟨hx, hd⟩
        obtain ⟨h, hh, hc, _⟩ := Mo.other hp hg (mo_is hp n x) hd
        refine ⟨code q (n - m) h, code_lt hh, ?_⟩
        rw [mo_code hp hh]
        have e : red q (mul h g) = mo q n x := by
          rw [red_cg (by omega) hc, red_can (by omega) (mo_is hp n x).1]
        rw [e]
        exact mo_inj (code_lt (mo_is hp n x)) hx (mo_code hp (mo_is hp n x))
  rw [← hperm.length_eq, List.length_map, List.length_range]

/-- The irreducible monic ones of degree d. -/
noncomputable def ir (q d : Nat) : List Nat := (List.range (q ^ d)).filter fun x => yes (Irr q (mo q d x))
theorem mem_ir {q d x : Nat} : x ∈ ir q d ↔ x < q ^ d ∧ Irr q (mo q d x) := by
  unfold ir
  rw [List.mem_filter, List.mem_range, yes_iff]
theorem ir_nodup (q d : Nat) : (ir q d).Nodup := List.Pairwise.filter _ List.nodup_range

/-- From 1 to n. -/
def to (n : Nat) : List Nat := List.range' 1 n
theorem mem_to {n k : Nat} : k ∈ to n ↔ 1 ≤ k ∧ k ≤ n := by
  unfold to
  rw [List.mem_range'_1]
  omega
theorem to_nodup (n : Nat) : (to n).Nodup := List.nodup_range' 1
theorem to_shift (G : Nat → Int) (n : Nat) : sm (fun k => G (k - 1)) (to n) = G 0 + sm G (to n) - G n := by
  induction n with
  | zero => simp [to, sm]
  | succ n ih =>
    have e : to (n + 1) = to n ++ [n + 1] := by
      unfold to
      rw [List.range'_concat]
      simp [Nat.add_comm]
    rw [e, sm_append, sm_append, ih]
    simp only [sm, Nat.add_sub_cancel]
    omega

theorem di_pws {p : Int} {P f : List Int} {k : Nat} : Di p (red p (pws P k)) f ↔ Di p (pws P k) f := by
  constructor
  · rintro ⟨t, ht⟩
    exact ⟨t, (Cg.mul_right t (cg_red p _).symm).trans ht⟩
  · rintro ⟨t, ht⟩
    exact ⟨t, (Cg.mul_right t (cg_red p _)).trans ht⟩

theorem di_both {p : Int} {d f f' : List Int} (h : Cg p f f') : Di p d f ↔ Di p d f' := ⟨fun k => k.cg h, fun k => k.cg h.symm⟩

/-- What one irreducible polynomial makes in f. -/
noncomputable def part (q M d x : Nat) (f : List Int) : Int := sm (fun k => ind (Di q (pws (mo q d x) k) f)) (to M)
/-- All of them, by degrees. -/
noncomputable def whole (q M : Nat) (f : List Int) : Int := sm (fun d => d * sm (fun x => part q M d x f) (ir q d)) (to M)

theorem part_one {q M d x : Nat} (hp : Prm q) (hd : 1 ≤ d) : part q M d x [1] = 0 := by
  unfold part
  rw [sm_congr (H := fun _ => 0) fun k hk => ?_, sm_zero]
  refine ind_no fun h => ?_
  have hk := mem_to.mp hk
  obtain ⟨_, _, _, hle⟩ := Mo.other hp (pws_mo hp (mo_is hp d x) k) (mo_one hp) (di_pws.mpr h)
  have : 1 * 1 ≤ k * d := Nat.mul_le_mul hk.1 hd
  omega

theorem part_step {q M d x m e : Nat} {Q f g : List Int} (hp : Prm q) (hx : Irr q (mo q d x)) (hQ : Irr q Q) (mQ : Mo q e Q) (hg : Mo q m g) (hf : Cg q (mul g Q) f) (hM : m < M) :
    part q M d x f = part q M d x g + if mo q d x = Q then 1 else 0 := by
  have e1 := hQ.2.1
  rw [mQ.2.1] at e1
  by_cases h : mo q d x = Q
  · rw [if_pos h]
    unfold part
    rw [h, sm_congr (H := fun k => (fun j => ind (Di q (pws Q j) g)) (k - 1)) fun k hk => ?_, to_shift (fun j => ind (Di q (pws Q j) g)) M]
    · have h0 : ind (Di q (pws Q 0) g) = 1 := ind_yes ⟨g, Cg.of_eq fun i => by rw [mul_comm]; exact one_mul g i⟩
      have h1 : ind (Di q (pws Q M) g) = 0 := ind_no fun hd => by
        obtain ⟨_, _, _, hle⟩ := Mo.other hp (pws_mo hp mQ M) hg (di_pws.mpr hd)
        have : M * 1 ≤ M * e := Nat.mul_le_mul_left M (by omega)
        omega
      rw [h0, h1]
      omega
    · have hk := mem_to.mp hk
      obtain ⟨j, rfl⟩ : ∃ j, k = j + 1 := ⟨k - 1, by omega⟩
      show ind (Di q (pws Q (j + 1)) f) = ind (Di q (pws Q j) g)
      rw [← ind_congr (di_both hf)]
      exact ind_congr (pws_own hp mQ j)
  · rw [if_neg h, Int.add_zero]
    unfold part
    refine sm_congr fun k _ => ?_
    rw [← ind_congr (di_both hf)]
    refine ind_congr ⟨fun hd => pws_other hp hx hQ (mo_is hp d x).mon mQ.mon h k hd, fun hd => ?_⟩
    exact (hd.times Q).cg (Cg.comm q Q g)

/-- What all make in f is its degree. -/
theorem whole_deg {q M : Nat} (hp : Prm q) : ∀ (n m : Nat) (f : List Int), m ≤ n → Mo q m f → m ≤ M → whole q M f = m := by
  intro n
  induction n with
  | zero =>
    intro m f hm hf _
    obtain rfl : m = 0 := by omega
    rw [mo_zero hf]
    unfold whole
    rw [sm_congr (H := fun _ => 0) fun d hd => ?_, sm_zero]
    · rfl
    · rw [sm_congr (H := fun _ => 0) fun x _ => part_one hp (mem_to.mp hd).1, sm_zero, Int.mul_zero]
  | succ n ih =>
    intro m f hm hf hM
    by_cases h0 : m = 0
    · subst h0
      exact ih 0 f (by omega) hf hM
    · obtain ⟨Q, hQ, mQ0, hd⟩ := irr_some hp f.length f (Nat.le_refl _) hf.1 (by rw [hf.2.1]; omega)
      have hQ0 : Q ≠ [] := fun e => by have := hQ.2.1; rw [e] at this; simp at this
      have mQ := mon_mo mQ0 hQ0
      obtain ⟨e, he⟩ : ∃ e, Q.length - 1 = e := ⟨_, rfl⟩
      rw [he] at mQ
      have e1 : 1 ≤ e := by have := hQ.2.1; omega
      obtain ⟨g, hg, hc, hle⟩ := Mo.other hp mQ hf hd
      have h1 := ih (m - e) g (by omega) hg (by omega)
      have h2 : whole q M f = whole q M g + sm (fun d => d * sm (fun x => if mo q d x = Q then 1 else 0) (ir q d)) (to M) := by
        unfold whole
        rw [← sm_add]
        refine sm_congr fun d _ => ?_
        rw [← Int.mul_add, ← sm_add]
        congr 1
        refine sm_congr fun x hx => ?_
        exact part_step hp (mem_ir.mp hx).2 hQ mQ hg hc (by omega)
      have h3 : sm (fun d => d * sm (fun x => if mo q d x = Q then (1 : Int) else 0) (ir q d)) (to M) = e := by
        rw [sm_congr (H := fun d => if d = e then (d : Int) else 0) fun d _ => ?_, sm_single (to_nodup M) (a := e) (mem_to.mpr ⟨e1, by omega⟩) fun d => (d : Int)]
        by_cases hde : d = e
        · subst hde
          rw [if_pos rfl]
          have hcm : code q d Q ∈ ir q d := mem_ir.mpr ⟨code_lt mQ, by rw [mo_code hp mQ]; exact hQ⟩
          rw [sm_congr (H := fun x => if x = code q d Q then 1 else 0) fun x hx => ?_, sm_single (ir_nodup q d) hcm fun _ => 1, Int.mul_one]
          by_cases hxc : x = code q d Q
          · rw [if_pos hxc, hxc, if_pos (mo_code hp mQ)]
          · rw [if_neg hxc, if_neg fun e => hxc (mo_inj (mem_ir.mp hx).1 (code_lt mQ) (by rw [mo_code hp mQ]; exact e))]
        · rw [if_neg hde, sm_congr (H := fun _ => 0) fun x _ => if_neg fun e2 => hde ?_, sm_zero, Int.mul_zero]
          have h4 := (mo_is hp d x).2.1
          rw [e2, mQ.2.1] at h4
          omega
      rw [h2, h1, h3]
      omega

/-- How many monic ones of degree n one of degree j divides. -/
def cn (q n j : Nat) : Int := if j ≤ n then ((q ^ (n - j) : Nat) : Int) else 0

theorem cn_step {q n j : Nat} (hn : 1 ≤ n) : cn q n j - q * cn q (n - 1) j = if j = n then 1 else 0 := by
  unfold cn
  by_cases h : j = n
  · subst h
    rw [if_pos (Nat.le_refl _), if_neg (by omega), if_pos rfl]
    simp
  · by_cases h1 : j ≤ n
    · rw [if_pos h1, if_pos (by omega), if_neg h, show n - j = (n - 1 - j) + 1 by omega, Nat.pow_succ]
      rw [Int.natCast_mul, Int.mul_comm]
      omega
    · rw [if_neg h1, if_neg (by omega), if_neg h]
      simp

theorem all_parts {q M n : Nat} (hp : Prm q) (hn : n ≤ M) : sm (fun d => d * ((ir q d).length * sm (fun k => cn q n (k * d)) (to M))) (to M) = n * ((q ^ n : Nat) : Int) := by
  have h1 : sm (fun x => whole q M (mo q n x)) (List.range (q ^ n)) = n * ((q ^ n : Nat) : Int) := by
    rw [sm_congr (H := fun _ => (n : Int) * 1) fun x _ => by rw [Int.mul_one]; exact whole_deg hp n n _ (Nat.le_refl _) (mo_is hp n x) hn, sm_mul, sm_one, List.length_range]
  rw [← h1]
  unfold whole
  rw [sm_swap]
  refine sm_congr fun d hd => ?_
  rw [sm_mul, sm_swap]
  congr 1
  have h2 : ∀ x, sm (fun y => part q M d x (mo q n y)) (List.range (q ^ n)) = sm (fun k => cn q n (k * d)) (to M) := fun x => by
    unfold part
    rw [sm_swap]
    refine sm_congr fun k _ => ?_
    have hm := pws_mo hp (mo_is hp d x) k
    rw [sm_congr (H := fun y => ind (Di q (red q (pws (mo q d x) k)) (mo q n y))) fun y _ => ind_congr di_pws.symm]
    unfold cn
    by_cases h : k * d ≤ n
    · rw [if_pos h]
      exact multiples hp hm h
    · rw [if_neg h, sm_congr (H := fun _ => 0) fun y _ => ind_no fun hd => ?_, sm_zero]
      obtain ⟨_, _, _, hle⟩ := Mo.other hp hm (mo_is hp n y) hd
      omega
  refine Eq.symm ?_
  rw [sm_congr (H := fun _ => sm (fun k => cn q n (k * d)) (to M) * 1) fun x _ => by rw [Int.mul_one]; exact h2 x, sm_mul, sm_one, Int.mul_comm]

/-- GAUSS. -/
theorem gauss_many {q n : Nat} (hp : Prm q) (hn : 1 ≤ n) : sm (fun d => d * ((ir q d).length : Int)) (dv n) = ((q ^ n : Nat) : Int) := by
  have h1 := all_parts hp (Nat.le_refl n)
  have h2 := all_parts hp (M := n) (n := n - 1) (by omega)
  have h3 : sm (fun d => d * ((ir q d).length * sm (fun k => cn q n (k * d)) (to n))) (to n) - q * sm (fun d => d * ((ir q d).length * sm (fun k => cn q (n - 1) (k * d)) (to n))) (to n)
      = sm (fun d => if n % d = 0 then (d : Int) * (ir q d).length else 0) (to n) := by
    rw [← sm_mul, show ∀ a b : Int, a - b = a + (-1) * b by intros; omega, ← sm_mul, ← sm_add]
    refine sm_congr fun d hd => ?_
    have hd := mem_to.mp hd
    have h4 : sm (fun k => cn q n (k * d)) (to n) - q * sm (fun k => cn q (n - 1) (k * d)) (to n) = if n % d = 0 then 1 else 0 := by
      rw [← sm_mul, show ∀ a b : Int, a - b = a + (-1) * b by intros; omega, ← sm_mul, ← sm_add]
      by_cases hdv : n % d = 0
      · rw [if_pos hdv]
        obtain ⟨k0, hk0⟩ := Nat.dvd_of_mod_eq_zero hdv
        have hk1 : 1 ≤ k0 := Nat.pos_of_ne_zero fun e => by rw [e] at hk0; simp at hk0; omega
        have hk2 : k0 ≤ n := by
          have : 1 * k0 ≤ d * k0 := Nat.mul_le_mul_right k0 hd.1
          omega
        rw [sm_congr (H := fun k => if k = k0 then 1 else 0) fun k _ => ?_, sm_single (to_nodup n) (mem_to.mpr ⟨hk1, hk2⟩) fun _ => 1]
        have := cn_step (q := q) (j := k * d) hn
        rw [show cn q n (k * d) + -1 * (q * cn q (n - 1) (k * d)) = cn q n (k * d) - q * cn q (n - 1) (k * d) by omega, this]
        by_cases hk : k = k0
        · rw [if_pos hk, if_pos (by rw [hk, hk0, Nat.mul_comm])]
        · rw [if_neg hk, if_neg fun e => hk ?_]
          rw [hk0, Nat.mul_comm] at e
          exact Nat.eq_of_mul_eq_mul_left (by omega) e
      · rw [if_neg hdv, sm_congr (H := fun _ => 0) fun k _ => ?_, sm_zero]
        have := cn_step (q := q) (j := k * d) hn
        rw [show cn q n (k * d) + -1 * (q * cn q (n - 1) (k * d)) = cn q n (k * d) - q * cn q (n - 1) (k * d) by omega, this]
        exact if_neg fun e => hdv (by rw [← e]; exact Nat.mul_mod_left k d)
    rw [show ∀ a b N A B : Int, a * (N * A) + -1 * (b * (a * (N * B))) = a * N * (A - b * B) by intros; grind, h4]
    split
    · rw [Int.mul_one]
    · rw [Int.mul_zero]
  rw [h1, h2] at h3
  have h5 : (n : Int) * ((q ^ n : Nat) : Int) - q * (((n - 1 : Nat) : Int) * ((q ^ (n - 1) : Nat) : Int)) = ((q ^ n : Nat) : Int) := by
    obtain ⟨m, rfl⟩ : ∃ m, n = m + 1 := ⟨n - 1, by omega⟩
    rw [Nat.add_sub_cancel, Nat.pow_succ, Int.natCast_mul]
    generalize ((q ^ m : Nat) : Int) = t
    have : ((m + 1 : Nat) : Int) = (m : Int) + 1 := by omega
    rw [this]
    grind
  rw [h5] at h3
  rw [h3]
  have h6 : ∀ l : List Nat, sm (fun d => if n % d = 0 then (d : Int) * (ir q d).length else 0) l = sm (fun d => d * ((ir q d).length : Int)) (l.filter fun d => n % d == 0) := fun l => by
    induction l with
    | nil => rfl
    | cons d l ih =>
      rw [sm, ih]
      by_cases h : n % d = 0
      · rw [if_pos h, List.filter_cons_of_pos (by simpa using h)]; rfl
      · rw [if_neg h, List.filter_cons_of_neg (by simpa using h)]; omega
  rw [h6]
  refine congrArg (sm _) ?_
  unfold dv to
  congr 1
  rw [List.range'_eq_map_range]
  exact congrArg (fun f => List.map f (List.range n)) (funext fun x => Nat.add_comm x 1)

theorem sm_le {F H : Nat → Int} {l : List Nat} (h : ∀ d ∈ l, F d ≤ H d) : sm F l ≤ sm H l := by
  induction l with
  | nil => exact Int.le_refl _
  | cons d l ih =>
    have h1 := h d List.mem_cons_self
    have h2 := ih fun e he => h e (List.mem_cons_of_mem _ he)
    simp only [sm]
    omega

theorem sm_ge {F : Nat → Int} {l : List Nat} (h : ∀ d ∈ l, 0 ≤ F d) {a : Nat} (ha : a ∈ l) : F a ≤ sm F l := by
  induction l with
  | nil => cases ha
  | cons d l ih =>
    have h0 : 0 ≤ sm F l := by
      have := sm_le (F := fun _ => 0) (H := F) (l := l) fun e he => h e (List.mem_cons_of_mem _ he)
      rwa [sm_zero] at this
    have h1 := h d List.mem_cons_self
    simp only [sm]
    rcases List.mem_cons.mp ha with rfl | ha
    · omega
    · have := ih (fun e he => h e (List.mem_cons_of_mem _ he)) ha
      omega

theorem many_le {q n : Nat} (hp : Prm q) (hn : 1 ≤ n) : (n : Int) * (ir q n).length ≤ ((q ^ n : Nat) : Int) := by
  rw [← gauss_many hp hn]
  exact sm_ge (F := fun d => (d : Int) * (ir q d).length) (fun d _ => Int.mul_nonneg (by omega) (by omega)) ((mem_dv hn).mpr ⟨hn, Nat.dvd_refl n⟩)

theorem geo {q : Nat} (hq : 2 ≤ q) : ∀ m, sm (fun d => ((q ^ d : Nat) : Int)) (to m) < ((q ^ (m + 1) : Nat) : Int) := by
  intro m
  induction m with
  | zero =>
    have : 0 < q ^ (0 + 1) := Nat.pow_pos (by omega)
    simp only [to, List.range'_zero, sm]
    omega
  | succ m ih =>
    have e : to (m + 1) = to m ++ [m + 1] := by
      unfold to
      rw [List.range'_concat]
      simp [Nat.add_comm]
    rw [e, sm_append]
    simp only [sm]
    have h1 : q ^ (m + 1 + 1) = q ^ (m + 1) * q := Nat.pow_succ q (m + 1)
    have h2 : q ^ (m + 1) * 2 ≤ q ^ (m + 1) * q := Nat.mul_le_mul_left _ hq
    omega

/-- There is one of each degree. -/
theorem ir_some {q n : Nat} (hp : Prm q) (hn : 1 ≤ n) : 1 ≤ (ir q n).length := by
  have p2 := hp.1
  refine Decidable.byContradiction fun hc => ?_
  have h0 : (ir q n).length = 0 := by omega
  have h1 := gauss_many hp hn
  have h2 : sm (fun d => (d : Int) * (ir q d).length) (dv n) ≤ sm (fun d => if d < n then ((q ^ d : Nat) : Int) else 0) (dv n) := sm_le fun d hd => by
    have hd := (mem_dv hn).mp hd
    by_cases h : d < n
    · rw [if_pos h]
      exact many_le hp hd.1
    · have := Nat.le_of_dvd hn hd.2
      obtain rfl : d = n := by omega
      rw [if_neg (by omega), h0]
      simp
  have h3 : ∀ l : List Nat, sm (fun d => if d < n then ((q ^ d : Nat) : Int) else 0) (l.filter fun d => n % d == 0) ≤ sm (fun d => if d < n then ((q ^ d : Nat) : Int) else 0) l := fun l => by
    induction l with
    | nil => exact Int.le_refl _
    | cons d l ih =>
      have h4 : (0 : Int) ≤ if d < n then ((q ^ d : Nat) : Int) else 0 := by split <;> omega
      by_cases h : n % d = 0
      · rw [List.filter_cons_of_pos (by simpa using h), sm, sm]; omega
      · rw [List.filter_cons_of_neg (by simpa using h), sm]; omega
  have h4 : sm (fun d => if d < n then ((q ^ d : Nat) : Int) else 0) (dv n) ≤ sm (fun d => if d < n then ((q ^ d : Nat) : Int) else 0) (to n) := by
    have := h3 (to n)
    refine Int.le_trans (Int.le_of_eq ?_) this
    refine congrArg (sm _) ?_
    unfold dv to
    congr 1
    rw [List.range'_eq_map_range]
    exact congrArg (fun f => List.map f (List.range n)) (funext fun x => Nat.add_comm x 1)
  obtain ⟨m, rfl⟩ : ∃ m, n = m + 1 := ⟨n - 1, by omega⟩
  have h5 : sm (fun d => if d < m + 1 then ((q ^ d : Nat) : Int) else 0) (to (m + 1)) = sm (fun d => ((q ^ d : Nat) : Int)) (to m) := by
    have e : to (m + 1) = to m ++ [m + 1] := by
      unfold to
      rw [List.range'_concat]
      simp [Nat.add_comm]
    rw [e, sm_append]
    simp only [sm]
    rw [if_neg (by omega), sm_congr (H := fun d => ((q ^ d : Nat) : Int)) fun d hd => if_pos (by have := mem_to.mp hd; omega)]
    omega
  have h6 := geo (q := q) (by omega) m
  omega

/-- The first one. -/
theorem ir_first {q n : Nat} (hp : Prm q) (hn : 1 ≤ n) : ∃ x, x < q ^ n ∧ Irr q (mo q n x) ∧ ∀ y, y < x → ¬ Irr q (mo q n y) := by
  have h := ir_some hp hn
  have hne : ir q n ≠ [] := fun e => by rw [e] at h; simp at h
  obtain ⟨x, hx⟩ := List.exists_mem_of_ne_nil _ hne
  have hx := mem_ir.mp hx
  have : ∀ k x, x ≤ k → x < q ^ n → Irr q (mo q n x) → ∃ x, x < q ^ n ∧ Irr q (mo q n x) ∧ ∀ y, y < x → ¬ Irr q (mo q n y) := by
    intro k
    induction k with
    | zero => intro x h0 h1 h2; exact ⟨x, h1, h2, fun y hy => by omega⟩
    | succ k ih =>
      intro x h0 h1 h2
      by_cases hm : ∃ y, y < x ∧ Irr q (mo q n y)
      · obtain ⟨y, hy, hi⟩ := hm
        exact ih y (by omega) (by omega) hi
      · exact ⟨x, h1, h2, fun y hy hi => hm ⟨y, hy, hi⟩⟩
  exact this x x (Nat.le_refl _) hx.1 hx.2

end Go.Proofs.Ytpfkhodiegkigaa.Po

namespace Go.Proofs.Ytpfkhodiegkigaa.Po
open Pr Rs Dd

/-- Alike by f. -/
def Cf (p : Int) (f a b : List Int) : Prop := Di p f (add a (sc (-1) b))

theorem cf_of {p : Int} {f a b : List Int} (h : Cg p a b) : Cf p f a b := (Di.none p f).cg fun i => by
  have := h i
  rw [c_nil, c_add, c_sc]
  have := Int.dvd_neg.mpr this
  rwa [show -(c a i - c b i) = 0 - (c a i + -1 * c b i) by omega] at this
theorem Cf.refl (p : Int) (f a : List Int) : Cf p f a a := cf_of (Cg.refl p a)
theorem Cf.trans {p : Int} {f a b d : List Int} (h : Cf p f a b) (k : Cf p f b d) : Cf p f a d := (Di.add h k).cg (Cg.of_eq fun i => by simp only [c_add, c_sc]; omega)
theorem Cf.symm {p : Int} {f a b : List Int} (h : Cf p f a b) : Cf p f b a := (h.times [-1]).cg (Cg.of_eq fun i => by rw [one_c]; simp only [c_add, c_sc]; omega)
theorem Cf.mul {p : Int} {f a b : List Int} (h : Cf p f a b) (g : List Int) : Cf p f (Po.mul g a) (Po.mul g b) := (h.times g).cg (Cg.of_eq fun i => by rw [mul_add, c_add, c_sc, mul_sc])
theorem Cf.both {p : Int} {f a b a' b' : List Int} (h : Cf p f a a') (k : Cf p f b b') : Cf p f (Po.mul a b) (Po.mul a' b') :=
  (k.mul a).trans ((cf_of (Cg.comm p a b')).trans ((h.mul b').trans (cf_of (Cg.comm p b' a'))))

/-- What is left, divided by f. -/
theorem cf_rest {p : Int} {f a q r : List Int} (h : Dv p a f q r) : Cf p f a r := ⟨q, fun i => by
  have := h i
  rw [c_add] at this
  simp only [c_add, c_sc]
  rwa [show c (Po.mul q f) i - (c a i + -1 * c r i) = c (Po.mul q f) i + c r i - c a i by omega]⟩

/-- Two with fewer numbers than f are one, if they are alike by f. -/
theorem cf_one {p : Int} {f a b : List Int} (hp : Prm p) (hf : Can p f) (ha : Can p a) (hb : Can p b) (la : a.length < f.length) (lb : b.length < f.length) (h : Cf p f a b) : a = b := by
  have p2 := hp.1
  have hc := can_red (p := p) (by omega) (add a (sc (-1) b))
  by_cases h0 : red p (add a (sc (-1) b)) = []
  · refine ha.ext (by omega) hb fun i => ?_
    have := cg_red p (add a (sc (-1) b)) i
    rw [h0, c_nil, c_add, c_sc] at this
    have := Int.dvd_neg.mpr this
    rwa [show -(0 - (c a i + -1 * c b i)) = c a i - c b i by omega] at this
  · have hd : Di p f (red p (add a (sc (-1) b))) := Di.cg h (cg_red p _).symm
    obtain ⟨q, _, q2, _, _, q5⟩ := hd.length hp hf hc h0
    have a1 := List.length_pos_iff.mpr q2
    have l1 := red_length p (add a (sc (-1) b))
    rw [add_length, sc_length] at l1
    omega

/-- What f does not divide may be struck. -/
theorem cf_cancel {p : Int} {f a b g : List Int} (hp : Prm p) (hf : Irr p f) (hg : ¬ Di p f g) (h : Cf p f (mul g a) (mul g b)) : Cf p f a b := by
  have h1 : Di p f (mul g (add a (sc (-1) b))) := Di.cg h (Cg.of_eq fun i => by rw [mul_add, c_add, c_sc, mul_sc])
  exact (irr_euclid hp hf h1).resolve_left hg

/-- Multiplied so often. -/
def pwl (g : List Int) : Nat → List Int
  | 0 => [1]
  | n + 1 => mul g (pwl g n)

/-- A product of those that a list names. -/
def prl (F : Nat → List Int) : List Nat → List Int
  | [] => [1]
  | x :: l => mul (F x) (prl F l)

theorem prl_perm {p : Int} (F : Nat → List Int) {l k : List Nat} (h : l.Perm k) : Cg p (prl F l) (prl F k) := by
  induction h with
  | nil => exact Cg.refl _ _
  | cons x _ ih => exact Cg.mul_right (F x) ih
  | swap x y l =>
    refine Cg.of_eq fun i => ?_
    show c (mul (F y) (mul (F x) (prl F l))) i = c (mul (F x) (mul (F y) (prl F l))) i
    rw [← mul_assoc, ← mul_assoc, mul_comm (mul (F y) (F x)), mul_comm (mul (F x) (F y))]
    exact congr_mul_right _ (mul_comm (F y) (F x)) i
  | trans _ _ ih1 ih2 => exact ih1.trans ih2

theorem prl_congr {p : Int} {f : List Int} {F H : Nat → List Int} {l : List Nat} (h : ∀ x ∈ l, Cf p f (F x) (H x)) : Cf p f (prl F l) (prl H l) := by
  induction l with
  | nil => exact Cf.refl _ _ _
  | cons x l ih => exact (h x List.mem_cons_self).both (ih fun y hy => h y (List.mem_cons_of_mem _ hy))

theorem prl_times {p : Int} (F : Nat → List Int) (g : List Int) (l : List Nat) : Cg p (prl (fun x => mul g (F x)) l) (mul (pwl g l.length) (prl F l)) := by
  induction l with
  | nil => exact Cg.of_eq fun i => (one_mul [1] i).symm
  | cons x l ih =>
    refine (Cg.mul_right (mul g (F x)) ih).trans (Cg.of_eq fun i => ?_)
    show c (mul (mul g (F x)) (mul (pwl g l.length) (prl F l))) i = c (mul (mul g (pwl g l.length)) (mul (F x) (prl F l))) i
    rw [mul_assoc, mul_assoc]
    refine congr_mul_right g (fun j => ?_) i
    rw [← mul_assoc, ← mul_assoc, mul_comm (mul (F x) (pwl g l.length)), mul_comm (mul (pwl g l.length) (F x))]
    exact congr_mul_right _ (mul_comm (F x) (pwl g l.length)) j

theorem prl_map (F : Nat → List Int) (φ : Nat → Nat) (l : List Nat) : prl F (l.map φ) = prl (fun x => F (φ x)) l := by
  induction l with
  | nil => rfl
  | cons x l ih => rw [List.map_cons, prl, prl, ih]

theorem prl_not {p : Int} {f : List Int} (hp : Prm p) (hf : Irr p f) {F : Nat → List Int} {l : List Nat} (h : ∀ x ∈ l, ¬ Di p f (F x)) : ¬ Di p f (prl F l) := by
  induction l with
  | nil =>
    intro hd
    have p2 := hp.1
    obtain ⟨q, _, q2, _, _, q5⟩ := Di.length hp hf.1 (mo_one hp).1 (by simp) hd
    have a1 := List.length_pos_iff.mpr q2
    have := hf.2.1
    simp at q5
    omega
  | cons x l ih =>
    intro hd
    rcases irr_euclid hp hf hd with h1 | h1
    · exact h x List.mem_cons_self h1
    · exact ih (fun y hy => h y (List.mem_cons_of_mem _ hy)) h1

/-- The polynomial with these digits, in lowest form. -/
def rl (q k x : Nat) : List Int := short (dg q k x)

theorem rl_can {q k x : Nat} (hq : 0 < q) : Can q (rl q k x) := ⟨fun a ha => dg_bound hq k x a (short_mem _ _ ha), short_last _⟩
theorem rl_length (q k x : Nat) : (rl q k x).length ≤ k := by
  have := short_length (dg q k x)
  rwa [dg_length] at this

theorem vl_pad {q : Nat} : ∀ l : List Int, vl q (short l) = vl q l := by
  intro l
  induction l with
  | nil => rfl
  | cons a l ih =>
    unfold short
    by_cases h : short l = [] ∧ a = 0
    · have h1 : vl q l = 0 := by rw [← ih, h.1]; rfl
      rw [if_pos h, vl, vl, h1, h.2]
      rfl
    · rw [if_neg h, vl, vl, ih]

theorem vl_rl {q k x : Nat} (hx : x < q ^ k) : vl q (rl q k x) = x := by
  unfold rl
  rw [vl_pad, vl_dg k x hx]

theorem vl_small {q : Nat} {f : List Int} {k : Nat} (hq : 0 < q) (hf : Can q f) (hl : f.length ≤ k) : vl q f < q ^ k :=
  Nat.lt_of_lt_of_le (vl_lt f hf.1) (Nat.pow_le_pow_right hq hl)

/-- A row of digits, with noughts behind. -/
theorem dg_pad {q : Nat} (hq : 0 < q) : ∀ (k : Nat) (f : List Int), (∀ a ∈ f, 0 ≤ a ∧ a < q) → f.length ≤ k → ∀ i, c (dg q k (vl q f)) i = c f i := by
  intro k
  induction k with
  | zero =>
    intro f _ hl i
    have : f = [] := List.length_eq_zero_iff.mp (by omega)
    subst this
    rfl
  | succ k ih =>
    intro f hf hl i
    cases f with
    | nil =>
      rw [vl, dg, Nat.zero_mod, Nat.zero_div]
      cases i with
      | zero => rfl
      | succ i => rw [c_succ, c_nil]; exact ih [] (fun a h => by cases h) (by simp) i
    | cons a f =>
      have ha := hf a List.mem_cons_self
      rw [vl, dg]
      have e1 : (a.toNat + q * vl q f) % q = a.toNat := by rw [Nat.add_mul_mod_self_left, Nat.mod_eq_of_lt (by omega)]
      have e2 : (a.toNat + q * vl q f) / q = vl q f := by rw [Nat.add_mul_div_left _ _ hq, Nat.div_eq_of_lt (by omega), Nat.zero_add]
      rw [e1, e2]
      cases i with
      | zero => show ((a.toNat : Nat) : Int) = a; omega
      | succ i => rw [c_succ, c_succ]; exact ih f (fun b hb => hf b (List.mem_cons_of_mem _ hb)) (by simpa using hl) i

theorem rl_vl {q k : Nat} {f : List Int} (hq : 0 < q) (hf : Can q f) (hl : f.length ≤ k) : rl q k (vl q f) = f := by
  refine (rl_can hq).ext (by omega) hf (Cg.of_eq fun i => ?_)
  unfold rl
  rw [c_short]
  exact dg_pad hq k f hf.1 hl i

theorem perm_of_sub : ∀ (A B : List Nat), A.Nodup → (∀ x ∈ A, x ∈ B) → B.length ≤ A.length → A.Perm B := by
  intro A
  induction A with
  | nil =>
    intro B _ _ h
    have : B = [] := List.length_eq_zero_iff.mp (by simpa using h)
    rw [this]
  | cons x A ih =>
    intro B hn hs hl
    have hx : x ∈ B := hs x (by simp)
    have h1 := List.perm_cons_erase hx
    rw [List.nodup_cons] at hn
    refine List.Perm.trans (List.Perm.cons x (ih (B.erase x) hn.2 (fun y hy => ?_) ?_)) h1.symm
    · have hne : y ≠ x := fun e => hn.1 (e ▸ hy)
      exact (List.mem_erase_of_ne hne).mpr (hs y (by simp [hy]))
    · have h2 := List.length_erase_of_mem hx
      have h3 := List.length_pos_of_mem hx
      simp at hl
      omega

/-- GALOIS: by an irreducible one of degree k each is itself, multiplied as often as there are with fewer numbers. -/
theorem frob {q k : Nat} {f g : List Int} (hp : Prm q) (hf : Irr q f) (hk : f.length = k + 1) (hg : ¬ Di q f g) : Cf q f (pwl g (q ^ k)) g := by
  have p2 := hp.1
  have q0 : 0 < q := by omega
  have k1 : 1 ≤ k := by have := hf.2.1; omega
  have hf0 : f ≠ [] := fun e => by rw [e] at hk; simp at hk
  have hr : ∀ x : Nat, ∃ y : Nat, y < q ^ k ∧ Cf q f (mul g (rl q k x)) (rl q k y) := fun x => by
    obtain ⟨s, r, hs⟩ := dv_some hp (can_red (p := (q : Int)) (by omega) (mul g (rl q k x))) hf.1 hf0
    have hl : r.length ≤ k := by have := hs.2.2.1; omega
    refine ⟨vl q r, vl_small q0 hs.2.1 hl, ?_⟩
    rw [rl_vl q0 hs.2.1 hl]
    exact (cf_of (cg_red _ _).symm).trans (cf_rest hs.2.2.2)
  obtain ⟨φ, hφ⟩ := Classical.axiomOfChoice hr
  have small : ∀ x, x < q ^ k → 1 ≤ x → ¬ Di q f (rl q k x) := fun x hx h1 hd => by
    have hne : rl q k x ≠ [] := fun e => by
      have := vl_rl (q := q) (k := k) hx
      rw [e] at this
      simp [vl] at this
      omega
    obtain ⟨s, _, s2, _, _, s5⟩ := hd.length hp hf.1 (rl_can q0) hne
    have a1 := List.length_pos_iff.mpr s2
    have := rl_length q k x
    omega
  have hL : ∀ x ∈ to (q ^ k - 1), 1 ≤ x ∧ x < q ^ k := fun x hx => by
    have := mem_to.mp hx
    have : 0 < q ^ k := Nat.pow_pos q0
    omega
  have hmem : ∀ x ∈ to (q ^ k - 1), φ x ∈ to (q ^ k - 1) := fun x hx => by
    have hx := hL x hx
    have h1 := hφ x
    refine mem_to.mpr ⟨Nat.pos_of_ne_zero fun e => ?_, by omega⟩
    have h2 := h1.2
    rw [e] at h2
    have h3 : Di q f (mul g (rl q k x)) := by
      refine Di.cg h2 (Cg.of_eq fun i => ?_)
      have e0 : c (rl q k 0) i = 0 := by
        have h0 : rl q k (vl q []) = [] := rl_vl q0 (Can.nil _) (by simp)
        rw [show vl q [] = 0 from rfl] at h0
        rw [h0]; rfl
      rw [c_add, c_sc, e0]
      omega
    rcases irr_euclid hp hf h3 with h | h
    · exact hg h
    · exact small x hx.2 hx.1 h
  have hinj : ∀ x ∈ to (q ^ k - 1), ∀ y ∈ to (q ^ k - 1), φ x = φ y → x = y := fun x hx y hy he => by
    have hx := hL x hx
    have hy := hL y hy
    have h1 := (hφ x).2
    rw [he] at h1
    have h2 := cf_cancel hp hf hg (h1.trans (hφ y).2.symm)
    have h3 := cf_one hp hf.1 (rl_can q0) (rl_can q0) (by have := rl_length q k x; omega) (by have := rl_length q k y; omega) h2
    rw [← vl_rl (q := q) (k := k) hx.2, ← vl_rl (q := q) (k := k) hy.2, h3]
  have hperm : ((to (q ^ k - 1)).map φ).Perm (to (q ^ k - 1)) := by
    have hN := nodup_map (to_nodup (q ^ k - 1)) hinj
    refine perm_of_sub _ _ hN (fun x hx => ?_) (by simp)
    obtain ⟨y, hy, rfl⟩ := List.mem_map.mp hx
    exact hmem y hy
  have h1 : Cg q (prl (rl q k) ((to (q ^ k - 1)).map φ)) (prl (rl q k) (to (q ^ k - 1))) := prl_perm _ hperm
  rw [prl_map] at h1
  have h2 : Cf q f (prl (fun x => mul g (rl q k x)) (to (q ^ k - 1))) (prl (fun x => rl q k (φ x)) (to (q ^ k - 1))) := prl_congr fun x _ => (hφ x).2
  have h3 := prl_times (p := (q : Int)) (rl q k) g (to (q ^ k - 1))
  have hlen : (to (q ^ k - 1)).length = q ^ k - 1 := by simp [to]
  rw [hlen] at h3
  obtain ⟨R, hR⟩ : ∃ R, prl (rl q k) (to (q ^ k - 1)) = R := ⟨_, rfl⟩
  rw [hR] at h1 h3
  have hRn : ¬ Di q f R := by
    rw [← hR]
    exact prl_not hp hf fun x hx => small x (hL x hx).2 (hL x hx).1
  have h4 : Cf q f (mul R (pwl g (q ^ k - 1))) (mul R [1]) := by
    refine (cf_of (Cg.comm _ _ _)).trans ((cf_of h3.symm).trans (h2.trans ((cf_of h1).trans (cf_of (Cg.of_eq fun i => ?_)))))
    rw [mul_comm]
    exact (one_mul R i).symm
  have h5 := cf_cancel hp hf hRn h4
  have h6 := h5.mul g
  have e : pwl g (q ^ k) = mul g (pwl g (q ^ k - 1)) := by
    have : 0 < q ^ k := Nat.pow_pos q0
    obtain ⟨m, hm⟩ : ∃ m, q ^ k = m + 1 := ⟨q ^ k - 1, by omega⟩
    rw [hm, Nat.add_sub_cancel]
    rfl
  rw [e]
  exact h6.trans (cf_of (Cg.of_eq fun i => by rw [mul_comm]; exact one_mul g i))

/-- Powers of powers. -/
theorem pwl_add {p : Int} (g : List Int) (m : Nat) : ∀ n, Cg p (mul (pwl g n) (pwl g m)) (pwl g (n + m)) := by
  intro n
  induction n with
  | zero => rw [Nat.zero_add]; exact Cg.of_eq (one_mul _)
  | succ n ih =>
    rw [Nat.succ_add]
    exact (Cg.of_eq (mul_assoc g (pwl g n) (pwl g m))).trans (Cg.mul_right g ih)
theorem pwl_mul {p : Int} (g : List Int) (m : Nat) : ∀ n, Cg p (pwl (pwl g m) n) (pwl g (m * n)) := by
  intro n
  induction n with
  | zero => exact Cg.refl _ _
  | succ n ih =>
    refine (Cg.mul_right (pwl g m) ih).trans ((pwl_add g (m * n) m).trans ?_)
    rw [Nat.mul_succ, Nat.add_comm]
    exact Cg.refl _ _
theorem pwl_cf {p : Int} {f a b : List Int} (h : Cf p f a b) : ∀ n, Cf p f (pwl a n) (pwl b n) := by
  intro n
  induction n with
  | zero => exact Cf.refl _ _ _
  | succ n ih => exact h.both ih

/-- Nothing but a number divides both an irreducible one and one with fewer numbers. -/
theorem irr_gcd {p : Int} {f g d : List Int} (hp : Prm p) (hf : Irr p f) (hg : Can p g) (h0 : g ≠ []) (hl : g.length < f.length) (hd : IsG p d f g) : d = [1] := by
  have hf0 : f ≠ [] := fun e => by have := hf.2.1; rw [e] at this; simp at this
  obtain ⟨s, _, s2, s3, _, s5⟩ := hd.r.length hp hd.mon.1 hg h0
  have a1 := List.length_pos_iff.mpr s2
  have a2 := List.length_pos_iff.mpr s3
  refine di_unit hd.mon ?_
  refine Decidable.byContradiction fun hc => ?_
  exact hf.2.2 d hd.mon.1 (by omega) (by omega) hd.l

end Go.Proofs.Ytpfkhodiegkigaa.Po

namespace Go.Proofs.Ytpfkhodiegkigaa.Po
open Pr Rs Dd

-- Powers.
theorem pwl_cg {p : Int} {a b : List Int} (h : Cg p a b) : ∀ n, Cg p (pwl a n) (pwl b n) := by
  intro n
  induction n with
  | zero => exact Cg.refl _ _
  | succ n ih => exact h.mul ih

theorem pwl_times {p : Int} (a b : List Int) : ∀ n, Cg p (pwl (mul a b) n) (mul (pwl a n) (pwl b n)) := by
  intro n
  induction n with
  | zero => exact Cg.of_eq fun i => (one_mul [1] i).symm
  | succ n ih =>
    refine (Cg.mul_right (mul a b) ih).trans (Cg.of_eq fun i => ?_)
    show c (mul (mul a b) (mul (pwl a n) (pwl b n))) i = c (mul (mul a (pwl a n)) (mul b (pwl b n))) i
    rw [mul_assoc, mul_assoc]
    refine congr_mul_right a (fun j => ?_) i
    rw [← mul_assoc, ← mul_assoc, mul_comm (mul b (pwl a n)), mul_comm (mul (pwl a n) b)]
    exact congr_mul_right _ (mul_comm b (pwl a n)) j

theorem add_mul_c (f g h : List Int) (i : Nat) : c (mul (add f g) h) i = c (mul f h) i + c (mul g h) i := add_mul f g h i

/-- The first terms of 1 and g, so often multiplied. -/
def bsl (g : List Int) (n : Nat) : Nat → List Int
  | 0 => []
  | j + 1 => add (bsl g n j) (sc (ch n j : Nat) (pwl g j))

theorem bsl_c (g : List Int) (n j i : Nat) : c (bsl g n (j + 1)) i = c (bsl g n j) i + (ch n j : Nat) * c (pwl g j) i := by
  rw [bsl, c_add, c_sc]

theorem bsl_mul (g : List Int) (n j i : Nat) : c (mul g (bsl g n (j + 1))) i = c (mul g (bsl g n j)) i + (ch n j : Nat) * c (pwl g (j + 1)) i := by
  rw [bsl, mul_add, mul_sc]
  rfl

theorem bsl_step (g : List Int) (n : Nat) : ∀ j i, c (bsl g (n + 1) (j + 1)) i = c (bsl g n (j + 1)) i + c (mul g (bsl g n j)) i := by
  intro j
  induction j with
  | zero =>
    intro i
    rw [bsl_c, bsl_c, ch_zero, ch_zero]
    show c [] i + _ = c [] i + _ + c (mul g []) i
    rw [c_mul_nil_right, Int.add_zero]
  | succ j ih =>
    intro i
    rw [bsl_c, ih, bsl_c g n (j + 1), bsl_mul, show ch (n + 1) (j + 1) = ch n j + ch n (j + 1) from rfl, Int.natCast_add, Int.add_mul]
    omega

theorem bsl_all (g : List Int) : ∀ n i, c (pwl (add [1] g) n) i = c (bsl g n (n + 1)) i := by
  intro n
  induction n with
  | zero =>
    intro i
    rw [bsl_c, ch_zero]
    show c [1] i = c [] i + ((1 : Nat) : Int) * c [1] i
    rw [c_nil]
    omega
  | succ n ih =>
    intro i
    show c (mul (add [1] g) (pwl (add [1] g) n)) i = _
    rw [add_mul, one_mul, congr_mul_right g ih i, ih i, bsl_step, bsl_c g n (n + 1), ch_big n (n + 1) (by omega)]
    simp

/-- FROBENIUS: 1 and g, multiplied q times. -/
theorem fresh_one {q : Nat} (hp : Prm q) (g : List Int) : Cg q (pwl (add [1] g) q) (add [1] (pwl g q)) := by
  have p2 := hp.1
  have h : ∀ j, 1 ≤ j → j ≤ q → ∀ i, (q : Int) ∣ c (bsl g q j) i - c [1] i := by
    intro j
    induction j with
    | zero => intro h; omega
    | succ j ih =>
      intro _ hj i
      rw [bsl_c]
      by_cases e : j = 0
      · subst e
        rw [ch_zero]
        show (q : Int) ∣ c [] i + ((1 : Nat) : Int) * c [1] i - c [1] i
        rw [c_nil, show 0 + ((1 : Nat) : Int) * c [1] i - c [1] i = 0 by omega]
        exact Int.dvd_zero _
      · have h1 := ih (by omega) (by omega) i
        have h2 := Int.dvd_mul_of_dvd_left (c := c (pwl g j) i) (prm_dvd_ch hp (k := j) (by omega) (by omega))
        have := Int.dvd_add h1 h2
        rwa [show c (bsl g q j) i - c [1] i + (ch q j : Nat) * c (pwl g j) i = c (bsl g q j) i + (ch q j : Nat) * c (pwl g j) i - c [1] i by omega] at this
  intro i
  rw [bsl_all, bsl_c, ch_self, c_add]
  have := h q (by omega) (Nat.le_refl _) i
  rwa [show c (bsl g q q) i + ((1 : Nat) : Int) * c (pwl g q) i - (c [1] i + c (pwl g q) i) = c (bsl g q q) i - c [1] i by omega]

theorem c_one_add (a : Int) (g : List Int) (i : Nat) : c (add [1] (add [a] g)) i = c (add [1 + a] g) i := by
  rw [c_add, c_add, c_add]
  cases i with
  | zero => rw [c_zero, c_zero, c_zero]; omega
  | succ i => rw [c_succ, c_succ, c_succ, c_nil]; omega

theorem fresh {q : Nat} (hp : Prm q) (g : List Int) (a : Nat) : Cg q (pwl (add [(a : Int)] g) q) (add [(a : Int)] (pwl g q)) := by
  induction a with
  | zero =>
    have e : ∀ h : List Int, Cg (q : Int) (add [((0 : Nat) : Int)] h) h := fun h => Cg.of_eq fun i => by
      rw [c_add]
      cases i with
      | zero => rw [c_zero]; omega
      | succ i => rw [c_succ, c_nil]; omega
    exact (pwl_cg (e g) q).trans (e _).symm
  | succ a ih =>
    have e : ((a + 1 : Nat) : Int) = 1 + (a : Int) := by omega
    rw [e]
    have h1 : Cg (q : Int) (add [1 + (a : Int)] g) (add [1] (add [(a : Int)] g)) := Cg.of_eq fun i => (c_one_add a g i).symm
    refine (pwl_cg h1 q).trans ((fresh_one hp _).trans (((Cg.refl _ _).add ih).trans (Cg.of_eq fun i => ?_)))
    exact c_one_add a _ i

/-- x. -/
def xx : List Int := [0, 1]
theorem xx_mul (h : List Int) (i : Nat) : c (mul xx h) i = pre (c h) i := by
  rw [xx, sh_mul]
  cases i with
  | zero => rfl
  | succ i => exact one_mul h i

/-- h at x to the m. -/
def up (m : Nat) : List Int → List Int
  | [] => []
  | a :: h => add [a] (mul (pwl xx m) (up m h))

/-- A q-th power is what x to the q makes. -/
theorem pwl_up {q : Nat} (hp : Prm q) : ∀ h : List Int, (∀ a ∈ h, 0 ≤ a ∧ a < q) → Cg q (pwl h q) (up q h) := by
  have p2 := hp.1
  intro h
  induction h with
  | nil =>
    intro _
    obtain ⟨m, rfl⟩ : ∃ m, q = m + 1 := ⟨q - 1, by omega⟩
    exact Cg.of_eq fun i => rfl
  | cons a h ih =>
    intro hb
    have ha := hb a List.mem_cons_self
    obtain ⟨a, rfl⟩ : ∃ n : Nat, a = n := ⟨a.toNat, by omega⟩
    have e : Cg (q : Int) ((a : Int) :: h) (add [(a : Int)] (mul xx h)) := Cg.of_eq fun i => by
      rw [c_add, xx_mul]
      cases i with
      | zero => rw [c_zero, c_zero]; show (a : Int) = a + 0; omega
      | succ i => rw [c_succ, c_succ, c_nil]; show c h i = 0 + c h i; omega
    refine (pwl_cg e q).trans ((fresh hp _ a).trans ((Cg.refl _ _).add ?_))
    exact (pwl_times xx h q).trans (Cg.mul_right _ (ih fun b hb2 => hb b (List.mem_cons_of_mem _ hb2)))

theorem pwl_xx : ∀ m i, c (pwl xx m) i = if i = m then 1 else 0 := by
  intro m
  induction m with
  | zero =>
    intro i
    show c [1] i = _
    cases i with
    | zero => rfl
    | succ i => rw [c_succ, c_nil, if_neg (by omega)]
  | succ m ih =>
    intro i
    show c (mul xx (pwl xx m)) i = _
    rw [xx_mul]
    cases i with
    | zero => rw [if_neg (by omega)]; rfl
    | succ i =>
      show c (pwl xx m) i = _
      rw [ih]
      by_cases h : i = m
      · rw [if_pos h, if_pos (by omega)]
      · rw [if_neg h, if_neg (by omega)]

/-- Once more by x, less so often f. -/
theorem shift_cf {p : Int} {f h h' : List Int} {d : Nat} (hf : Mo p d f) (hl : h.length = d) (hd : 1 ≤ d) (hl' : h'.length = d) (he : ∀ i, i < d → c h' i = (pre (c h) i + (p - c h (d - 1)) * c f i) % p) : Cf p f (mul xx h) h' := by
  have h1 : Cg p h' (add (mul xx h) (mul [- c h (d - 1)] f)) := fun i => by
    rw [c_add, xx_mul, one_c]
    by_cases hi : i < d
    · rw [he i hi]
      have e := Int.mul_ediv_add_emod (pre (c h) i + (p - c h (d - 1)) * c f i) p
      refine ⟨c f i - (pre (c h) i + (p - c h (d - 1)) * c f i) / p, ?_⟩
      rw [Int.mul_sub]
      rw [Int.sub_mul] at e ⊢
      rw [Int.neg_mul]
      omega
    · rw [c_over (f := h') (by omega)]
      by_cases hid : i = d
      · subst hid
        obtain ⟨j, rfl⟩ : ∃ j, i = j + 1 := ⟨i - 1, by omega⟩
        rw [hf.2.2, Nat.add_sub_cancel]
        show p ∣ 0 - (c h j + - c h j * 1)
        rw [show 0 - (c h j + - c h j * 1) = 0 by omega]
        exact Int.dvd_zero _
      · obtain ⟨j, rfl⟩ : ∃ j, i = j + 1 := ⟨i - 1, by omega⟩
        rw [c_over (f := f) (by rw [hf.2.1]; omega)]
        show p ∣ 0 - (c h j + _ * 0)
        rw [c_over (f := h) (by omega)]
        simp
  refine Cf.trans ?_ (cf_of h1.symm)
  refine ⟨[c h (d - 1)], Cg.of_eq fun i => ?_⟩
  have e := Int.neg_mul (c h (d - 1)) (c f i)
  rw [one_c, c_add, c_sc, c_add, one_c]
  omega

/-- What divides f as one with the same greatest divisor. -/
theorem IsG.alike {p : Int} {d f g g' : List Int} (h : IsG p d f g) (k : Cf p f g g') : IsG p d f g' := by
  obtain ⟨u, v, hb⟩ := h.bez
  obtain ⟨s, hs⟩ := k
  refine ⟨h.mon, h.l, ?_, ⟨add u (mul v s), v, ?_⟩⟩
  · have h1 : Di p d (add g (mul [-1] (mul s f))) := h.r.add ((h.l.times s).times [-1])
    refine h1.cg fun i => ?_
    have := hs i
    rw [c_add, c_sc] at this
    rw [c_add, one_c]
    have := Int.dvd_neg.mpr this
    rwa [show -(c (mul s f) i - (c g i + -1 * c g' i)) = c g i + -1 * c (mul s f) i - c g' i by omega] at this
  · refine Cg.trans ?_ hb
    have h1 : Cg p (mul v (mul s f)) (mul v (add g (sc (-1) g'))) := Cg.mul_right v hs
    intro i
    have := h1 i
    rw [mul_add, mul_sc] at this
    rw [c_add, c_add, add_mul, mul_assoc]
    rwa [show c (mul u f) i + c (mul v (mul s f)) i + c (mul v g') i - (c (mul u f) i + c (mul v g) i) = c (mul v (mul s f)) i - (c (mul v g) i + -1 * c (mul v g') i) by omega]

/-- x to the q to the i, less x. -/
def fx (q i : Nat) : List Int := add (pwl xx (q ^ i)) [0, -1]
theorem fx_cf (p : Int) (f : List Int) (q i : Nat) : Cf p f (fx q i) [] ↔ Cf p f (pwl xx (q ^ i)) xx := by
  have e : Cg p (add (fx q i) (sc (-1) [])) (add (pwl xx (q ^ i)) (sc (-1) xx)) := Cg.of_eq fun j => by
    unfold fx xx
    rw [c_add, c_add, c_add, c_sc, c_sc, c_nil]
    match j with
    | 0 => rw [c_zero, c_zero]; omega
    | 1 => rw [c_succ, c_succ, c_zero, c_zero]; omega
    | j + 2 => rw [c_succ, c_succ, c_succ, c_succ, c_nil]; omega
  exact ⟨fun h => Di.cg h e, fun h => Di.cg h e.symm⟩
theorem fx_di {p : Int} {f : List Int} {q i : Nat} : Di p f (fx q i) ↔ Cf p f (pwl xx (q ^ i)) xx := by
  rw [← fx_cf]
  have e : Cg p (add (fx q i) (sc (-1) [])) (fx q i) := Cg.of_eq fun j => by rw [c_add, c_sc, c_nil]; omega
  exact ⟨fun h => Di.cg h e.symm, fun h => Di.cg h e⟩

theorem fx_c {q i : Nat} (hq : 2 ≤ q) (hi : 1 ≤ i) : c (fx q i) (q ^ i) = 1 ∧ ∀ j, q ^ i < j → c (fx q i) j = 0 := by
  have h2 : 2 ≤ q ^ i := by
    have := Nat.pow_le_pow_right (n := q) (by omega) hi
    rw [Nat.pow_one] at this
    omega
  constructor
  · unfold fx
    rw [c_add, pwl_xx, if_pos rfl, c_over (by show 2 ≤ _; omega)]
    omega
  · intro j hj
    unfold fx
    rw [c_add, pwl_xx, if_neg (by omega), c_over (by show 2 ≤ _; omega)]
    omega

/-- Irreducible ones that divide it: those whose degree divides i. -/
theorem fx_all {q d i : Nat} {P : List Int} (hp : Prm q) (hP : Irr q P) (hl : P.length = d + 1) (hd : d ∣ i) (hi : 1 ≤ i) : Di q P (fx q i) := by
  have p2 := hp.1
  rw [fx_di]
  by_cases hx : Di q P xx
  · obtain ⟨m, hm⟩ : ∃ m, q ^ i = m + 1 := ⟨q ^ i - 1, by have := Nat.pow_pos (n := i) (show 0 < q by omega); omega⟩
    rw [hm]
    have h1 : Di q P (pwl xx (m + 1)) := (hx.times (pwl xx m)).cg (Cg.comm _ _ _)
    refine (h1.add (hx.times [-1])).cg (Cg.of_eq fun j => ?_)
    rw [c_add, c_add, one_c, c_sc]
  · obtain ⟨k, rfl⟩ := hd
    have hf := frob hp hP hl hx
    have : ∀ k, Cf q P (pwl xx (q ^ (d * k))) xx := by
      intro k
      induction k with
      | zero =>
        refine cf_of (Cg.of_eq fun j => ?_)
        show c (mul xx [1]) j = _
        rw [mul_comm]
        exact one_mul xx j
      | succ k ih =>
        rw [Nat.mul_succ, Nat.pow_add, Nat.mul_comm]
        exact (cf_of (pwl_mul xx (q ^ d) (q ^ (d * k))).symm).trans ((pwl_cf hf _).trans ih)
    exact this k

/-- All that irreducible ones make, if they divide what is not nought. -/
theorem many_deg {p : Int} (hp : Prm p) : ∀ (L : List (List Int)), L.Nodup → (∀ P ∈ L, Irr p P ∧ Mon p P) → ∀ W, Can p W → W ≠ [] → (∀ P ∈ L, Di p P W) → ((L.map fun P => P.length - 1).sum) + 1 ≤ W.length := by
  intro L
  induction L with
  | nil => intro _ _ W _ h _; have := List.length_pos_iff.mpr h; simp; omega
  | cons P L ih =>
    intro hn hL W hW h0 hd
    rw [List.nodup_cons] at hn
    obtain ⟨hP, mP⟩ := hL P List.mem_cons_self
    obtain ⟨s, s1, s2, _, s4, s5⟩ := (hd P List.mem_cons_self).length hp hP.1 hW h0
    have h1 := ih hn.2 (fun Q hQ => hL Q (List.mem_cons_of_mem _ hQ)) s s1 s2 fun Q hQ => by
      obtain ⟨iQ, mQ⟩ := hL Q (List.mem_cons_of_mem _ hQ)
      have h2 : Di p Q (mul s P) := (hd Q (List.mem_cons_of_mem _ hQ)).cg s4.symm
      rcases irr_euclid hp iQ h2 with h3 | h3
      · exact h3
      · exact absurd (irr_same hp iQ hP mQ mP h3) fun e => hn.1 (e ▸ hQ)
    have := hP.2.1
    simp only [List.map_cons, List.sum_cons]
    omega

theorem sum_sm (F : Nat → Nat) (l : List Nat) : (((l.map F).sum : Nat) : Int) = sm (fun x => (F x : Int)) l := by
  induction l with
  | nil => rfl
  | cons x l ih => simp only [List.map_cons, List.sum_cons, sm, Int.natCast_add, ih]

/-- No other one divides it. -/
theorem fx_not {q n i : Nat} {f : List Int} (hp : Prm q) (hf : Irr q f) (mf : Mo q n f) (hi : 1 ≤ i) (hn : ¬ n ∣ i) : ¬ Di q f (fx q i) := by
  intro hd
  have p2 := hp.1
  have hN : ((dv i).flatMap fun d => (ir q d).map (mo q d)).Nodup := by
    unfold List.Nodup
    rw [List.pairwise_flatMap]
    refine ⟨fun d _ => ?_, ?_⟩
    · rw [List.pairwise_map]
      exact (ir_nodup q d).imp_of_mem fun {x y} hx hy hne he => hne (mo_inj (mem_ir.mp hx).1 (mem_ir.mp hy).1 he)
    · refine (dv_lt i).imp fun {a b} hab => ?_
      rintro P h1 _ h2 rfl
      obtain ⟨x, _, rfl⟩ := List.mem_map.mp h1
      obtain ⟨y, _, hy⟩ := List.mem_map.mp h2
      have e1 := (mo_is hp a x).2.1
      have e2 := (mo_is hp b y).2.1
      rw [hy] at e2
      omega
  have hmem : ∀ P ∈ (dv i).flatMap fun d => (ir q d).map (mo q d), ∃ d, d ∣ i ∧ Irr q P ∧ Mo q d P := fun P hP => by
    obtain ⟨d, h1, h2⟩ := List.mem_flatMap.mp hP
    obtain ⟨x, h3, rfl⟩ := List.mem_map.mp h2
    exact ⟨d, ((mem_dv hi).mp h1).2, (mem_ir.mp h3).2, mo_is hp d x⟩
  have hW0 : red q (fx q i) ≠ [] := fun e => by
    have := c_red q (fx q i) (q ^ i)
    rw [e, (fx_c (by omega) hi).1, c_nil, Int.emod_eq_of_lt (by omega) (by omega)] at this
    omega
  have hWl : (red q (fx q i)).length ≤ q ^ i + 1 := by
    refine Decidable.byContradiction fun hc => ?_
    have h1 := (can_red (p := (q : Int)) (by omega) (fx q i)).2 hW0
    rw [c_red, (fx_c (by omega) hi).2 _ (by omega), Int.zero_emod] at h1
    exact h1 rfl
  have h1 := many_deg hp (f :: (dv i).flatMap fun d => (ir q d).map (mo q d)) (List.nodup_cons.mpr ⟨fun h => by
      obtain ⟨d, h1, _, h3⟩ := hmem f h
      have e1 := h3.2.1
      have e2 := mf.2.1
      exact hn ((show d = n by omega) ▸ h1), hN⟩) (fun P hP => by
      rcases List.mem_cons.mp hP with rfl | hP
      · exact ⟨hf, mf.mon⟩
      · obtain ⟨d, _, h2, h3⟩ := hmem P hP
        exact ⟨h2, h3.mon⟩) (red q (fx q i)) (can_red (by omega) _) hW0 fun P hP => by
      refine Di.cg ?_ (cg_red _ _).symm
      rcases List.mem_cons.mp hP with rfl | hP
      · exact hd
      · obtain ⟨d, h1, h2, h3⟩ := hmem P hP
        exact fx_all hp h2 h3.2.1 h1 hi
  rw [List.map_cons, List.sum_cons] at h1
  have h2 : ((((dv i).flatMap fun d => (ir q d).map (mo q d)).map fun P => P.length - 1).sum : Nat) = ((q ^ i : Nat) : Int) := by
    rw [← gauss_many hp hi]
    generalize dv i = l
    induction l with
    | nil => rfl
    | cons d l ih =>
      rw [List.flatMap_cons, List.map_append, List.sum_append, Int.natCast_add, ih]
      simp only [sm]
      congr 1
      rw [List.map_map, sum_sm]
      have : sm (fun x => ((((fun P => P.length - 1) ∘ mo q d) x : Nat) : Int)) (ir q d) = sm (fun _ => (d : Int)) (ir q d) := sm_congr fun x _ => by
        show (((mo q d x).length - 1 : Nat) : Int) = d
        rw [(mo_is hp d x).2.1, Nat.add_sub_cancel]
      rw [this]
      clear ih this
      generalize ir q d = k
      induction k with
      | nil => simp [sm]
      | cons x k ih => rw [sm, ih, List.length_cons, Int.natCast_add, Int.mul_add]; omega
  have h3 := mf.2.1
  have h4 := hf.2.1
  omega

/-- RABIN: nothing in common. -/
theorem rabin_yes {q n i : Nat} {f g d : List Int} (hp : Prm q) (hf : Irr q f) (mf : Mo q n f) (hi : 1 ≤ i) (hn : i < n) (hg : Cf q f (fx q i) g) (hd : IsG q d f g) : d.length = 1 := by
  have hf0 := mf.ne
  obtain ⟨s, s1, s2, s3, s4, s5⟩ := hd.l.length hp hd.mon.1 hf.1 hf0
  have a1 := List.length_pos_iff.mpr s2
  have a2 := List.length_pos_iff.mpr s3
  refine Decidable.byContradiction fun hc => ?_
  by_cases h : d.length < f.length
  · exact hf.2.2 d hd.mon.1 (by omega) h hd.l
  · have h1 := hd.l.back hp hd.mon.1 hf.1 hf0 (by omega)
    have h2 : Di q f g := h1.trans hd.r
    refine fx_not hp hf mf hi (fun hdv => by have := Nat.le_of_dvd (by omega) hdv; omega) ?_
    have h3 := Di.add hg h2
    refine h3.cg (Cg.of_eq fun j => ?_)
    rw [c_add, c_add, c_sc]
    omega

/-- RABIN: something in common. -/
theorem rabin_no {q n : Nat} {f : List Int} (hp : Prm q) (mf : Mo q n f) (hn : 1 ≤ n) (hf : ¬ Irr q f) : ∃ i, 1 ≤ i ∧ 2 * i ≤ n ∧ ∀ g d, Cf q f (fx q i) g → IsG q d f g → 2 ≤ d.length := by
  have hl := mf.2.1
  rw [irr_trial hp mf.1 (by omega)] at hf
  have : ∃ m g, 1 ≤ m ∧ 2 * m ≤ f.length - 1 ∧ Mo q m g ∧ Di q g f := by
    refine Classical.byContradiction fun hc => hf fun m g h1 h2 h3 h4 => hc ⟨m, g, h1, h2, h3, h4⟩
  obtain ⟨m, g, h1, h2, h3, h4⟩ := this
  obtain ⟨P, p1, p2, p3⟩ := irr_some hp g.length g (Nat.le_refl _) h3.1 (by rw [h3.2.1]; omega)
  have hP0 : P ≠ [] := fun e => by have := p1.2.1; rw [e] at this; simp at this
  obtain ⟨s, _, s2, _, _, s5⟩ := p3.length hp p1.1 h3.1 h3.ne
  have a1 := List.length_pos_iff.mpr s2
  have a2 := p1.2.1
  have a3 := h3.2.1
  refine ⟨P.length - 1, by omega, by omega, fun g2 d hg hd => ?_⟩
  have q1 : Di q P (fx q (P.length - 1)) := fx_all hp p1 (by omega) (Nat.dvd_refl _) (by omega)
  have q2 : Di q P f := p3.trans h4
  have q3 : Di q P g2 := by
    have h5 := (q1.add ((q2.trans hg).times [-1]))
    refine h5.cg (Cg.of_eq fun j => ?_)
    rw [c_add, one_c, c_add, c_sc]
    omega
  have q4 := hd.great q2 q3
  have d0 : d ≠ [] := fun e => by
    have := hd.l
    rw [e] at this
    obtain ⟨_, _, _, h, _⟩ := this.length hp (Can.nil _) mf.1 mf.ne
    exact h rfl
  obtain ⟨t, _, t2, _, _, t5⟩ := q4.length hp p1.1 hd.mon.1 d0
  have := List.length_pos_iff.mpr t2
  omega

/-- Made monic, it is so as it was. -/
theorem irr_both {p : Int} {f g : List Int} (hp : Prm p) (hf : Can p f) (hg : Can p g) (hl : f.length = g.length) (h : Di p f g) : Irr p f ↔ Irr p g := by
  by_cases h0 : g = []
  · subst h0
    have : f = [] := List.length_eq_zero_iff.mp (by simpa using hl)
    rw [this]
  · have hb := h.back hp hf hg h0 hl
    exact ⟨fun ⟨_, k2, k3⟩ => ⟨hg, by omega, fun e h1 h2 h3 h4 => k3 e h1 h2 (by omega) (h4.trans hb)⟩, fun ⟨_, k2, k3⟩ => ⟨hf, by omega, fun e h1 h2 h3 h4 => k3 e h1 h2 (by omega) (h4.trans h)⟩⟩

end Go.Proofs.Ytpfkhodiegkigaa.Po
