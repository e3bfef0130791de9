/-
  Polynomials that are no products of smaller ones: EUCLID's lemma, trial by monic ones of half the degree, powers. No Go in sight.
-/
import Derived.Test.YtimehaolaeedhaaGpa
import Derived.Test.YtimehaolaeedhaaGpb
namespace Go.Proofs.Ytimehaolaeedhaa.Po
open Pr Rs

/-- Nothing of two numbers or more divides it, but what has as many. -/
def Irr (p : Int) (f : List Int) : Prop := Can p f ∧ 2 ≤ f.length ∧ ∀ g, Can p g → 2 ≤ g.length → g.length < f.length → ¬ Di p g f

/-- Of degree n, with 1 at the end. -/
def Mo (p : Int) (n : Nat) (f : List Int) : Prop := Can p f ∧ f.length = n + 1 ∧ c f n = 1

theorem Mo.mon {p : Int} {n : Nat} {f : List Int} (h : Mo p n f) : Mon p f := ⟨h.1, fun _ => by rw [h.2.1]; exact h.2.2⟩
theorem Mo.ne {p : Int} {n : Nat} {f : List Int} (h : Mo p n f) : f ≠ [] := fun e => by have := h.2.1; rw [e] at this; simp at this
theorem mon_mo {p : Int} {f : List Int} (h : Mon p f) (h0 : f ≠ []) : Mo p (f.length - 1) f := by
  have := List.length_pos_iff.mpr h0
  exact ⟨h.1, by omega, h.2 h0⟩

/-- What divides and has as many numbers is divided, too. -/
theorem Di.back {p : Int} {d f : List Int} (hp : Prm p) (hd : Can p d) (hf : Can p f) (h0 : f ≠ []) (h : Di p d f) (hl : d.length = f.length) : Di p f d := by
  obtain ⟨q, q1, q2, q3, q4, q5⟩ := h.length hp hd hf h0
  have a1 := List.length_pos_iff.mpr q2
  have a2 := List.length_pos_iff.mpr q3
  have hq : q.length = 1 := by omega
  match q, hq with
  | [t], _ =>
    have ht := q1.1 t List.mem_cons_self
    have ht0 : t ≠ 0 := q1.2 (by simp)
    have hnd : ¬ p ∣ t := fun hd => by have := Int.le_of_dvd (by omega) hd; omega
    obtain ⟨b, _, _, hb⟩ := inv_some hp hnd
    refine ⟨[b], fun i => ?_⟩
    have h1 := q4 i
    rw [one_c] at h1 ⊢
    have h2 := Int.dvd_mul_of_dvd_right (b := b) h1
    have h3 := Int.dvd_mul_of_dvd_left (c := c d i) hb
    have := Int.dvd_sub h3 h2
    rwa [show (b * t - 1) * c d i - b * (t * c d i - c f i) = b * c f i - c d i by grind] at this

/-- Made monic. -/
theorem monic_of {p : Int} {g : List Int} (hp : Prm p) (hg : Can p g) (h0 : g ≠ []) : ∃ d, Mo p (g.length - 1) d ∧ Di p d g ∧ Di p g d := by
  obtain ⟨v, v1, v2, hv⟩ := last_inv hp hg h0
  have h1 := isG_mon hp hg h0 v1 v2 hv
  have h2 := mon_len hp hg h0 v1 v2
  have hne : red p (mul [v] g) ≠ [] := fun e => by
    rw [e] at h2
    have := List.length_pos_iff.mpr h0
    simp at h2
    omega
  refine ⟨red p (mul [v] g), ?_, h1.l, h1.l.back hp h1.mon.1 hg h0 h2⟩
  have := mon_mo h1.mon hne
  rwa [h2] at this

/-- The other one of two that make a monic one. -/
theorem Mo.other {p : Int} {m n : Nat} {g f : List Int} (hp : Prm p) (hg : Mo p m g) (hf : Mo p n f) (h : Di p g f) : ∃ q, Mo p (n - m) q ∧ Cg p (mul q g) f ∧ m ≤ n := by
  obtain ⟨q, q1, q2, _, q4, q5⟩ := h.length hp hg.1 hf.1 hf.ne
  have a1 := List.length_pos_iff.mpr q2
  have hl := hg.2.1
  have hl2 := hf.2.1
  refine ⟨q, ⟨q1, by omega, ?_⟩, q4, by omega⟩
  have h1 := mul_last (q.length - 1) q g m (by omega) hl
  have h2 := q4 (q.length - 1 + m)
  rw [h1, hg.2.2, Int.mul_one, show q.length - 1 + m = n by omega, hf.2.2, show q.length - 1 = n - m by omega] at h2
  have h3 := q1.bound (by have := hp.1; omega) (n - m)
  have p2 := hp.1
  obtain ⟨k, hk⟩ := h2
  have : k = 0 := by
    refine Decidable.byContradiction fun hc => ?_
    rcases Int.lt_or_gt_of_ne hc with h | h
    · have : p * k ≤ p * (-1) := Int.mul_le_mul_of_nonneg_left (by omega) (by omega)
      omega
    · have : p * 1 ≤ p * k := Int.mul_le_mul_of_nonneg_left (by omega) (by omega)
      omega
  subst this
  omega

/-- Two monic ones, multiplied. -/
theorem Mo.times {p : Int} {m n : Nat} {g f : List Int} (hp : Prm p) (hf : Mo p n f) (hg : Mo p m g) : Mo p (n + m) (red p (mul f g)) := by
  have p2 := hp.1
  have hl := red_mul_length hp hf.1 hg.1 hf.ne hg.ne
  rw [hf.2.1, hg.2.1] at hl
  refine ⟨can_red (by omega) _, by omega, ?_⟩
  rw [c_red, mul_last n f g m hf.2.1 hg.2.1, hf.2.2, hg.2.2]
  exact Int.emod_eq_of_lt (by omega) (by omega)

theorem mo_one {p : Int} (hp : Prm p) : Mo p 0 [1] := by
  have p2 := hp.1
  exact ⟨can_one (by omega) (by omega), rfl, rfl⟩

theorem mo_zero {p : Int} {f : List Int} (h : Mo p 0 f) : f = [1] := by
  match f, h.2.1, h.2.2 with
  | [a], _, h2 => have : a = 1 := h2; rw [this]

/-- Trial by monic ones of half the degree, at most. -/
theorem irr_trial {p : Int} {f : List Int} (hp : Prm p) (hf : Can p f) (hl : 2 ≤ f.length) : Irr p f ↔ ∀ m g, 1 ≤ m → 2 * m ≤ f.length - 1 → Mo p m g → ¬ Di p g f := by
  have h0 : f ≠ [] := fun e => by rw [e] at hl; simp at hl
  constructor
  · intro h m g h1 h2 hg
    exact h.2.2 g hg.1 (by rw [hg.2.1]; omega) (by rw [hg.2.1]; omega)
  · refine fun h => ⟨hf, hl, fun g hg h2 h3 hd => ?_⟩
    obtain ⟨q, q1, q2, q3, q4, q5⟩ := hd.length hp hg hf h0
    by_cases hh : 2 * (g.length - 1) ≤ f.length - 1
    · obtain ⟨d, d1, d2, _⟩ := monic_of hp hg q3
      exact h _ d (by omega) hh d1 (d2.trans hd)
    · obtain ⟨d, d1, d2, _⟩ := monic_of hp q1 q2
      have hq : Di p q f := ⟨g, (Cg.comm p g q).trans q4⟩
      exact h _ d (by omega) (by omega) d1 (d2.trans hq)

theorem di_unit {p : Int} {d : List Int} (hd : Mon p d) (hl : d.length = 1) : d = [1] := by
  have h0 : d ≠ [] := fun e => by rw [e] at hl; simp at hl
  have := mon_mo hd h0
  rw [hl] at this
  exact mo_zero this

/-- EUCLID's lemma. -/
theorem irr_euclid {p : Int} {P a b : List Int} (hp : Prm p) (hP : Irr p P) (h : Di p P (mul a b)) : Di p P a ∨ Di p P b := by
  have p2 := hp.1
  have hP0 : P ≠ [] := fun e => by have := hP.2.1; rw [e] at this; simp at this
  obtain ⟨d, hd⟩ := isG_some hp (red p a).length P (red p a) (Nat.le_refl _) hP.1 (can_red (by omega) a)
  obtain ⟨q, q1, q2, q3, q4, q5⟩ := hd.l.length hp hd.mon.1 hP.1 hP0
  have a1 := List.length_pos_iff.mpr q2
  have a2 := List.length_pos_iff.mpr q3
  by_cases h1 : d.length = 1
  · refine .inr ?_
    have e := di_unit hd.mon h1
    subst e
    obtain ⟨u, v, hb⟩ := hd.bez
    have g1 : Di p P (mul (mul u P) b) := (((Di.self p P).times u).times b).cg (Cg.comm p b (mul u P))
    have g2 : Di p P (mul (mul v (red p a)) b) := by
      refine (h.times v).cg ((Cg.of_eq fun i => (mul_assoc v a b i).symm).trans ?_)
      exact (Cg.mul_right v (cg_red p a).symm).mul (Cg.refl p b)
    refine (g1.add g2).cg ((Cg.of_eq fun i => ?_).trans ((hb.mul (Cg.refl p b)).trans (Cg.of_eq (one_mul b))))
    rw [c_add, add_mul]
  · by_cases h2 : d.length < P.length
    · exact absurd hd.l (hP.2.2 d hd.mon.1 (by omega) h2)
    · have h3 := hd.l.back hp hd.mon.1 hP.1 hP0 (by omega)
      exact .inl ((h3.trans hd.r).cg (cg_red p a))

/-- There is one that divides. -/
theorem irr_some {p : Int} (hp : Prm p) : ∀ (n : Nat) (f : List Int), f.length ≤ n → Can p f → 2 ≤ f.length → ∃ P, Irr p P ∧ Mon p P ∧ Di p P f := by
  intro n
  induction n with
  | zero => intro f h _ h2; omega
  | succ n ih =>
    intro f hn hf hl
    have h0 : f ≠ [] := fun e => by rw [e] at hl; simp at hl
    by_cases hI : Irr p f
    · obtain ⟨d, d1, d2, d3⟩ := monic_of hp hf h0
      refine ⟨d, ⟨d1.1, by rw [d1.2.1]; omega, fun g hg h2 h3 hd => hI.2.2 g hg h2 (by rw [d1.2.1] at h3; omega) (hd.trans d2)⟩, d1.mon, d2⟩
    · have : ∃ g, Can p g ∧ 2 ≤ g.length ∧ g.length < f.length ∧ Di p g f := by
        refine Classical.byContradiction fun hc => hI ⟨hf, hl, fun g hg h2 h3 hd => hc ⟨g, hg, h2, h3, hd⟩⟩
      obtain ⟨g, hg, h2, h3, hd⟩ := this
      obtain ⟨P, h4, h5, h6⟩ := ih g (by omega) hg h2
      exact ⟨P, h4, h5, h6.trans hd⟩

/-- Monic ones that divide one another are one: of two irreducible ones. -/
theorem irr_same {p : Int} {P Q : List Int} (hp : Prm p) (hP : Irr p P) (hQ : Irr p Q) (mP : Mon p P) (mQ : Mon p Q) (h : Di p P Q) : P = Q := by
  have hQ0 : Q ≠ [] := fun e => by have := hQ.2.1; rw [e] at this; simp at this
  obtain ⟨q, _, q2, q3, _, q5⟩ := h.length hp hP.1 hQ.1 hQ0
  have a1 := List.length_pos_iff.mpr q2
  have a2 := List.length_pos_iff.mpr q3
  have hl : P.length = Q.length := by
    refine Decidable.byContradiction fun hc => ?_
    exact hQ.2.2 P hP.1 hP.2.1 (by omega) h
  exact mon_uniq hp mP mQ h (h.back hp hP.1 hQ.1 hQ0 hl)

/-- So many times itself. -/
def pws (P : List Int) : Nat → List Int
  | 0 => [1]
  | k + 1 => mul P (pws P k)

theorem pws_mo {p : Int} {d : Nat} {P : List Int} (hp : Prm p) (hP : Mo p d P) : ∀ k, Mo p (k * d) (red p (pws P k)) := by
  have p2 := hp.1
  intro k
  induction k with
  | zero =>
    rw [Nat.zero_mul, show red p (pws P 0) = [1] from red_can (by omega) (mo_one hp).1]
    exact mo_one hp
  | succ k ih =>
    have h := hP.times hp ih
    rw [show d + k * d = (k + 1) * d by rw [Nat.succ_mul]; omega] at h
    have e : red p (mul P (red p (pws P k))) = red p (pws P (k + 1)) := red_cg (by omega) (Cg.mul_right P (cg_red p _))
    rwa [e] at h

theorem pws_less {p : Int} {P f : List Int} {k : Nat} (h : Di p (pws P (k + 1)) f) : Di p (pws P k) f := by
  refine Di.trans ⟨P, Cg.refl p _⟩ h

theorem congr_mul_right (f : List Int) {g h : List Int} (he : ∀ i, c g i = c h i) (i : Nat) : c (mul f g) i = c (mul f h) i := by
  induction f generalizing i with
  | nil => rfl
  | cons a f ih =>
    rw [c_mul, c_mul, he]
    cases i with
    | zero => rfl
    | succ i => show a * c h (i + 1) + c (mul f g) i = a * c h (i + 1) + c (mul f h) i; rw [ih]

/-- What is not nought may be struck on both sides. -/
theorem mul_cancel {p : Int} {a b g : List Int} (hp : Prm p) (hg : Can p g) (h0 : g ≠ []) (h : Cg p (mul a g) (mul b g)) : Cg p a b := by
  refine Classical.byContradiction fun hc => ?_
  have hn : ¬ ∀ i, p ∣ c (add a (sc (-1) b)) i := fun hall => hc fun i => by
    have := hall i
    rw [c_add, c_sc] at this
    rwa [show c a i - c b i = c a i + -1 * c b i by omega]
  obtain ⟨j, _, hj⟩ := mul_far hp hg h0 hn
  refine hj ?_
  have := h j
  rw [add_mul, sc_mul]
  rwa [show c (mul a g) j + -1 * c (mul b g) j = c (mul a g) j - c (mul b g) j by omega]

/-- Powers' quotients. -/
theorem pws_cancel {p : Int} {d : Nat} {P s t r : List Int} (hp : Prm p) (hP : Mo p d P) (k : Nat) (h : Cg p (mul t (mul r (pws P k))) (mul s (pws P k))) : Cg p (mul t r) s := by
  have hm := pws_mo hp hP k
  refine mul_cancel hp hm.1 hm.ne ?_
  have e := cg_red p (pws P k)
  refine (Cg.mul_right (mul t r) e).trans (Cg.trans (Cg.of_eq fun i => mul_assoc t r (pws P k) i) (h.trans (Cg.mul_right s e.symm)))

/-- A power of another one does not see it. -/
theorem pws_other {p : Int} {P Q g : List Int} (hp : Prm p) (hP : Irr p P) (hQ : Irr p Q) (mP : Mon p P) (mQ : Mon p Q) (hne : P ≠ Q) : ∀ k, Di p (pws P k) (mul g Q) → Di p (pws P k) g := by
  intro k
  have hP0 : P ≠ [] := fun e => by have := hP.2.1; rw [e] at this; simp at this
  induction k with
  | zero => intro _; exact ⟨g, Cg.of_eq fun i => by rw [mul_comm]; exact one_mul g i⟩
  | succ k ih =>
    intro h
    obtain ⟨s, hs⟩ := ih (pws_less h)
    obtain ⟨t, ht⟩ := h
    have h1 : Cg p (mul t (mul P (pws P k))) (mul (mul s Q) (pws P k)) := by
      refine ht.trans ((hs.symm.mul (Cg.refl p Q)).trans (Cg.of_eq fun i => ?_))
      rw [mul_assoc, mul_assoc]
      exact congr_mul_right s (mul_comm (pws P k) Q) i
    have h2 := pws_cancel hp (mon_mo mP hP0) k h1
    have h3 : Di p P (mul s Q) := ⟨t, h2⟩
    rcases irr_euclid hp hP h3 with h4 | h4
    · obtain ⟨r, hr⟩ := h4
      refine ⟨r, ?_⟩
      show Cg p (mul r (mul P (pws P k))) g
      exact ((Cg.of_eq fun i => (mul_assoc r P (pws P k) i).symm).trans (hr.mul (Cg.refl p _))).trans hs
    · exact absurd (irr_same hp hP hQ mP mQ h4) hne

/-- One of its own is seen. -/
theorem pws_own {p : Int} {Q g : List Int} {d : Nat} (hp : Prm p) (hQ : Mo p d Q) (k : Nat) : Di p (pws Q (k + 1)) (mul g Q) ↔ Di p (pws Q k) g := by
  constructor
  · rintro ⟨t, ht⟩
    refine ⟨t, ?_⟩
    refine mul_cancel hp hQ.1 hQ.ne ((Cg.of_eq fun i => ?_).trans ht)
    show c (mul (mul t (pws Q k)) Q) i = c (mul t (mul Q (pws Q k))) i
    rw [mul_assoc]
    exact congr_mul_right t (mul_comm (pws Q k) Q) i
  · rintro ⟨t, ht⟩
    refine ⟨t, (Cg.of_eq fun i => ?_).trans (ht.mul (Cg.refl p Q))⟩
    show c (mul t (mul Q (pws Q k))) i = c (mul (mul t (pws Q k)) Q) i
    rw [mul_assoc]
    exact congr_mul_right t (mul_comm Q (pws Q k)) i

end Go.Proofs.Ytimehaolaeedhaa.Po
