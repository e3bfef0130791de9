/-
  Polynomials: division with what is left, told of one way alone (EUCLID); divisors; the greatest common one (BEZOUT); roots (RUFFINI, LAGRANGE). No Go in sight.
-/
import Derived.Test.YtfdhhiibhkepaaaPoMath
import Derived.Test.YtfdhhiibhkepaaaRsMath
namespace Go.Proofs.Ytfdhhiibhkepaaa.Po
open Pr

theorem Cg.add_comm (p : Int) (f g : List Int) : Cg p (Po.add f g) (Po.add g f) := Cg.of_eq fun i => by rw [c_add, c_add, Int.add_comm]

theorem can_last {p : Int} {f : List Int} (hp : Prm p) (hf : Can p f) (h : f ≠ []) : ¬ p ∣ c f (f.length - 1) := by
  intro hd
  have p0 := hp.1
  have b := hf.bound (by omega) (f.length - 1)
  have := Int.le_of_dvd (by have := hf.2 h; omega) hd
  omega

/-- A product with something that is not nought has a number beyond the other's. -/
theorem mul_far {p : Int} {f g : List Int} (hp : Prm p) (hg : Can p g) (h2 : g ≠ []) (hf : ¬ ∀ i, p ∣ c f i) : ∃ j, g.length ≤ j + 1 ∧ ¬ p ∣ c (mul f g) j := by
  have p0 := hp.1
  have hcr := can_red (p := p) (by omega) f
  have hne : red p f ≠ [] := fun e => hf fun i => by
    have := c_red p f i
    rw [e, c_nil] at this
    exact Int.dvd_of_emod_eq_zero this.symm
  have l1 := List.length_pos_iff.mpr hne
  have l2 := List.length_pos_iff.mpr h2
  have hl := mul_last ((red p f).length - 1) (red p f) g (g.length - 1) (by omega) (by omega)
  refine ⟨(red p f).length - 1 + (g.length - 1), by omega, fun hd => ?_⟩
  have h3 := (Cg.mul (cg_red p f) (Cg.refl p g)) ((red p f).length - 1 + (g.length - 1))
  rw [hl] at h3
  have h4 := Int.dvd_add h3 hd
  rw [show c (red p f) ((red p f).length - 1) * c g (g.length - 1) - c (mul f g) ((red p f).length - 1 + (g.length - 1)) + c (mul f g) ((red p f).length - 1 + (g.length - 1)) = c (red p f) ((red p f).length - 1) * c g (g.length - 1) by omega] at h4
  rcases euclid hp h4 with h5 | h5
  · exact can_last hp hcr hne h5
  · exact can_last hp hg h2 h5

/-- What f is: q times g, and r. -/
def Dv (p : Int) (f g q r : List Int) : Prop := Cg p (add (mul q g) r) f

/-- One way alone. -/
theorem div_uniq {p : Int} {f g q r q' r' : List Int} (hp : Prm p) (hg : Can p g) (h0 : g ≠ []) (hq : Can p q) (hr : Can p r) (hq' : Can p q') (hr' : Can p r') (hl : r.length < g.length) (hl' : r'.length < g.length)
    (h : Dv p f g q r) (h' : Dv p f g q' r') : q = q' ∧ r = r' := by
  have p0 := hp.1
  have hE : ∀ i, p ∣ c (mul q g) i + c r i - (c (mul q' g) i + c r' i) := fun i => by
    have := (h.trans h'.symm) i
    rwa [c_add, c_add] at this
  have hD : ∀ i, c (mul (add q (sc (-1) q')) g) i = c (mul q g) i - c (mul q' g) i := fun i => by rw [add_mul, sc_mul]; omega
  have hq2 : ∀ i, p ∣ c (add q (sc (-1) q')) i := by
    refine Classical.byContradiction fun hc => ?_
    obtain ⟨j, hj, hn⟩ := mul_far hp hg h0 hc
    apply hn
    rw [hD]
    have := hE j
    rwa [c_over (f := r) (by omega), c_over (f := r') (by omega), Int.add_zero, Int.add_zero] at this
  have hqq : q = q' := hq.ext (by omega) hq' fun i => by
    have := hq2 i
    rw [c_add, c_sc] at this
    rwa [show c q i + -1 * c q' i = c q i - c q' i by omega] at this
  subst hqq
  refine ⟨rfl, hr.ext (by omega) hr' fun i => ?_⟩
  have := hE i
  rwa [show c (mul q g) i + c r i - (c (mul q g) i + c r' i) = c r i - c r' i by omega] at this

/-- d divides f. -/
def Di (p : Int) (d f : List Int) : Prop := ∃ q, Cg p (mul q d) f

theorem Di.cg {p : Int} {d f f' : List Int} (h : Di p d f) (k : Cg p f f') : Di p d f' := by
  obtain ⟨q, hq⟩ := h
  exact ⟨q, hq.trans k⟩

theorem one_mul (f : List Int) (i : Nat) : c (mul [1] f) i = c f i := by
  rw [c_mul]
  have : pre (c (mul [] f)) i = 0 := by cases i <;> rfl
  omega

theorem Di.self (p : Int) (f : List Int) : Di p f f := ⟨[1], Cg.of_eq (one_mul f)⟩
theorem Di.none (p : Int) (d : List Int) : Di p d [] := ⟨[], Cg.refl _ _⟩

theorem Di.add {p : Int} {d f g : List Int} (h : Di p d f) (k : Di p d g) : Di p d (Po.add f g) := by
  obtain ⟨q, hq⟩ := h
  obtain ⟨r, hr⟩ := k
  exact ⟨Po.add q r, (Cg.of_eq fun i => by rw [add_mul, c_add]).trans (hq.add hr)⟩

theorem Di.times {p : Int} {d f : List Int} (h : Di p d f) (g : List Int) : Di p d (mul g f) := by
  obtain ⟨q, hq⟩ := h
  exact ⟨mul g q, (Cg.of_eq (mul_assoc g q d)).trans (Cg.mul_right g hq)⟩

theorem Di.trans {p : Int} {d e f : List Int} (h : Di p d e) (k : Di p e f) : Di p d f := by
  obtain ⟨q, hq⟩ := k
  exact (h.times q).cg hq

theorem Di.both {p : Int} {d f : List Int} (h : Di p d f) (g : List Int) : Di p (mul d g) (mul f g) := by
  obtain ⟨q, hq⟩ := h
  exact ⟨q, (Cg.of_eq fun i => (mul_assoc q d g i).symm).trans (hq.mul (Cg.refl p g))⟩

/-- Something that divides what is not nought has no more numbers. -/
theorem Di.length {p : Int} {d f : List Int} (hp : Prm p) (hd : Can p d) (hf : Can p f) (h0 : f ≠ []) (h : Di p d f) : ∃ q, Can p q ∧ q ≠ [] ∧ d ≠ [] ∧ Cg p (mul q d) f ∧ f.length = q.length + d.length - 1 := by
  have p0 := hp.1
  obtain ⟨q, hq⟩ := h
  have hq2 : Cg p (mul (red p q) d) f := ((cg_red p q).mul (Cg.refl p d)).trans hq
  have hfr : f = red p (mul (red p q) d) := hf.ext (by omega) (can_red (by omega) _) (hq2.symm.trans (cg_red p _).symm)
  have nz : ∀ g : List Int, (∀ i, c g i = 0) → red p g = [] := fun g hg => (can_red (by omega) g).ext (by omega) (Can.nil p) fun i => by rw [c_red, hg i, Int.zero_emod, c_nil]; exact Int.dvd_zero p
  have h1 : red p q ≠ [] := fun e => h0 (by rw [hfr, e]; exact nz _ fun i => rfl)
  have h2 : d ≠ [] := fun e => h0 (by rw [hfr, e]; exact nz _ fun i => c_mul_nil_right _ i)
  exact ⟨red p q, can_red (by omega) q, h1, h2, hq2, by
    have := red_mul_length hp (can_red (by omega) q) hd h1 h2
    rwa [← hfr] at this⟩

/-- In lowest form, and nought or with 1 at the end. -/
def Mon (p : Int) (d : List Int) : Prop := Can p d ∧ (d ≠ [] → c d (d.length - 1) = 1)

/-- The greatest common divisor. -/
structure IsG (p : Int) (d f g : List Int) : Prop where
  mon : Mon p d
  l : Di p d f
  r : Di p d g
  bez : ∃ u v, Cg p (add (mul u f) (mul v g)) d

theorem IsG.great {p : Int} {d f g e : List Int} (h : IsG p d f g) (h1 : Di p e f) (h2 : Di p e g) : Di p e d := by
  obtain ⟨u, v, hb⟩ := h.bez
  exact ((h1.times u).add (h2.times v)).cg hb

theorem mon_uniq {p : Int} {d e : List Int} (hp : Prm p) (hd : Mon p d) (he : Mon p e) (h1 : Di p d e) (h2 : Di p e d) : d = e := by
  have p0 := hp.1
  by_cases hd0 : d = []
  · subst hd0
    refine Decidable.byContradiction fun hc => ?_
    obtain ⟨q, _, _, h, _⟩ := h1.length hp hd.1 he.1 (fun e2 => hc e2.symm)
    exact h rfl
  · by_cases he0 : e = []
    · subst he0
      obtain ⟨q, _, _, h, _⟩ := h2.length hp he.1 hd.1 hd0
      exact absurd rfl h
    · obtain ⟨q, q1, q2, _, q4, q5⟩ := h1.length hp hd.1 he.1 he0
      obtain ⟨r, r1, r2, _, r4, r5⟩ := h2.length hp he.1 hd.1 hd0
      have a1 := List.length_pos_iff.mpr q2
      have a2 := List.length_pos_iff.mpr r2
      have a3 := List.length_pos_iff.mpr hd0
      have a4 := List.length_pos_iff.mpr he0
      have hq1 : q.length = 1 := by omega
      match q, hq1 with
      | [a], _ =>
        have hc : ∀ i, c (mul [a] d) i = a * c d i := fun i => by
          rw [c_mul]
          have : pre (c (mul [] d)) i = 0 := by cases i <;> rfl
          omega
        have hlen : e.length = d.length := by simp at q5; omega
        have h3 := q4 (d.length - 1)
        rw [hc, hd.2 hd0, ← hlen, he.2 he0, Int.mul_one] at h3
        have ha := q1.1 a List.mem_cons_self
        have ha1 : a = 1 := by
          obtain ⟨k, hk⟩ := h3
          have : k = 0 := by
            refine Decidable.byContradiction fun hc2 => ?_
            rcases Int.lt_or_gt_of_ne hc2 with h5 | h5
            · have : p * k ≤ p * (-1) := Int.mul_le_mul_of_nonneg_left (by omega) (by omega)
              omega
            · have : p * 1 ≤ p * k := Int.mul_le_mul_of_nonneg_left (by omega) (by omega)
              omega
          subst this
          omega
        subst ha1
        exact hd.1.ext (by omega) he.1 ((Cg.of_eq fun i => (one_mul d i).symm).trans q4)

theorem IsG.uniq {p : Int} {d e f g : List Int} (hp : Prm p) (h : IsG p d f g) (k : IsG p e f g) : d = e :=
  mon_uniq hp h.mon k.mon (k.great h.l h.r) (h.great k.l k.r)

/-- EUCLID: one step. -/
theorem IsG.step {p : Int} {d f g q r : List Int} (hD : Dv p f g q r) (h : IsG p d g r) : IsG p d f g := by
  refine ⟨h.mon, ((h.l.times q).add h.r).cg hD, h.l, ?_⟩
  obtain ⟨u, v, hb⟩ := h.bez
  refine ⟨v, add u (sc (-1) (mul v q)), Cg.trans ?_ hb⟩
  have h1 : Cg p (mul v f) (mul v (add (mul q g) r)) := Cg.mul_right v hD.symm
  refine (h1.add (Cg.refl p _)).trans (Cg.of_eq fun i => ?_)
  rw [c_add, c_add, mul_add, add_mul, sc_mul, mul_assoc]
  omega

/-- The last one, with 1 at its end. -/
theorem IsG.last {p a : Int} {f : List Int} (hm : Mon p (red p (mul [a] f))) (ha : ∃ b, p ∣ b * a - 1) : IsG p (red p (mul [a] f)) f [] := by
  obtain ⟨b, hb⟩ := ha
  have hc : ∀ i, c (mul [a] f) i = a * c f i := fun i => by
    rw [c_mul]
    have : pre (c (mul [] f)) i = 0 := by cases i <;> rfl
    omega
  refine ⟨hm, ⟨[b], fun i => ?_⟩, Di.none _ _, ⟨[a], [], fun i => ?_⟩⟩
  · have h1 : c (mul [b] (red p (mul [a] f))) i = b * c (red p (mul [a] f)) i := by
      rw [c_mul]
      have : pre (c (mul [] (red p (mul [a] f)))) i = 0 := by cases i <;> rfl
      omega
    have h2 := cg_red p (mul [a] f) i
    rw [hc] at h2
    rw [h1]
    have h3 := Int.dvd_mul_of_dvd_right (b := b) h2
    have h4 := Int.dvd_mul_of_dvd_left (c := c f i) hb
    have := Int.dvd_add h3 h4
    rwa [show b * (c (red p (mul [a] f)) i - a * c f i) + (b * a - 1) * c f i = b * c (red p (mul [a] f)) i - c f i by grind] at this
  · have := (cg_red p (mul [a] f)).symm i
    rw [c_add]
    rwa [show c (mul [] []) i = 0 by rfl, Int.add_zero]

theorem isG_none {p : Int} : IsG p [] [] [] := ⟨⟨Can.nil p, fun h => absurd rfl h⟩, Di.none _ _, Di.none _ _, ⟨[], [], Cg.refl _ _⟩⟩

/-- Times a third one. -/
theorem IsG.times {p : Int} {d f g h z : List Int} (hp : Prm p) (hd : IsG p d f g) (hh : Can p h) (h0 : h ≠ []) (hd0 : d ≠ []) (hz : IsG p z (mul f h) (mul g h)) : Di p h z ∧ z.length = d.length + h.length - 1 ∧ z ≠ [] := by
  have p0 := hp.1
  have h1 : Di p (mul d h) z := hz.great (hd.l.both h) (hd.r.both h)
  have h2 : Di p z (mul d h) := by
    obtain ⟨u, v, hb⟩ := hd.bez
    refine ((hz.l.times u).add (hz.r.times v)).cg ?_
    refine (Cg.of_eq fun i => ?_).trans (hb.mul (Cg.refl p h))
    rw [c_add, add_mul, mul_assoc, mul_assoc]
  have hh2 : Di p h z := by
    have : Di p h (mul d h) := (Di.self p h).times d
    exact this.trans h1
  have hl := red_mul_length hp hd.mon.1 hh hd0 h0
  have hne : red p (mul d h) ≠ [] := fun e => by
    rw [e] at hl
    have a1 := List.length_pos_iff.mpr hd0
    have a2 := List.length_pos_iff.mpr h0
    simp at hl
    omega
  have hcan := can_red (p := p) (by omega) (mul d h)
  have h3 : Di p z (red p (mul d h)) := h2.cg (cg_red p _).symm
  have hzne : z ≠ [] := by
    obtain ⟨q, _, _, hz0, _⟩ := h3.length hp hz.mon.1 hcan hne
    exact hz0
  have h4 : Di p (red p (mul d h)) z := by
    obtain ⟨q, hq⟩ := h1
    exact ⟨q, (Cg.mul_right q (cg_red p _)).trans hq⟩
  obtain ⟨q, _, q2, _, _, q5⟩ := h3.length hp hz.mon.1 hcan hne
  obtain ⟨r, _, r2, _, _, r5⟩ := h4.length hp hcan hz.mon.1 hzne
  have a1 := List.length_pos_iff.mpr q2
  have a2 := List.length_pos_iff.mpr r2
  have a3 := List.length_pos_iff.mpr hzne
  have a4 := List.length_pos_iff.mpr hne
  exact ⟨hh2, by omega, hzne⟩

-- Roots.
/-- RUFFINI: f, less its value at a, by x less a. -/
def ruf (a : Int) : List Int → List Int
  | [] => []
  | _ :: f => add f (sc a (ruf a f))

theorem ruf_length (a : Int) : ∀ f : List Int, (ruf a f).length = f.length - 1 := by
  intro f
  induction f with
  | nil => rfl
  | cons b f ih => rw [ruf, add_length, sc_length, ih, List.length_cons]; omega

theorem ruf_ev (a : Int) : ∀ (f : List Int) (x : Int), ev f x - ev f a = (x - a) * ev (ruf a f) x := by
  intro f
  induction f with
  | nil => intro x; simp [ev, ruf]
  | cons b f ih =>
    intro x
    rw [ruf, ev_add, ev_sc]
    simp only [ev]
    have := ih x
    grind

theorem ruf_c (a : Int) : ∀ (f : List Int) (i : Nat), c f i = pre (c (ruf a f)) i - a * c (ruf a f) i + (if i = 0 then ev f a else 0) := by
  intro f
  induction f with
  | nil => intro i; cases i <;> simp [ruf, c_nil, pre, ev]
  | cons b f ih =>
    intro i
    rw [ruf, c_add, c_sc]
    cases i with
    | zero =>
      simp only [c_zero, pre, ev, if_true]
      have := ih 0
      simp only [pre, if_true] at this
      grind
    | succ i =>
      rw [if_neg (by omega), c_succ]
      simp only [pre]
      rw [c_add, c_sc]
      have := ih (i + 1)
      rw [if_neg (by omega)] at this
      simp only [pre] at this
      grind

/-- No more roots than numbers, less one. -/
theorem roots_le {p : Int} (hp : Prm p) : ∀ (n : Nat) (f : List Int), f.length ≤ n + 1 → (¬ ∀ i, p ∣ c f i) → ∀ Z : List Int, Z.Nodup → (∀ x ∈ Z, 0 ≤ x ∧ x < p ∧ p ∣ ev f x) → Z.length ≤ n := by
  intro n
  induction n with
  | zero =>
    intro f hl hne Z _ hZ
    match Z, hZ with
    | [], _ => simp
    | a :: Z, hZ =>
      exfalso
      have := (hZ a List.mem_cons_self).2.2
      match f, hl with
      | [], _ => exact hne fun i => by rw [c_nil]; exact Int.dvd_zero p
      | [b], _ =>
        simp only [ev, Int.mul_zero, Int.add_zero] at this
        exact hne fun i => by
          cases i with
          | zero => exact this
          | succ i => rw [c_succ, c_nil]; exact Int.dvd_zero p
      | b :: b2 :: f, hl => simp at hl
  | succ n ih =>
    intro f hl hne Z hnd hZ
    match Z, hnd, hZ with
    | [], _, _ => simp
    | a :: Z, hnd, hZ =>
      obtain ⟨ha0, ha1, hfa⟩ := hZ a List.mem_cons_self
      rw [List.nodup_cons] at hnd
      have h1 : ¬ ∀ i, p ∣ c (ruf a f) i := fun h => hne fun i => by
        rw [ruf_c a f i]
        refine Int.dvd_add (Int.dvd_sub ?_ (Int.dvd_mul_of_dvd_right (h i))) ?_
        · cases i with
          | zero => exact Int.dvd_zero p
          | succ i => exact h i
        · split
          · exact hfa
          · exact Int.dvd_zero p
      have := ih (ruf a f) (by rw [ruf_length]; omega) h1 Z hnd.2 fun x hx => by
        obtain ⟨x0, x1, hfx⟩ := hZ x (List.mem_cons_of_mem _ hx)
        refine ⟨x0, x1, ?_⟩
        have h2 := Int.dvd_sub hfx hfa
        rw [ruf_ev] at h2
        rcases euclid hp h2 with h3 | h3
        · exfalso
          have hne2 : x ≠ a := fun e => hnd.1 (e ▸ hx)
          obtain ⟨k, hk⟩ := h3
          have : k = 0 := by
            refine Decidable.byContradiction fun hc2 => ?_
            rcases Int.lt_or_gt_of_ne hc2 with h5 | h5
            · have : p * k ≤ p * (-1) := Int.mul_le_mul_of_nonneg_left (by omega) (by omega)
              omega
            · have : p * 1 ≤ p * k := Int.mul_le_mul_of_nonneg_left (by omega) (by omega)
              omega
          subst this
          omega
        · exact h3
      rw [List.length_cons]
      omega

end Go.Proofs.Ytfdhhiibhkepaaa.Po
