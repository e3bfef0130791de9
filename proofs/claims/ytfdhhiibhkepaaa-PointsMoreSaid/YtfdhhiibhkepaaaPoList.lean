/-
  Polynomials: what the loops do: noughts struck at the end, so many times another so much higher, products and values number by number, one step of a division. No Go in sight.
-/
import Derived.Test.YtfdhhiibhkepaaaPoDiv
namespace Go.Proofs.Ytfdhhiibhkepaaa.Po
open Pr Rs

theorem short_snoc (l : List Int) (x : Int) : short (l ++ [x]) = if x = 0 then short l else l ++ [x] := by
  induction l with
  | nil =>
    by_cases h : x = 0
    · simp [short, h]
    · simp [short, h]
  | cons a l ih =>
    rw [List.cons_append, short, ih]
    by_cases h : x = 0
    · simp only [h, if_true]
      rw [short]
    · simp [h]

theorem short_take : ∀ f : List Int, short f = f.take (short f).length := by
  intro f
  induction f with
  | nil => rfl
  | cons a f ih =>
    unfold short
    by_cases h : short f = [] ∧ a = 0
    · rw [if_pos h]; rfl
    · rw [if_neg h, List.length_cons, List.take_succ_cons, ← ih]

/-- How many numbers are left of the first k. -/
theorem short_step {f : List Int} {k : Nat} (h : k < f.length) : (short (f.take (k + 1))).length = if c f k = 0 then (short (f.take k)).length else k + 1 := by
  have e : f.take (k + 1) = f.take k ++ [c f k] := by rw [c_at h, List.take_append_getElem h]
  rw [e, short_snoc]
  by_cases h0 : c f k = 0
  · rw [if_pos h0, if_pos h0]
  · rw [if_neg h0, if_neg h0, List.length_append, List.length_take]
    simp
    omega

theorem short_id {f : List Int} (h : f ≠ [] → c f (f.length - 1) ≠ 0) : short f = f := by
  by_cases hf : f = []
  · subst hf; rfl
  · have hl := List.length_pos_iff.mpr hf
    have e : f = f.take (f.length - 1) ++ [c f (f.length - 1)] := by
      have h1 : f.length - 1 < f.length := by omega
      have h2 : f.take (f.length - 1 + 1) = f.take (f.length - 1) ++ [c f (f.length - 1)] := by rw [c_at h1, List.take_append_getElem h1]
      rw [show f.length - 1 + 1 = f.length by omega, List.take_length] at h2
      exact h2
    have h3 := short_snoc (f.take (f.length - 1)) (c f (f.length - 1))
    rw [← e, if_neg (h hf)] at h3
    exact h3

/-- So much higher. -/
def shn (n : Nat) (g : List Int) : List Int := List.replicate n 0 ++ g
theorem shn_length (n : Nat) (g : List Int) : (shn n g).length = n + g.length := by simp [shn]
theorem shn_succ (n : Nat) (g : List Int) : shn (n + 1) g = 0 :: shn n g := rfl
theorem c_shn : ∀ (n : Nat) (g : List Int) (i : Nat), c (shn n g) i = if i < n then 0 else c g (i - n) := by
  intro n
  induction n with
  | zero => intro g i; simp [shn]
  | succ n ih =>
    intro g i
    rw [shn_succ]
    cases i with
    | zero => simp [c_zero]
    | succ i =>
      rw [c_succ, ih]
      by_cases h : i < n
      · rw [if_pos h, if_pos (by omega)]
      · rw [if_neg h, if_neg (by omega), Nat.add_sub_add_right]

theorem shn_mul : ∀ (n : Nat) (f g : List Int) (i : Nat), c (mul (shn n f) g) i = c (shn n (mul f g)) i := by
  intro n
  induction n with
  | zero => intro f g i; rfl
  | succ n ih =>
    intro f g i
    rw [shn_succ, shn_succ, sh_mul, c_sh]
    cases i with
    | zero => rfl
    | succ i => simp only [pre]; rw [ih]

/-- One number more: a product grows by so many times the other, so much higher. -/
theorem mul_snoc : ∀ (f : List Int) (x : Int) (g : List Int) (i : Nat), c (mul (f ++ [x]) g) i = c (mul f g) i + x * c (shn f.length g) i := by
  intro f
  induction f with
  | nil =>
    intro x g i
    rw [List.nil_append, c_mul]
    have : pre (c (mul [] g)) i = 0 := by cases i <;> rfl
    rw [this, c_mul_nil]
    simp [shn]
  | cons a f ih =>
    intro x g i
    rw [List.cons_append, c_mul, c_mul, List.length_cons, shn_succ, c_sh]
    cases i with
    | zero => simp [pre]
    | succ i => simp only [pre]; rw [ih]; omega

/-- f, and so many times g so much higher. -/
def plus (f : List Int) (by_ : Int) (g : List Int) (high : Nat) : List Int := add f (sc by_ (shn high g))
theorem c_plus (f : List Int) (b : Int) (g : List Int) (h i : Nat) : c (plus f b g h) i = c f i + b * (if i < h then 0 else c g (i - h)) := by rw [plus, c_add, c_sc, c_shn]

theorem plus_prod {p : Int} (hp : 0 < p) {f g : List Int} {k : Nat} (h : k < f.length) : red p (plus (red p (mul (f.take k) g)) (c f k) g k) = red p (mul (f.take (k + 1)) g) := by
  refine red_cg hp fun i => ?_
  have e : f.take (k + 1) = f.take k ++ [c f k] := by rw [c_at h, List.take_append_getElem h]
  have hl : (f.take k).length = k := by simp; omega
  rw [e, mul_snoc, hl, plus, c_add, c_sc]
  have := cg_red p (mul (f.take k) g) i
  rwa [show c (red p (mul (f.take k) g)) i + c f k * c (shn k g) i - (c (mul (f.take k) g) i + c f k * c (shn k g) i) = c (red p (mul (f.take k) g)) i - c (mul (f.take k) g) i by omega]

/-- One step of a division: so many times g, so much higher, goes over. -/
theorem dv_step {p : Int} {f g q r : List Int} (h : Dv p f g q r) (a : Int) (k : Nat) : Dv p f g (plus q a [1] k) (plus r (-a) g k) := by
  refine Cg.trans (Cg.of_eq fun i => ?_) h
  rw [c_add, plus, plus, add_mul, sc_mul, shn_mul, c_add, c_sc, c_add]
  have e : c (shn k (mul [1] g)) i = c (shn k g) i := by rw [c_shn, c_shn, one_mul]
  rw [e]
  grind

theorem Dv.cg {p : Int} {f g q r q' r' : List Int} (h : Dv p f g q r) (hq : Cg p q' q) (hr : Cg p r' r) : Dv p f g q' r' := ((hq.mul (Cg.refl p g)).add hr).trans h

theorem dv_start (p : Int) (f g : List Int) : Dv p f g [] f := Cg.of_eq fun i => by rw [c_add, c_mul_nil, Int.zero_add]

/-- The step strikes the last number. -/
theorem step_less {p a : Int} {r g : List Int} (hp : 0 < p) (hr : r ≠ []) (hg : g ≠ []) (hl : g.length ≤ r.length) (ha : p ∣ a * c g (g.length - 1) - c r (r.length - 1)) : (red p (plus r (-a) g (r.length - g.length))).length < r.length := by
  have l1 := List.length_pos_iff.mpr hr
  have l2 := List.length_pos_iff.mpr hg
  have hc : ∀ i, r.length - 1 ≤ i → c (red p (plus r (-a) g (r.length - g.length))) i = 0 := fun i hi => by
    have hni : ¬ i < r.length - g.length := by omega
    rw [c_red, c_plus, if_neg hni]
    refine Int.emod_eq_zero_of_dvd ?_
    by_cases h : i = r.length - 1
    · subst h
      have e1 : r.length - 1 - (r.length - g.length) = g.length - 1 := by omega
      rw [e1]
      have := Int.dvd_neg.mpr ha
      rwa [show -(a * c g (g.length - 1) - c r (r.length - 1)) = c r (r.length - 1) + -a * c g (g.length - 1) by grind] at this
    · rw [c_over (f := r) (i := i) (by omega), c_over (f := g) (i := i - (r.length - g.length)) (by omega), Int.mul_zero, Int.add_zero]
      exact Int.dvd_zero p
  have hcr := can_red (p := p) hp (plus r (-a) g (r.length - g.length))
  refine Decidable.byContradiction fun h => ?_
  have hne : red p (plus r (-a) g (r.length - g.length)) ≠ [] := fun e => h (by rw [e]; exact l1)
  exact hcr.2 hne (hc _ (by omega))

-- Values, number by number.
theorem ev_snoc : ∀ (f : List Int) (a x : Int), ev (f ++ [a]) x = ev f x + a * x ^ f.length := by
  intro f
  induction f with
  | nil => intro a x; simp [ev]
  | cons b f ih =>
    intro a x
    rw [List.cons_append]
    simp only [ev]
    rw [ih, List.length_cons, Int.pow_succ]
    grind

theorem ev_take {f : List Int} {k : Nat} (h : k < f.length) (x : Int) : ev (f.take (k + 1)) x = ev (f.take k) x + c f k * x ^ k := by
  have e : f.take (k + 1) = f.take k ++ [c f k] := by rw [c_at h, List.take_append_getElem h]
  have hl : (f.take k).length = k := by simp; omega
  rw [e, ev_snoc, hl]

theorem ev_drop {f : List Int} {k : Nat} (h : k < f.length) (x : Int) : ev (f.drop k) x = c f k + x * ev (f.drop (k + 1)) x := by
  rw [List.drop_eq_getElem_cons h, c_at h]
  rfl

/-- One step of HORNER's. -/
theorem horner {p y : Int} {f : List Int} {k : Nat} (h : k < f.length) (x : Int) (hy : y = ev (f.drop (k + 1)) x % p) : (y * x + c f k) % p = ev (f.drop k) x % p ∧ (c f k + y * x) % p = ev (f.drop k) x % p ∧ (y * (x % p) + c f k) % p = ev (f.drop k) x % p := by
  have e1 : (y * x + c f k) % p = ev (f.drop k) x % p := by
    rw [ev_drop h, hy, Int.add_emod, Rs.mul_emod_left, ← Int.add_emod, Int.mul_comm, Int.add_comm]
  refine ⟨e1, by rw [Int.add_comm]; exact e1, ?_⟩
  rw [← e1, Int.add_emod, Rs.mul_emod_right, ← Int.add_emod]

/-- The inverse of what is not nought. -/
theorem inv_some {p a : Int} (hp : Prm p) (ha : ¬ p ∣ a) : ∃ b, 1 ≤ b ∧ b < p ∧ p ∣ b * a - 1 := by
  have p0 := hp.1
  have h := fermat_one hp ha
  refine ⟨a ^ (p.toNat - 2) % p, ?_, Int.emod_lt_of_pos _ (by omega), ?_⟩
  · have h1 := Int.emod_nonneg (a ^ (p.toNat - 2)) (b := p) (by omega)
    refine Decidable.byContradiction fun hc => ?_
    have hz : a ^ (p.toNat - 2) % p = 0 := by omega
    have hd := Int.dvd_of_emod_eq_zero hz
    have h2 : p ∣ a ^ (p.toNat - 1) := by
      rw [show p.toNat - 1 = (p.toNat - 2) + 1 by omega, Int.pow_succ]
      exact Int.dvd_mul_of_dvd_left hd
    have h3 : p ∣ 1 := by
      have := Int.dvd_sub h2 h
      rwa [show a ^ (p.toNat - 1) - (a ^ (p.toNat - 1) - 1) = 1 by omega] at this
    have := Int.le_of_dvd (by decide) h3
    omega
  · have e : a ^ (p.toNat - 1) = a ^ (p.toNat - 2) * a := by
      rw [show p.toNat - 1 = (p.toNat - 2) + 1 by omega, Int.pow_succ]
    unfold Rs.One at h
    rw [e] at h
    have h2 := Int.mul_ediv_add_emod (a ^ (p.toNat - 2)) p
    obtain ⟨k, hk⟩ := h
    refine ⟨k - a ^ (p.toNat - 2) / p * a, ?_⟩
    generalize a ^ (p.toNat - 2) = t at *
    generalize t / p = d at *
    generalize t % p = s at *
    rw [← h2] at hk
    grind

end Go.Proofs.Ytfdhhiibhkepaaa.Po
