/-
  Polynomials as lists of numbers: sums, products, values; what is alike by p; the one list in lowest form. No Go in sight.
-/
import Derived.Test.YtfdhhiibhkepaaaPrMath
namespace Go.Proofs.Ytfdhhiibhkepaaa.Po
open Pr

/-- The number at place i. -/
def c (f : List Int) (i : Nat) : Int := f.getD i 0

theorem c_nil (i : Nat) : c [] i = 0 := rfl
theorem c_zero (a : Int) (f : List Int) : c (a :: f) 0 = a := rfl
theorem c_succ (a : Int) (f : List Int) (i : Nat) : c (a :: f) (i + 1) = c f i := by simp [c]
theorem c_over {f : List Int} {i : Nat} (h : f.length ≤ i) : c f i = 0 := by simp [c, h]
theorem c_at {f : List Int} {i : Nat} (h : i < f.length) : c f i = f[i] := by simp [c, h]
theorem c_mem {f : List Int} {i : Nat} (h : i < f.length) : c f i ∈ f := by rw [c_at h]; exact List.getElem_mem h

/-- One place on. -/
def pre (h : Nat → Int) : Nat → Int
  | 0 => 0
  | i + 1 => h i
theorem c_sh (f : List Int) (i : Nat) : c (0 :: f) i = pre (c f) i := by cases i <;> simp [pre, c]

def add : List Int → List Int → List Int
  | [], g => g
  | a :: f, [] => a :: f
  | a :: f, b :: g => (a + b) :: add f g

theorem c_add : ∀ (f g : List Int) (i : Nat), c (add f g) i = c f i + c g i := by
  intro f
  induction f with
  | nil => intro g i; simp [add, c_nil]
  | cons a f ih =>
    intro g i
    cases g with
    | nil => simp [add, c_nil]
    | cons b g =>
      cases i with
      | zero => rfl
      | succ i => rw [add, c_succ, c_succ, c_succ, ih]

theorem add_length : ∀ (f g : List Int), (add f g).length = max f.length g.length := by
  intro f
  induction f with
  | nil => intro g; simp [add]
  | cons a f ih =>
    intro g
    cases g with
    | nil => simp [add]
    | cons b g => rw [add, List.length_cons, List.length_cons, List.length_cons, ih]; omega

/-- So many times. -/
def sc (a : Int) (f : List Int) : List Int := f.map (a * ·)
theorem c_sc (a : Int) (f : List Int) (i : Nat) : c (sc a f) i = a * c f i := by
  by_cases h : i < f.length
  · rw [c_at h, c_at (by simpa [sc] using h)]; simp [sc]
  · rw [c_over (f := f) (by omega), c_over (f := sc a f) (by simp [sc]; omega), Int.mul_zero]
theorem sc_length (a : Int) (f : List Int) : (sc a f).length = f.length := by simp [sc]

def mul : List Int → List Int → List Int
  | [], _ => []
  | a :: f, g => add (sc a g) (0 :: mul f g)

theorem c_mul (a : Int) (f g : List Int) (i : Nat) : c (mul (a :: f) g) i = a * c g i + pre (c (mul f g)) i := by rw [mul, c_add, c_sc, c_sh]
theorem c_mul_nil (g : List Int) (i : Nat) : c (mul [] g) i = 0 := rfl

theorem c_mul_nil_right : ∀ (f : List Int) (i : Nat), c (mul f []) i = 0 := by
  intro f
  induction f with
  | nil => intro i; rfl
  | cons a f ih =>
    intro i
    rw [c_mul, c_nil]
    cases i with
    | zero => simp [pre]
    | succ i => simp [pre, ih]

theorem c_mul_right : ∀ (f : List Int) (b : Int) (g : List Int) (i : Nat), c (mul f (b :: g)) i = b * c f i + pre (c (mul f g)) i := by
  intro f
  induction f with
  | nil => intro b g i; cases i <;> simp [c_mul_nil, c_nil, pre]
  | cons a f ih =>
    intro b g i
    rw [c_mul]
    cases i with
    | zero => simp only [c_zero, pre]; rw [Int.mul_comm]
    | succ i =>
      simp only [c_succ, pre]
      rw [ih, c_mul]
      omega

theorem mul_comm : ∀ (f g : List Int) (i : Nat), c (mul f g) i = c (mul g f) i := by
  intro f
  induction f with
  | nil => intro g i; rw [c_mul_nil_right, c_mul_nil]
  | cons a f ih =>
    intro g i
    rw [c_mul, c_mul_right]
    cases i with
    | zero => rfl
    | succ i => simp only [pre]; rw [ih]

theorem mul_add : ∀ (f g h : List Int) (i : Nat), c (mul f (add g h)) i = c (mul f g) i + c (mul f h) i := by
  intro f
  induction f with
  | nil => intro g h i; simp [c_mul_nil]
  | cons a f ih =>
    intro g h i
    rw [c_mul, c_mul, c_mul, c_add, Int.mul_add]
    cases i with
    | zero => simp only [pre]; omega
    | succ i => simp only [pre]; rw [ih]; omega

theorem add_mul (f g h : List Int) (i : Nat) : c (mul (add f g) h) i = c (mul f h) i + c (mul g h) i := by
  rw [mul_comm, mul_add, mul_comm h f, mul_comm h g]

theorem sc_mul : ∀ (f : List Int) (a : Int) (g : List Int) (i : Nat), c (mul (sc a f) g) i = a * c (mul f g) i := by
  intro f
  induction f with
  | nil => intro a g i; simp [sc, c_mul_nil]
  | cons b f ih =>
    intro a g i
    have e : sc a (b :: f) = (a * b) :: sc a f := rfl
    rw [e, c_mul, c_mul, Int.mul_add, Int.mul_assoc]
    cases i with
    | zero => simp [pre]
    | succ i => simp only [pre]; rw [ih]

theorem mul_sc (f : List Int) (a : Int) (g : List Int) (i : Nat) : c (mul f (sc a g)) i = a * c (mul f g) i := by
  rw [mul_comm, sc_mul, mul_comm]

theorem sh_mul (f g : List Int) (i : Nat) : c (mul (0 :: f) g) i = pre (c (mul f g)) i := by rw [c_mul]; omega

/-- Alike by p. -/
def Cg (p : Int) (f g : List Int) : Prop := ∀ i, p ∣ c f i - c g i

theorem Cg.refl (p : Int) (f : List Int) : Cg p f f := fun i => by rw [Int.sub_self]; exact Int.dvd_zero p
theorem Cg.symm {p : Int} {f g : List Int} (h : Cg p f g) : Cg p g f := fun i => by
  have := Int.dvd_neg.mpr (h i)
  rwa [Int.neg_sub] at this
theorem Cg.trans {p : Int} {f g h : List Int} (a : Cg p f g) (b : Cg p g h) : Cg p f h := fun i => by
  have := Int.dvd_add (a i) (b i)
  rwa [show c f i - c g i + (c g i - c h i) = c f i - c h i by omega] at this
theorem Cg.of_eq {p : Int} {f g : List Int} (h : ∀ i, c f i = c g i) : Cg p f g := fun i => by rw [h i, Int.sub_self]; exact Int.dvd_zero p

theorem Cg.add {p : Int} {f g f' g' : List Int} (a : Cg p f f') (b : Cg p g g') : Cg p (add f g) (add f' g') := fun i => by
  rw [c_add, c_add]
  have := Int.dvd_add (a i) (b i)
  rwa [show c f i - c f' i + (c g i - c g' i) = c f i + c g i - (c f' i + c g' i) by omega] at this

theorem Cg.sc {p : Int} {f f' : List Int} (a : Int) (h : Cg p f f') : Cg p (sc a f) (sc a f') := fun i => by
  rw [c_sc, c_sc, ← Int.mul_sub]
  exact Int.dvd_mul_of_dvd_right (h i)

theorem Cg.sh {p : Int} {f f' : List Int} (h : Cg p f f') : Cg p (0 :: f) (0 :: f') := fun i => by
  rw [c_sh, c_sh]
  cases i with
  | zero => simp [pre]
  | succ i => exact h i

theorem Cg.mul_right {p : Int} : ∀ (f : List Int) {g g' : List Int}, Cg p g g' → Cg p (mul f g) (mul f g') := by
  intro f
  induction f with
  | nil => intro g g' _; exact Cg.refl _ _
  | cons a f ih => intro g g' h; exact Cg.add (h.sc a) (ih h).sh

theorem Cg.comm (p : Int) (f g : List Int) : Cg p (mul f g) (mul g f) := Cg.of_eq (mul_comm f g)

theorem Cg.mul {p : Int} {f g f' g' : List Int} (a : Cg p f f') (b : Cg p g g') : Cg p (mul f g) (mul f' g') :=
  (Cg.mul_right f b).trans ((Cg.comm p f g').trans ((Cg.mul_right g' a).trans (Cg.comm p g' f')))

theorem mul_assoc : ∀ (f g h : List Int) (i : Nat), c (mul (mul f g) h) i = c (mul f (mul g h)) i := by
  intro f
  induction f with
  | nil => intro g h i; rfl
  | cons a f ih =>
    intro g h i
    rw [mul, add_mul, sc_mul, sh_mul, c_mul]
    cases i with
    | zero => rfl
    | succ i => simp only [pre]; rw [ih]

/-- Beyond the numbers of a product there is none. -/
theorem mul_over : ∀ (f g : List Int) (j : Nat), f.length + g.length ≤ j + 1 → c (mul f g) j = 0 := by
  intro f
  induction f with
  | nil => intro g j _; rfl
  | cons a f ih =>
    intro g j h
    rw [List.length_cons] at h
    rw [c_mul, c_over (by omega), Int.mul_zero, Int.zero_add]
    cases j with
    | zero => rfl
    | succ j => exact ih g j (by omega)

/-- The last number of a product. -/
theorem mul_last : ∀ (m : Nat) (f g : List Int) (n : Nat), f.length = m + 1 → g.length = n + 1 → c (mul f g) (m + n) = c f m * c g n := by
  intro m
  induction m with
  | zero =>
    intro f g n hf hg
    match f, hf with
    | [a], _ =>
      rw [c_mul, c_zero, Nat.zero_add]
      have : pre (c (mul [] g)) n = 0 := by cases n <;> rfl
      rw [this, Int.add_zero]
  | succ m ih =>
    intro f g n hf hg
    match f, hf with
    | a :: f, hf =>
      rw [c_mul, c_over (f := g) (by omega), Int.mul_zero, Int.zero_add, show m + 1 + n = (m + n) + 1 by omega]
      show c (mul f g) (m + n) = _
      rw [ih f g n (by simpa using hf) hg, c_succ]

/-- In lowest form: numbers from 0 to p - 1, the last not 0. -/
def Can (p : Int) (f : List Int) : Prop := (∀ x ∈ f, 0 ≤ x ∧ x < p) ∧ (f ≠ [] → c f (f.length - 1) ≠ 0)

theorem Can.nil (p : Int) : Can p [] := ⟨fun x h => (by cases h), fun h => absurd rfl h⟩
theorem Can.bound {p : Int} {f : List Int} (h : Can p f) (hp : 0 < p) (i : Nat) : 0 ≤ c f i ∧ c f i < p := by
  by_cases hi : i < f.length
  · exact h.1 _ (c_mem hi)
  · rw [c_over (by omega)]; omega

theorem c_ext {f g : List Int} (hl : f.length = g.length) (h : ∀ i, c f i = c g i) : f = g :=
  List.ext_getElem hl fun i h1 h2 => by have := h i; rwa [c_at h1, c_at h2] at this

theorem Can.ext {p : Int} {f g : List Int} (hp : 0 < p) (hf : Can p f) (hg : Can p g) (h : Cg p f g) : f = g := by
  have he : ∀ i, c f i = c g i := fun i => by
    have h1 := hf.bound hp i
    have h2 := hg.bound hp i
    obtain ⟨k, hk⟩ := h i
    have : k = 0 := by
      refine Decidable.byContradiction fun hc => ?_
      rcases Int.lt_or_gt_of_ne hc with h3 | h3
      · have : p * k ≤ p * (-1) := Int.mul_le_mul_of_nonneg_left (by omega) (by omega)
        omega
      · have : p * 1 ≤ p * k := Int.mul_le_mul_of_nonneg_left (by omega) (by omega)
        omega
    subst this
    omega
  refine c_ext ?_ he
  refine Decidable.byContradiction fun hc => ?_
  rcases Nat.lt_or_gt_of_ne hc with h3 | h3
  · have hne : g ≠ [] := fun e => by subst e; simp at h3
    have := he (g.length - 1)
    rw [c_over (by omega)] at this
    exact hg.2 hne this.symm
  · have hne : f ≠ [] := fun e => by subst e; simp at h3
    have := he (f.length - 1)
    rw [c_over (f := g) (by omega)] at this
    exact hf.2 hne this

/-- Without noughts at the end. -/
def short : List Int → List Int
  | [] => []
  | a :: f => if short f = [] ∧ a = 0 then [] else a :: short f

theorem c_short : ∀ (f : List Int) (i : Nat), c (short f) i = c f i := by
  intro f
  induction f with
  | nil => intro i; rfl
  | cons a f ih =>
    intro i
    unfold short
    by_cases h : short f = [] ∧ a = 0
    · rw [if_pos h]
      cases i with
      | zero => rw [c_nil, c_zero, h.2]
      | succ i => rw [c_nil, c_succ, ← ih i, h.1, c_nil]
    · rw [if_neg h]
      cases i with
      | zero => rfl
      | succ i => rw [c_succ, c_succ, ih]

theorem short_last : ∀ (f : List Int), short f ≠ [] → c (short f) ((short f).length - 1) ≠ 0 := by
  intro f
  induction f with
  | nil => intro h; exact absurd rfl h
  | cons a f ih =>
    intro hne
    unfold short at hne ⊢
    by_cases h : short f = [] ∧ a = 0
    · rw [if_pos h] at hne; exact absurd rfl hne
    · rw [if_neg h]
      by_cases h2 : short f = []
      · rw [h2]
        show a ≠ 0
        exact fun e => h ⟨h2, e⟩
      · have h3 : 0 < (short f).length := List.length_pos_iff.mpr h2
        rw [List.length_cons, show (short f).length + 1 - 1 = ((short f).length - 1) + 1 by omega, c_succ]
        exact ih h2

theorem short_mem : ∀ (f : List Int) (x : Int), x ∈ short f → x ∈ f := by
  intro f
  induction f with
  | nil => intro x h; exact h
  | cons a f ih =>
    intro x h
    unfold short at h
    by_cases h2 : short f = [] ∧ a = 0
    · rw [if_pos h2] at h; cases h
    · rw [if_neg h2] at h
      rcases List.mem_cons.mp h with rfl | h
      · exact List.mem_cons_self
      · exact List.mem_cons_of_mem _ (ih x h)

theorem short_length : ∀ (f : List Int), (short f).length ≤ f.length := by
  intro f
  induction f with
  | nil => simp [short]
  | cons a f ih =>
    unfold short
    by_cases h : short f = [] ∧ a = 0
    · rw [if_pos h]; simp
    · rw [if_neg h]; simp; exact ih

/-- In lowest form by p. -/
def red (p : Int) (f : List Int) : List Int := short (f.map (· % p))

theorem c_map_mod (p : Int) (f : List Int) (i : Nat) : c (f.map (· % p)) i = c f i % p := by
  by_cases h : i < f.length
  · rw [c_at h, c_at (by simpa using h)]; simp
  · rw [c_over (f := f) (by omega), c_over (f := f.map (· % p)) (by simp; omega), Int.zero_emod]

theorem c_red (p : Int) (f : List Int) (i : Nat) : c (red p f) i = c f i % p := by rw [red, c_short, c_map_mod]

theorem can_red {p : Int} (hp : 0 < p) (f : List Int) : Can p (red p f) := by
  refine ⟨fun x hx => ?_, short_last _⟩
  have := short_mem _ _ hx
  simp only [List.mem_map] at this
  obtain ⟨y, _, rfl⟩ := this
  exact ⟨Int.emod_nonneg _ (by omega), Int.emod_lt_of_pos _ hp⟩

theorem cg_red (p : Int) (f : List Int) : Cg p (red p f) f := fun i => by
  rw [c_red]
  have := Int.mul_ediv_add_emod (c f i) p
  exact ⟨-(c f i / p), by rw [Int.mul_neg]; omega⟩

theorem red_length (p : Int) (f : List Int) : (red p f).length ≤ f.length := by
  have := short_length (f.map (· % p))
  rw [List.length_map] at this
  exact this

theorem red_can {p : Int} {f : List Int} (hp : 0 < p) (h : Can p f) : red p f = f := (can_red hp f).ext hp h (cg_red p f)
theorem red_cg {p : Int} {f g : List Int} (hp : 0 < p) (h : Cg p f g) : red p f = red p g := (can_red hp f).ext hp (can_red hp g) ((cg_red p f).trans (h.trans (cg_red p g).symm))

/-- A product of two that are not 0 has as many numbers as both, less one. -/
theorem red_mul_length {p : Int} {f g : List Int} (hp : Prm p) (hf : Can p f) (hg : Can p g) (h1 : f ≠ []) (h2 : g ≠ []) : (red p (mul f g)).length = f.length + g.length - 1 := by
  have p0 := hp.1
  have l1 := List.length_pos_iff.mpr h1
  have l2 := List.length_pos_iff.mpr h2
  have hl := mul_last (f.length - 1) f g (g.length - 1) (by omega) (by omega)
  have hne : ¬ p ∣ c (mul f g) (f.length - 1 + (g.length - 1)) := by
    rw [hl]
    intro hd
    have b1 := hf.bound (by omega) (f.length - 1)
    have b2 := hg.bound (by omega) (g.length - 1)
    rcases euclid hp hd with h | h
    · have := Int.le_of_dvd (by have := hf.2 h1; omega) h; omega
    · have := Int.le_of_dvd (by have := hg.2 h2; omega) h; omega
  have hc : c (red p (mul f g)) (f.length - 1 + (g.length - 1)) ≠ 0 := by
    rw [c_red]
    exact fun e => hne (Int.dvd_of_emod_eq_zero e)
  have g1 : f.length - 1 + (g.length - 1) < (red p (mul f g)).length := by
    refine Decidable.byContradiction fun h => hc (c_over (by omega))
  have hcr := can_red (p := p) (by omega) (mul f g)
  have hne2 : red p (mul f g) ≠ [] := fun e => by rw [e] at g1; simp at g1
  have hlast := hcr.2 hne2
  refine Decidable.byContradiction fun h => hlast ?_
  rw [c_red, mul_over f g _ (by omega), Int.zero_emod]

-- Values.
def ev : List Int → Int → Int
  | [], _ => 0
  | a :: f, x => a + x * ev f x

theorem ev_add : ∀ (f g : List Int) (x : Int), ev (add f g) x = ev f x + ev g x := by
  intro f
  induction f with
  | nil => intro g x; simp [add, ev]
  | cons a f ih =>
    intro g x
    cases g with
    | nil => simp [add, ev]
    | cons b g =>
      simp only [add, ev]
      rw [ih, Int.mul_add]
      omega

theorem ev_sc : ∀ (f : List Int) (a x : Int), ev (sc a f) x = a * ev f x := by
  intro f
  induction f with
  | nil => intro a x; simp [sc, ev]
  | cons b f ih =>
    intro a x
    have e : sc a (b :: f) = (a * b) :: sc a f := rfl
    rw [e]
    simp only [ev]
    rw [ih]
    grind

theorem ev_mul : ∀ (f g : List Int) (x : Int), ev (mul f g) x = ev f x * ev g x := by
  intro f
  induction f with
  | nil => intro g x; simp [mul, ev]
  | cons a f ih =>
    intro g x
    rw [mul, ev_add, ev_sc]
    simp only [ev]
    rw [ih]
    grind

theorem ev_none {p : Int} : ∀ (f : List Int) (x : Int), (∀ i, p ∣ c f i) → p ∣ ev f x := by
  intro f
  induction f with
  | nil => intro x _; exact Int.dvd_zero p
  | cons a f ih =>
    intro x h
    exact Int.dvd_add (h 0) (Int.dvd_mul_of_dvd_right (ih x fun i => by have := h (i + 1); rwa [c_succ] at this))

theorem ev_cg {p : Int} {f g : List Int} (h : Cg p f g) (x : Int) : p ∣ ev f x - ev g x := by
  have := ev_none (p := p) (add f (sc (-1) g)) x fun i => by
    rw [c_add, c_sc]
    have := h i
    rwa [show c f i + -1 * c g i = c f i - c g i by omega]
  rw [ev_add, ev_sc] at this
  rwa [show ev f x + -1 * ev g x = ev f x - ev g x by omega] at this

theorem ev_at {p : Int} : ∀ (f : List Int) {x y : Int}, p ∣ x - y → p ∣ ev f x - ev f y := by
  intro f
  induction f with
  | nil => intro x y _; simp [ev]
  | cons a f ih =>
    intro x y h
    simp only [ev]
    have h1 := Int.dvd_mul_of_dvd_left (c := ev f x) h
    have h2 := Int.dvd_mul_of_dvd_right (b := y) (ih h)
    have := Int.dvd_add h1 h2
    rwa [show (x - y) * ev f x + y * (ev f x - ev f y) = a + x * ev f x - (a + y * ev f y) by grind] at this

end Go.Proofs.Ytfdhhiibhkepaaa.Po
