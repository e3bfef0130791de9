/-
  By an irreducible polynomial: what is not nought may be struck; all that are not nought, multiplied: so each, as often as there are polynomials with fewer numbers, is itself. No Go in sight.
-/
import Derived.Test.YtimehaolaeedhaaIrMany
namespace Go.Proofs.Ytimehaolaeedhaa.Po
open Pr Rs Dd

/-- Alike by f. -/
def Cf (p : Int) (f a b : List Int) : Prop := Di p f (add a (sc (-1) b))

theorem cf_of {p : Int} {f a b : List Int} (h : Cg p a b) : Cf p f a b := (Di.none p f).cg fun i => by
  have := h i
  rw [c_nil, c_add, c_sc]
  have := Int.dvd_neg.mpr this
  rwa [show -(c a i - c b i) = 0 - (c a i + -1 * c b i) by omega] at this
theorem Cf.refl (p : Int) (f a : List Int) : Cf p f a a := cf_of (Cg.refl p a)
theorem Cf.trans {p : Int} {f a b d : List Int} (h : Cf p f a b) (k : Cf p f b d) : Cf p f a d := (Di.add h k).cg (Cg.of_eq fun i => by simp only [c_add, c_sc]; omega)
theorem Cf.symm {p : Int} {f a b : List Int} (h : Cf p f a b) : Cf p f b a := (h.times [-1]).cg (Cg.of_eq fun i => by rw [one_c]; simp only [c_add, c_sc]; omega)
theorem Cf.mul {p : Int} {f a b : List Int} (h : Cf p f a b) (g : List Int) : Cf p f (Po.mul g a) (Po.mul g b) := (h.times g).cg (Cg.of_eq fun i => by rw [mul_add, c_add, c_sc, mul_sc])
theorem Cf.both {p : Int} {f a b a' b' : List Int} (h : Cf p f a a') (k : Cf p f b b') : Cf p f (Po.mul a b) (Po.mul a' b') :=
  (k.mul a).trans ((cf_of (Cg.comm p a b')).trans ((h.mul b').trans (cf_of (Cg.comm p b' a'))))

/-- What is left, divided by f. -/
theorem cf_rest {p : Int} {f a q r : List Int} (h : Dv p a f q r) : Cf p f a r := ⟨q, fun i => by
  have := h i
  rw [c_add] at this
  simp only [c_add, c_sc]
  rwa [show c (Po.mul q f) i - (c a i + -1 * c r i) = c (Po.mul q f) i + c r i - c a i by omega]⟩

/-- Two with fewer numbers than f are one, if they are alike by f. -/
theorem cf_one {p : Int} {f a b : List Int} (hp : Prm p) (hf : Can p f) (ha : Can p a) (hb : Can p b) (la : a.length < f.length) (lb : b.length < f.length) (h : Cf p f a b) : a = b := by
  have p2 := hp.1
  have hc := can_red (p := p) (by omega) (add a (sc (-1) b))
  by_cases h0 : red p (add a (sc (-1) b)) = []
  · refine ha.ext (by omega) hb fun i => ?_
    have := cg_red p (add a (sc (-1) b)) i
    rw [h0, c_nil, c_add, c_sc] at this
    have := Int.dvd_neg.mpr this
    rwa [show -(0 - (c a i + -1 * c b i)) = c a i - c b i by omega] at this
  · have hd : Di p f (red p (add a (sc (-1) b))) := Di.cg h (cg_red p _).symm
    obtain ⟨q, _, q2, _, _, q5⟩ := hd.length hp hf hc h0
    have a1 := List.length_pos_iff.mpr q2
    have l1 := red_length p (add a (sc (-1) b))
    rw [add_length, sc_length] at l1
    omega

/-- What f does not divide may be struck. -/
theorem cf_cancel {p : Int} {f a b g : List Int} (hp : Prm p) (hf : Irr p f) (hg : ¬ Di p f g) (h : Cf p f (mul g a) (mul g b)) : Cf p f a b := by
  have h1 : Di p f (mul g (add a (sc (-1) b))) := Di.cg h (Cg.of_eq fun i => by rw [mul_add, c_add, c_sc, mul_sc])
  exact (irr_euclid hp hf h1).resolve_left hg

/-- Multiplied so often. -/
def pwl (g : List Int) : Nat → List Int
  | 0 => [1]
  | n + 1 => mul g (pwl g n)

/-- A product of those that a list names. -/
def prl (F : Nat → List Int) : List Nat → List Int
  | [] => [1]
  | x :: l => mul (F x) (prl F l)

theorem prl_perm {p : Int} (F : Nat → List Int) {l k : List Nat} (h : l.Perm k) : Cg p (prl F l) (prl F k) := by
  induction h with
  | nil => exact Cg.refl _ _
  | cons x _ ih => exact Cg.mul_right (F x) ih
  | swap x y l =>
    refine Cg.of_eq fun i => ?_
    show c (mul (F y) (mul (F x) (prl F l))) i = c (mul (F x) (mul (F y) (prl F l))) i
    rw [← mul_assoc, ← mul_assoc, mul_comm (mul (F y) (F x)), mul_comm (mul (F x) (F y))]
    exact congr_mul_right _ (mul_comm (F y) (F x)) i
  | trans _ _ ih1 ih2 => exact ih1.trans ih2

theorem prl_congr {p : Int} {f : List Int} {F H : Nat → List Int} {l : List Nat} (h : ∀ x ∈ l, Cf p f (F x) (H x)) : Cf p f (prl F l) (prl H l) := by
  induction l with
  | nil => exact Cf.refl _ _ _
  | cons x l ih => exact (h x List.mem_cons_self).both (ih fun y hy => h y (List.mem_cons_of_mem _ hy))

theorem prl_times {p : Int} (F : Nat → List Int) (g : List Int) (l : List Nat) : Cg p (prl (fun x => mul g (F x)) l) (mul (pwl g l.length) (prl F l)) := by
  induction l with
  | nil => exact Cg.of_eq fun i => (one_mul [1] i).symm
  | cons x l ih =>
    refine (Cg.mul_right (mul g (F x)) ih).trans (Cg.of_eq fun i => ?_)
    show c (mul (mul g (F x)) (mul (pwl g l.length) (prl F l))) i = c (mul (mul g (pwl g l.length)) (mul (F x) (prl F l))) i
    rw [mul_assoc, mul_assoc]
    refine congr_mul_right g (fun j => ?_) i
    rw [← mul_assoc, ← mul_assoc, mul_comm (mul (F x) (pwl g l.length)), mul_comm (mul (pwl g l.length) (F x))]
    exact congr_mul_right _ (mul_comm (F x) (pwl g l.length)) j

theorem prl_map (F : Nat → List Int) (φ : Nat → Nat) (l : List Nat) : prl F (l.map φ) = prl (fun x => F (φ x)) l := by
  induction l with
  | nil => rfl
  | cons x l ih => rw [List.map_cons, prl, prl, ih]

theorem prl_not {p : Int} {f : List Int} (hp : Prm p) (hf : Irr p f) {F : Nat → List Int} {l : List Nat} (h : ∀ x ∈ l, ¬ Di p f (F x)) : ¬ Di p f (prl F l) := by
  induction l with
  | nil =>
    intro hd
    have p2 := hp.1
    obtain ⟨q, _, q2, _, _, q5⟩ := Di.length hp hf.1 (mo_one hp).1 (by simp) hd
    have a1 := List.length_pos_iff.mpr q2
    have := hf.2.1
    simp at q5
    omega
  | cons x l ih =>
    intro hd
    rcases irr_euclid hp hf hd with h1 | h1
    · exact h x List.mem_cons_self h1
    · exact ih (fun y hy => h y (List.mem_cons_of_mem _ hy)) h1

/-- The polynomial with these digits, in lowest form. -/
def rl (q k x : Nat) : List Int := short (dg q k x)

theorem rl_can {q k x : Nat} (hq : 0 < q) : Can q (rl q k x) := ⟨fun a ha => dg_bound hq k x a (short_mem _ _ ha), short_last _⟩
theorem rl_length (q k x : Nat) : (rl q k x).length ≤ k := by
  have := short_length (dg q k x)
  rwa [dg_length] at this

theorem vl_pad {q : Nat} : ∀ l : List Int, vl q (short l) = vl q l := by
  intro l
  induction l with
  | nil => rfl
  | cons a l ih =>
    unfold short
    by_cases h : short l = [] ∧ a = 0
    · have h1 : vl q l = 0 := by rw [← ih, h.1]; rfl
      rw [if_pos h, vl, vl, h1, h.2]
      rfl
    · rw [if_neg h, vl, vl, ih]

theorem vl_rl {q k x : Nat} (hx : x < q ^ k) : vl q (rl q k x) = x := by
  unfold rl
  rw [vl_pad, vl_dg k x hx]

theorem vl_small {q : Nat} {f : List Int} {k : Nat} (hq : 0 < q) (hf : Can q f) (hl : f.length ≤ k) : vl q f < q ^ k :=
  Nat.lt_of_lt_of_le (vl_lt f hf.1) (Nat.pow_le_pow_right hq hl)

/-- A row of digits, with noughts behind. -/
theorem dg_pad {q : Nat} (hq : 0 < q) : ∀ (k : Nat) (f : List Int), (∀ a ∈ f, 0 ≤ a ∧ a < q) → f.length ≤ k → ∀ i, c (dg q k (vl q f)) i = c f i := by
  intro k
  induction k with
  | zero =>
    intro f _ hl i
    have : f = [] := List.length_eq_zero_iff.mp (by omega)
    subst this
    rfl
  | succ k ih =>
    intro f hf hl i
    cases f with
    | nil =>
      rw [vl, dg, Nat.zero_mod, Nat.zero_div]
      cases i with
      | zero => rfl
      | succ i => rw [c_succ, c_nil]; exact ih [] (fun a h => by cases h) (by simp) i
    | cons a f =>
      have ha := hf a List.mem_cons_self
      rw [vl, dg]
      have e1 : (a.toNat + q * vl q f) % q = a.toNat := by rw [Nat.add_mul_mod_self_left, Nat.mod_eq_of_lt (by omega)]
      have e2 : (a.toNat + q * vl q f) / q = vl q f := by rw [Nat.add_mul_div_left _ _ hq, Nat.div_eq_of_lt (by omega), Nat.zero_add]
      rw [e1, e2]
      cases i with
      | zero => show ((a.toNat : Nat) : Int) = a; omega
      | succ i => rw [c_succ, c_succ]; exact ih f (fun b hb => hf b (List.mem_cons_of_mem _ hb)) (by simpa using hl) i

theorem rl_vl {q k : Nat} {f : List Int} (hq : 0 < q) (hf : Can q f) (hl : f.length ≤ k) : rl q k (vl q f) = f := by
  refine (rl_can hq).ext (by omega) hf (Cg.of_eq fun i => ?_)
  unfold rl
  rw [c_short]
  exact dg_pad hq k f hf.1 hl i

theorem perm_of_sub : ∀ (A B : List Nat), A.Nodup → (∀ x ∈ A, x ∈ B) → B.length ≤ A.length → A.Perm B := by
  intro A
  induction A with
  | nil =>
    intro B _ _ h
    have : B = [] := List.length_eq_zero_iff.mp (by simpa using h)
    rw [this]
  | cons x A ih =>
    intro B hn hs hl
    have hx : x ∈ B := hs x (by simp)
    have h1 := List.perm_cons_erase hx
    rw [List.nodup_cons] at hn
    refine List.Perm.trans (List.Perm.cons x (ih (B.erase x) hn.2 (fun y hy => ?_) ?_)) h1.symm
    · have hne : y ≠ x := fun e => hn.1 (e ▸ hy)
      exact (List.mem_erase_of_ne hne).mpr (hs y (by simp [hy]))
    · have h2 := List.length_erase_of_mem hx
      have h3 := List.length_pos_of_mem hx
      simp at hl
      omega

/-- GALOIS: by an irreducible one of degree k each is itself, multiplied as often as there are with fewer numbers. -/
theorem frob {q k : Nat} {f g : List Int} (hp : Prm q) (hf : Irr q f) (hk : f.length = k + 1) (hg : ¬ Di q f g) : Cf q f (pwl g (q ^ k)) g := by
  have p2 := hp.1
  have q0 : 0 < q := by omega
  have k1 : 1 ≤ k := by have := hf.2.1; omega
  have hf0 : f ≠ [] := fun e => by rw [e] at hk; simp at hk
  have hr : ∀ x : Nat, ∃ y : Nat, y < q ^ k ∧ Cf q f (mul g (rl q k x)) (rl q k y) := fun x => by
    obtain ⟨s, r, hs⟩ := dv_some hp (can_red (p := (q : Int)) (by omega) (mul g (rl q k x))) hf.1 hf0
    have hl : r.length ≤ k := by have := hs.2.2.1; omega
    refine ⟨vl q r, vl_small q0 hs.2.1 hl, ?_⟩
    rw [rl_vl q0 hs.2.1 hl]
    exact (cf_of (cg_red _ _).symm).trans (cf_rest hs.2.2.2)
  obtain ⟨φ, hφ⟩ := Classical.axiomOfChoice hr
  have small : ∀ x, x < q ^ k → 1 ≤ x → ¬ Di q f (rl q k x) := fun x hx h1 hd => by
    have hne : rl q k x ≠ [] := fun e => by
      have := vl_rl (q := q) (k := k) hx
      rw [e] at this
      simp [vl] at this
      omega
    obtain ⟨s, _, s2, _, _, s5⟩ := hd.length hp hf.1 (rl_can q0) hne
    have a1 := List.length_pos_iff.mpr s2
    have := rl_length q k x
    omega
  have hL : ∀ x ∈ to (q ^ k - 1), 1 ≤ x ∧ x < q ^ k := fun x hx => by
    have := mem_to.mp hx
    have : 0 < q ^ k := Nat.pow_pos q0
    omega
  have hmem : ∀ x ∈ to (q ^ k - 1), φ x ∈ to (q ^ k - 1) := fun x hx => by
    have hx := hL x hx
    have h1 := hφ x
    refine mem_to.mpr ⟨Nat.pos_of_ne_zero fun e => ?_, by omega⟩
    have h2 := h1.2
    rw [e] at h2
    have h3 : Di q f (mul g (rl q k x)) := by
      refine Di.cg h2 (Cg.of_eq fun i => ?_)
      have e0 : c (rl q k 0) i = 0 := by
        have h0 : rl q k (vl q []) = [] := rl_vl q0 (Can.nil _) (by simp)
        rw [show vl q [] = 0 from rfl] at h0
        rw [h0]; rfl
      rw [c_add, c_sc, e0]
      omega
    rcases irr_euclid hp hf h3 with h | h
    · exact hg h
    · exact small x hx.2 hx.1 h
  have hinj : ∀ x ∈ to (q ^ k - 1), ∀ y ∈ to (q ^ k - 1), φ x = φ y → x = y := fun x hx y hy he => by
    have hx := hL x hx
    have hy := hL y hy
    have h1 := (hφ x).2
    rw [he] at h1
    have h2 := cf_cancel hp hf hg (h1.trans (hφ y).2.symm)
    have h3 := cf_one hp hf.1 (rl_can q0) (rl_can q0) (by have := rl_length q k x; omega) (by have := rl_length q k y; omega) h2
    rw [← vl_rl (q := q) (k := k) hx.2, ← vl_rl (q := q) (k := k) hy.2, h3]
  have hperm : ((to (q ^ k - 1)).map φ).Perm (to (q ^ k - 1)) := by
    have hN := nodup_map (to_nodup (q ^ k - 1)) hinj
    refine perm_of_sub _ _ hN (fun x hx => ?_) (by simp)
    obtain ⟨y, hy, rfl⟩ := List.mem_map.mp hx
    exact hmem y hy
  have h1 : Cg q (prl (rl q k) ((to (q ^ k - 1)).map φ)) (prl (rl q k) (to (q ^ k - 1))) := prl_perm _ hperm
  rw [prl_map] at h1
  have h2 : Cf q f (prl (fun x => mul g (rl q k x)) (to (q ^ k - 1))) (prl (fun x => rl q k (φ x)) (to (q ^ k - 1))) := prl_congr fun x _ => (hφ x).2
  have h3 := prl_times (p := (q : Int)) (rl q k) g (to (q ^ k - 1))
  have hlen : (to (q ^ k - 1)).length = q ^ k - 1 := by simp [to]
  rw [hlen] at h3
  obtain ⟨R, hR⟩ : ∃ R, prl (rl q k) (to (q ^ k - 1)) = R := ⟨_, rfl⟩
  rw [hR] at h1 h3
  have hRn : ¬ Di q f R := by
    rw [← hR]
    exact prl_not hp hf fun x hx => small x (hL x hx).2 (hL x hx).1
  have h4 : Cf q f (mul R (pwl g (q ^ k - 1))) (mul R [1]) := by
    refine (cf_of (Cg.comm _ _ _)).trans ((cf_of h3.symm).trans (h2.trans ((cf_of h1).trans (cf_of (Cg.of_eq fun i => ?_)))))
    rw [mul_comm]
    exact (one_mul R i).symm
  have h5 := cf_cancel hp hf hRn h4
  have h6 := h5.mul g
  have e : pwl g (q ^ k) = mul g (pwl g (q ^ k - 1)) := by
    have : 0 < q ^ k := Nat.pow_pos q0
    obtain ⟨m, hm⟩ : ∃ m, q ^ k = m + 1 := ⟨q ^ k - 1, by omega⟩
    rw [hm, Nat.add_sub_cancel]
    rfl
  rw [e]
  exact h6.trans (cf_of (Cg.of_eq fun i => by rw [mul_comm]; exact one_mul g i))

/-- Powers of powers. -/
theorem pwl_add {p : Int} (g : List Int) (m : Nat) : ∀ n, Cg p (mul (pwl g n) (pwl g m)) (pwl g (n + m)) := by
  intro n
  induction n with
  | zero => rw [Nat.zero_add]; exact Cg.of_eq (one_mul _)
  | succ n ih =>
    rw [Nat.succ_add]
    exact (Cg.of_eq (mul_assoc g (pwl g n) (pwl g m))).trans (Cg.mul_right g ih)
theorem pwl_mul {p : Int} (g : List Int) (m : Nat) : ∀ n, Cg p (pwl (pwl g m) n) (pwl g (m * n)) := by
  intro n
  induction n with
  | zero => exact Cg.refl _ _
  | succ n ih =>
    refine (Cg.mul_right (pwl g m) ih).trans ((pwl_add g (m * n) m).trans ?_)
    rw [Nat.mul_succ, Nat.add_comm]
    exact Cg.refl _ _
theorem pwl_cf {p : Int} {f a b : List Int} (h : Cf p f a b) : ∀ n, Cf p f (pwl a n) (pwl b n) := by
  intro n
  induction n with
  | zero => exact Cf.refl _ _ _
  | succ n ih => exact h.both ih

/-- Nothing but a number divides both an irreducible one and one with fewer numbers. -/
theorem irr_gcd {p : Int} {f g d : List Int} (hp : Prm p) (hf : Irr p f) (hg : Can p g) (h0 : g ≠ []) (hl : g.length < f.length) (hd : IsG p d f g) : d = [1] := by
  have hf0 : f ≠ [] := fun e => by have := hf.2.1; rw [e] at this; simp at this
  obtain ⟨s, _, s2, s3, _, s5⟩ := hd.r.length hp hd.mon.1 hg h0
  have a1 := List.length_pos_iff.mpr s2
  have a2 := List.length_pos_iff.mpr s3
  refine di_unit hd.mon ?_
  refine Decidable.byContradiction fun hc => ?_
  exact hf.2.2 d hd.mon.1 (by omega) (by omega) hd.l

end Go.Proofs.Ytimehaolaeedhaa.Po
