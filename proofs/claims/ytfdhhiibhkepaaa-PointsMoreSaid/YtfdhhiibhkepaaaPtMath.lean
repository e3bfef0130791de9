/-
  Points: what is wrong with them; the polynomial through them, and how it is found one point after the other.
-/
import Derived.Test.YtfdhhiibhkepaaaPoInt
import Derived.Test.YtfdhhiibhkepaaaPoChk
import Derived.Test.YtfdhhiibhkepaaaPoList
import Derived.Test.YtfdhhiibhkepaaaPoProd
import Derived.Test.YtfdhhiibhkepaaaRests
namespace Go.Proofs.Ytfdhhiibhkepaaa
open Pr Po Rs

/-- The place of point i, and what stands there. -/
def px (l : List (Int × Int)) (i : Nat) : Int := (nthR l i).1
def py (l : List (Int × Int)) (i : Nat) : Int := (nthR l i).2

/-- Was this place there before? -/
def hasP (l : List (Int × Int)) (x : Int) : Bool := l.any fun a => a.1 == x
/-- The first error among the first k points. -/
def ptS (p : Int) (l : List (Int × Int)) : Nat → Int
  | 0 => 0
  | k + 1 => if ptS p l k ≠ 0 then ptS p l k else if outB p (px l k) = true ∨ outB p (py l k) = true then 1 else if hasP (l.take k) (px l k) = true then 6 else 0
def ptE (p : Int) (l : List (Int × Int)) : Int := if fieldE p ≠ 0 then 1 else if 12 < l.length then 2 else ptS p l l.length

theorem ptS_stop {p e : Int} {l : List (Int × Int)} {k : Nat} (h : ptS p l k = e) (he : e ≠ 0) : ∀ n, k ≤ n → ptS p l n = e := by
  intro n
  induction n with
  | zero =>
    intro hk
    have hk0 : k = 0 := by omega
    rw [← hk0]; exact h
  | succ n ih =>
    intro hk
    by_cases hn : k = n + 1
    · subst hn; exact h
    · have := ih (by omega)
      rw [ptS, if_pos (by rw [this]; exact he), this]

theorem ptS_next {p : Int} {l : List (Int × Int)} {k : Nat} (h : ptS p l k = 0) : ptS p l (k + 1) = if outB p (px l k) = true ∨ outB p (py l k) = true then 1 else if hasP (l.take k) (px l k) = true then 6 else 0 := by
  rw [ptS, if_neg (by simpa using h)]

theorem hasP_take {l : List (Int × Int)} {k : Nat} (hk : k ≤ l.length) {x : Int} : hasP (l.take k) x = true ↔ ∃ j, j < k ∧ px l j = x := by
  unfold hasP
  rw [List.any_eq_true]
  constructor
  · rintro ⟨a, ha, hx⟩
    obtain ⟨j, hj, rfl⟩ := List.getElem_of_mem ha
    have hj2 : j < k ∧ j < l.length := by rw [List.length_take] at hj; omega
    refine ⟨j, hj2.1, ?_⟩
    unfold px
    rw [nthR_eq hj2.2]
    simpa using hx
  · rintro ⟨j, hj, hx⟩
    refine ⟨nthR l j, ?_, by simpa [px] using hx⟩
    rw [nthR_eq (by omega)]
    exact List.mem_take_iff_getElem.mpr ⟨j, by omega, rfl⟩

/-- Points by p, told apart. -/
def Pts (p : Int) (l : List (Int × Int)) (k : Nat) : Prop := (∀ i, i < k → (0 ≤ px l i ∧ px l i < p) ∧ 0 ≤ py l i ∧ py l i < p) ∧ ∀ i j, i < k → j < k → i ≠ j → px l i ≠ px l j

theorem Pts.apart {p : Int} {l : List (Int × Int)} {k : Nat} (h : Pts p l k) : Apart p (px l) k := ⟨fun i hi => (h.1 i hi).1, h.2⟩

theorem ptS_zero {p : Int} {l : List (Int × Int)} : ∀ k, k ≤ l.length → (ptS p l k = 0 ↔ Pts p l k) := by
  intro k
  induction k with
  | zero => intro _; exact ⟨fun _ => ⟨fun i hi => by omega, fun i j hi => by omega⟩, fun _ => rfl⟩
  | succ k ih =>
    intro hk
    have ih := ih (by omega)
    by_cases h0 : ptS p l k = 0
    · rw [ptS_next h0]
      have hP := ih.mp h0
      by_cases h1 : outB p (px l k) = true ∨ outB p (py l k) = true
      · rw [if_pos h1]
        constructor
        · intro h; simp at h
        · intro h
          have := h.1 k (by omega)
          rcases h1 with h1 | h1
          · rw [outB_no.mpr this.1] at h1; cases h1
          · rw [outB_no.mpr this.2] at h1; cases h1
      · rw [if_neg h1]
        have x1 : outB p (px l k) = false := by cases h : outB p (px l k) <;> simp_all
        have x2 : outB p (py l k) = false := by cases h : outB p (py l k) <;> simp_all
        have x1 := outB_no.mp x1
        have x2 := outB_no.mp x2
        by_cases h2 : hasP (l.take k) (px l k) = true
        · rw [if_pos h2]
          constructor
          · intro h; simp at h
          · intro h
            obtain ⟨j, hj, hx⟩ := (hasP_take (by omega)).mp h2
            exact absurd hx (h.2 j k (by omega) (by omega) (by omega))
        · rw [if_neg h2]
          refine ⟨fun _ => ⟨fun i hi => ?_, fun i j hi hj hne hx => ?_⟩, fun _ => rfl⟩
          · by_cases hik : i = k
            · subst hik; exact ⟨x1, x2⟩
            · exact hP.1 i (by omega)
          · by_cases hik : i = k
            · subst hik
              exact h2 ((hasP_take (by omega)).mpr ⟨j, by omega, hx.symm⟩)
            · by_cases hjk : j = k
              · subst hjk
                exact h2 ((hasP_take (by omega)).mpr ⟨i, by omega, hx⟩)
              · exact hP.2 i j (by omega) (by omega) hne hx
    · rw [ptS_stop (e := ptS p l k) rfl h0 (k + 1) (by omega)]
      refine ⟨fun h => absurd h h0, fun h => absurd (ih.mpr ⟨fun i hi => h.1 i (by omega), fun i j hi hj => h.2 i j (by omega) (by omega)⟩) h0⟩

theorem ptE_zero {p : Int} {l : List (Int × Int)} : ptE p l = 0 ↔ Prm p ∧ p ≤ 997 ∧ l.length ≤ 12 ∧ Pts p l l.length := by
  unfold ptE
  by_cases h1 : fieldE p = 0
  · rw [if_neg (by simpa using h1)]
    have hp := fieldE_zero.mp h1
    by_cases h2 : 12 < l.length
    · rw [if_pos h2]; simp; omega
    · rw [if_neg h2, ptS_zero _ (Nat.le_refl _)]
      exact ⟨fun h => ⟨hp.1, hp.2, by omega, h⟩, fun h => h.2.2.2⟩
  · rw [if_pos h1]
    exact ⟨fun h => by simp at h, fun h => absurd (fieldE_zero.mpr ⟨h.1, h.2.1⟩) h1⟩

/-- The polynomial through the points. -/
def IsTh (p : Int) (l : List (Int × Int)) (k : Nat) (f : List Int) : Prop := Po.Can p f ∧ f.length ≤ k ∧ ∀ i, i < k → p ∣ ev f (px l i) - py l i

theorem IsTh.same {p : Int} {l : List (Int × Int)} {k : Nat} {f g : List Int} (hf : IsTh p l k f) (hg : IsTh p l k g) : ∀ i, i < k → p ∣ ev f (px l i) - ev g (px l i) := fun i hi => by
  have := Int.dvd_sub (hf.2.2 i hi) (hg.2.2 i hi)
  rwa [show ev f (px l i) - py l i - (ev g (px l i) - py l i) = ev f (px l i) - ev g (px l i) by omega] at this

theorem IsTh.uniq {p : Int} {l : List (Int × Int)} {k : Nat} {f g : List Int} (hp : Prm p) (hl : Pts p l k) (hf : IsTh p l k f) (hg : IsTh p l k g) : f = g :=
  alike_one hp hl.apart hf.1 hg.1 hf.2.1 hg.2.1 (hf.same hg)

/-- LAGRANGE: there is one. -/
theorem isTh_some {p : Int} {l : List (Int × Int)} {k : Nat} (hp : Prm p) (hl : Pts p l k) : ∃ f, IsTh p l k f := by
  have hb : ∀ i : Nat, ∃ b : Int, i < k → p ∣ b * bv (px l) i (px l i) k - 1 := fun i => by
    by_cases hi : i < k
    · obtain ⟨b, _, _, h⟩ := inv_some hp (bv_not hp hl.apart hi k (Nat.le_refl _))
      exact ⟨b, fun _ => h⟩
    · exact ⟨0, fun h => absurd h hi⟩
  obtain ⟨b, hb⟩ := Classical.axiomOfChoice hb
  have p2 := hp.1
  refine ⟨red p (lg (px l) (fun i => b i * py l i) k k), can_red (by omega) _, Nat.le_trans (red_length _ _) (lg_length _ _ _ _ (Nat.le_refl _)), fun i hi => ?_⟩
  have h1 := lg_through (p := p) (X := px l) (Y := py l) (t := fun i => b i * py l i) (n := k) (fun i hi => by
    have h : p ∣ py l i * (b i * bv (px l) i (px l i) k - 1) := Int.dvd_mul_of_dvd_right (hb i hi)
    rwa [show py l i * (b i * bv (px l) i (px l i) k - 1) = b i * py l i * bv (px l) i (px l i) k - py l i by grind] at h) hi
  have h2 := ev_cg (cg_red p (lg (px l) (fun i => b i * py l i) k k)) (px l i)
  have := Int.dvd_add h2 h1
  rwa [show ∀ a b c : Int, a - b + (b - c) = a - c by intros; omega] at this

/-- What vanishes at the first k places. -/
def zs (X : Nat → Int) : Nat → List Int
  | 0 => [1]
  | k + 1 => mul [- X k, 1] (zs X k)

theorem zs_bs (X : Nat → Int) (i : Nat) : ∀ k, k ≤ i → bs X i k = zs X k := by
  intro k
  induction k with
  | zero => intro _; rfl
  | succ k ih =>
    intro h
    rw [bs, zs, if_neg (by omega), ih (by omega)]

/-- The same, in lowest form. -/
def zr (p : Int) (X : Nat → Int) (k : Nat) : List Int := red p (zs X k)

theorem can_line {p x : Int} (hp : Prm p) : Po.Can p [(p - x) % p, 1] := by
  have p2 := hp.1
  refine ⟨fun y hy => ?_, fun _ => by show (1 : Int) ≠ 0; decide⟩
  rcases List.mem_cons.mp hy with rfl | hy
  · exact ⟨Int.emod_nonneg _ (by omega), Int.emod_lt_of_pos _ (by omega)⟩
  · have : y = 1 := by simpa using hy
    omega

theorem cg_line (p x : Int) : Cg p [(p - x) % p, 1] [-x, 1] := fun i => by
  match i with
  | 0 =>
    show p ∣ (p - x) % p - -x
    refine ⟨- ((p - x) / p) + 1, ?_⟩
    have := Int.mul_ediv_add_emod (p - x) p
    grind
  | 1 => show p ∣ 1 - 1; exact Int.dvd_zero p
  | i + 2 => show p ∣ 0 - 0; exact Int.dvd_zero p

theorem zr_zero {p : Int} (hp : Prm p) (X : Nat → Int) : zr p X 0 = [1] := by
  have p2 := hp.1
  exact red_can (by omega) (can_one (by omega) (by omega))

theorem zr_next {p : Int} (hp : Prm p) (X : Nat → Int) (k : Nat) : red p (mul (zr p X k) [(p - X k) % p, 1]) = zr p X (k + 1) := by
  have p2 := hp.1
  exact red_cg (by omega) (((cg_red p _).mul (cg_line p (X k))).trans (Cg.comm p _ _))

theorem zr_can {p : Int} (hp : Prm p) (X : Nat → Int) (k : Nat) : Po.Can p (zr p X k) := can_red (by have := hp.1; omega) _

theorem zr_length {p : Int} (hp : Prm p) (X : Nat → Int) : ∀ k, (zr p X k).length = k + 1 := by
  intro k
  induction k with
  | zero => rw [zr_zero hp]; rfl
  | succ k ih =>
    rw [← zr_next hp, red_mul_length hp (zr_can hp X k) (can_line hp) (by intro h; rw [h] at ih; simp at ih) (by simp), ih]
    rfl

theorem zr_ev {p : Int} (X : Nat → Int) (k : Nat) (x : Int) : p ∣ ev (zr p X k) x - bv X k x k := by
  have := ev_cg (cg_red p (zs X k)) x
  rw [← bs_ev, zs_bs X k k (Nat.le_refl _)]
  exact this

theorem zr_not {p : Int} {l : List (Int × Int)} {n k : Nat} (hp : Prm p) (hl : Pts p l n) (hk : k < n) : ¬ p ∣ ev (zr p (px l) k) (px l k) := fun h => by
  refine bv_not hp hl.apart hk k (by omega) ?_
  have := Int.dvd_sub h (zr_ev (p := p) (px l) k (px l k))
  rwa [show ∀ a b : Int, a - (a - b) = b by intros; omega] at this

theorem times_length {p : Int} (hp : 0 < p) (f : List Int) (t : Int) : (red p (mul f [t])).length ≤ f.length := by
  have e : red p (mul f [t]) = red p (sc t f) := red_cg hp ((Cg.comm p _ _).trans (Cg.of_eq fun i => by rw [one_c, c_sc]))
  rw [e]
  exact Nat.le_trans (red_length _ _) (by rw [sc_length]; exact Nat.le_refl _)

/-- NEWTON's step. -/
theorem isTh_next {p t : Int} {l : List (Int × Int)} {k : Nat} {f : List Int} (hp : Prm p) (hf : IsTh p l k f) (ht : p ∣ t * ev (zr p (px l) k) (px l k) - (py l k - ev f (px l k))) :
    IsTh p l (k + 1) (red p (add f (red p (mul (zr p (px l) k) [t])))) := by
  have p2 := hp.1
  have hlen := zr_length hp (px l) k
  have hm : Cg p (red p (mul (zr p (px l) k) [t])) (sc t (bs (px l) k k)) := by
    refine (cg_red p _).trans ((Cg.comm p _ _).trans ((Cg.of_eq fun i => by rw [one_c, c_sc]).trans (Cg.sc t ?_)))
    rw [zs_bs _ k k (Nat.le_refl _)]
    exact cg_red p _
  refine ⟨can_red (by omega) _, ?_, fun i hi => ?_⟩
  · refine Nat.le_trans (red_length _ _) ?_
    have h1 := times_length (p := p) (by omega) (zr p (px l) k) t
    have h3 := hf.2.1
    rw [add_length]
    omega
  · have e1 := ev_cg (cg_red p (add f (red p (mul (zr p (px l) k) [t])))) (px l i)
    have e2 := ev_cg hm (px l i)
    rw [ev_add] at e1
    rw [ev_sc, bs_ev] at e2
    have e3 := Int.dvd_add e1 e2
    by_cases h : i = k
    · subst h
      have e4 := zr_ev (p := p) (px l) i (px l i)
      have e6 : p ∣ t * (ev (zr p (px l) i) (px l i) - bv (px l) i (px l i) i) := Int.dvd_mul_of_dvd_right e4
      rw [Int.mul_sub] at e6
      have e5 := Int.dvd_sub (Int.dvd_add e3 ht) e6
      refine (congrArg (p ∣ ·) ?_).mp e5
      omega
    · have e4 := hf.2.2 i (by omega)
      rw [bv_zero (by omega) k (by omega), Int.mul_zero] at e3
      refine (congrArg (p ∣ ·) ?_).mp (Int.dvd_add e3 e4)
      omega

/-- What turns a difference of places round, by FERMAT. -/
def vi (p : Int) (l : List (Int × Int)) (i k : Nat) : Int := Pw ((px l i - px l k) % p) (p.toNat - 2) p

theorem vi_inv {p : Int} {l : List (Int × Int)} {n i k : Nat} (hp : Prm p) (hl : Pts p l n) (hi : i < n) (hk : k < n) (hne : k ≠ i) : p ∣ (px l i - px l k) * vi p l i k - 1 := by
  have p2 := hp.1
  have hnd := hl.apart.not hi hk (Ne.symm hne)
  have h := fermat_one hp hnd
  unfold vi
  rw [Pw_mod]
  unfold Pw
  generalize px l i - px l k = d at *
  unfold Rs.One at h
  have e : d ^ (p.toNat - 1) = d * d ^ (p.toNat - 2) := by
    rw [show p.toNat - 1 = (p.toNat - 2) + 1 by omega, Int.pow_succ, Int.mul_comm]
  rw [e] at h
  obtain ⟨q, hq⟩ := h
  refine ⟨q - d * (d ^ (p.toNat - 2) / p), ?_⟩
  have := Int.mul_ediv_add_emod (d ^ (p.toNat - 2)) p
  generalize d ^ (p.toNat - 2) = t at *
  generalize t / p = u at *
  generalize t % p = s at *
  grind

/-- LAGRANGE's sum at x is what the polynomial is there. -/
theorem isTh_sum {p : Int} {l : List (Int × Int)} {k : Nat} {f : List Int} (hp : Prm p) (hl : Pts p l k) (hf : IsTh p l k f) (x : Int) : p ∣ ev f x - su (fun i => bq (px l) (vi p l i) i (py l i) (x % p) k) k := by
  have h1 := lagrange_sum hp hl.apart hf.2.1 hf.2.2 (v := vi p l) (fun i hi j hj hne => vi_inv hp hl hi hj hne) (x % p)
  have h2 : p ∣ ev f x - ev f (x % p) := ev_at f (by
    refine ⟨x / p, ?_⟩
    have := Int.mul_ediv_add_emod x p
    omega)
  have := Int.dvd_add h2 h1
  rwa [show ∀ a b c : Int, a - b + (b - c) = a - c by intros; omega] at this

theorem emod_of_dvd {p a b : Int} (h : p ∣ a - b) : a % p = b % p := Int.emod_eq_emod_iff_emod_sub_eq_zero.mpr (Int.emod_eq_zero_of_dvd h)
theorem dvd_of_emod {p a b : Int} (h : a % p = b % p) : p ∣ a - b := Int.dvd_of_emod_eq_zero (Int.emod_eq_emod_iff_emod_sub_eq_zero.mp h)

end Go.Proofs.Ytfdhhiibhkepaaa
