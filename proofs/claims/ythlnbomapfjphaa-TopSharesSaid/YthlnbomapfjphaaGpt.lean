/-
  Several texts in one:
  - Points: what is wrong with them; the polynomial through them, and how it is found one point after the other.
  - Package points: inRange, hasX, Check; the document's errors.
  - Package points: multiple, Through, At.
  - The document's errors of points: places are counted in a map.
  - Package points: At; the document's value by LAGRANGE.
  - wholekeep: lines, seen; PointsBack, walked.
-/
import Derived.Test.YthlnbomapfjphaaGma
import Derived.Test.YthlnbomapfjphaaGpa
import Derived.Test.YthlnbomapfjphaaGpb
import Derived.Test.YthlnbomapfjphaaGpr
import Derived.Test.YthlnbomapfjphaaGro
import Derived.Maps.Own
import Derived.Maps.OwnOps
import Derived.Maps.Views
import Derived.Test.YthlnbomapfjphaaGnu
namespace Go.Proofs.Ythlnbomapfjphaa
open Pr Po Rs

/-- The place of point i, and what stands there. -/
def px (l : List (Int × Int)) (i : Nat) : Int := (nthR l i).1
def py (l : List (Int × Int)) (i : Nat) : Int := (nthR l i).2

/-- Was this place there before? -/
def hasP (l : List (Int × Int)) (x : Int) : Bool := l.any fun a => a.1 == x
/-- The first error among the first k points. -/
def ptS (p : Int) (l : List (Int × Int)) : Nat → Int
  | 0 => 0
  | k + 1 => if ptS p l k ≠ 0 then ptS p l k else if outB p (px l k) = true ∨ outB p (py l k) = true then 1 else if hasP (l.take k) (px l k) = true then 6 else 0
def ptE (p : Int) (l : List (Int × Int)) : Int := if fieldE p ≠ 0 then 1 else if 12 < l.length then 2 else ptS p l l.length

theorem ptS_stop {p e : Int} {l : List (Int × Int)} {k : Nat} (h : ptS p l k = e) (he : e ≠ 0) : ∀ n, k ≤ n → ptS p l n = e := by
  intro n
  induction n with
  | zero =>
    intro hk
    have hk0 : k = 0 := by omega
    rw [← hk0]; exact h
  | succ n ih =>
    intro hk
    by_cases hn : k = n + 1
    · subst hn; exact h
    · have := ih (by omega)
      rw [ptS, if_pos (by rw [this]; exact he), this]

theorem ptS_next {p : Int} {l : List (Int × Int)} {k : Nat} (h : ptS p l k = 0) : ptS p l (k + 1) = if outB p (px l k) = true ∨ outB p (py l k) = true then 1 else if hasP (l.take k) (px l k) = true then 6 else 0 := by
  rw [ptS, if_neg (by simpa using h)]

theorem hasP_take {l : List (Int × Int)} {k : Nat} (hk : k ≤ l.length) {x : Int} : hasP (l.take k) x = true ↔ ∃ j, j < k ∧ px l j = x := by
  unfold hasP
  rw [List.any_eq_true]
  constructor
  · rintro ⟨a, ha, hx⟩
    obtain ⟨j, hj, rfl⟩ := List.getElem_of_mem ha
    have hj2 : j < k ∧ j < l.length := by rw [List.length_take] at hj; omega
    refine ⟨j, hj2.1, ?_⟩
    unfold px
    rw [nthR_eq hj2.2]
    simpa using hx
  · rintro ⟨j, hj, hx⟩
    refine ⟨nthR l j, ?_, by simpa [px] using hx⟩
    rw [nthR_eq (by omega)]
    exact List.mem_take_iff_getElem.mpr ⟨j, by omega, rfl⟩

/-- Points by p, told apart. -/
def Pts (p : Int) (l : List (Int × Int)) (k : Nat) : Prop := (∀ i, i < k → (0 ≤ px l i ∧ px l i < p) ∧ 0 ≤ py l i ∧ py l i < p) ∧ ∀ i j, i < k → j < k → i ≠ j → px l i ≠ px l j

theorem Pts.apart {p : Int} {l : List (Int × Int)} {k : Nat} (h : Pts p l k) : Apart p (px l) k := ⟨fun i hi => (h.1 i hi).1, h.2⟩

theorem ptS_zero {p : Int} {l : List (Int × Int)} : ∀ k, k ≤ l.length → (ptS p l k = 0 ↔ Pts p l k) := by
  intro k
  induction k with
  | zero => intro _; exact ⟨fun _ => ⟨fun i hi => by omega, fun i j hi => by omega⟩, fun _ => rfl⟩
  | succ k ih =>
    intro hk
    have ih := ih (by omega)
    by_cases h0 : ptS p l k = 0
    · rw [ptS_next h0]
      have hP := ih.mp h0
      by_cases h1 : outB p (px l k) = true ∨ outB p (py l k) = true
      · rw [if_pos h1]
        constructor
        · intro h; simp at h
        · intro h
          have := h.1 k (by omega)
          rcases h1 with h1 | h1
          · rw [outB_no.mpr this.1] at h1; cases h1
          · rw [outB_no.mpr this.2] at h1; cases h1
      · rw [if_neg h1]
        have x1 : outB p (px l k) = false := by cases h : outB p (px l k) <;> simp_all
        have x2 : outB p (py l k) = false := by cases h : outB p (py l k) <;> simp_all
        have x1 := outB_no.mp x1
        have x2 := outB_no.mp x2
        by_cases h2 : hasP (l.take k) (px l k) = true
        · rw [if_pos h2]
          constructor
          · intro h; simp at h
          · intro h
            obtain ⟨j, hj, hx⟩ := (hasP_take (by omega)).mp h2
            exact absurd hx (h.2 j k (by omega) (by omega) (by omega))
        · rw [if_neg h2]
          refine ⟨fun _ => ⟨fun i hi => ?_, fun i j hi hj hne hx => ?_⟩, fun _ => rfl⟩
          · by_cases hik : i = k
            · subst hik; exact ⟨x1, x2⟩
            · exact hP.1 i (by omega)
          · by_cases hik : i = k
            · subst hik
              exact h2 ((hasP_take (by omega)).mpr ⟨j, by omega, hx.symm⟩)
            · by_cases hjk : j = k
              · subst hjk
                exact h2 ((hasP_take (by omega)).mpr ⟨i, by omega, hx⟩)
              · exact hP.2 i j (by omega) (by omega) hne hx
    · rw [ptS_stop (e := ptS p l k) rfl h0 (k + 1) (by omega)]
      refine ⟨fun h => absurd h h0, fun h => absurd (ih.mpr ⟨fun i hi => h.1 i (by omega), fun i j hi hj => h.2 i j (by omega) (by omega)⟩) h0⟩

theorem ptE_zero {p : Int} {l : List (Int × Int)} : ptE p l = 0 ↔ Prm p ∧ p ≤ 997 ∧ l.length ≤ 12 ∧ Pts p l l.length := by
  unfold ptE
  by_cases h1 : fieldE p = 0
  · rw [if_neg (by simpa using h1)]
    have hp := fieldE_zero.mp h1
    by_cases h2 : 12 < l.length
    · rw [if_pos h2]; simp; omega
    · rw [if_neg h2, ptS_zero _ (Nat.le_refl _)]
      exact ⟨fun h => ⟨hp.1, hp.2, by omega, h⟩, fun h => h.2.2.2⟩
  · rw [if_pos h1]
    exact ⟨fun h => by simp at h, fun h => absurd (fieldE_zero.mpr ⟨h.1, h.2.1⟩) h1⟩

/-- The polynomial through the points. -/
def IsTh (p : Int) (l : List (Int × Int)) (k : Nat) (f : List Int) : Prop := Po.Can p f ∧ f.length ≤ k ∧ ∀ i, i < k → p ∣ ev f (px l i) - py l i

theorem IsTh.same {p : Int} {l : List (Int × Int)} {k : Nat} {f g : List Int} (hf : IsTh p l k f) (hg : IsTh p l k g) : ∀ i, i < k → p ∣ ev f (px l i) - ev g (px l i) := fun i hi => by
  have := Int.dvd_sub (hf.2.2 i hi) (hg.2.2 i hi)
  rwa [show ev f (px l i) - py l i - (ev g (px l i) - py l i) = ev f (px l i) - ev g (px l i) by omega] at this

theorem IsTh.uniq {p : Int} {l : List (Int × Int)} {k : Nat} {f g : List Int} (hp : Prm p) (hl : Pts p l k) (hf : IsTh p l k f) (hg : IsTh p l k g) : f = g :=
  alike_one hp hl.apart hf.1 hg.1 hf.2.1 hg.2.1 (hf.same hg)

/-- LAGRANGE: there is one. -/
theorem isTh_some {p : Int} {l : List (Int × Int)} {k : Nat} (hp : Prm p) (hl : Pts p l k) : ∃ f, IsTh p l k f := by
  have hb : ∀ i : Nat, ∃ b : Int, i < k → p ∣ b * bv (px l) i (px l i) k - 1 := fun i => by
    by_cases hi : i < k
    · obtain ⟨b, _, _, h⟩ := inv_some hp (bv_not hp hl.apart hi k (Nat.le_refl _))
      exact ⟨b, fun _ => h⟩
    · exact ⟨0, fun h => absurd h hi⟩
  obtain ⟨b, hb⟩ := Classical.axiomOfChoice hb
  have p2 := hp.1
  refine ⟨red p (lg (px l) (fun i => b i * py l i) k k), can_red (by omega) _, Nat.le_trans (red_length _ _) (lg_length _ _ _ _ (Nat.le_refl _)), fun i hi => ?_⟩
  have h1 := lg_through (p := p) (X := px l) (Y := py l) (t := fun i => b i * py l i) (n := k) (fun i hi => by
    have h : p ∣ py l i * (b i * bv (px l) i (px l i) k - 1) := Int.dvd_mul_of_dvd_right (hb i hi)
    rwa [show py l i * (b i * bv (px l) i (px l i) k - 1) = b i * py l i * bv (px l) i (px l i) k - py l i by grind] at h) hi
  have h2 := ev_cg (cg_red p (lg (px l) (fun i => b i * py l i) k k)) (px l i)
  have := Int.dvd_add h2 h1
  rwa [show ∀ a b c : Int, a - b + (b - c) = a - c by intros; omega] at this

/-- What vanishes at the first k places. -/
def zs (X : Nat → Int) : Nat → List Int
  | 0 => [1]
  | k + 1 => mul [- X k, 1] (zs X k)

theorem zs_bs (X : Nat → Int) (i : Nat) : ∀ k, k ≤ i → bs X i k = zs X k := by
  intro k
  induction k with
  | zero => intro _; rfl
  | succ k ih =>
    intro h
    rw [bs, zs, if_neg (by omega), ih (by omega)]

/-- The same, in lowest form. -/
def zr (p : Int) (X : Nat → Int) (k : Nat) : List Int := red p (zs X k)

theorem can_line {p x : Int} (hp : Prm p) : Po.Can p [(p - x) % p, 1] := by
  have p2 := hp.1
  refine ⟨fun y hy => ?_, fun _ => by show (1 : Int) ≠ 0; decide⟩
  rcases List.mem_cons.mp hy with rfl | hy
  · exact ⟨Int.emod_nonneg _ (by omega), Int.emod_lt_of_pos _ (by omega)⟩
  · have : y = 1 := by simpa using hy
    omega

theorem cg_line (p x : Int) : Cg p [(p - x) % p, 1] [-x, 1] := fun i => by
  match i with
  | 0 =>
    show p ∣ (p - x) % p - -x
    refine ⟨- ((p - x) / p) + 1, ?_⟩
    have := Int.mul_ediv_add_emod (p - x) p
    grind
  | 1 => show p ∣ 1 - 1; exact Int.dvd_zero p
  | i + 2 => show p ∣ 0 - 0; exact Int.dvd_zero p

theorem zr_zero {p : Int} (hp : Prm p) (X : Nat → Int) : zr p X 0 = [1] := by
  have p2 := hp.1
  exact red_can (by omega) (can_one (by omega) (by omega))

theorem zr_next {p : Int} (hp : Prm p) (X : Nat → Int) (k : Nat) : red p (mul (zr p X k) [(p - X k) % p, 1]) = zr p X (k + 1) := by
  have p2 := hp.1
  exact red_cg (by omega) (((cg_red p _).mul (cg_line p (X k))).trans (Cg.comm p _ _))

theorem zr_can {p : Int} (hp : Prm p) (X : Nat → Int) (k : Nat) : Po.Can p (zr p X k) := can_red (by have := hp.1; omega) _

theorem zr_length {p : Int} (hp : Prm p) (X : Nat → Int) : ∀ k, (zr p X k).length = k + 1 := by
  intro k
  induction k with
  | zero => rw [zr_zero hp]; rfl
  | succ k ih =>
    rw [← zr_next hp, red_mul_length hp (zr_can hp X k) (can_line hp) (by intro h; rw [h] at ih; simp at ih) (by simp), ih]
    rfl

theorem zr_ev {p : Int} (X : Nat → Int) (k : Nat) (x : Int) : p ∣ ev (zr p X k) x - bv X k x k := by
  have := ev_cg (cg_red p (zs X k)) x
  rw [← bs_ev, zs_bs X k k (Nat.le_refl _)]
  exact this

theorem zr_not {p : Int} {l : List (Int × Int)} {n k : Nat} (hp : Prm p) (hl : Pts p l n) (hk : k < n) : ¬ p ∣ ev (zr p (px l) k) (px l k) := fun h => by
  refine bv_not hp hl.apart hk k (by omega) ?_
  have := Int.dvd_sub h (zr_ev (p := p) (px l) k (px l k))
  rwa [show ∀ a b : Int, a - (a - b) = b by intros; omega] at this

theorem times_length {p : Int} (hp : 0 < p) (f : List Int) (t : Int) : (red p (mul f [t])).length ≤ f.length := by
  have e : red p (mul f [t]) = red p (sc t f) := red_cg hp ((Cg.comm p _ _).trans (Cg.of_eq fun i => by rw [one_c, c_sc]))
  rw [e]
  exact Nat.le_trans (red_length _ _) (by rw [sc_length]; exact Nat.le_refl _)

/-- NEWTON's step. -/
theorem isTh_next {p t : Int} {l : List (Int × Int)} {k : Nat} {f : List Int} (hp : Prm p) (hf : IsTh p l k f) (ht : p ∣ t * ev (zr p (px l) k) (px l k) - (py l k - ev f (px l k))) :
    IsTh p l (k + 1) (red p (add f (red p (mul (zr p (px l) k) [t])))) := by
  have p2 := hp.1
  have hlen := zr_length hp (px l) k
  have hm : Cg p (red p (mul (zr p (px l) k) [t])) (sc t (bs (px l) k k)) := by
    refine (cg_red p _).trans ((Cg.comm p _ _).trans ((Cg.of_eq fun i => by rw [one_c, c_sc]).trans (Cg.sc t ?_)))
    rw [zs_bs _ k k (Nat.le_refl _)]
    exact cg_red p _
  refine ⟨can_red (by omega) _, ?_, fun i hi => ?_⟩
  · refine Nat.le_trans (red_length _ _) ?_
    have h1 := times_length (p := p) (by omega) (zr p (px l) k) t
    have h3 := hf.2.1
    rw [add_length]
    omega
  · have e1 := ev_cg (cg_red p (add f (red p (mul (zr p (px l) k) [t])))) (px l i)
    have e2 := ev_cg hm (px l i)
    rw [ev_add] at e1
    rw [ev_sc, bs_ev] at e2
    have e3 := Int.dvd_add e1 e2
    by_cases h : i = k
    · subst h
      have e4 := zr_ev (p := p) (px l) i (px l i)
      have e6 : p ∣ t * (ev (zr p (px l) i) (px l i) - bv (px l) i (px l i) i) := Int.dvd_mul_of_dvd_right e4
      rw [Int.mul_sub] at e6
      have e5 := Int.dvd_sub (Int.dvd_add e3 ht) e6
      refine (congrArg (p ∣ ·) ?_).mp e5
      omega
    · have e4 := hf.2.2 i (by omega)
      rw [bv_zero (by omega) k (by omega), Int.mul_zero] at e3
      refine (congrArg (p ∣ ·) ?_).mp (Int.dvd_add e3 e4)
      omega

/-- What turns a difference of places round, by FERMAT. -/
def vi (p : Int) (l : List (Int × Int)) (i k : Nat) : Int := Pw ((px l i - px l k) % p) (p.toNat - 2) p

theorem vi_inv {p : Int} {l : List (Int × Int)} {n i k : Nat} (hp : Prm p) (hl : Pts p l n) (hi : i < n) (hk : k < n) (hne : k ≠ i) : p ∣ (px l i - px l k) * vi p l i k - 1 := by
  have p2 := hp.1
  have hnd := hl.apart.not hi hk (Ne.symm hne)
  have h := fermat_one hp hnd
  unfold vi
  rw [Pw_mod]
  unfold Pw
  generalize px l i - px l k = d at *
  unfold Rs.One at h
  have e : d ^ (p.toNat - 1) = d * d ^ (p.toNat - 2) := by
    rw [show p.toNat - 1 = (p.toNat - 2) + 1 by omega, Int.pow_succ, Int.mul_comm]
  rw [e] at h
  obtain ⟨q, hq⟩ := h
  refine ⟨q - d * (d ^ (p.toNat - 2) / p), ?_⟩
  have := Int.mul_ediv_add_emod (d ^ (p.toNat - 2)) p
  generalize d ^ (p.toNat - 2) = t at *
  generalize t / p = u at *
  generalize t % p = s at *
  grind

/-- LAGRANGE's sum at x is what the polynomial is there. -/
theorem isTh_sum {p : Int} {l : List (Int × Int)} {k : Nat} {f : List Int} (hp : Prm p) (hl : Pts p l k) (hf : IsTh p l k f) (x : Int) : p ∣ ev f x - su (fun i => bq (px l) (vi p l i) i (py l i) (x % p) k) k := by
  have h1 := lagrange_sum hp hl.apart hf.2.1 hf.2.2 (v := vi p l) (fun i hi j hj hne => vi_inv hp hl hi hj hne) (x % p)
  have h2 : p ∣ ev f x - ev f (x % p) := ev_at f (by
    refine ⟨x / p, ?_⟩
    have := Int.mul_ediv_add_emod x p
    omega)
  have := Int.dvd_add h2 h1
  rwa [show ∀ a b c : Int, a - b + (b - c) = a - c by intros; omega] at this

theorem emod_of_dvd {p a b : Int} (h : p ∣ a - b) : a % p = b % p := Int.emod_eq_emod_iff_emod_sub_eq_zero.mpr (Int.emod_eq_zero_of_dvd h)
theorem dvd_of_emod {p a b : Int} (h : a % p = b % p) : p ∣ a - b := Int.dvd_of_emod_eq_zero (Int.emod_eq_emod_iff_emod_sub_eq_zero.mp h)

end Go.Proofs.Ythlnbomapfjphaa

namespace Go.Proofs.Ythlnbomapfjphaa
open Go.RowKit
open Pr Po

set_option maxHeartbeats 400000 in
theorem ptIn_yes (p x : Int) (w : World) (h : outB p x = false) : Calls Try.prog 115 #[.int .i64 p, .int .i64 x] w (fun e w' => e = .returned (.bool true) ∧ w = w') := by
  obtain ⟨h0, h1⟩ := outB_no.mp h
  clear h
  go_enter Try.func115, Try.ntmps115
  go_wp2
  go_ret
  exact ⟨rfl, rfl⟩

set_option maxHeartbeats 400000 in
theorem ptIn_no (p x : Int) (w : World) (h : outB p x = true) : Calls Try.prog 115 #[.int .i64 p, .int .i64 x] w (fun e w' => e = .returned (.bool false) ∧ w = w') := by
  by_cases h0 : x < 0
  · clear h
    go_enter Try.func115, Try.ntmps115
    go_wp2
    go_ret
    exact ⟨by first | rfl | (simp; done) | (simp; omega), rfl⟩
  · have h1 : p ≤ x := by
      refine Decidable.byContradiction fun hc => ?_
      rw [outB_no.mpr ⟨by omega, by omega⟩] at h
      cases h
    have h2 : 0 ≤ x := by omega
    clear h h0
    go_enter Try.func115, Try.ntmps115
    go_wp2
    go_ret
    exact ⟨by first | rfl | (simp; done) | (simp; omega), rfl⟩

theorem hasP_no {l : List (Int × Int)} {x : Int} (h : ∀ j, j < l.length → px l j ≠ x) : hasP l x = false := by
  unfold hasP
  rw [List.any_eq_false]
  intro a ha
  obtain ⟨j, hj, rfl⟩ := List.getElem_of_mem ha
  have := h j hj
  unfold px at this
  rw [nthR_eq hj] at this
  simpa using this
theorem hasP_yes {l : List (Int × Int)} {x : Int} {j : Nat} (hj : j < l.length) (h : px l j = x) : hasP l x = true :=
  List.any_eq_true.mpr ⟨_, nthR_mem hj, by simpa [px] using h⟩

set_option maxHeartbeats 1000000 in
theorem hasX_any (l : List (Int × Int)) (n : Nat) (x : Int) (a : Option Addr) (cap : Nat) (w : World) (hn : l.length = n) (hl : n ≤ 1000) (hr : ReadsR w a l) :
    Calls Try.prog 116 #[.slice a n cap, .int .i64 x] w (Says (.bool (hasP l x)) w) := by
  subst hn
  rcases hr with rfl | ⟨b, off, rfl, hc⟩
  · have e : hasP [] x = false := rfl
    rw [e]
    go_enter Try.func116, Try.ntmps116
    go_wp2
    refine wp_loop_rounds 1 ?_
    rw [rounds_succ]
    go_wp2
    go_ret
    exact .same
  · have HC := Lib.hid hc
    clear hc
    go_enter Try.func116, Try.ntmps116
    go_wp2
    go_loopg [9] l.length (fun k v9 wr => ∃ i : Nat, i ≤ l.length ∧ v9 = .int .i64 i ∧ Hid (k = l.length - i) ∧ Hid (∀ j, j < i → px l j ≠ x) ∧ Ex w wr)
    case atStart => exact ⟨0, Nat.zero_le _, rfl, Lib.hid rfl, Lib.hid (fun j hj => absurd hj (Nat.not_lt_zero _)), Ex.refl _⟩
    case round =>
      obtain ⟨i, hi, rfl, hk, hn, hw⟩ := hrel
      by_cases hlt : i < l.length
      · have hc0 := hw.cell (HC.out i hlt).1
        have hc1 := hw.cell (HC.out i hlt).2
        have HY : Hid (px l i = x → hasP l x = true) := Lib.hid (hasP_yes hlt)
        have HN : Hid (px l i ≠ x → ∀ j, j < i + 1 → px l j ≠ x) := Lib.hid fun h j hj => by
          rcases Nat.lt_succ_iff_lt_or_eq.mp hj with h2 | h2
          · exact hn.out j h2
          · rw [h2]; exact h
        unfold px at HY HN
        obtain ⟨q, hq⟩ : ∃ q, nthR l i = q := ⟨_, rfl⟩
        rw [hq] at hc0 hc1 HY HN
        obtain ⟨u, v⟩ := q
        simp only at hc0 hc1 HY HN
        clear hq
        by_cases hx : u = x
        · have HE := Lib.hid (HY.out hx)
          subst hx
          go_wp2
          go_ret
          exact ⟨by rw [HE.out]; rfl, (hw.alloc _)⟩
        · have hb : (u == x) = false := by simpa using hx
          have HE := Lib.hid (HN.out hx)
          clear hx
          go_wp2
          go_roundg (l.length - (i + 1))
          case measure => have := hk.out; omega
          case rel => exact ⟨i + 1, by omega, by go_num, Lib.hid rfl, Lib.hid HE.out, hw.alloc _⟩
      · have e : i = l.length := by omega
        subst e
        have HE := Lib.hid (hasP_no hn.out)
        go_wp2
        go_ret
        exact ⟨by rw [HE.out]; rfl, hw⟩

theorem ptE_field {p : Int} {l : List (Int × Int)} (h : fieldE p = 1) : ptE p l = 1 := by unfold ptE; rw [if_pos (by rw [h]; decide)]
theorem ptE_large {p : Int} {l : List (Int × Int)} (h : fieldE p = 0) (hl : 12 < l.length) : ptE p l = 2 := by unfold ptE; rw [if_neg (by rw [h]; decide), if_pos hl]
theorem ptE_scan {p : Int} {l : List (Int × Int)} (h : fieldE p = 0) (hl : l.length ≤ 12) : ptE p l = ptS p l l.length := by unfold ptE; rw [if_neg (by rw [h]; decide), if_neg (by omega)]

/-- What the loops are told of point i. -/
theorem scan_bad {p : Int} {l : List (Int × Int)} {i : Nat} (h : fieldE p = 0) (hl : l.length ≤ 12) (hi : i < l.length) (h0 : ptS p l i = 0) (hb : outB p (px l i) = true ∨ outB p (py l i) = true) : ptE p l = 1 := by
  rw [ptE_scan h hl]
  exact ptS_stop (k := i + 1) (by rw [ptS_next h0, if_pos hb]) (by decide) _ (by omega)
theorem scan_there {p : Int} {l : List (Int × Int)} {i : Nat} (h : fieldE p = 0) (hl : l.length ≤ 12) (hi : i < l.length) (h0 : ptS p l i = 0) (h1 : outB p (px l i) = false) (h2 : outB p (py l i) = false) (hb : hasP (l.take i) (px l i) = true) : ptE p l = 6 := by
  rw [ptE_scan h hl]
  exact ptS_stop (k := i + 1) (by rw [ptS_next h0, if_neg (by rw [h1, h2]; simp), if_pos hb]) (by decide) _ (by omega)
theorem scan_next {p : Int} {l : List (Int × Int)} {i : Nat} (h0 : ptS p l i = 0) (h1 : outB p (px l i) = false) (h2 : outB p (py l i) = false) (hb : hasP (l.take i) (px l i) = false) : ptS p l (i + 1) = 0 := by
  rw [ptS_next h0, if_neg (by rw [h1, h2]; simp), if_neg (by rw [hb]; decide)]

set_option maxRecDepth 100000 in
set_option maxHeartbeats 2000000 in
theorem ptCheck_any (p : Int) (l : List (Int × Int)) (a : Option Addr) (cap : Nat) (w : World) (hcap : l.length ≤ cap) (hl : l.length ≤ 140737488355328) (hr : ReadsR w a l) :
    Calls Try.prog 80 #[.int .i64 p, .slice a l.length cap] w (Says (.int .i64 (ptE p l)) w) := by
  have HF := Lib.hid fun w2 => field_any p w2
  rcases fieldE_two p with h1 | h1
  · rw [h1] at HF
    by_cases h6 : 12 < l.length
    · have HE := Lib.hid (ptE_large h1 h6)
      clear hr h1
      go_enter Try.func80, Try.ntmps80
      go_wp2_with (go_at_call 113; (with_reducible refine (HF.out _).mono ?_); rintro e w2 ⟨rfl, hw2⟩)
      go_ret
      exact ⟨by rw [HE.out]; rfl, hw2⟩
    · have H1 := Lib.hid h1
      have h7 : l.length ≤ 12 := by omega
      have HR := Lib.hid hr
      have HH := Lib.hid fun (i : Nat) (x : Int) (w2 : World) (hi : i ≤ l.length) (hx : Ex w w2) => hasX_any (l.take i) i x a cap w2 (by rw [List.length_take]; omega) (by omega) ((hr.take i).ex hx)
      have HEND : Hid (ptS p l l.length = 0 → ptE p l = 0) := Lib.hid fun h => by rw [ptE_scan h1 h7, h]
      clear hr h6 h1
      go_enter Try.func80, Try.ntmps80
      go_wp2_with (go_at_call 113; (with_reducible refine (HF.out _).mono ?_); rintro e w2 ⟨rfl, hw2⟩)
      go_loopg [18] l.length (fun k vSLOT x => ∃ i : Nat, i ≤ l.length ∧ vSLOT = .int .i64 i ∧ Hid (ptS p l i = 0) ∧ Hid (k = l.length - i) ∧ Ex w x)
      case atStart => exact ⟨0, by omega, rfl, Lib.hid rfl, Lib.hid rfl, hw2⟩
      case round =>
        obtain ⟨i, hi, rfl, hS, hk, hx⟩ := hrel
        by_cases hlt : i < l.length
        · rcases HR.out with hn | ⟨b, off, rfl, hc⟩
          · rw [hn] at hlt; exact absurd hlt (Nat.not_lt_zero _)
          have hc0 := hx.cell (hc i hlt).1
          have hc1 := hx.cell (hc i hlt).2
          have HB := Lib.hid (scan_bad H1.out h7 hlt hS.out)
          have HT := Lib.hid (scan_there H1.out h7 hlt hS.out)
          have HN := Lib.hid (scan_next (l := l) (i := i) hS.out)
          have HXi := Lib.hid fun w2 hx2 => HH.out i (px l i) w2 hi hx2
          unfold px at HB HT HN HXi
          unfold py at HB HT HN
          obtain ⟨q, hq⟩ : ∃ q, nthR l i = q := ⟨_, rfl⟩
          rw [hq] at hc0 hc1 HB HT HN HXi
          obtain ⟨u, v⟩ := q
          simp only at hc0 hc1 HB HT HN HXi
          clear hq hc
          have hic : i ≤ cap := by omega
          cases hu : outB p u
          · cases hv : outB p v
            · have HU := Lib.hid hu
              have HV := Lib.hid hv
              obtain ⟨c, hc⟩ : ∃ c, hasP (l.take i) u = c := ⟨_, rfl⟩
              rw [hc] at HXi
              have HC := Lib.hid hc
              clear hu hv hc
              have hxa := hx.alloc (.cells #[.int .i64 u, .int .i64 v] 119)
              have HXQ := Lib.hid fun x : Wo (wr.alloc (.cells #[.int .i64 u, .int .i64 v] 119)) => HXi.out _ (hxa.trans x.ex)
              have q0 : ∀ x : Wo (wr.alloc (.cells #[.int .i64 u, .int .i64 v] 119)), x.val.cell? ⟨wr.heap.size, 0, none⟩ = some (.int .i64 u) := fun x => x.ex.cell (by simp)
              go_wp2_with (first
                | (go_at_call 115; (with_reducible refine (ptIn_yes p u _ HU.out).mono ?_); rintro e w' ⟨rfl, rfl⟩)
                | (go_at_call 115; (with_reducible refine (ptIn_yes p v _ HV.out).mono ?_); rintro e w' ⟨rfl, rfl⟩))
              refine wp_region_wo (by kernel_rfl) (by kernel_rfl) ?_
              repeat (go_big_quiet_step ((go_at_call 116; exact says_wo (HXQ.out _))))
              refine wpQuiet_nil ?_
              rintro _ ⟨⟨w4, hw4⟩, rfl⟩
              have hx4 := hxa.trans hw4
              clear q0
              cases c
              · have HE := Lib.hid (HN.out HU.out HV.out HC.out)
                go_wp2
                go_roundg (l.length - (i + 1))
                case measure => have := hk.out; omega
                case rel => exact ⟨i + 1, by omega, by go_num, HE, Lib.hid rfl, hx4⟩
              · have HE := Lib.hid (HT.out HU.out HV.out HC.out)
                go_wp2
                go_ret
                exact ⟨by rw [HE.out]; rfl, hx4⟩
            · have HE := Lib.hid (HB.out (.inr hv))
              have HU := Lib.hid hu
              have HV := Lib.hid hv
              clear hu hv
              go_wp2_with (first
                | (go_at_call 115; (with_reducible refine (ptIn_yes p u _ HU.out).mono ?_); rintro e w' ⟨rfl, rfl⟩)
                | (go_at_call 115; (with_reducible refine (ptIn_no p v _ HV.out).mono ?_); rintro e w' ⟨rfl, rfl⟩))
              go_ret
              exact ⟨by rw [HE.out]; rfl, hx.alloc _⟩
          · have HE := Lib.hid (HB.out (.inl hu))
            have HU := Lib.hid hu
            clear hu
            go_wp2_with (go_at_call 115; (with_reducible refine (ptIn_no p u _ HU.out).mono ?_); rintro e w' ⟨rfl, rfl⟩)
            go_ret
            exact ⟨by rw [HE.out]; rfl, hx.alloc _⟩
        · have e : i = l.length := by omega
          subst e
          have HE := Lib.hid (HEND.out hS.out)
          go_wp2
          go_ret
          exact ⟨by rw [HE.out]; rfl, hx⟩
  · rw [h1] at HF
    have HE := Lib.hid (ptE_field (l := l) h1)
    clear hr h1
    go_enter Try.func80, Try.ntmps80
    go_wp2_with (go_at_call 113; (with_reducible refine (HF.out _).mono ?_); rintro e w2 ⟨rfl, hw2⟩)
    go_ret
    exact ⟨by rw [HE.out]; rfl, hw2⟩

end Go.Proofs.Ythlnbomapfjphaa

namespace Go.Proofs.Ythlnbomapfjphaa
open Go.RowKit
open Eu Pr Po Rs

theorem inverse_at (a m s : Int) (w : World) (h1 : 1 ≤ m) (h2 : m ≤ 1000000) (s0 : 0 ≤ s) (s1 : s < m) (hs : s * a % m = 1 % m) :
    Calls Try.prog 34 #[.int .i64 a, .int .i64 m] w (Says (.tuple #[.int .i64 s, .int .i64 0]) w) :=
  (inverse_ok a m w h1 h2 (G_one_of_inv (by omega) hs)).mono fun e w2 ⟨x, x0, x1, hx, h⟩ => by
    have e2 : x = s := inv_uniq (x := a) s0 s1 x0 x1 (by rw [Int.mul_comm]; exact hs) hx.out
    subst e2
    exact h

theorem one_of_dvd {p b v : Int} (h : p ∣ b * v - 1) : b * v % p = 1 % p := Int.emod_eq_emod_iff_emod_sub_eq_zero.mpr (Int.emod_eq_zero_of_dvd h)

/-- What the multiple is times. -/
theorem times_ok {p b E v y u e : Int} (hv : v = E % p) (hu : u = e % p) (hb : p ∣ b * v - 1) : p ∣ (p + y - u) * b % p * E - (y - e) := by
  subst hv
  subst hu
  obtain ⟨k, hk⟩ := hb
  have h1 := Int.mul_ediv_add_emod E p
  have h2 := Int.mul_ediv_add_emod e p
  have h3 := Int.mul_ediv_add_emod ((p + y - e % p) * b) p
  generalize E / p = E1 at *
  generalize E % p = E0 at *
  generalize e / p = e1 at *
  generalize e % p = e0 at *
  generalize (p + y - e0) * b / p = t1 at *
  generalize ht : (p + y - e0) * b % p = t0 at *
  -- t0 = (p + y - e0) * b - p * t1; E = p * E1 + E0; e = p * e1 + e0; b * E0 = 1 + p * k
  have e4 : t0 = (p + y - e0) * b - p * t1 := by omega
  have e5 : E = p * E1 + E0 := by omega
  have e6 : e = p * e1 + e0 := by omega
  refine ⟨t0 * E1 + (p + y - e0) * k - t1 * E0 + 1 + e1, ?_⟩
  have e7 : t0 * E0 = (p + y - e0) * (1 + p * k) - p * t1 * E0 := by
    rw [e4, Int.sub_mul, Int.mul_assoc, show b * E0 = 1 + p * k by omega]
  rw [e5, e6]
  grind

set_option maxRecDepth 100000 in
set_option maxHeartbeats 2000000 in
theorem multL {p : Int} (hp : Prm p) (p9 : p ≤ 997) {f z : List Int} {L M : Nat} (hf : Po.Can p f) (hz : Po.Can p z) (hL : f.length = L) (hM : z.length = M) (hm : L ≤ 12 ∧ M ≤ 13) {x y : Int} (_ : 0 ≤ x) (_ : x < p) (y0 : 0 ≤ y) (y1 : y < p) (hnd : ¬ p ∣ ev z x) :
    ∃ (t : Int) (H : List Int) (N : Nat), p ∣ t * ev z x - (y - ev f x) ∧ red p (mul z [t]) = H ∧ H.length = N ∧ N ≤ M ∧ Po.Can p H ∧
      ∀ (w : World) (a b : Option Addr) (ca cb : Nat), Reads w .i64 a f → Reads w .i64 b z → Calls Try.prog 81 #[.int .i64 p, .slice a L ca, .slice b M cb, .agg #[.int .i64 x, .int .i64 y]] w (Slc H N w) := by
  have p2 := hp.1
  obtain ⟨u, hu⟩ : ∃ u, u = ev f x % p := ⟨_, rfl⟩
  obtain ⟨v, hv⟩ : ∃ v, v = ev z x % p := ⟨_, rfl⟩
  have hvn : ¬ p ∣ v := fun h => hnd (Int.dvd_of_emod_eq_zero (by
    have := Int.emod_eq_zero_of_dvd h
    rw [hv, Int.emod_emod] at this
    exact this))
  obtain ⟨b, b0, b1, hb⟩ := inv_some hp hvn
  have u0 : 0 ≤ u := by rw [hu]; exact Int.emod_nonneg _ (by omega)
  have u1 : u < p := by rw [hu]; exact Int.emod_lt_of_pos _ (by omega)
  obtain ⟨t, ht⟩ : ∃ t, (p + y - u) * b % p = t := ⟨_, rfl⟩
  have t0 : 0 ≤ t := by rw [← ht]; exact Int.emod_nonneg _ (by omega)
  have t1 : t < p := by rw [← ht]; exact Int.emod_lt_of_pos _ (by omega)
  have hlen := times_length (p := p) (by omega) z t
  refine ⟨t, red p (mul z [t]), _, by rw [← ht]; exact times_ok hv hu hb, rfl, rfl, by rw [← hM]; exact hlen, can_red (by omega) _, fun w a c ca cc hr hr2 => ?_⟩
  obtain ⟨q0, q1⟩ := Eu.mul_le (a := p + y - u) (b := b) (A := 2000) (B := 997) (by omega) (by omega) (by omega) (by omega)
  have HA1 : Hid (∀ w2, Ex w w2 → Calls Try.prog 41 #[.int .i64 p, .slice a L ca, .int .i64 x] w2 (Says (.tuple #[.int .i64 u, .int .i64 0]) w2)) := Lib.hid fun w2 hx => by
    subst hL
    rw [hu]
    exact pat_ok p f x a ca w2 (hr.ex hx) (polyE_zero.mpr ⟨hp, p9, by omega, hf⟩)
  have HA2 : Hid (∀ w2, Ex w w2 → Calls Try.prog 41 #[.int .i64 p, .slice c M cc, .int .i64 x] w2 (Says (.tuple #[.int .i64 v, .int .i64 0]) w2)) := Lib.hid fun w2 hx => by
    subst hM
    rw [hv]
    exact pat_ok p z x c cc w2 (hr2.ex hx) (polyE_zero.mpr ⟨hp, p9, by omega, hz⟩)
  have HI := Lib.hid fun w2 => inverse_at v p b w2 (by omega) (by omega) (by omega) b1 (one_of_dvd hb)
  obtain ⟨H, hH⟩ : ∃ H, red p (mul z [t]) = H := ⟨_, rfl⟩
  obtain ⟨N, hN⟩ : ∃ N, H.length = N := ⟨_, rfl⟩
  rw [hH, hN]
  have HX := Lib.hid ((Ex.refl w).alloc (.cells #[.int .i64 x, .int .i64 y] 119))
  have c0 : (w.alloc (.cells #[.int .i64 x, .int .i64 y] 119)).cell? ⟨w.heap.size, 0, none⟩ = some (.int .i64 x) := by simp
  have c1 : (w.alloc (.cells #[.int .i64 x, .int .i64 y] 119)).cell? ⟨w.heap.size, 1, none⟩ = some (.int .i64 y) := by simp
  by_cases hz0 : t = 0
  · have HE : Hid (H = [] ∧ N = 0) := by
      have : H = [] := by
        rw [← hH, hz0, red_cg (g := []) (by omega) ((Cg.comm p _ _).trans (Cg.of_eq fun i => by rw [one_c, Int.zero_mul, c_nil]))]
        rfl
      exact Lib.hid ⟨this, by rw [← hN, this]; rfl⟩
    subst hz0
    clear hu hv hb hnd hvn hr hr2 hf hz hL hM hp hH hN hlen
    go_enter Try.func81, Try.ntmps81
    go_wp2_with (first
      | (go_at_call 41; (with_reducible refine (HA1.out _ HX.out).mono ?_); rintro e w2 ⟨rfl, hw2⟩
         have HX2 := Lib.hid (HX.out.trans hw2)
         have c20 := hw2.cell c0
         have c21 := hw2.cell c1
         clear hw2)
      | (go_at_call 41; (with_reducible refine (HA2.out _ HX2.out).mono ?_); rintro e w3 ⟨rfl, hw3⟩
         have HX3 := Lib.hid (HX2.out.trans hw3)
         have c30 := hw3.cell c20
         have c31 := hw3.cell c21
         clear hw3)
      | (go_at_call 34; (with_reducible refine (HI.out _).mono ?_); rintro e w4 ⟨rfl, hw4⟩
         have HX4 := Lib.hid (HX3.out.trans hw4)
         have c41 := hw4.cell c31
         clear hw4))
    go_ret2
    exact ⟨none, 0, by rw [HE.out.2]; rfl, Lib.hid (by rw [HE.out.1]; exact .inl rfl), Lib.hid (fun _ => rfl), HX4.out⟩
  · have htb : (t == 0) = false := by simpa using hz0
    have HMU : Hid (∀ w2, Ex w w2 → Calls Try.prog 83 #[.int .i64 p, .slice c M cc, .slice (some ⟨w2.heap.size, 0, none⟩) 1 1] (w2.alloc (.cells #[.int .i64 t] 3)) (Slc H N (w2.alloc (.cells #[.int .i64 t] 3)))) := Lib.hid fun w2 hx =>
      mulS hp p9 hz (can_one (p := p) (a := t) (by omega) (by omega)) hM (M := 1) rfl (by omega) (by omega) (by omega) hH hN _ _ _ _ _ ((hr2.ex hx).ex ((Ex.refl _).alloc _)) (reads_new .i64 [t] _ rfl 3 w2)
    clear hu hv hb hnd hvn hr hr2 hf hz hL hM hp hH hN hlen
    go_enter Try.func81, Try.ntmps81
    go_wp2_with (first
      | (go_at_call 41; (with_reducible refine (HA1.out _ HX.out).mono ?_); rintro e w2 ⟨rfl, hw2⟩
         have HX2 := Lib.hid (HX.out.trans hw2)
         have c20 := hw2.cell c0
         have c21 := hw2.cell c1
         clear hw2)
      | (go_at_call 41; (with_reducible refine (HA2.out _ HX2.out).mono ?_); rintro e w3 ⟨rfl, hw3⟩
         have HX3 := Lib.hid (HX2.out.trans hw3)
         have c30 := hw3.cell c20
         have c31 := hw3.cell c21
         clear hw3)
      | (go_at_call 34; (with_reducible refine (HI.out _).mono ?_); rintro e w4 ⟨rfl, hw4⟩
         have HX4 := Lib.hid (HX3.out.trans hw4)
         have c41 := hw4.cell c31
         clear hw4)
      | (go_at_call 83; (with_reducible refine (HMU.out _ HX4.out).mono ?_); rintro e w5 ⟨a5, d5, rfl, hr5, hn5, hw5⟩))
    go_ret2
    exact ⟨_, _, rfl, hr5, hn5, (HX4.out.alloc _).trans hw5⟩

/-- A polynomial comes back: a row of its own, to be read. -/
def Rowd (xs : List Int) (N : Nat) (w : World) (e : Ending) (w2 : World) : Prop := ∃ a2 c2, e = .returned (.tuple #[.slice a2 N c2, .int .i64 0]) ∧ Hid (Row 3 .i64 w2 w.heap.size (.slice a2 N c2) xs) ∧ Hid (Reads w2 .i64 a2 xs) ∧ Hid (a2 = none → c2 = 0) ∧ Ex w w2
theorem Rowed.rowd {h : List Int} {N : Nat} {w w2 : World} {e : Ending} (k : Rowed h w e w2) (hN : h.length = N) : Rowd h N w e w2 := by
  obtain ⟨v, rfl, hrow, hx⟩ := k
  obtain ⟨a2, c2, rfl, _, hr, hn⟩ := hrow.out.reads
  have := hrow.out
  rw [hN] at this ⊢
  exact ⟨a2, c2, rfl, Lib.hid this, Lib.hid hr, Lib.hid hn, hx⟩

theorem addR {p : Int} (hp : Prm p) (p9 : p ≤ 997) {F G : List Int} {L M : Nat} (hF : Po.Can p F) (hG : Po.Can p G) (hL : F.length = L) (hM : G.length = M) (hm : L ≤ 40 ∧ M ≤ 40) :
    ∃ (H : List Int) (N : Nat), red p (add F G) = H ∧ H.length = N ∧ N ≤ max L M ∧ Po.Can p H ∧
      ∀ (w : World) (a b : Option Addr) (ca cb : Nat), Reads w .i64 a F → Reads w .i64 b G → Calls Try.prog 82 #[.int .i64 p, .slice a L ca, .slice b M cb] w (Rowd H N w) := by
  have p2 := hp.1
  refine ⟨_, _, rfl, rfl, ?_, can_red (by omega) _, fun w a b ca cb hr hr2 => ?_⟩
  · have h1 := red_length p (add F G)
    rw [add_length] at h1
    omega
  · subst hL
    subst hM
    exact (add_ok p F G a b ca cb w hr hr2 (both_can hp p9 hF hG hm.1 hm.2)).mono fun e w2 k => Rowed.rowd k rfl

set_option maxRecDepth 100000 in
set_option maxHeartbeats 2000000 in
theorem through_no (p : Int) (l : List (Int × Int)) (a : Option Addr) (cap : Nat) (w : World) (hcap : l.length ≤ cap) (hl : l.length ≤ 140737488355328) (hr : ReadsR w a l) (h : ptE p l ≠ 0) :
    Calls Try.prog 39 #[.int .i64 p, .slice a l.length cap] w (Says (.tuple #[.slice none 0 0, .int .i64 (ptE p l)]) w) := by
  have HC := Lib.hid (ptCheck_any p l a cap w hcap hl hr)
  obtain ⟨c, hc⟩ : ∃ c, ptE p l = c := ⟨_, rfl⟩
  rw [hc] at HC h ⊢
  have hb : (c != 0) = true := by simpa using h
  clear hl hr h hc
  go_enter Try.func39, Try.ntmps39
  go_wp2_with (go_at_call 80; (with_reducible refine (HC.out).mono ?_); rintro e w2 ⟨rfl, hw2⟩)
  go_ret2
  exact ⟨rfl, hw2⟩

set_option maxRecDepth 100000 in
set_option maxHeartbeats 4000000 in
theorem through_ok (p : Int) (l : List (Int × Int)) (F : List Int) (a : Option Addr) (cap : Nat) (w : World) (hcap : l.length ≤ cap) (hr : ReadsR w a l) (h : ptE p l = 0) (hF : IsTh p l l.length F) :
    Calls Try.prog 39 #[.int .i64 p, .slice a l.length cap] w (Rowd F F.length w) := by
  obtain ⟨hp, p9, l12, hP⟩ := ptE_zero.mp h
  have HC := Lib.hid (ptCheck_any p l a cap w hcap (by omega) hr)
  rw [h] at HC
  have p2 := hp.1
  have HP := Lib.hid hp
  have HPT := Lib.hid hP
  have HEND : Hid (∀ f, IsTh p l l.length f → f = F) := Lib.hid fun f hf => hf.uniq hp hP hF
  have HR := Lib.hid hr
  have HZ0 := Lib.hid (zr_zero hp (px l))
  have HZL := Lib.hid (zr_length hp (px l))
  clear h hr hF hp hP
  go_enter Try.func39, Try.ntmps39
  go_wp2_with (go_at_call 80; (with_reducible refine (HC.out).mono ?_); rintro e w2 ⟨rfl, hw2⟩)
  have hz0 : Hid (Reads (w2.alloc (.cells #[.int .i64 1] 3)) .i64 (some ⟨w2.heap.size, 0, none⟩) (zr p (px l) 0)) := Lib.hid (by rw [HZ0.out]; exact reads_new .i64 [1] _ rfl 3 w2)
  have hxz := hw2.alloc (.cells #[.int .i64 1] 3)
  go_loopg [7, 8, 22] l.length (fun k v7 v8 v22 x => ∃ (i N : Nat) (f : List Int) (af ag : Option Addr) (cf cg : Nat), i ≤ l.length ∧ N ≤ 12 ∧ Hid (IsTh p l i f) ∧ Hid (f.length = N) ∧ v7 = .slice af N cf ∧ v8 = .slice ag (i + 1) cg ∧ v22 = .int .i64 i ∧ Hid (Row 3 .i64 x w.heap.size (.slice af N cf) f) ∧ Hid (Reads x .i64 af f) ∧ Hid (Reads x .i64 ag (zr p (px l) i)) ∧ Hid (k = l.length - i) ∧ Ex w x)
  case atStart => exact ⟨0, 0, [], none, some ⟨w2.heap.size, 0, none⟩, 0, 1, by omega, by omega, Lib.hid ⟨Can.nil p, Nat.le_refl _, fun i hi => by omega⟩, Lib.hid rfl, rfl, rfl, rfl, Lib.hid (Row.nil _ _ _ _), Lib.hid (.inl rfl), hz0, Lib.hid rfl, hxz⟩
  case round =>
    obtain ⟨i, N, f, af, ag, cf, cg, hi, hN, hT, hlen, rfl, rfl, rfl, hRow, hRf, hRz, hk, hx⟩ := hrel
    by_cases hlt : i < l.length
    · rcases HR.out with hn | ⟨b, off, rfl, hc⟩
      · rw [hn] at hlt; exact absurd hlt (Nat.not_lt_zero _)
      have hc0 := hx.cell (hc i hlt).1
      have hc1 := hx.cell (hc i hlt).2
      have HI := Lib.hid (HPT.out.1 i hlt)
      have HND := Lib.hid (zr_not HP.out HPT.out hlt)
      have HNX := Lib.hid fun t => isTh_next (t := t) HP.out hT.out
      have HZN := Lib.hid (zr_next HP.out (px l) i)
      obtain ⟨u, hu⟩ : ∃ u, px l i = u := ⟨_, rfl⟩
      obtain ⟨v, hv⟩ : ∃ v, py l i = v := ⟨_, rfl⟩
      rw [show (nthR l i).1 = u from hu] at hc0
      rw [show (nthR l i).2 = v from hv] at hc1
      rw [hu] at HI HND HNX HZN
      rw [hv] at HI HNX
      clear hu hv hc
      obtain ⟨⟨u0, u1⟩, v0, v1⟩ := HI.out
      obtain ⟨t, H, NH, ht, hH, hNH, lH, cH, hMU⟩ := multL HP.out p9 hT.out.1 (zr_can HP.out (px l) i) hlen.out (HZL.out i) (by omega) u0 u1 v0 v1 HND.out
      obtain ⟨S, NS, hS, hNS, lS, cS, hAD⟩ := addR HP.out p9 hT.out.1 cH hlen.out hNH (by omega)
      have hnext := HNX.out t ht
      rw [hH, hS] at hnext
      have lS2 := hnext.2.1
      rw [hNS] at lS2
      have m0 := Int.emod_nonneg (-u) (b := p) (by omega)
      have m1 := Int.emod_lt_of_pos (-u) (b := p) (by omega)
      have HMZ : Hid (∀ (w2 : World) (ag : Option Addr) (cg : Nat), Reads w2 .i64 ag (zr p (px l) i) → Calls Try.prog 83 #[.int .i64 p, .slice ag (i + 1) cg, .slice (some ⟨w2.heap.size, 0, none⟩) 2 2] (w2.alloc (.cells #[.int .i64 (-u % p), .int .i64 1] 3)) (Slc (zr p (px l) (i + 1)) (i + 2) (w2.alloc (.cells #[.int .i64 (-u % p), .int .i64 1] 3)))) := Lib.hid fun w2 ag cg hr => by
        rw [show -u % p = (p - u) % p by simp]
        exact mulS HP.out p9 (zr_can HP.out (px l) i) (can_line HP.out) (HZL.out i) (M := 2) rfl (by omega) (by omega) (by omega) HZN.out (HZL.out (i + 1)) _ _ _ _ _ (hr.ex ((Ex.refl _).alloc _)) (reads_new .i64 [(p - u) % p, 1] _ rfl 3 w2)
      have HMU := Lib.hid hMU
      have HAD := Lib.hid hAD
      have HNEXT := Lib.hid hnext
      have HNS := Lib.hid hNS
      have HX1 := Lib.hid (hx.alloc (.cells #[.int .i64 u, .int .i64 v] 119))
      have HY1 := Lib.hid ((Ex.refl wr).alloc (.cells #[.int .i64 u, .int .i64 v] 119))
      have d0 : (wr.alloc (.cells #[.int .i64 u, .int .i64 v] 119)).cell? ⟨wr.heap.size, 0, none⟩ = some (.int .i64 u) := by simp
      clear ht hH hNH lH cH hMU hS hNS lS cS hAD hnext
      go_wp2_with (first
        | (go_at_call 81; (with_reducible refine (HMU.out _ _ _ _ _ (hRf.out.ex HY1.out) (hRz.out.ex HY1.out)).mono ?_); rintro e w3 ⟨a3, c3, rfl, hr3, hn3, hw3⟩
           have HX3 := Lib.hid (HX1.out.trans hw3)
           have HY3 := Lib.hid (HY1.out.trans hw3)
           have d30 := hw3.cell d0
           clear hw3)
        | (go_at_call 82; (with_reducible refine (HAD.out _ _ _ _ _ (hRf.out.ex HY3.out) hr3.out).mono ?_); rintro e w4 ⟨a4, c4, rfl, hrow4, hr4, hn4, hw4⟩
           have HX4 := Lib.hid (HX3.out.trans hw4)
           have HY4 := Lib.hid (HY3.out.trans hw4)
           have HR4 := Lib.hid (hrow4.out.less HX3.out.size)
           have d40 := hw4.cell d30
           clear hw4 hrow4)
        | (go_at_call 83; (with_reducible refine (HMZ.out _ _ _ (hRz.out.ex HY4.out)).mono ?_); rintro e w5 ⟨a5, c5, rfl, hr5, hn5, hw5⟩
           have HY5 := Lib.hid (((Ex.refl w4).alloc (.cells #[.int .i64 (-u % p), .int .i64 1] 3)).trans hw5)
           have HX5 := Lib.hid (HX4.out.trans HY5.out)
           have HR5 := Lib.hid (HR4.out.ex HY5.out)
           have hr45 := Lib.hid (hr4.out.ex HY5.out)
           clear hw5))
      go_roundg (l.length - (i + 1))
      case measure => have := hk.out; omega
      case rel => exact ⟨i + 1, NS, S, a4, a5, c4, c5, by omega, by omega, HNEXT, HNS, rfl, rfl, by go_num, HR5, hr45, hr5, Lib.hid rfl, HX5.out⟩
    · have e : i = l.length := by omega
      subst e
      have hf := HEND.out f hT.out
      subst hf
      have hlen2 := hlen.out
      subst hlen2
      go_wp2
      go_ret2
      exact ⟨_, _, rfl, hRow, hRf, Lib.hid (fun h => by
        obtain ⟨a2, c2, h1, _, _, h3⟩ := hRow.out.reads
        simp only [Value.slice.injEq] at h1
        obtain ⟨rfl, _, rfl⟩ := h1
        exact h3 h), hx⟩

end Go.Proofs.Ythlnbomapfjphaa

namespace Go.Proofs.Ythlnbomapfjphaa
open Go.RowKit Go.Maps
open Pr Po

theorem hasP_next {l : List (Int × Int)} {i : Nat} (h : i < l.length) (x : Int) : hasP (l.take (i + 1)) x = (hasP (l.take i) x || px l i == x) := by
  unfold hasP px
  rw [List.take_add_one, List.getElem?_eq_getElem h, List.any_append, nthR_eq h]
  simp

theorem ikey (x : Int) : WideAt.IsKeyLit (.int .i64 x) := by simp [WideAt.IsKeyLit]

/-- The map holds how often each place was there: no more than once. -/
def Cnt (l : List (Int × Int)) (i : Nat) (D : DataW Unit) : Prop := IsMap D ∧ ∀ x, D.atKey (.int .i64 x) (.lit (.int .i64 0)) = .lit (.int .i64 (if hasP (l.take i) x = true then 1 else 0))

theorem Cnt.start (l : List (Int × Int)) : Cnt l 0 (.map []) := ⟨isMap_empty, fun x => by simp [DataW.atKey, hasP]⟩
theorem Cnt.next {l : List (Int × Int)} {i : Nat} {D : DataW Unit} (h : Cnt l i D) (hi : i < l.length) (_ : hasP (l.take i) (px l i) = false) : Cnt l (i + 1) (D.put (.int .i64 (px l i)) (.lit (.int .i64 1))) := by
  refine ⟨h.1.put _ _, fun x => ?_⟩
  rw [hasP_next hi]
  by_cases hx : px l i = x
  · subst hx
    rw [atKey_put_same h.1 (ikey _)]
    simp
  · rw [atKey_put_other (by intro e; exact hx (by cases e; rfl)), h.2 x]
    have : (px l i == x) = false := by simpa using hx
    rw [this, Bool.or_false]
theorem Cnt.at {l : List (Int × Int)} {i : Nat} {D : DataW Unit} (h : Cnt l i D) {x c : Int} {b : Bool} (hb : hasP (l.take i) x = b) (hc : D.atKey (.int .i64 x) (.lit (.int .i64 0)) = .lit (.int .i64 c)) : c = if b = true then 1 else 0 := by
  have := h.2 x
  rw [hc, hb] at this
  simpa using this
theorem put_at {D : DataW Unit} (h : IsMap D) {x y c : Int} (hc : (D.put (.int .i64 x) (.lit (.int .i64 y))).atKey (.int .i64 x) (.lit (.int .i64 0)) = .lit (.int .i64 c)) : c = y := by
  rw [atKey_put_same h (ikey x)] at hc
  simpa using hc.symm



end Go.Proofs.Ythlnbomapfjphaa

namespace Go.Proofs.Ythlnbomapfjphaa
open Go.RowKit
open Eu Pr Po Rs

set_option maxRecDepth 100000 in
set_option maxHeartbeats 2000000 in
theorem ptAt_no (p : Int) (l : List (Int × Int)) (x : Int) (a : Option Addr) (cap : Nat) (w : World) (hcap : l.length ≤ cap) (hl : l.length ≤ 140737488355328) (hr : ReadsR w a l) (h : ptE p l ≠ 0) :
    Calls Try.prog 42 #[.int .i64 p, .slice a l.length cap, .int .i64 x] w (Says (.tuple #[.int .i64 0, .int .i64 (ptE p l)]) w) := by
  have HC := Lib.hid (through_no p l a cap w hcap hl hr h)
  obtain ⟨c, hc⟩ : ∃ c, ptE p l = c := ⟨_, rfl⟩
  rw [hc] at HC h ⊢
  have hb : (c != 0) = true := by simpa using h
  clear hl hr h hc
  go_enter Try.func42, Try.ntmps42
  go_wp2_with (go_at_call 39; (with_reducible refine (HC.out).mono ?_); rintro e w2 ⟨rfl, hw2⟩)
  go_ret2
  exact ⟨rfl, hw2⟩

set_option maxRecDepth 100000 in
set_option maxHeartbeats 2000000 in
theorem ptAt_ok (p : Int) (l : List (Int × Int)) (F : List Int) (x : Int) (a : Option Addr) (cap : Nat) (w : World) (hcap : l.length ≤ cap) (hr : ReadsR w a l) (h : ptE p l = 0) (hF : IsTh p l l.length F) :
    Calls Try.prog 42 #[.int .i64 p, .slice a l.length cap, .int .i64 x] w (Says (.tuple #[.int .i64 (ev F x % p), .int .i64 0]) w) := by
  obtain ⟨hp, p9, l12, _⟩ := ptE_zero.mp h
  have HC := Lib.hid (through_ok p l F a cap w hcap hr h hF)
  have HA := Lib.hid fun (w2 : World) (a2 : Option Addr) (c2 : Nat) (hr2 : Reads w2 .i64 a2 F) => pat_ok p F x a2 c2 w2 hr2 (polyE_zero.mpr ⟨hp, p9, by have := hF.2.1; omega, hF.1⟩)
  obtain ⟨N, hN⟩ : ∃ N, F.length = N := ⟨_, rfl⟩
  obtain ⟨y, hy⟩ : ∃ y, ev F x % p = y := ⟨_, rfl⟩
  rw [hN] at HC HA
  rw [hy] at HA ⊢
  clear hr h hF hN hy hp
  go_enter Try.func42, Try.ntmps42
  go_wp2_with (first
    | (go_at_call 39; (with_reducible refine (HC.out).mono ?_); rintro e w2 ⟨a2, c2, rfl, hrow2, hr2, hn2, hw2⟩)
    | (go_at_call 41; (with_reducible refine (HA.out _ _ _ hr2.out).mono ?_); rintro e w3 ⟨rfl, hw3⟩))
  go_ret2
  exact ⟨rfl, hw2.trans hw3⟩

/-- A step of the product. -/
theorem bq_step {p Y X V D y x d : Int} (hy : p ∣ y - Y) (hd : p ∣ d - (x - X)) (hv : V = D) : p ∣ y * d % p * V % p - Y * (x - X) * D := by
  subst hv
  obtain ⟨k, hk⟩ := hy
  obtain ⟨j, hj⟩ := hd
  have h1 := Int.mul_ediv_add_emod (y * d) p
  have h2 := Int.mul_ediv_add_emod (y * d % p * V) p
  generalize y * d / p = q1 at *
  generalize y * d % p * V / p = q2 at *
  generalize y * d % p * V % p = r2 at *
  generalize y * d % p = r1 at *
  have e1 : r1 = y * d - p * q1 := by omega
  have e2 : r2 = r1 * V - p * q2 := by omega
  have e3 : y = Y + p * k := by omega
  have e4 : d = x - X + p * j := by omega
  subst e3
  subst e4
  subst e2
  subst e1
  exact ⟨(Y * j + k * (x - X) + p * k * j - q1) * V - q2, by grind⟩

theorem su_step {p o s y g : Int} (ho : p ∣ o - s) (hy : p ∣ y - g) : p ∣ (o + y) % p - (s + g) := by
  have h1 := Int.mul_ediv_add_emod (o + y) p
  obtain ⟨k, hk⟩ := ho
  obtain ⟨j, hj⟩ := hy
  generalize (o + y) / p = q at *
  generalize (o + y) % p = r at *
  refine ⟨k + j - q, ?_⟩
  rw [Int.mul_sub, Int.mul_add]
  omega

theorem dvd_mod (p a : Int) : p ∣ a % p - a := by
  have h1 := Int.mul_ediv_add_emod a p
  refine ⟨- (a / p), ?_⟩
  rw [Int.mul_neg]
  omega


end Go.Proofs.Ythlnbomapfjphaa

namespace Go.Proofs.Ythlnbomapfjphaa
open Go.RowKit
open Eu Pr Po Rs

theorem RowR.less {e : TypeId} {w : World} {base base2 : Nat} {v : Value} {l : List (Int × Int)} (h : RowR e w base v l) (hb : base2 ≤ base) : RowR e w base2 v l := by
  refine ⟨h.1, ?_⟩
  rcases h.2 with hn | ⟨g, cap, cur, h1, h2, rest⟩
  · exact .inl hn
  · exact .inr ⟨g, cap, cur, h1, by omega, rest⟩

/-- A row of points comes back. -/
def RowP (l : List (Int × Int)) (N : Nat) (w : World) (e : Ending) (w2 : World) : Prop := ∃ a c, e = .returned (.slice a N c) ∧ N ≤ c ∧ Hid (RowR 119 w2 w.heap.size (.slice a N c) l) ∧ Hid (ReadsR w2 a l) ∧ Ex w w2

theorem info_pt : (Try.prog.info? 119).map (fun i => (i.zero, i.size, i.bytes)) = some (some (.agg #[.int .i64 0, .int .i64 0]), 2, 16) := by kernel_rfl

/-- Points of a polynomial, at places from 0 on. -/
def seenL (p : Int) (f : List Int) (K : Nat) : List (Int × Int) := (List.range K).map fun (i : Nat) => ((i : Int), ev f i % p)
theorem seenL_length (p : Int) (f : List Int) (K : Nat) : (seenL p f K).length = K := by simp [seenL]
theorem seenL_next (p : Int) (f : List Int) (K : Nat) : seenL p f K ++ [((K : Int), ev f K % p)] = seenL p f (K + 1) := by simp [seenL, List.range_succ]
theorem seenL_at {p : Int} {f : List Int} {K i : Nat} (h : i < K) : px (seenL p f K) i = i ∧ py (seenL p f K) i = ev f i % p := by
  unfold px py
  rw [nthR_eq (by rw [seenL_length]; exact h)]
  simp [seenL]
theorem seenL_pts {p : Int} (hp : Prm p) (f : List Int) {K : Nat} (hK : (K : Int) ≤ p) : Pts p (seenL p f K) K := by
  have p2 := hp.1
  refine ⟨fun i hi => ?_, fun i j hi hj hne => ?_⟩
  · rw [(seenL_at hi).1, (seenL_at hi).2]
    exact ⟨by omega, Int.emod_nonneg _ (by omega), Int.emod_lt_of_pos _ (by omega)⟩
  · rw [(seenL_at hi).1, (seenL_at hj).1]
    omega
theorem seenL_th {p : Int} {f : List Int} {K : Nat} (hf : Po.Can p f) (hl : f.length ≤ K) : IsTh p (seenL p f K) K f := by
  refine ⟨hf, hl, fun i hi => ?_⟩
  rw [(seenL_at hi).1, (seenL_at hi).2]
  have := dvd_mod p (ev f i)
  have := Int.dvd_neg.mpr this
  rwa [Int.neg_sub] at this






end Go.Proofs.Ythlnbomapfjphaa
