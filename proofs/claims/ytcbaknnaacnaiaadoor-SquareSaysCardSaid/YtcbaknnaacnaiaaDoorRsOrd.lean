/-
  Package rest's Order, walked: countUnits, reduce, Order.
-/
import Derived.Test.YtcbaknnaacnaiaaDoorRsWalks
import Derived.Test.YtcbaknnaacnaiaaDoorPowers
namespace Go.Proofs.YtcbaknnaacnaiaaDoor
open Go.RowKit
open Eu Rs Pr

/-- How far the count of units has come. -/
def UnitsInv (l : List (Int × Nat)) (i : Nat) (count : Int) : Prop :=
  ∃ D r : Int, 1 ≤ D ∧ 1 ≤ r ∧ Fac r (l.drop i) ∧ count = D * r ∧ D * (phiL (l.drop i) : Nat) = (phiL l : Nat)

theorem units_start {m : Int} {l : List (Int × Nat)} (h1 : 1 ≤ m) (h : Fac m l) : UnitsInv l 0 m := ⟨1, m, by omega, h1, h, by omega, by simp⟩

theorem units_end {l : List (Int × Nat)} {c : Int} (h : UnitsInv l l.length c) : c = (phiL l : Nat) := by
  obtain ⟨D, r, _, _, hF, hc, hD⟩ := h
  rw [List.drop_length] at hF hD
  have : r = 1 := hF
  subst this
  simp [phiL] at hD
  omega

theorem units_step {l : List (Int × Nat)} {i : Nat} {c : Int} (h : UnitsInv l i c) (hi : i < l.length) :
    2 ≤ (nthP l i).1 ∧ (nthP l i).1 ≤ c ∧ UnitsInv l (i + 1) (c / (nthP l i).1 * ((nthP l i).1 - 1)) ∧ 1 ≤ c / (nthP l i).1 * ((nthP l i).1 - 1) ∧ c / (nthP l i).1 * ((nthP l i).1 - 1) ≤ c := by
  obtain ⟨D, r, hD1, hr1, hF, hc, hD⟩ := h
  rw [List.drop_eq_getElem_cons hi] at hF hD
  rw [nthP_eq hi]
  generalize l[i] = x at *
  obtain ⟨p, k⟩ := x
  obtain ⟨hq, hk, m, hm, hr, hnd, hF2⟩ := hF
  have hp2 := hq.1
  obtain ⟨k, rfl⟩ : ∃ j, k = j + 1 := ⟨k - 1, by omega⟩
  have hpk : 1 ≤ p ^ k := by have := pow_gt hp2 k; omega
  have ec : c = p * (D * p ^ k * m) := by rw [hc, hr, Int.pow_succ]; ac_rfl
  have hB : 1 ≤ D * p ^ k := by
    have : 1 * 1 ≤ D * p ^ k := Int.mul_le_mul hD1 hpk (by omega) (by omega)
    omega
  have hB2 : 1 ≤ D * p ^ k * m := by
    have : 1 * 1 ≤ D * p ^ k * m := Int.mul_le_mul hB hm (by omega) (by omega)
    omega
  have hdiv : c / p = D * p ^ k * m := by rw [ec]; exact Int.mul_ediv_cancel_left _ (by omega)
  simp only
  have hle : p ≤ c := by
    rw [ec]
    have : p * 1 ≤ p * (D * p ^ k * m) := Int.mul_le_mul_of_nonneg_left hB2 (by omega)
    omega
  rw [hdiv]
  refine ⟨hp2, hle, ⟨D * p ^ k * (p - 1), m, ?_, hm, hF2, by ac_rfl, ?_⟩, ?_, ?_⟩
  · have : 1 * 1 ≤ D * p ^ k * (p - 1) := Int.mul_le_mul hB (by omega) (by omega) (by omega)
    omega
  · rw [← hD]
    have e : (p.toNat : Int) = p := by omega
    have e2 : ((p.toNat - 1 : Nat) : Int) = p - 1 := by omega
    simp only [phiL, Nat.add_sub_cancel, Int.natCast_mul, Int.natCast_pow, e, e2]
    ac_rfl
  · have : 1 * 1 ≤ D * p ^ k * m * (p - 1) := Int.mul_le_mul hB2 (by omega) (by omega) (by omega)
    omega
  · rw [ec, Int.mul_comm p]
    exact Int.mul_le_mul_of_nonneg_left (by omega) (by omega)

/-- The prime at place j can't be taken out of c any more. -/
def Done (a m : Int) (l : List (Int × Nat)) (j : Nat) (c : Nat) : Prop := (nthP l j).1.toNat ∣ c → ¬ One (a ^ (c / (nthP l j).1.toNat)) m

theorem Done.less {a m : Int} {l : List (Int × Nat)} {j c d : Nat} (h : Done a m l j c) (hd : d ∣ c) (hp : 2 ≤ (nthP l j).1) : Done a m l j d := by
  intro h1 h2
  have h3 := Nat.dvd_trans h1 hd
  refine h h3 (h2.pw ?_)
  obtain ⟨x, rfl⟩ := hd
  obtain ⟨y, rfl⟩ := h1
  rw [Nat.mul_assoc, Nat.mul_div_cancel_left _ (by omega), Nat.mul_div_cancel_left _ (by omega)]
  exact Nat.dvd_mul_right _ _

/-- What reduce keeps: c is an exponent that gives 1, out of E; the primes before i are done. -/
def RedInv (a m : Int) (E : Nat) (l : List (Int × Nat)) (i c : Nat) : Prop := 1 ≤ c ∧ c ∣ E ∧ One (a ^ c) m ∧ ∀ j, j < i → Done a m l j c

theorem red_take {a m : Int} {E i c p : Nat} {l : List (Int × Nat)} (hF : Fac (E : Int) l) (h : RedInv a m E l i c) (hi : i ≤ l.length) (hp : 2 ≤ p) (hd : p ∣ c) (h1 : One (a ^ (c / p)) m) : RedInv a m E l i (c / p) := by
  obtain ⟨h2, h3, h4, h5⟩ := h
  have hdv : c / p ∣ c := Nat.div_dvd_of_dvd hd
  refine ⟨Nat.div_pos (Nat.le_of_dvd (by omega) hd) (by omega), Nat.dvd_trans hdv h3, h1, fun j hj => (h5 j hj).less hdv ?_⟩
  have := (hF.dvd (nthP l j).1 (nthP l j).2 (nthP_mem (by omega))).1
  exact this.1

theorem red_next {a m : Int} {E i c p : Nat} {l : List (Int × Nat)} (h : RedInv a m E l i c) (hp : (nthP l i).1 = p) (hd : p ∣ c → ¬ One (a ^ (c / p)) m) : RedInv a m E l (i + 1) c := by
  obtain ⟨h2, h3, h4, h5⟩ := h
  refine ⟨h2, h3, h4, fun j hj => ?_⟩
  rcases Nat.lt_succ_iff_lt_or_eq.mp hj with h | h
  · exact h5 j h
  · subst h
    unfold Done
    rw [hp]; exact hd

theorem red_end {a m : Int} {E c : Nat} {l : List (Int × Nat)} (hF : Fac (E : Int) l) (h : RedInv a m E l l.length c) : IsOrd a m c := by
  obtain ⟨h2, h3, h4, h5⟩ := h
  refine ⟨h2, h4, fun q hq hd h6 => ?_⟩
  obtain ⟨k, hk⟩ := hF.has q hq (Int.dvd_trans hd (Int.natCast_dvd_natCast.mpr h3))
  obtain ⟨j, hj, he⟩ := List.getElem_of_mem hk
  have h7 := h5 j hj
  unfold Done at h7
  rw [nthP_eq hj, he] at h7
  have h8 := hq.1
  refine h7 ?_ h6
  obtain ⟨r, rfl⟩ : ∃ r : Nat, q = r := ⟨q.toNat, by omega⟩
  rw [Int.toNat_natCast]
  exact Int.natCast_dvd_natCast.mp hd

theorem nat_dvd_of_emod {c p : Nat} (h : (c : Int) % p = 0) : p ∣ c := Int.natCast_dvd_natCast.mp (Int.dvd_of_emod_eq_zero h)

theorem order_mod {a m : Int} {o : Nat} (h : IsOrd (a % m) m o) : IsOrd a m o := by
  have e : ∀ n : Nat, One ((a % m) ^ n) m ↔ One (a ^ n) m := fun n => by rw [pw_one, Pw_mod, pw_one]
  exact ⟨h.1, (e _).mp h.2.1, fun q hq hd h1 => h.2.2 q hq hd ((e _).mpr h1)⟩

theorem units_two {m : Int} {l l2 : List (Int × Nat)} (h1 : 1 ≤ m) (hF : Fac m l) (h2 : Fac (phiL l : Nat) l2) (h : 0 < l2.length) : 2 ≤ m := by
  refine Decidable.byContradiction fun hm => ?_
  obtain rfl : m = 1 := by omega
  match l, hF with
  | [], _ =>
    match l2, h2 with
    | (q, k) :: _, h2 => have := h2.1.le (by decide); have := h2.1.1; simp [phiL] at *; omega
  | (q, k) :: _, hF => have := hF.1.le (by omega); have := hF.1.1; omega

end Go.Proofs.YtcbaknnaacnaiaaDoor
