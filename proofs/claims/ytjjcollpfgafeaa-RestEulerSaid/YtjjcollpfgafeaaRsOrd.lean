/-
  Package rest's Order, walked: countUnits, reduce, Order.
-/
import Derived.Test.YtjjcollpfgafeaaRsWalks
import Derived.Test.YtjjcollpfgafeaaPowers
namespace Go.Proofs.Ytjjcollpfgafeaa
open Go.RowKit
open Eu Rs Pr

/-- How far the count of units has come. -/
def UnitsInv (l : List (Int × Nat)) (i : Nat) (count : Int) : Prop :=
  ∃ D r : Int, 1 ≤ D ∧ 1 ≤ r ∧ Fac r (l.drop i) ∧ count = D * r ∧ D * (phiL (l.drop i) : Nat) = (phiL l : Nat)

theorem units_start {m : Int} {l : List (Int × Nat)} (h1 : 1 ≤ m) (h : Fac m l) : UnitsInv l 0 m := ⟨1, m, by omega, h1, h, by omega, by simp⟩

theorem units_end {l : List (Int × Nat)} {c : Int} (h : UnitsInv l l.length c) : c = (phiL l : Nat) := by
  obtain ⟨D, r, _, _, hF, hc, hD⟩ := h
  rw [List.drop_length] at hF hD
  have : r = 1 := hF
  subst this
  simp [phiL] at hD
  omega

theorem units_step {l : List (Int × Nat)} {i : Nat} {c : Int} (h : UnitsInv l i c) (hi : i < l.length) :
    2 ≤ (nthP l i).1 ∧ (nthP l i).1 ≤ c ∧ UnitsInv l (i + 1) (c / (nthP l i).1 * ((nthP l i).1 - 1)) ∧ 1 ≤ c / (nthP l i).1 * ((nthP l i).1 - 1) ∧ c / (nthP l i).1 * ((nthP l i).1 - 1) ≤ c := by
  obtain ⟨D, r, hD1, hr1, hF, hc, hD⟩ := h
  rw [List.drop_eq_getElem_cons hi] at hF hD
  rw [nthP_eq hi]
  generalize l[i] = x at *
  obtain ⟨p, k⟩ := x
  obtain ⟨hq, hk, m, hm, hr, hnd, hF2⟩ := hF
  have hp2 := hq.1
  obtain ⟨k, rfl⟩ : ∃ j, k = j + 1 := ⟨k - 1, by omega⟩
  have hpk : 1 ≤ p ^ k := by have := pow_gt hp2 k; omega
  have ec : c = p * (D * p ^ k * m) := by rw [hc, hr, Int.pow_succ]; ac_rfl
  have hB : 1 ≤ D * p ^ k := by
    have : 1 * 1 ≤ D * p ^ k := Int.mul_le_mul hD1 hpk (by omega) (by omega)
    omega
  have hB2 : 1 ≤ D * p ^ k * m := by
    have : 1 * 1 ≤ D * p ^ k * m := Int.mul_le_mul hB hm (by omega) (by omega)
    omega
  have hdiv : c / p = D * p ^ k * m := by rw [ec]; exact Int.mul_ediv_cancel_left _ (by omega)
  simp only
  have hle : p ≤ c := by
    rw [ec]
    have : p * 1 ≤ p * (D * p ^ k * m) := Int.mul_le_mul_of_nonneg_left hB2 (by omega)
    omega
  rw [hdiv]
  refine ⟨hp2, hle, ⟨D * p ^ k * (p - 1), m, ?_, hm, hF2, by ac_rfl, ?_⟩, ?_, ?_⟩
  · have : 1 * 1 ≤ D * p ^ k * (p - 1) := Int.mul_le_mul hB (by omega) (by omega) (by omega)
    omega
  · rw [← hD]
    have e : (p.toNat : Int) = p := by omega
    have e2 : ((p.toNat - 1 : Nat) : Int) = p - 1 := by omega
    simp only [phiL, Nat.add_sub_cancel, Int.natCast_mul, Int.natCast_pow, e, e2]
    ac_rfl
  · have : 1 * 1 ≤ D * p ^ k * m * (p - 1) := Int.mul_le_mul hB2 (by omega) (by omega) (by omega)
    omega
  · rw [ec, Int.mul_comm p]
    exact Int.mul_le_mul_of_nonneg_left (by omega) (by omega)

set_option maxHeartbeats 1000000 in
theorem units_ok (m : Int) (w : World) (h1 : 1 ≤ m) (h2 : m ≤ 1000000) :
    Calls Try.prog 42 #[.int .i64 m] w (fun e w2 => ∃ l : List (Int × Nat), Hid (Fac m l) ∧ 1 ≤ phiL l ∧ phiL l ≤ 1000000 ∧ e = .returned (.tuple #[.int .i64 (phiL l : Nat), .int .i64 0]) ∧ Ex w w2) := by
  go_enter Try.func42, Try.ntmps42
  go_wp2_with (
    (go_at_call 34; refine (factor_reads m _ (by omega) (by omega)).mono ?_; rintro e w3 ⟨ad, cap, l, rfl, hF, hl, hr, hw3⟩))
  have hll := hl.out
  go_loopg [6, 20] l.length (fun k v6 v20 x => ∃ (i : Nat) (c : Int), i ≤ l.length ∧ 1 ≤ c ∧ c ≤ 1000000 ∧ v6 = .int .i64 c ∧ v20 = .int .i64 i ∧ Hid (UnitsInv l i c) ∧ Hid (k = l.length - i) ∧ Ex w3 x)
  case atStart => exact ⟨0, m, Nat.zero_le _, by omega, by omega, rfl, rfl, Lib.hid (units_start h1 hF.out), Lib.hid rfl, Ex.refl _⟩
  case round =>
    obtain ⟨i, c, hi, c1, c2, rfl, rfl, hI, hk, hw⟩ := hrel
    by_cases hlt : i < l.length
    · rcases (hr.out.ex hw) with ⟨rfl, rfl, rfl⟩ | ⟨g, rfl, hc⟩
      · exact absurd hlt (Nat.not_lt_zero _)
      have hc0 := (hc i hlt).1
      have hc1 := (hc i hlt).2
      clear hc
      obtain ⟨p2, pc, hI2, d1, d2⟩ := units_step hI.out hlt
      have HI := Lib.hid hI2
      obtain ⟨P, hP⟩ : ∃ P : Int, (nthP l i).1 = P := ⟨_, rfl⟩
      obtain ⟨K, hK⟩ : ∃ K : Nat, (nthP l i).2 = K := ⟨_, rfl⟩
      rw [hP] at hc0 p2 pc d1 d2 HI
      rw [hK] at hc1
      clear hP hK hI2
      have HX := Lib.hid (hw.alloc (.cells #[.int .i64 P, .int .i64 (K : Nat)] 55))
      have hd1 := Int.ediv_nonneg (a := c) (b := P) (by omega) (by omega)
      have hd2 := Int.ediv_le_self (a := c) P (by omega)
      go_wp2
      go_quiet (fail)
      go_wp2
      go_roundg (l.length - (i + 1))
      case measure => have := hk.out; omega
      case rel => exact ⟨i + 1, c / P * (P - 1), by omega, by omega, by omega, rfl, by go_num, HI, Lib.hid rfl, HX.out.drewN _⟩
    · have e : i = l.length := by omega
      subst e
      have e2 := units_end hI.out
      subst e2
      go_wp2
      go_ret2
      exact ⟨l, hF, by omega, by omega, rfl, hw3.trans hw⟩

/-- The prime at place j can't be taken out of c any more. -/
def Done (a m : Int) (l : List (Int × Nat)) (j : Nat) (c : Nat) : Prop := (nthP l j).1.toNat ∣ c → ¬ One (a ^ (c / (nthP l j).1.toNat)) m

theorem Done.less {a m : Int} {l : List (Int × Nat)} {j c d : Nat} (h : Done a m l j c) (hd : d ∣ c) (hp : 2 ≤ (nthP l j).1) : Done a m l j d := by
  intro h1 h2
  have h3 := Nat.dvd_trans h1 hd
  refine h h3 (h2.pw ?_)
  obtain ⟨x, rfl⟩ := hd
  obtain ⟨y, rfl⟩ := h1
  rw [Nat.mul_assoc, Nat.mul_div_cancel_left _ (by omega), Nat.mul_div_cancel_left _ (by omega)]
  exact Nat.dvd_mul_right _ _

/-- What reduce keeps: c is an exponent that gives 1, out of E; the primes before i are done. -/
def RedInv (a m : Int) (E : Nat) (l : List (Int × Nat)) (i c : Nat) : Prop := 1 ≤ c ∧ c ∣ E ∧ One (a ^ c) m ∧ ∀ j, j < i → Done a m l j c

theorem red_take {a m : Int} {E i c p : Nat} {l : List (Int × Nat)} (hF : Fac (E : Int) l) (h : RedInv a m E l i c) (hi : i ≤ l.length) (hp : 2 ≤ p) (hd : p ∣ c) (h1 : One (a ^ (c / p)) m) : RedInv a m E l i (c / p) := by
  obtain ⟨h2, h3, h4, h5⟩ := h
  have hdv : c / p ∣ c := Nat.div_dvd_of_dvd hd
  refine ⟨Nat.div_pos (Nat.le_of_dvd (by omega) hd) (by omega), Nat.dvd_trans hdv h3, h1, fun j hj => (h5 j hj).less hdv ?_⟩
  have := (hF.dvd (nthP l j).1 (nthP l j).2 (nthP_mem (by omega))).1
  exact this.1

theorem red_next {a m : Int} {E i c p : Nat} {l : List (Int × Nat)} (h : RedInv a m E l i c) (hp : (nthP l i).1 = p) (hd : p ∣ c → ¬ One (a ^ (c / p)) m) : RedInv a m E l (i + 1) c := by
  obtain ⟨h2, h3, h4, h5⟩ := h
  refine ⟨h2, h3, h4, fun j hj => ?_⟩
  rcases Nat.lt_succ_iff_lt_or_eq.mp hj with h | h
  · exact h5 j h
  · subst h
    unfold Done
    rw [hp]; exact hd

theorem red_end {a m : Int} {E c : Nat} {l : List (Int × Nat)} (hF : Fac (E : Int) l) (h : RedInv a m E l l.length c) : IsOrd a m c := by
  obtain ⟨h2, h3, h4, h5⟩ := h
  refine ⟨h2, h4, fun q hq hd h6 => ?_⟩
  obtain ⟨k, hk⟩ := hF.has q hq (Int.dvd_trans hd (Int.natCast_dvd_natCast.mpr h3))
  obtain ⟨j, hj, he⟩ := List.getElem_of_mem hk
  have h7 := h5 j hj
  unfold Done at h7
  rw [nthP_eq hj, he] at h7
  have h8 := hq.1
  refine h7 ?_ h6
  obtain ⟨r, rfl⟩ : ∃ r : Nat, q = r := ⟨q.toNat, by omega⟩
  rw [Int.toNat_natCast]
  exact Int.natCast_dvd_natCast.mp hd

theorem nat_dvd_of_emod {c p : Nat} (h : (c : Int) % p = 0) : p ∣ c := Int.natCast_dvd_natCast.mp (Int.dvd_of_emod_eq_zero h)

set_option maxHeartbeats 1000000 in
theorem reduce_ok (a m : Int) (E : Nat) (l : List (Int × Nat)) (ad : Option Addr) (cap : Nat) (w : World) (h1 : 1 ≤ m) (h2 : m ≤ 1000000) (ha : 0 ≤ a) (ha' : a < m) (hE : 1 ≤ E) (hE' : E ≤ 1000000) (hF : Fac (E : Int) l)
    (hl : l.length ≤ 1000000) (hr : ReadsP w ad cap l) (hm : 0 < l.length → 2 ≤ m) (hO : One (a ^ E) m) :
    Calls Try.prog 43 #[.int .i64 a, .int .i64 m, .int .i64 E, .slice ad l.length cap] w (fun e w2 => ∃ o : Nat, Hid (IsOrd a m o) ∧ 1 ≤ o ∧ o ≤ 1000000 ∧ e = .returned (.int .i64 o) ∧ Ex w w2) := by
  have HF := Lib.hid hF
  have HR := Lib.hid hr
  have HM := Lib.hid hm
  have HO := Lib.hid hO
  clear hF hr hm hO
  go_enter Try.func43, Try.ntmps43
  go_wp2
  go_loopg [2, 13] l.length (fun k v2 v13 x => ∃ (i c : Nat), i ≤ l.length ∧ 1 ≤ c ∧ c ≤ 1000000 ∧ v2 = .int .i64 c ∧ v13 = .int .i64 i ∧ Hid (RedInv a m E l i c) ∧ Hid (k = l.length - i) ∧ Ex w x)
  case atStart => exact ⟨0, E, Nat.zero_le _, by omega, by omega, rfl, rfl, Lib.hid ⟨hE, Nat.dvd_refl E, HO.out, fun j hj => absurd hj (Nat.not_lt_zero _)⟩, Lib.hid rfl, Ex.refl _⟩
  case round =>
    obtain ⟨i, c, hi, c1, c2, rfl, rfl, hI, hk, hw⟩ := hrel
    by_cases hlt : i < l.length
    · rcases (HR.out.ex hw) with ⟨rfl, rfl, rfl⟩ | ⟨g, rfl, hc⟩
      · exact absurd hlt (Nat.not_lt_zero _)
      have hc0 := (hc i hlt).1
      have hc1 := (hc i hlt).2
      clear hc
      have m2 : 2 ≤ m := HM.out (by omega)
      have hpr := (HF.out.dvd (nthP l i).1 (nthP l i).2 (nthP_mem hlt))
      have p2 := hpr.1.1
      have p3 : (nthP l i).1 ≤ 1000000 := by have := Int.le_of_dvd (by omega) hpr.2.2.1; omega
      clear hpr
      obtain ⟨P, hP⟩ : ∃ P : Nat, (nthP l i).1 = P := ⟨(nthP l i).1.toNat, by omega⟩
      obtain ⟨K, hK⟩ : ∃ K : Nat, (nthP l i).2 = K := ⟨_, rfl⟩
      have HP := Lib.hid hP
      rw [hP] at hc0 p2 p3
      rw [hK] at hc1
      clear hP hK
      have HB : Hid ((wr.alloc (.cells #[.int .i64 P, .int .i64 (K : Nat)] 55)).heap[wr.heap.size]? = some (.cells #[.int .i64 P, .int .i64 (K : Nat)] 55 (0, 0))) := heap_alloc_new _ _
      have HX := Lib.hid (hw.alloc (.cells #[.int .i64 P, .int .i64 (K : Nat)] 55))
      go_wp2
      go_loopg [2] c (fun k2 v2 x => ∃ (d : Nat), 1 ≤ d ∧ d ≤ 1000000 ∧ v2 = .int .i64 d ∧ Hid (RedInv a m E l i d) ∧ Hid (k2 = d) ∧ Ex (wr.alloc (.cells #[.int .i64 P, .int .i64 (K : Nat)] 55)) x)
      case atStart => exact ⟨c, by omega, by omega, rfl, hI, Lib.hid rfl, Ex.refl _⟩
      case round =>
        obtain ⟨d, d1, d2, rfl, hJ, hk2, hx⟩ := hrel
        have q0 := hx.cell (cell_two0 HB.out)
        clear hc0 hc1
        by_cases hd : (d : Int) % P = 0
        · have HD := Lib.hid (nat_dvd_of_emod hd)
          have e1 : ((d : Int) / P) = ((d / P : Nat) : Int) := by simp
          have HE : Hid (Pw a ((d : Int) / P).toNat m = Pw a (d / P) m) := Lib.hid (by rw [e1, Int.toNat_natCast])
          have f1 := Int.ediv_nonneg (a := (d : Int)) (b := (P : Int)) (by omega) (by omega)
          have f2 := Int.ediv_le_self (a := (d : Int)) (P : Int) (by omega)
          have HQ := Lib.hid e1
          clear e1
          by_cases ho : Pw a (d / P) m = 1
          · have HO1 := Lib.hid (red_take HF.out hJ.out (by omega) (p := P) (by omega) HD.out (pw_one.mpr (by rw [ho, Int.emod_eq_of_lt (by omega) (by omega)])))
            go_wp2_with (
              (go_at_call 47; refine (power_any _ _ _ _ (by omega) (by omega) (by omega) (by omega) (by omega) (by omega)).mono ?_; rintro e w2 ⟨rfl, hw2⟩; rw [HE.out]; have q1 := hw2.cell q0))
            have hlt2 : d / P < d := Nat.div_lt_self (by omega) (by omega)
            have hge := HO1.out.1
            go_roundg (d / P)
            case measure => have := hk2.out; omega
            case rel => exact ⟨d / P, hge, by omega, by rw [HQ.out], HO1, Lib.hid rfl, hx.trans hw2⟩
          · have hob : (Pw a (d / P) m == 1) = false := by simpa using ho
            have HN : Hid (RedInv a m E l (i + 1) d) := Lib.hid (red_next hJ.out (p := P) HP.out (fun _ h => ho (by rw [pw_one.mp h, Int.emod_eq_of_lt (by omega) (by omega)])))
            clear ho
            go_wp2_with (
              (go_at_call 47; refine (power_any _ _ _ _ (by omega) (by omega) (by omega) (by omega) (by omega) (by omega)).mono ?_; rintro e w2 ⟨rfl, hw2⟩; rw [HE.out]))
            go_roundg (l.length - (i + 1))
            case measure => have := hk.out; omega
            case rel => exact ⟨i + 1, d, by omega, by omega, by omega, rfl, by go_num, HN, Lib.hid rfl, (HX.out.trans hx).trans hw2⟩
        · have hdb : ((d : Int) % P == 0) = false := by simpa using hd
          have HN : Hid (RedInv a m E l (i + 1) d) := Lib.hid (red_next hJ.out (p := P) HP.out (fun h _ => hd (by obtain ⟨x, rfl⟩ := h; rw [Int.natCast_mul, Int.mul_emod_right])))
          go_wp2
          go_roundg (l.length - (i + 1))
          case measure => have := hk.out; omega
          case rel => exact ⟨i + 1, d, by omega, by omega, by omega, rfl, by go_num, HN, Lib.hid rfl, HX.out.trans hx⟩
    · have e : i = l.length := by omega
      subst e
      have HF2 := Lib.hid (red_end HF.out hI.out)
      go_wp2
      go_ret
      exact ⟨c, HF2, by omega, by omega, rfl, hw⟩

theorem order_mod {a m : Int} {o : Nat} (h : IsOrd (a % m) m o) : IsOrd a m o := by
  have e : ∀ n : Nat, One ((a % m) ^ n) m ↔ One (a ^ n) m := fun n => by rw [pw_one, Pw_mod, pw_one]
  exact ⟨h.1, (e _).mp h.2.1, fun q hq hd h1 => h.2.2 q hq hd ((e _).mpr h1)⟩

theorem units_two {m : Int} {l l2 : List (Int × Nat)} (h1 : 1 ≤ m) (hF : Fac m l) (h2 : Fac (phiL l : Nat) l2) (h : 0 < l2.length) : 2 ≤ m := by
  refine Decidable.byContradiction fun hm => ?_
  obtain rfl : m = 1 := by omega
  match l, hF with
  | [], _ =>
    match l2, h2 with
    | (q, k) :: _, h2 => have := h2.1.le (by decide); have := h2.1.1; simp [phiL] at *; omega
  | (q, k) :: _, hF => have := hF.1.le (by omega); have := hF.1.1; omega

set_option maxHeartbeats 1000000 in
theorem order_ok (a m : Int) (w : World) (h1 : 1 ≤ m) (h2 : m ≤ 1000000) (hg : G a m = 1) :
    Calls Try.prog 22 #[.int .i64 a, .int .i64 m] w (fun e w2 => ∃ o : Nat, Hid (IsOrd a m o) ∧ 1 ≤ o ∧ o ≤ 1000000 ∧ e = .returned (.tuple #[.int .i64 o, .int .i64 0]) ∧ Ex w w2) := by
  have HG := Lib.hid hg
  have b1 := Int.emod_nonneg a (b := m) (by omega)
  have b2 := Int.emod_lt_of_pos a (b := m) (by omega)
  clear hg
  go_enter Try.func22, Try.ntmps22
  go_wp2_with (first
    | (go_at_call 41; (with_reducible refine (inverse_ok a m _ (by omega) (by omega) HG.out).mono ?_); rintro e w1 ⟨x, hx0, hx1, hxa, rfl, hw1⟩)
    | (go_at_call 42; (with_reducible refine (units_ok m _ (by omega) (by omega)).mono ?_); rintro e w2 ⟨l, hF, u1, u2, rfl, hw2⟩)
    | (go_at_call 34; (with_reducible refine (factor_reads (phiL l : Nat) _ (by omega) (by omega)).mono ?_); rintro e w3 ⟨ad, cap, l2, rfl, hF2, hl, hr, hw3⟩)
    | (go_at_call 44; refine (rmod_any _ _ _ (by omega) (by omega)).mono ?_; rintro e w' ⟨rfl, rfl⟩)
    | (go_at_call 43; (with_reducible refine (reduce_ok (a % m) m (phiL l) l2 ad cap _ (by omega) (by omega) (by omega) (by omega) u1 u2 hF2.out hl.out hr.out (fun h => units_two h1 hF.out hF2.out h) (euler hF.out (coprime_prm (by rw [G_mod]; exact HG.out)))).mono ?_); rintro e w4 ⟨o, hO, o1, o2, rfl, hw4⟩))
  go_ret2
  exact ⟨o, Lib.hid (order_mod hO.out), o1, o2, rfl, (by repeat (first | assumption | exact Ex.refl _ | refine Ex.trans ?_ (by assumption)))⟩

set_option maxHeartbeats 400000 in
theorem order_none (a m : Int) (w : World) (h1 : 1 ≤ m) (h2 : m ≤ 1000000) (hg : G a m ≠ 1) :
    Calls Try.prog 22 #[.int .i64 a, .int .i64 m] w (Says (.tuple #[.int .i64 0, .int .i64 4]) w) := by
  have HG : Hid (G a m ≠ 1) := Lib.hid hg
  clear hg
  go_enter Try.func22, Try.ntmps22
  go_wp2_with (
    (go_at_call 41; (with_reducible refine (inverse_none a m _ (by omega) (by omega) HG.out).mono ?_); rintro e w1 ⟨rfl, hw1⟩))
  go_ret2
  exact ⟨rfl, hw1⟩

set_option maxHeartbeats 400000 in
theorem order_no (a m : Int) (w : World) (h : m < 1 ∨ 1000000 < m) :
    Calls Try.prog 22 #[.int .i64 a, .int .i64 m] w (Says (.tuple #[.int .i64 0, .int .i64 1]) w) := by
  go_enter Try.func22, Try.ntmps22
  go_wp2_with (
    (go_at_call 41; refine (inverse_no a m _ h).mono ?_; rintro e w1 ⟨rfl, hw1⟩))
  go_ret2
  exact ⟨rfl, hw1⟩

end Go.Proofs.Ytjjcollpfgafeaa
