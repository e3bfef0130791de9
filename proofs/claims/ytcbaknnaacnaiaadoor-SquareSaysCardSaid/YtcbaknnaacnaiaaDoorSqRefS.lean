/-
  The document's answer for Symbol, walked: prime by prime.
-/
import Derived.Test.YtcbaknnaacnaiaaDoorSqRef
namespace Go.Proofs.YtcbaknnaacnaiaaDoor
open Go.RowKit
open Eu Pr Rs Sq

/-- What the reference's power says of LEGENDRE's symbol. -/
theorem powOf_leg (a P : Int) (w : World) (hp : Prm P) (h3 : 3 ≤ P) (hb : P ≤ 1000000) :
    Calls Tryd.prog 27 #[.int .i64 (a % P), .int .i64 ((P - 1) / 2), .int .i64 P] w (Says (.int .i64 (leg a P.toNat % P)) w) := by
  obtain ⟨p, rfl⟩ : ∃ p : Nat, P = p := ⟨P.toNat, by omega⟩
  have h2 : p ≠ 2 := by omega
  obtain ⟨ho, _⟩ := prm_odd hp h2
  have := powOf_any (a % p) p (by omega) (by omega) (p / 2) (by omega) w
  rw [Pw_mod, show ((p / 2 : Nat) : Int) = ((p : Int) - 1) / 2 by omega] at this
  rw [Int.toNat_natCast, ← dvd_same.mp (leg_euler (a := a) hp h2)]
  exact this

theorem leg_cases {a P : Int} (h3 : 3 ≤ P) :
    (leg a P.toNat = 0 ∧ leg a P.toNat % P = 0 ∧ a % P = 0) ∨ (leg a P.toNat = 1 ∧ leg a P.toNat % P = 1 ∧ a % P ≠ 0) ∨ (leg a P.toNat = -1 ∧ leg a P.toNat % P = P - 1 ∧ a % P ≠ 0) := by
  have hz : leg a P.toNat = 0 ↔ a % P = 0 := by
    rw [leg_zero, Int.toNat_of_nonneg (by omega), Int.dvd_iff_emod_eq_zero]
  rcases leg_sign a P.toNat with h | h | h
  · exact .inl ⟨h, by rw [h]; simp, hz.mp h⟩
  · exact .inr (.inl ⟨h, by rw [h, Int.emod_eq_of_lt (by omega) (by omega)], fun h2 => by rw [hz.mpr h2] at h; omega⟩)
  · exact .inr (.inr ⟨h, by rw [h, show (-1 : Int) = (P - 1) + P * (-1) by omega, Int.add_mul_emod_self_left, Int.emod_eq_of_lt (by omega) (by omega)], fun h2 => by rw [hz.mpr h2] at h; omega⟩)

set_option maxRecDepth 100000 in
set_option maxHeartbeats 4000000 in
theorem symbolOf_any (a n : Int) (w : World) (h1 : 1 ≤ n) (h2 : n ≤ 1000000) (ho : n % 2 = 1) :
    Calls Tryd.prog 12 #[.int .i64 a, .int .i64 n] w (Says (.int .i64 (jac a n.toNat)) w) := by
  obtain ⟨T, hT⟩ : ∃ T, jac a n.toNat = T := ⟨_, rfl⟩
  have HT : Hid (1 * jac a n.toNat = T) := Lib.hid (by rw [Int.one_mul, hT])
  have HO := Lib.hid ho
  rw [hT]
  clear hT ho
  go_enter Tryd.func12, Tryd.ntmps12
  go_wp2
  go_loopg [1, 5, 6] 1000000 (fun k v1 v5 v6 wr => ∃ (n o p : Int), 1 ≤ n ∧ n ≤ 1000000 ∧ Hid (n % 2 = 1) ∧ 3 ≤ p ∧ p ≤ 1000002 ∧ Hid (p % 2 = 1) ∧ -1 ≤ o ∧ o ≤ 1 ∧ v1 = .int .i64 n ∧ v5 = .int .i64 o ∧ v6 = .int .i64 p ∧ Hid (∀ e : Int, 2 ≤ e → e < p → ¬ e ∣ n) ∧ Hid (o * jac a n.toNat = T) ∧ Hid (k = (1000003 - p).toNat) ∧ Ex w wr)
  case atStart => exact ⟨n, 1, 3, h1, h2, HO, by omega, by omega, Lib.hid rfl, by omega, by omega, rfl, rfl, rfl, Lib.hid (fun e e0 e1 hd => by
    have := HO.out
    obtain rfl : e = 2 := by omega
    omega), HT, Lib.hid rfl, Ex.refl _⟩
  case round =>
    clear HO HT h1 h2
    obtain ⟨n, o, p, n0, n1, hno2, p0, p1, hpo, o0, o1, rfl, rfl, rfl, hno, hI, hk, hw⟩ := hrel
    by_cases hn : n = 1
    · subst hn
      have HE : Hid (o = T) := Lib.hid (by
        have := hI.out
        rw [show (1 : Int).toNat = 1 by rfl, jac_one, Int.mul_one] at this
        exact this)
      go_wp2
      go_ret
      exact ⟨by simp [HE.out], hw⟩
    · have hpn : p ≤ n := by
        refine Decidable.byContradiction fun hc => hno.out n (by omega) (by omega) (Int.dvd_refl n)
      have mm := Eu.mul_le (a := p) (b := p) (A := 1000000) (B := 1000000) (by omega) (by omega) (by omega) (by omega)
      obtain ⟨mm0, mm1⟩ := mm
      obtain ⟨P, hP, hpP, hPn, hPo, hPno⟩ : ∃ P : Int, ((n < p * p ∧ P = n) ∨ (¬ n < p * p ∧ P = p)) ∧ p ≤ P ∧ P ≤ n ∧ Hid (P % 2 = 1) ∧ Hid (∀ e : Int, 2 ≤ e → e < P → ¬ e ∣ n) := by
        by_cases hs : n < p * p
        · exact ⟨n, .inl ⟨hs, rfl⟩, hpn, by omega, hno2, Lib.hid (fun e e0 e1 => (prm_sq (by omega) (by omega) hno.out hs).2 e e0 e1)⟩
        · exact ⟨p, .inr ⟨hs, rfl⟩, by omega, hpn, hpo, hno⟩
      have P3 : 3 ≤ P := by omega
      have PB : P ≤ 1000000 := by omega
      have PM : 0 ≤ P * P ∧ P * P ≤ 1000000 * 1000000 := Eu.mul_le (by omega) (by omega) (by omega) (by omega)
      obtain ⟨PM0, PM1⟩ := PM
      rename World => wo
      have b1 := Int.emod_nonneg a (b := P) (by omega)
      have b2 := Int.emod_lt_of_pos a (b := P) (by omega)
      have gp : (P == 0) = false := by simp; omega
      have HMD : Hid (∀ w : World, Calls Tryd.prog 28 #[.int .i64 a, .int .i64 P] w (Says (.int .i64 (a % P)) w)) := Lib.hid fun w => says_same (refmod_any a P w (by omega) (by omega))
      have HX := Lib.hid hw
      have HPW : Hid (Prm P → ∀ w : World, Calls Tryd.prog 27 #[.int .i64 (a % P), .int .i64 ((P - 1) / 2), .int .i64 P] w (Says (.int .i64 (leg a P.toNat % P)) w)) := Lib.hid fun hp w => powOf_leg a P w hp P3 PB
      have HLC := Lib.hid (leg_cases (a := a) P3)
      have g1 : decide (1 < n) = true := by simp; omega
      clear hw
      rcases hP with ⟨hs, rfl⟩ | ⟨hs, rfl⟩
      all_goals
        go_wp2
        go_loopg [1, 5] 1000000 (fun m v1 v5 wr => ∃ (y o : Int), 1 ≤ y ∧ y ≤ 1000000 ∧ Hid (y % 2 = 1) ∧ -1 ≤ o ∧ o ≤ 1 ∧ v1 = .int .i64 y ∧ v5 = .int .i64 o ∧ Hid (∀ e : Int, 2 ≤ e → e < P → ¬ e ∣ y) ∧ Hid (o * jac a y.toNat = T) ∧ Hid (y.toNat ≤ m) ∧ Ex w wr)
        case atStart => exact ⟨_, o, n0, n1, hno2, o0, o1, rfl, rfl, hPno, hI, Lib.hid (by omega), HX.out⟩
        case round =>
          obtain ⟨y, q, y0, y1, hyo, q0, q1, rfl, rfl, hyn, hJ, hm, hx⟩ := hrel
          have HY := Lib.hid hx
          clear hx
          by_cases hd : y % P = 0
          · have hp := sym_prime (by omega) hyn.out (Int.dvd_of_emod_eq_zero hd)
            obtain ⟨s0, s1, s2, s3⟩ := sym_step y0 hyo.out hp P3 hd hJ.out
            have HS3 := Lib.hid s3
            have HS2 := Lib.hid s2
            have HYN : Hid (∀ e : Int, 2 ≤ e → e < P → ¬ e ∣ y / P) := Lib.hid (no_down hyn.out (Int.ediv_dvd_of_dvd (Int.dvd_of_emod_eq_zero hd)))
            have HPW2 := Lib.hid (HPW.out hp)
            have gd : (y % P == 0) = true := by simp [hd]
            obtain ⟨c, hc⟩ : ∃ c, -q = c := ⟨_, rfl⟩
            have HC := Lib.hid hc
            clear s2 s3 hp hd
            rcases HLC.out with ⟨l1, l2, l3⟩ | ⟨l1, l2, l3⟩ | ⟨l1, l2, l3⟩
            · rw [l2] at HPW2
              rw [l1] at HS3
              have ga : (a % P == 0) = true := by simp [l3]
              clear l1 l2 l3
              go_wp2_with (first
                | (go_at_call 28; (with_reducible refine (HMD.out _).mono ?_); rintro e w2 ⟨rfl, hw2⟩)
                | (go_at_call 27; (with_reducible refine (HPW2.out _).mono ?_); rintro e w3 ⟨rfl, hw3⟩))
              go_roundg (y / P).toNat
              case measure => have := hm.out; omega
              case rel => exact ⟨y / P, 0, s0, by omega, HS2, by omega, by omega, rfl, rfl, HYN, Lib.hid (by have := HS3.out; rwa [Int.mul_zero] at this), Lib.hid (Nat.le_refl _), HY.out.trans (by repeat (first | assumption | exact Ex.refl _ | refine Ex.trans ?_ (by assumption)))⟩
            · rw [l2] at HPW2
              rw [l1] at HS3
              have ga : (a % P == 0) = false := by simpa using l3
              clear l1 l2 l3
              go_wp2_with (first
                | (go_at_call 28; (with_reducible refine (HMD.out _).mono ?_); rintro e w2 ⟨rfl, hw2⟩)
                | (go_at_call 27; (with_reducible refine (HPW2.out _).mono ?_); rintro e w3 ⟨rfl, hw3⟩))
              go_roundg (y / P).toNat
              case measure => have := hm.out; omega
              case rel => exact ⟨y / P, q, s0, by omega, HS2, by omega, by omega, rfl, rfl, HYN, Lib.hid (by have := HS3.out; rwa [Int.mul_one] at this), Lib.hid (Nat.le_refl _), HY.out.trans (by repeat (first | assumption | exact Ex.refl _ | refine Ex.trans ?_ (by assumption)))⟩
            · rw [l2] at HPW2
              rw [l1] at HS3
              have ga : (a % P == 0) = false := by simpa using l3
              have gm0 : (P - 1 == 0) = false := by simp; omega
              have gm1 : (P - 1 == 1) = false := by simp; omega
              clear l1 l2 l3
              go_wp2_with (first
                | (go_at_call 28; (with_reducible refine (HMD.out _).mono ?_); rintro e w2 ⟨rfl, hw2⟩)
                | (go_at_call 27; (with_reducible refine (HPW2.out _).mono ?_); rintro e w3 ⟨rfl, hw3⟩))
              go_roundg (y / P).toNat
              case measure => have := hm.out; omega
              case rel => exact ⟨y / P, c, s0, by omega, HS2, by omega, by omega, rfl, rfl, HYN, Lib.hid (by have := HS3.out; rwa [Int.mul_neg, Int.mul_one, HC.out] at this), Lib.hid (Nat.le_refl _), HY.out.trans (by repeat (first | assumption | exact Ex.refl _ | refine Ex.trans ?_ (by assumption)))⟩
          · have gd : (y % P == 0) = false := by simpa using hd
            have HN := Lib.hid (sym_next hyo.out hPo.out hyn.out hd)
            clear hd
            go_wp2
            go_roundg (1000003 - (P + 2)).toNat
            case measure => have := hk.out; omega
            case rel => exact ⟨y, q, P + 2, y0, y1, hyo, by omega, by omega, Lib.hid (by have := hPo.out; omega), q0, q1, rfl, rfl, rfl, HN, hJ, Lib.hid rfl, HY.out⟩

end Go.Proofs.YtcbaknnaacnaiaaDoor
