/-
  Package square, walked: anyRoot (TONELLI, SHANKS).
-/
import Derived.Test.YthlnbomapfjphaaDoorSqTon
namespace Go.Proofs.YthlnbomapfjphaaDoor
open Go.RowKit
open Eu Pr Rs Sq

/-- p - 1 = d * 2^(t+1), d odd: as TrailingZeros tells it. -/
theorem ctz_odd {p : Nat} (ho : p % 2 = 1) (h3 : 3 ≤ p) (hb : p ≤ 1000000) : ∃ d t : Nat, d % 2 = 1 ∧ p - 1 = d * 2 ^ (t + 1) ∧ Lib.ctz 64 (p - 1) = t + 1 ∧ t ≤ 62 := by
  obtain ⟨m, hm, hlt⟩ := Lib.ctzFrom_spec 64 (p - 1) (by omega) (by omega)
  have e : Lib.ctz 64 (p - 1) = Lib.ctzFrom 64 (p - 1) := by unfold Lib.ctz; rw [if_neg (by omega)]
  rw [← e] at hm hlt
  have hne : Lib.ctz 64 (p - 1) ≠ 0 := fun h => by
    rw [h] at hm; omega
  obtain ⟨t, ht⟩ : ∃ t, Lib.ctz 64 (p - 1) = t + 1 := ⟨Lib.ctz 64 (p - 1) - 1, by omega⟩
  rw [ht] at hm
  exact ⟨2 * m + 1, t, by omega, by rw [hm, Nat.mul_comm], ht, by omega⟩

set_option maxRecDepth 100000 in
set_option maxHeartbeats 2000000 in
theorem anyRoot_any (a : Int) (p : Nat) (w : World) (hp : Prm (p : Int)) (h2 : p ≠ 2) (hb : p ≤ 1000000) (a0 : 0 ≤ a) (a1 : a < p) (hl : leg a p = 1) (hT : Tab w) :
    Calls Tryd.prog 34 #[.int .i64 a, .int .i64 p] w (fun e w2 => ∃ r : Int, 0 ≤ r ∧ r < p ∧ Hid ((p : Int) ∣ r * r - a) ∧ Says (.tuple #[.int .i64 r, .int .i64 0]) w e w2) := by
  obtain ⟨ho, h3⟩ := prm_odd hp h2
  obtain ⟨d, t, hd, he, hct, ht⟩ := ctz_odd ho h3 hb
  have HTZ : Hid (Calls Tryd.prog 50 #[.int .u64 ((p : Int) - 1)] w (Says (.int .i64 ((t : Int) + 1)) w)) := Lib.hid (by
    have := tz_any (p - 1) w (by omega) (by omega) hT
    rw [hct, show ((p - 1 : Nat) : Int) = (p : Int) - 1 by omega, show ((t + 1 : Nat) : Int) = (t : Int) + 1 by omega] at this
    exact this)
  have HP := Lib.hid hp
  have HNS := Lib.hid fun w => nonSquare_any p w hp h2 hb
  have hD : ((p : Int) - 1) / 2 ^ (t + 1) = (d : Int) := by
    rw [show (p : Int) - 1 = ((p - 1 : Nat) : Int) by omega, he, show (2 : Int) ^ (t + 1) = ((2 ^ (t + 1) : Nat) : Int) by simp, ← Int.natCast_ediv]
    rw [Nat.mul_div_cancel _ (Nat.two_pow_pos _)]
  have dle : d ≤ p - 1 := by
    rw [he]; exact Nat.le_mul_of_pos_right _ (Nat.two_pow_pos _)
  have HTS : Hid (∀ z : Int, jac z p = -1 → Ts a p (a * Pw a (d / 2) p % p) (a * Pw a (d / 2) p % p * Pw a (d / 2) p % p) (Pw z d p) t) := Lib.hid fun z hz =>
    Ts.start hp h2 hl (by rw [← jac_prime hp h2]; exact hz) hd he
  have HPW1 : Hid (∀ w, Calls Tryd.prog 11 #[.int .i64 a, .int .i64 ((d : Int) / 2), .int .i64 p] w (Says (.tuple #[.int .i64 (Pw a (d / 2) p), .int .i64 0]) w)) := Lib.hid fun w => by
    have := pow_ok a ((d : Int) / 2) p w (by omega) (by omega) (by omega) (by omega)
    rwa [show ((d : Int) / 2).toNat = d / 2 by omega] at this
  have HPW2 : Hid (∀ z w, Calls Tryd.prog 11 #[.int .i64 z, .int .i64 d, .int .i64 p] w (Says (.tuple #[.int .i64 (Pw z d p), .int .i64 0]) w)) := Lib.hid fun z w => by
    have := pow_ok z (d : Int) p w (by omega) (by omega) (by omega) (by omega)
    rwa [show (d : Int).toNat = d by omega] at this
  have h0 := Pw_nonneg a (d / 2) (m := (p : Int)) (by omega)
  have h1 := Pw_lt a (d / 2) (m := (p : Int)) (by omega)
  obtain ⟨H, hH⟩ : ∃ H, Pw a (d / 2) p = H := ⟨_, rfl⟩
  rw [hH] at h0 h1 HTS HPW1
  have r0 := Int.emod_nonneg (a * H) (b := (p : Int)) (by omega)
  have r1 := Int.emod_lt_of_pos (a * H) (b := (p : Int)) (by omega)
  clear hT hct hd he hH
  go_enter Tryd.func34, Tryd.ntmps34
  go_wp2_with (first
    | (go_at_call 50; (with_reducible refine (HTZ.out).mono ?_); rintro e w1 ⟨rfl, hw1⟩)
    | (go_at_call 11; (with_reducible refine (HPW1.out _).mono ?_); rintro e w2 ⟨rfl, hw2⟩; clear HPW1)
    | (go_at_call 51; (with_reducible refine (HNS.out _).mono ?_); rintro e w3 ⟨z, z0, z1, hz, rfl, hw3⟩)
    | (go_at_call 11; (with_reducible refine (HPW2.out z _).mono ?_); rintro e w4 ⟨rfl, hw4⟩)
    | (go_at_call 52; (with_reducible refine (mult_any _ _).mono ?_); rintro e w5 ⟨b, rfl, hc, hw5⟩
       have HTM : Hid (∀ (x y : Int) (w6 : World), 0 ≤ x → x < p → 0 ≤ y → y < p → Ex w5 w6 → Calls Tryd.prog 67 #[.int .i64 x, .int .i64 y, .pointer (some ⟨b, 0, none⟩)] w6 (Says (.int .i64 (x * y % p)) w6)) :=
         Lib.hid fun x y w6 x0 x1 y0 y1 hx => times_any x y p b w6 (by omega) (by omega) x0 x1 y0 y1 (hx.cell hc)
       have HSQ : Hid (∀ (x : Int) (k : Nat) (w6 : World), 0 ≤ x → x < p → k ≤ 64 → Ex w5 w6 → Calls Tryd.prog 53 #[.int .i64 x, .int .i64 k, .func (.func 67) #[] #[.pointer (some ⟨b, 0, none⟩)]] w6 (Says (.int .i64 (Pw x (2 ^ k) p)) w6)) :=
         Lib.hid fun x k w6 x0 x1 hk hx => squared_any x p k b w6 (by omega) (by omega) x0 x1 hk (hx.cell hc)
       clear hc)
    | (go_at_call 67; (with_reducible refine (HTM.out a H _ a0 a1 h0 h1 (Ex.refl _)).mono ?_); rintro e w6 ⟨rfl, hw6⟩)
    | (go_at_call 67; (with_reducible refine (HTM.out (a * H % p) H _ r0 r1 h0 h1 hw6).mono ?_); rintro e w7 ⟨rfl, hw7⟩))
  have HT0 := Lib.hid (HTS.out z hz.out)
  have HX7 : Hid (Ex w5 w7) := Lib.hid (by repeat (first | assumption | exact Ex.refl _ | refine Ex.trans ?_ (by assumption)))
  have HX0 : Hid (Ex w w5) := Lib.hid (by repeat (first | assumption | exact Ex.refl _ | refine Ex.trans ?_ (by assumption)))
  clear hw1 hw2 hw3 hw4 hw5 hw6 hw7
  go_loopg [10, 12, 13, 14] t (fun m v10 v12 v13 v14 wr => ∃ (R E T k : Int), -1 ≤ k ∧ k ≤ 62 ∧ v12 = .int .i64 R ∧ v13 = .int .i64 E ∧ v10 = .int .i64 T ∧ v14 = .int .i64 k ∧ Hid (Ts a p R E T (k + 1).toNat) ∧ Hid (m = (k + 1).toNat) ∧ Ex w5 wr)
  case atStart => exact ⟨_, _, _, (t : Int) - 1, by omega, by omega, rfl, rfl, rfl, int_eq (by omega), Lib.hid (by rw [show ((t : Int) - 1 + 1).toNat = t by omega]; exact HT0.out), Lib.hid (by omega), HX7.out⟩
  case round =>
    obtain ⟨R, E, T, k, k0, k1, rfl, rfl, rfl, rfl, hI, hm, hw⟩ := hrel
    have HW := Lib.hid hw
    have R0 := hI.out.r0
    have R1 := hI.out.r1
    by_cases hk : 0 ≤ k
    · obtain ⟨j, rfl⟩ : ∃ j : Nat, k = j := ⟨k.toNat, by omega⟩
      have E0 := hI.out.e0
      have E1 := hI.out.e1
      have T0 := hI.out.t0
      have T1 := hI.out.t1
      have N0 := Int.emod_nonneg (T * T) (b := (p : Int)) (by omega)
      have N1 := Int.emod_lt_of_pos (T * T) (b := (p : Int)) (by omega)
      have HJ : Hid (Ts a p R E T (j + 1)) := Lib.hid (by
        have := hI.out
        rwa [show ((j : Int) + 1).toNat = j + 1 by omega] at this)
      by_cases hs : Pw E (2 ^ j) p = 1
      · have HN := Lib.hid (HJ.out.skip (by omega) hs)
        have hg : (Pw E (2 ^ j) p != 1) = false := by simp [hs]
        clear hs
        go_wp2_with (first
          | (go_at_call 67; (with_reducible refine (HTM.out T T _ T0 T1 T0 T1 HW.out).mono ?_); rintro e w8 ⟨rfl, hw8⟩)
          | (go_at_call 53; (with_reducible refine (HSQ.out E j _ E0 E1 (by omega) (HW.out.trans hw8)).mono ?_); rintro e w9 ⟨rfl, hw9⟩))
        go_roundg j
        case measure => have := hm.out; omega
        case rel => exact ⟨R, E, T * T % p, (j : Int) - 1, by omega, by omega, rfl, rfl, rfl, int_eq (by first | rfl | go_unwrap), Lib.hid (by rw [show ((j : Int) - 1 + 1).toNat = j by omega]; exact HN.out), Lib.hid (by omega), (HW.out.trans hw8).trans hw9⟩
      · have HN := Lib.hid (HJ.out.take HP.out hs)
        have hg : (Pw E (2 ^ j) p != 1) = true := by simpa using hs
        clear hs
        go_wp2_with (first
          | (go_at_call 67; (with_reducible refine (HTM.out T T _ T0 T1 T0 T1 HW.out).mono ?_); rintro e w8 ⟨rfl, hw8⟩)
          | (go_at_call 53; (with_reducible refine (HSQ.out E j _ E0 E1 (by omega) (HW.out.trans hw8)).mono ?_); rintro e w9 ⟨rfl, hw9⟩)
          | (go_at_call 67; (with_reducible refine (HTM.out R T _ R0 R1 T0 T1 ((HW.out.trans hw8).trans hw9)).mono ?_); rintro e wa ⟨rfl, hwa⟩)
          | (go_at_call 67; (with_reducible refine (HTM.out E (T * T % p) _ E0 E1 N0 N1 (((HW.out.trans hw8).trans hw9).trans hwa)).mono ?_); rintro e wb ⟨rfl, hwb⟩))
        go_roundg j
        case measure => have := hm.out; omega
        case rel => exact ⟨R * T % p, E * (T * T % p) % p, T * T % p, (j : Int) - 1, by omega, by omega, rfl, rfl, rfl, int_eq (by first | rfl | go_unwrap), Lib.hid (by rw [show ((j : Int) - 1 + 1).toNat = j by omega]; exact HN.out), Lib.hid (by omega), (((HW.out.trans hw8).trans hw9).trans hwa).trans hwb⟩
    · have HE := Lib.hid (by
        have := hI.out
        rw [show (k + 1).toNat = 0 by omega] at this
        exact this.ends : (p : Int) ∣ R * R - a)
      go_wp2
      go_ret2
      exact ⟨R, R0, R1, HE, rfl, HX0.out.trans HW.out⟩

end Go.Proofs.YthlnbomapfjphaaDoor
