/-
  Package prime, walked: smallestFactor, isPrime, Is, Next; and the document's Prime by sixes.
-/
import Derived.Test.YtcbaknnaacnaiaaSmall
import Derived.Test.YtcbaknnaacnaiaaPrMath
namespace Go.Proofs.Ytcbaknnaacnaiaa
open Go.RowKit
open Pr

theorem sq_le {d : Int} (h : 1001 ≤ d) : 1002001 ≤ d * d := by
  have h1 : 1001 * d ≤ d * d := Int.mul_le_mul_of_nonneg_right h (by omega)
  omega

theorem tmod_dvd {n d : Int} (h : n.tmod d = 0) : d ∣ n := Int.dvd_of_tmod_eq_zero h
theorem emod_dvd {n d : Int} (h : n % d = 0) : d ∣ n := Int.dvd_of_emod_eq_zero h

set_option maxHeartbeats 400000 in
theorem smallest_ok (n q : Int) (w : World) (h1 : 2 ≤ n) (h2 : n ≤ 1000000) (hq : IsMf n q) :
    Calls Try.prog 10 #[.int .i64 n] w (Says (.int .i64 q) w) := by
  have HQ := Lib.hid hq
  clear hq
  go_enter Try.func10, Try.ntmps10
  go_wp2
  go_loopg [3] 1000 (fun k v3 wr => ∃ d : Int, 2 ≤ d ∧ d ≤ 1001 ∧ Hid (∀ e : Int, 2 ≤ e → e < d → ¬ e ∣ n) ∧ v3 = .int .i64 d ∧ Hid (k = (1002 - d).toNat) ∧ Ex w wr)
  case atStart => exact ⟨2, by omega, by omega, Lib.hid (fun e h3 h4 => by omega), rfl, Lib.hid (by omega), Ex.refl _⟩
  case round =>
    obtain ⟨d, hd2, hd3, hno, rfl, hk, hw⟩ := hrel
    have hb1 := Eu.mul_le (a := d) (b := d) (A := 1001) (B := 1001) (by omega) (by omega) (by omega) (by omega)
    have hb2 : d * d ≤ 1002001 := by omega
    have hb3 := hb1.1
    clear hb1
    by_cases hs : d * d ≤ n
    · have hd4 : d ≤ 1000 := by
        refine Decidable.byContradiction fun hc => ?_
        have := sq_le (d := d) (by omega)
        omega
      by_cases hm : n % d = 0
      · have e : q = d := hit_mf hd2 HQ.out hno.out (emod_dvd hm)
        subst e
        go_wp2
        go_ret
        exact ⟨rfl, hw⟩
      · go_wp2
        go_roundg (1002 - (d + 1)).toNat
        case measure => have := hk.out; omega
        case rel => exact ⟨d + 1, by omega, by omega, Lib.hid (fun e h3 h4 => by
          rcases Int.lt_or_le e d with h5 | h5
          · exact hno.out e h3 h5
          · obtain rfl : e = d := by omega
            intro h6
            exact hm (Int.emod_eq_zero_of_dvd h6)), rfl, Lib.hid rfl, hw⟩
    · have e : q = n := sq_mf h1 hd2 HQ.out hno.out (by omega)
      have HE := Lib.hid e
      clear e
      go_wp2
      go_ret
      exact ⟨by simp [HE.out], hw⟩

set_option maxHeartbeats 400000 in
theorem isPrime_ok (n : Int) (w : World) (h2 : n ≤ 1000000) :
    Calls Try.prog 8 #[.int .i64 n] w (Says (.bool (pb n)) w) := by
  by_cases h1 : 2 ≤ n
  · obtain ⟨q, hq⟩ := mf_some h1
    have HP := Lib.hid (pb_mf h1 hq)
    have HQ := Lib.hid hq
    clear hq
    go_enter Try.func8, Try.ntmps8
    go_wp2_with (
      (go_at_call 10; refine (smallest_ok _ q _ (by omega) (by omega) HQ.out).mono ?_; rintro e w2 ⟨rfl, hw2⟩))
    go_ret
    exact ⟨by simp [← HP.out], hw2⟩
  · have HP := Lib.hid (pb_small (n := n) (by omega))
    go_enter Try.func8, Try.ntmps8
    go_wp2
    go_ret
    exact ⟨by simp [HP.out], Ex.refl _⟩

set_option maxHeartbeats 400000 in
theorem next_ok (n p : Int) (w : World) (h1 : 0 ≤ n) (hp : IsNext n p) (h2 : p ≤ 1000000) :
    Calls Try.prog 6 #[.int .i64 n] w (Says (.tuple #[.int .i64 p, .int .i64 0]) w) := by
  have hle := hp.1
  have HP := Lib.hid hp
  clear hp
  go_enter Try.func6, Try.ntmps6
  go_wp2
  go_loopg [4] (1000002 - n).toNat (fun k v4 wr => ∃ d : Int, n ≤ d ∧ d ≤ p ∧ v4 = .int .i64 d ∧ Hid (k = (1000002 - d).toNat) ∧ Ex w wr)
  case atStart => exact ⟨n, by omega, by omega, rfl, Lib.hid (by omega), Ex.refl _⟩
  case round =>
    obtain ⟨d, hd1, hd2, rfl, hk, hw⟩ := hrel
    by_cases he : d = p
    · subst he
      have hpb := (pb_iff d).mpr HP.out.2.1
      go_wp2_with (
        (go_at_call 8; refine (isPrime_ok _ _ (by omega)).mono ?_; rintro e w2 ⟨rfl, hw2⟩))
      go_ret2
      exact ⟨rfl, hw.trans hw2⟩
    · have hpb := pb_no (HP.out.2.2 d hd1 (by omega))
      go_wp2_with (
        (go_at_call 8; refine (isPrime_ok _ _ (by omega)).mono ?_; rintro e w2 ⟨rfl, hw2⟩))
      go_roundg (1000002 - (d + 1)).toNat
      case measure => have := hk.out; omega
      case rel => exact ⟨d + 1, by omega, by omega, rfl, Lib.hid rfl, hw.trans hw2⟩

set_option maxHeartbeats 400000 in
theorem next_none (n : Int) (w : World) (h1 : 0 ≤ n) (h2 : n ≤ 1000000) (hp : ∀ k : Int, n ≤ k → k ≤ 1000000 → ¬ Prm k) :
    Calls Try.prog 6 #[.int .i64 n] w (Says (.tuple #[.int .i64 0, .int .i64 4]) w) := by
  have HP := Lib.hid hp
  clear hp
  go_enter Try.func6, Try.ntmps6
  go_wp2
  go_loopg [4] (1000002 - n).toNat (fun k v4 wr => ∃ d : Int, n ≤ d ∧ d ≤ 1000001 ∧ v4 = .int .i64 d ∧ Hid (k = (1000002 - d).toNat) ∧ Ex w wr)
  case atStart => exact ⟨n, by omega, by omega, rfl, Lib.hid (by omega), Ex.refl _⟩
  case round =>
    obtain ⟨d, hd1, hd2, rfl, hk, hw⟩ := hrel
    by_cases he : d = 1000001
    · subst he
      go_wp2
      go_ret2
      exact ⟨rfl, hw⟩
    · have hpb := pb_no (HP.out d hd1 (by omega))
      go_wp2_with (
        (go_at_call 8; refine (isPrime_ok _ _ (by omega)).mono ?_; rintro e w2 ⟨rfl, hw2⟩))
      go_roundg (1000002 - (d + 1)).toNat
      case measure => have := hk.out; omega
      case rel => exact ⟨d + 1, by omega, by omega, rfl, Lib.hid rfl, hw.trans hw2⟩

set_option maxHeartbeats 400000 in
theorem next_no (n : Int) (w : World) (h : n < 0 ∨ 1000000 < n) :
    Calls Try.prog 6 #[.int .i64 n] w (Says (.tuple #[.int .i64 0, .int .i64 1]) w) := by
  rcases h with h | h
  all_goals
    go_enter Try.func6, Try.ntmps6
    go_wp2
    go_ret2
    exact ⟨rfl, Ex.refl _⟩



end Go.Proofs.Ytcbaknnaacnaiaa
