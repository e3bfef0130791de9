/-
  Package prime, walked: smallestFactor, isPrime, Is, Next; and the document's Prime by sixes.
-/
import Derived.Test.YtfdhhiibhkepaaaSmall
import Derived.Test.YtfdhhiibhkepaaaPrMath
namespace Go.Proofs.Ytfdhhiibhkepaaa
open Go.RowKit
open Pr

theorem sq_le {d : Int} (h : 1001 ≤ d) : 1002001 ≤ d * d := by
  have h1 : 1001 * d ≤ d * d := Int.mul_le_mul_of_nonneg_right h (by omega)
  omega

theorem tmod_dvd {n d : Int} (h : n.tmod d = 0) : d ∣ n := Int.dvd_of_tmod_eq_zero h
theorem emod_dvd {n d : Int} (h : n % d = 0) : d ∣ n := Int.dvd_of_emod_eq_zero h

set_option maxHeartbeats 400000 in
theorem smallest_ok (n q : Int) (w : World) (h1 : 2 ≤ n) (h2 : n ≤ 1000000) (hq : IsMf n q) :
    Calls Try.prog 61 #[.int .i64 n] w (Says (.int .i64 q) w) := by
  have HQ := Lib.hid hq
  clear hq
  go_enter Try.func61, Try.ntmps61
  go_wp2
  go_loopg [3] 1000 (fun k v3 wr => ∃ d : Int, 2 ≤ d ∧ d ≤ 1001 ∧ Hid (∀ e : Int, 2 ≤ e → e < d → ¬ e ∣ n) ∧ v3 = .int .i64 d ∧ Hid (k = (1002 - d).toNat) ∧ Ex w wr)
  case atStart => exact ⟨2, by omega, by omega, Lib.hid (fun e h3 h4 => by omega), rfl, Lib.hid (by omega), Ex.refl _⟩
  case round =>
    obtain ⟨d, hd2, hd3, hno, rfl, hk, hw⟩ := hrel
    have hb1 := Eu.mul_le (a := d) (b := d) (A := 1001) (B := 1001) (by omega) (by omega) (by omega) (by omega)
    have hb2 : d * d ≤ 1002001 := by omega
    have hb3 := hb1.1
    clear hb1
    by_cases hs : d * d ≤ n
    · have hd4 : d ≤ 1000 := by
        refine Decidable.byContradiction fun hc => ?_
        have := sq_le (d := d) (by omega)
        omega
      by_cases hm : n % d = 0
      · have e : q = d := hit_mf hd2 HQ.out hno.out (emod_dvd hm)
        subst e
        go_wp2
        go_ret
        exact ⟨rfl, hw⟩
      · go_wp2
        go_roundg (1002 - (d + 1)).toNat
        case measure => have := hk.out; omega
        case rel => exact ⟨d + 1, by omega, by omega, Lib.hid (fun e h3 h4 => by
          rcases Int.lt_or_le e d with h5 | h5
          · exact hno.out e h3 h5
          · obtain rfl : e = d := by omega
            intro h6
            exact hm (Int.emod_eq_zero_of_dvd h6)), rfl, Lib.hid rfl, hw⟩
    · have e : q = n := sq_mf h1 hd2 HQ.out hno.out (by omega)
      have HE := Lib.hid e
      clear e
      go_wp2
      go_ret
      exact ⟨by simp [HE.out], hw⟩

set_option maxHeartbeats 400000 in
theorem isPrime_ok (n : Int) (w : World) (h2 : n ≤ 1000000) :
    Calls Try.prog 54 #[.int .i64 n] w (Says (.bool (pb n)) w) := by
  by_cases h1 : 2 ≤ n
  · obtain ⟨q, hq⟩ := mf_some h1
    have HP := Lib.hid (pb_mf h1 hq)
    have HQ := Lib.hid hq
    clear hq
    go_enter Try.func54, Try.ntmps54
    go_wp2_with (
      (go_at_call 61; refine (smallest_ok _ q _ (by omega) (by omega) HQ.out).mono ?_; rintro e w2 ⟨rfl, hw2⟩))
    go_ret
    exact ⟨by simp [← HP.out], hw2⟩
  · have HP := Lib.hid (pb_small (n := n) (by omega))
    go_enter Try.func54, Try.ntmps54
    go_wp2
    go_ret
    exact ⟨by simp [HP.out], Ex.refl _⟩

set_option maxHeartbeats 400000 in
theorem is_ok (n : Int) (w : World) (h1 : 0 ≤ n) (h2 : n ≤ 1000000) :
    Calls Try.prog 52 #[.int .i64 n] w (Says (.tuple #[.bool (pb n), .int .i64 0]) w) := by
  go_enter Try.func52, Try.ntmps52
  go_wp2_with (
    (go_at_call 54; refine (isPrime_ok _ _ (by omega)).mono ?_; rintro e w2 ⟨rfl, hw2⟩))
  go_ret2
  exact ⟨rfl, hw2⟩

set_option maxHeartbeats 400000 in
theorem is_no (n : Int) (w : World) (h : n < 0 ∨ 1000000 < n) :
    Calls Try.prog 52 #[.int .i64 n] w (Says (.tuple #[.bool false, .int .i64 1]) w) := by
  rcases h with h | h
  all_goals
    go_enter Try.func52, Try.ntmps52
    go_wp2
    go_ret2
    exact ⟨rfl, Ex.refl _⟩

set_option maxHeartbeats 400000 in
theorem next_ok (n p : Int) (w : World) (h1 : 0 ≤ n) (hp : IsNext n p) (h2 : p ≤ 1000000) :
    Calls Try.prog 38 #[.int .i64 n] w (Says (.tuple #[.int .i64 p, .int .i64 0]) w) := by
  have hle := hp.1
  have HP := Lib.hid hp
  clear hp
  go_enter Try.func38, Try.ntmps38
  go_wp2
  go_loopg [4] (1000002 - n).toNat (fun k v4 wr => ∃ d : Int, n ≤ d ∧ d ≤ p ∧ v4 = .int .i64 d ∧ Hid (k = (1000002 - d).toNat) ∧ Ex w wr)
  case atStart => exact ⟨n, by omega, by omega, rfl, Lib.hid (by omega), Ex.refl _⟩
  case round =>
    obtain ⟨d, hd1, hd2, rfl, hk, hw⟩ := hrel
    by_cases he : d = p
    · subst he
      have hpb := (pb_iff d).mpr HP.out.2.1
      go_wp2_with (
        (go_at_call 54; refine (isPrime_ok _ _ (by omega)).mono ?_; rintro e w2 ⟨rfl, hw2⟩))
      go_ret2
      exact ⟨rfl, hw.trans hw2⟩
    · have hpb := pb_no (HP.out.2.2 d hd1 (by omega))
      go_wp2_with (
        (go_at_call 54; refine (isPrime_ok _ _ (by omega)).mono ?_; rintro e w2 ⟨rfl, hw2⟩))
      go_roundg (1000002 - (d + 1)).toNat
      case measure => have := hk.out; omega
      case rel => exact ⟨d + 1, by omega, by omega, rfl, Lib.hid rfl, hw.trans hw2⟩

set_option maxHeartbeats 400000 in
theorem next_none (n : Int) (w : World) (h1 : 0 ≤ n) (h2 : n ≤ 1000000) (hp : ∀ k : Int, n ≤ k → k ≤ 1000000 → ¬ Prm k) :
    Calls Try.prog 38 #[.int .i64 n] w (Says (.tuple #[.int .i64 0, .int .i64 4]) w) := by
  have HP := Lib.hid hp
  clear hp
  go_enter Try.func38, Try.ntmps38
  go_wp2
  go_loopg [4] (1000002 - n).toNat (fun k v4 wr => ∃ d : Int, n ≤ d ∧ d ≤ 1000001 ∧ v4 = .int .i64 d ∧ Hid (k = (1000002 - d).toNat) ∧ Ex w wr)
  case atStart => exact ⟨n, by omega, by omega, rfl, Lib.hid (by omega), Ex.refl _⟩
  case round =>
    obtain ⟨d, hd1, hd2, rfl, hk, hw⟩ := hrel
    by_cases he : d = 1000001
    · subst he
      go_wp2
      go_ret2
      exact ⟨rfl, hw⟩
    · have hpb := pb_no (HP.out d hd1 (by omega))
      go_wp2_with (
        (go_at_call 54; refine (isPrime_ok _ _ (by omega)).mono ?_; rintro e w2 ⟨rfl, hw2⟩))
      go_roundg (1000002 - (d + 1)).toNat
      case measure => have := hk.out; omega
      case rel => exact ⟨d + 1, by omega, by omega, rfl, Lib.hid rfl, hw.trans hw2⟩

set_option maxHeartbeats 400000 in
theorem next_no (n : Int) (w : World) (h : n < 0 ∨ 1000000 < n) :
    Calls Try.prog 38 #[.int .i64 n] w (Says (.tuple #[.int .i64 0, .int .i64 1]) w) := by
  rcases h with h | h
  all_goals
    go_enter Try.func38, Try.ntmps38
    go_wp2
    go_ret2
    exact ⟨rfl, Ex.refl _⟩

set_option maxHeartbeats 1000000 in
theorem refPrime_ok (n : Int) (w : World) (h2 : n ≤ 1000000) :
    Calls Try.prog 39 #[.int .i64 n] w (Says (.bool (pb n)) w) := by
  by_cases h4 : n < 4
  · by_cases e2 : n = 2
    · subst e2
      have HP := Lib.hid ((pb_iff 2).mpr prm_two)
      go_enter Try.func39, Try.ntmps39
      go_wp2
      go_ret
      exact ⟨by simp [HP.out], Ex.refl _⟩
    · by_cases e3 : n = 3
      · subst e3
        have HP := Lib.hid ((pb_iff 3).mpr prm_three)
        go_enter Try.func39, Try.ntmps39
        go_wp2
        go_ret
        exact ⟨by simp [HP.out], Ex.refl _⟩
      · have HP := Lib.hid (pb_small (n := n) (by omega))
        go_enter Try.func39, Try.ntmps39
        go_wp2
        go_ret
        exact ⟨by simp [HP.out, e2, e3], Ex.refl _⟩
  · by_cases m2 : n % 2 = 0
    · have HP := Lib.hid (pb_no (not_prm (n := n) (d := 2) (by omega) (by omega) (by omega)))
      go_enter Try.func39, Try.ntmps39
      go_wp2
      go_ret
      exact ⟨by simp [HP.out], Ex.refl _⟩
    · by_cases m3 : n % 3 = 0
      · have HP := Lib.hid (pb_no (not_prm (n := n) (d := 3) (by omega) (by omega) (by omega)))
        go_enter Try.func39, Try.ntmps39
        go_wp2
        go_ret
        exact ⟨by simp [HP.out], Ex.refl _⟩
      · have hg2 : (n % 2 == 0) = false := beq_eq_false_iff_ne.mpr m2
        have hg3 : (n % 3 == 0) = false := beq_eq_false_iff_ne.mpr m3
        go_enter Try.func39, Try.ntmps39
        go_wp2
        go_loopg [3] 1005 (fun k v3 wr => ∃ d : Int, 5 ≤ d ∧ d ≤ 1007 ∧ Hid (d % 6 = 5) ∧ Hid (∀ e : Int, 2 ≤ e → e < d → ¬ e ∣ n) ∧ v3 = .int .i64 d ∧ Hid (k = (1010 - d).toNat) ∧ Ex w wr)
        case atStart => exact ⟨5, by omega, by omega, Lib.hid rfl, Lib.hid (fun e h3 h4 h5 => by
          obtain h | h | h : e = 2 ∨ e = 3 ∨ e = 4 := by omega
          all_goals subst h; omega), rfl, Lib.hid (by omega), Ex.refl _⟩
        case round =>
          obtain ⟨d, hd2, hd3, h6, hno, rfl, hk, hw⟩ := hrel
          have hb1 := Eu.mul_le (a := d) (b := d) (A := 1007) (B := 1007) (by omega) (by omega) (by omega) (by omega)
          have hb2 : d * d ≤ 1014049 := by omega
          have hb3 := hb1.1
          clear hb1
          by_cases hs : d * d ≤ n
          · have hd4 : d ≤ 1000 := by
              refine Decidable.byContradiction fun hc => ?_
              have := sq_le (d := d) (by omega)
              omega
            have hd5 : 5 * d ≤ d * d := Int.mul_le_mul_of_nonneg_right hd2 (by omega)
            by_cases hm : n % d = 0
            · have HP := Lib.hid (pb_no (not_prm (n := n) (d := d) (by omega) (by omega) (emod_dvd hm)))
              clear hd5
              go_wp2
              go_ret
              exact ⟨by simp [HP.out], hw⟩
            · by_cases hm2 : n % (d + 2) = 0
              · have HP := Lib.hid (pb_no (not_prm (n := n) (d := d + 2) (by omega) (by omega) (emod_dvd hm2)))
                clear hd5
                go_wp2
                go_ret
                exact ⟨by simp [HP.out], hw⟩
              · have hg4 : (n % d == 0) = false := beq_eq_false_iff_ne.mpr hm
                have hg5 : (n % (d + 2) == 0) = false := beq_eq_false_iff_ne.mpr hm2
                have HN := Lib.hid (step6 (n := n) (d := d) (by omega) (by omega) h6.out hno.out (fun h => hm (Int.emod_eq_zero_of_dvd h)) (fun h => hm2 (Int.emod_eq_zero_of_dvd h)))
                clear hd5
                go_wp2
                go_roundg (1010 - (d + 6)).toNat
                case measure => have := hk.out; omega
                case rel => exact ⟨d + 6, by omega, by omega, Lib.hid (by have := h6.out; omega), HN, rfl, Lib.hid rfl, hw⟩
          · have HP := Lib.hid ((pb_iff n).mpr (prm_sq (n := n) (d := d) (by omega) (by omega) hno.out (by omega)))
            go_wp2
            go_ret
            exact ⟨by simp [HP.out], hw⟩


end Go.Proofs.Ytfdhhiibhkepaaa
