/-
  Several texts in one:
  - The small helpers of the statements: Rest, Within, small.
  - Package prime, walked: smallestFactor, isPrime, Is, Next; and the document's Prime by sixes.
  - The walks over package euclid: what Gcd, Lcm, Steps, Bezout answer.
  - Package rest, walked: isModulus, mod, power, Of, Pow, Inverse.
  - The document's powers.
  - Factor, walked.
-/
import Derived.Test.YthlnbomapfjphaaGma
import Derived.Test.YthlnbomapfjphaaGro
import Derived.Test.YthlnbomapfjphaaChecked
import Derived.Laws.OwnMore
namespace Go.Proofs.Ythlnbomapfjphaa
open Go.RowKit
open Eu

set_option maxHeartbeats 400000 in
theorem rest_any (n m : Int) (w : World) (hm : 0 < m) (hm' : m ≤ 4611686018427387904) :
    Calls Try.prog 59 #[.int .i64 n, .int .i64 m] w (fun e w' => e = .returned (.int .i64 (n % m)) ∧ w = w') := by
  have h3 := Int.tmod_lt_of_pos n hm
  have h4 := Int.lt_tmod_of_pos n hm
  by_cases h : n.tmod m < 0
  · have e1 : n.tmod m + m = n % m := by
      have := tmod_mod n m
      rw [Int.emod_eq_of_lt (by omega) (by omega)] at this
      exact this
    have H := Lib.hid e1
    clear e1
    go_enter Try.func59, Try.ntmps59
    go_wp2
    go_ret
    exact ⟨by simp [H.out], rfl⟩
  · have e1 : n.tmod m = n % m := by
      have := tmod_mod' n m
      rw [Int.emod_eq_of_lt (by omega) (by omega)] at this
      exact this
    have H := Lib.hid e1
    clear e1
    go_enter Try.func59, Try.ntmps59
    go_wp2
    go_ret
    exact ⟨by simp [H.out], rfl⟩


set_option maxHeartbeats 400000 in
theorem within_any (n m : Int) (w : World) (hm : 0 < m) (hm' : m ≤ 4611686018427387904) :
    Calls Try.prog 24 #[.int .i64 n, .int .i64 m] w (fun e w' => e = .returned (.int .i64 (n % m)) ∧ w = w') := by
  have h1 := Int.emod_nonneg n (b := m) (by omega)
  have h2 := Int.emod_lt_of_pos n hm
  go_enter Try.func24, Try.ntmps24
  go_wp2_with (
    (go_at_call 59; refine (rest_any _ _ _ (by omega) (by omega)).mono ?_; rintro e w' ⟨rfl, rfl⟩))
  go_ret
  exact ⟨rfl, rfl⟩


end Go.Proofs.Ythlnbomapfjphaa

namespace Go.Proofs.Ythlnbomapfjphaa
open Go.RowKit
open Pr

theorem sq_le {d : Int} (h : 1001 ≤ d) : 1002001 ≤ d * d := by
  have h1 : 1001 * d ≤ d * d := Int.mul_le_mul_of_nonneg_right h (by omega)
  omega

theorem tmod_dvd {n d : Int} (h : n.tmod d = 0) : d ∣ n := Int.dvd_of_tmod_eq_zero h
theorem emod_dvd {n d : Int} (h : n % d = 0) : d ∣ n := Int.dvd_of_emod_eq_zero h

set_option maxHeartbeats 400000 in
theorem smallest_ok (n q : Int) (w : World) (h1 : 2 ≤ n) (h2 : n ≤ 1000000) (hq : IsMf n q) :
    Calls Try.prog 108 #[.int .i64 n] w (Says (.int .i64 q) w) := by
  have HQ := Lib.hid hq
  clear hq
  go_enter Try.func108, Try.ntmps108
  go_wp2
  go_loopg [3] 1000 (fun k v3 wr => ∃ d : Int, 2 ≤ d ∧ d ≤ 1001 ∧ Hid (∀ e : Int, 2 ≤ e → e < d → ¬ e ∣ n) ∧ v3 = .int .i64 d ∧ Hid (k = (1002 - d).toNat) ∧ Ex w wr)
  case atStart => exact ⟨2, by omega, by omega, Lib.hid (fun e h3 h4 => by omega), rfl, Lib.hid (by omega), Ex.refl _⟩
  case round =>
    obtain ⟨d, hd2, hd3, hno, rfl, hk, hw⟩ := hrel
    have hb1 := Eu.mul_le (a := d) (b := d) (A := 1001) (B := 1001) (by omega) (by omega) (by omega) (by omega)
    have hb2 : d * d ≤ 1002001 := by omega
    have hb3 := hb1.1
    clear hb1
    by_cases hs : d * d ≤ n
    · have hd4 : d ≤ 1000 := by
        refine Decidable.byContradiction fun hc => ?_
        have := sq_le (d := d) (by omega)
        omega
      by_cases hm : n % d = 0
      · have e : q = d := hit_mf hd2 HQ.out hno.out (emod_dvd hm)
        subst e
        go_wp2
        go_ret
        exact ⟨rfl, hw⟩
      · go_wp2
        go_roundg (1002 - (d + 1)).toNat
        case measure => have := hk.out; omega
        case rel => exact ⟨d + 1, by omega, by omega, Lib.hid (fun e h3 h4 => by
          rcases Int.lt_or_le e d with h5 | h5
          · exact hno.out e h3 h5
          · obtain rfl : e = d := by omega
            intro h6
            exact hm (Int.emod_eq_zero_of_dvd h6)), rfl, Lib.hid rfl, hw⟩
    · have e : q = n := sq_mf h1 hd2 HQ.out hno.out (by omega)
      have HE := Lib.hid e
      clear e
      go_wp2
      go_ret
      exact ⟨by simp [HE.out], hw⟩

set_option maxHeartbeats 400000 in
theorem isPrime_ok (n : Int) (w : World) (h2 : n ≤ 1000000) :
    Calls Try.prog 134 #[.int .i64 n] w (Says (.bool (pb n)) w) := by
  by_cases h1 : 2 ≤ n
  · obtain ⟨q, hq⟩ := mf_some h1
    have HP := Lib.hid (pb_mf h1 hq)
    have HQ := Lib.hid hq
    clear hq
    go_enter Try.func134, Try.ntmps134
    go_wp2_with (
      (go_at_call 108; refine (smallest_ok _ q _ (by omega) (by omega) HQ.out).mono ?_; rintro e w2 ⟨rfl, hw2⟩))
    go_ret
    exact ⟨by simp [← HP.out], hw2⟩
  · have HP := Lib.hid (pb_small (n := n) (by omega))
    go_enter Try.func134, Try.ntmps134
    go_wp2
    go_ret
    exact ⟨by simp [HP.out], Ex.refl _⟩

set_option maxHeartbeats 400000 in
theorem is_ok (n : Int) (w : World) (h1 : 0 ≤ n) (h2 : n ≤ 1000000) :
    Calls Try.prog 129 #[.int .i64 n] w (Says (.tuple #[.bool (pb n), .int .i64 0]) w) := by
  go_enter Try.func129, Try.ntmps129
  go_wp2_with (
    (go_at_call 134; refine (isPrime_ok _ _ (by omega)).mono ?_; rintro e w2 ⟨rfl, hw2⟩))
  go_ret2
  exact ⟨rfl, hw2⟩

set_option maxHeartbeats 400000 in
theorem is_no (n : Int) (w : World) (h : n < 0 ∨ 1000000 < n) :
    Calls Try.prog 129 #[.int .i64 n] w (Says (.tuple #[.bool false, .int .i64 1]) w) := by
  rcases h with h | h
  all_goals
    go_enter Try.func129, Try.ntmps129
    go_wp2
    go_ret2
    exact ⟨rfl, Ex.refl _⟩




set_option maxHeartbeats 1000000 in
theorem refPrime_ok (n : Int) (w : World) (h2 : n ≤ 1000000) :
    Calls Try.prog 37 #[.int .i64 n] w (Says (.bool (pb n)) w) := by
  by_cases h4 : n < 4
  · by_cases e2 : n = 2
    · subst e2
      have HP := Lib.hid ((pb_iff 2).mpr prm_two)
      go_enter Try.func37, Try.ntmps37
      go_wp2
      go_ret
      exact ⟨by simp [HP.out], Ex.refl _⟩
    · by_cases e3 : n = 3
      · subst e3
        have HP := Lib.hid ((pb_iff 3).mpr prm_three)
        go_enter Try.func37, Try.ntmps37
        go_wp2
        go_ret
        exact ⟨by simp [HP.out], Ex.refl _⟩
      · have HP := Lib.hid (pb_small (n := n) (by omega))
        go_enter Try.func37, Try.ntmps37
        go_wp2
        go_ret
        exact ⟨by simp [HP.out, e2, e3], Ex.refl _⟩
  · by_cases m2 : n % 2 = 0
    · have HP := Lib.hid (pb_no (not_prm (n := n) (d := 2) (by omega) (by omega) (by omega)))
      go_enter Try.func37, Try.ntmps37
      go_wp2
      go_ret
      exact ⟨by simp [HP.out], Ex.refl _⟩
    · by_cases m3 : n % 3 = 0
      · have HP := Lib.hid (pb_no (not_prm (n := n) (d := 3) (by omega) (by omega) (by omega)))
        go_enter Try.func37, Try.ntmps37
        go_wp2
        go_ret
        exact ⟨by simp [HP.out], Ex.refl _⟩
      · have hg2 : (n % 2 == 0) = false := beq_eq_false_iff_ne.mpr m2
        have hg3 : (n % 3 == 0) = false := beq_eq_false_iff_ne.mpr m3
        go_enter Try.func37, Try.ntmps37
        go_wp2
        go_loopg [3] 1005 (fun k v3 wr => ∃ d : Int, 5 ≤ d ∧ d ≤ 1007 ∧ Hid (d % 6 = 5) ∧ Hid (∀ e : Int, 2 ≤ e → e < d → ¬ e ∣ n) ∧ v3 = .int .i64 d ∧ Hid (k = (1010 - d).toNat) ∧ Ex w wr)
        case atStart => exact ⟨5, by omega, by omega, Lib.hid rfl, Lib.hid (fun e h3 h4 h5 => by
          obtain h | h | h : e = 2 ∨ e = 3 ∨ e = 4 := by omega
          all_goals subst h; omega), rfl, Lib.hid (by omega), Ex.refl _⟩
        case round =>
          obtain ⟨d, hd2, hd3, h6, hno, rfl, hk, hw⟩ := hrel
          have hb1 := Eu.mul_le (a := d) (b := d) (A := 1007) (B := 1007) (by omega) (by omega) (by omega) (by omega)
          have hb2 : d * d ≤ 1014049 := by omega
          have hb3 := hb1.1
          clear hb1
          by_cases hs : d * d ≤ n
          · have hd4 : d ≤ 1000 := by
              refine Decidable.byContradiction fun hc => ?_
              have := sq_le (d := d) (by omega)
              omega
            have hd5 : 5 * d ≤ d * d := Int.mul_le_mul_of_nonneg_right hd2 (by omega)
            by_cases hm : n % d = 0
            · have HP := Lib.hid (pb_no (not_prm (n := n) (d := d) (by omega) (by omega) (emod_dvd hm)))
              clear hd5
              go_wp2
              go_ret
              exact ⟨by simp [HP.out], hw⟩
            · by_cases hm2 : n % (d + 2) = 0
              · have HP := Lib.hid (pb_no (not_prm (n := n) (d := d + 2) (by omega) (by omega) (emod_dvd hm2)))
                clear hd5
                go_wp2
                go_ret
                exact ⟨by simp [HP.out], hw⟩
              · have hg4 : (n % d == 0) = false := beq_eq_false_iff_ne.mpr hm
                have hg5 : (n % (d + 2) == 0) = false := beq_eq_false_iff_ne.mpr hm2
                have HN := Lib.hid (step6 (n := n) (d := d) (by omega) (by omega) h6.out hno.out (fun h => hm (Int.emod_eq_zero_of_dvd h)) (fun h => hm2 (Int.emod_eq_zero_of_dvd h)))
                clear hd5
                go_wp2
                go_roundg (1010 - (d + 6)).toNat
                case measure => have := hk.out; omega
                case rel => exact ⟨d + 6, by omega, by omega, Lib.hid (by have := h6.out; omega), HN, rfl, Lib.hid rfl, hw⟩
          · have HP := Lib.hid ((pb_iff n).mpr (prm_sq (n := n) (d := d) (by omega) (by omega) hno.out (by omega)))
            go_wp2
            go_ret
            exact ⟨by simp [HP.out], hw⟩


end Go.Proofs.Ythlnbomapfjphaa

namespace Go.Proofs.Ythlnbomapfjphaa
open Go.RowKit
open Eu

set_option maxHeartbeats 400000 in
theorem inRange_yes (a : Int) (w : World) (h0 : -1000000000 ≤ a) (h1 : a ≤ 1000000000) :
    Calls Try.prog 69 #[.int .i64 a] w fun e w' => e = .returned (.bool true) ∧ w = w' := by
  go_enter Try.func69, Try.ntmps69
  go_wp2
  go_ret
  exact ⟨rfl, rfl⟩

set_option maxHeartbeats 400000 in
theorem inRange_no (a : Int) (w : World) (h : a < -1000000000 ∨ 1000000000 < a) :
    Calls Try.prog 69 #[.int .i64 a] w fun e w' => e = .returned (.bool false) ∧ w = w' := by
  rcases h with h | h
  · go_enter Try.func69, Try.ntmps69
    go_wp2
    go_ret
    exact ⟨rfl, rfl⟩
  · have h2 : -1000000000 ≤ a := by omega
    go_enter Try.func69, Try.ntmps69
    go_wp2
    go_ret
    exact ⟨by simp; omega, rfl⟩

set_option maxHeartbeats 400000 in
theorem abs_any (a : Int) (w : World) (h0 : -1000000000 ≤ a) (h1 : a ≤ 1000000000) :
    Calls Try.prog 70 #[.int .i64 a] w fun e w' => e = .returned (.int .i64 (a.natAbs : Int)) ∧ w = w' := by
  by_cases h : a < 0
  · go_enter Try.func70, Try.ntmps70
    go_wp2
    go_ret
    have e : -a = (a.natAbs : Int) := by omega
    exact ⟨by simp [e], rfl⟩
  · go_enter Try.func70, Try.ntmps70
    go_wp2
    go_ret
    have e : a = (a.natAbs : Int) := by omega
    exact ⟨by simp [← e], rfl⟩

set_option maxHeartbeats 400000 in
theorem gcd_ok (a b : Int) (w : World) (ha : -1000000000 ≤ a) (ha' : a ≤ 1000000000) (hb : -1000000000 ≤ b) (hb' : b ≤ 1000000000) :
    Calls Try.prog 31 #[.int .i64 a, .int .i64 b] w (Says (.tuple #[.int .i64 (G a b), .int .i64 0]) w) := by
  go_enter Try.func31, Try.ntmps31
  go_wp2_with (first
    | (go_at_call 69; refine (inRange_yes _ _ (by omega) (by omega)).mono ?_; rintro e w' ⟨rfl, rfl⟩)
    | (go_at_call 70; refine (abs_any _ _ (by omega) (by omega)).mono ?_; rintro e w' ⟨rfl, rfl⟩))
  go_loopg [0, 1] (b.natAbs) (fun k v0 v1 wr => ∃ (x y : Int), 0 ≤ x ∧ x ≤ 1000000000 ∧ 0 ≤ y ∧ y ≤ 1000000000 ∧ Hid (G x y = G a b) ∧ v0 = .int .i64 x ∧ v1 = .int .i64 y ∧ Hid (k = y.toNat) ∧ Ex w wr)
  case atStart => exact ⟨_, _, by omega, by omega, by omega, by omega, Lib.hid (G_natAbs a b), rfl, rfl, Lib.hid (by simp), Ex.refl _⟩
  case round =>
    obtain ⟨x, y, hx0, hx1, hy0, hy1, hG, rfl, rfl, hk, hw⟩ := hrel
    by_cases hy : y = 0
    · subst hy
      go_wp2
      go_ret2
      have := hG.out
      rw [G_zero x hx0] at this
      exact ⟨by simp [this], hw⟩
    · go_wp2
      refine wp_region_wo (by kernel_rfl) (by kernel_rfl) ?_
      repeat (go_big_quiet_step (fail))
      refine wpQuiet_nil ?_
      rintro _ ⟨⟨w2, hw2⟩, rfl⟩
      go_wp2
      have h1 := Int.emod_nonneg x hy
      have h2 := Int.emod_lt_of_pos x (b := y) (by omega)
      have hk := hk.out
      go_roundg (x % y).toNat
      case measure => omega
      case rel => exact ⟨y, x % y, hy0, hy1, h1, by omega, Lib.hid (by rw [G_step]; exact hG.out), rfl, rfl, Lib.hid rfl, hw.trans hw2⟩

/-- In the range of the package. -/
def Fit (a : Int) : Prop := -1000000000 ≤ a ∧ a ≤ 1000000000

set_option maxHeartbeats 400000 in
theorem gcd_no (a b : Int) (w : World) (h : ¬ (Fit a ∧ Fit b)) :
    Calls Try.prog 31 #[.int .i64 a, .int .i64 b] w (Says (.tuple #[.int .i64 0, .int .i64 1]) w) := by
  by_cases ha : Fit a
  · have hb : b < -1000000000 ∨ 1000000000 < b := by unfold Fit at *; omega
    clear h
    unfold Fit at ha
    obtain ⟨ha, ha'⟩ := ha
    go_enter Try.func31, Try.ntmps31
    go_wp2_with (first
      | (go_at_call 69; refine (inRange_yes _ _ (by omega) (by omega)).mono ?_; rintro e w' ⟨rfl, rfl⟩)
      | (go_at_call 69; refine (inRange_no _ _ (by omega)).mono ?_; rintro e w' ⟨rfl, rfl⟩))
    go_ret2
    exact .same
  · have ha : a < -1000000000 ∨ 1000000000 < a := by unfold Fit at *; omega
    clear h
    go_enter Try.func31, Try.ntmps31
    go_wp2_with (
      (go_at_call 69; refine (inRange_no _ _ (by omega)).mono ?_; rintro e w' ⟨rfl, rfl⟩))
    go_ret2
    exact .same

set_option maxHeartbeats 400000 in
theorem steps_no (a b : Int) (w : World) (h : a < 0 ∨ b < 0 ∨ 1000000000 < a ∨ 1000000000 < b) :
    Calls Try.prog 46 #[.int .i64 a, .int .i64 b] w (Says (.tuple #[.int .i64 0, .int .i64 1]) w) := by
  by_cases h1 : a < 0
  · go_enter Try.func46, Try.ntmps46
    go_wp2
    go_ret2
    exact .same
  · by_cases h2 : b < 0
    · go_enter Try.func46, Try.ntmps46
      go_wp2
      go_ret2
      exact .same
    · by_cases h3 : 1000000000 < a
      · clear h
        go_enter Try.func46, Try.ntmps46
        go_wp2_with (
          (go_at_call 69; refine (inRange_no _ _ (by omega)).mono ?_; rintro e w' ⟨rfl, rfl⟩))
        go_ret2
        exact .same
      · have h4 : 1000000000 < b := by omega
        clear h
        go_enter Try.func46, Try.ntmps46
        go_wp2_with (first
          | (go_at_call 69; refine (inRange_yes _ _ (by omega) (by omega)).mono ?_; rintro e w' ⟨rfl, rfl⟩)
          | (go_at_call 69; refine (inRange_no _ _ (by omega)).mono ?_; rintro e w' ⟨rfl, rfl⟩))
        go_ret2
        exact .same

set_option maxHeartbeats 400000 in
theorem steps_ok (a b : Int) (w : World) (ha : 0 ≤ a) (ha' : a ≤ 1000000000) (hb : 0 ≤ b) (hb' : b ≤ 1000000000) :
    Calls Try.prog 46 #[.int .i64 a, .int .i64 b] w (Says (.tuple #[.int .i64 (St a.toNat b.toNat : Nat), .int .i64 0]) w) := by
  have hle := St_le a.toNat b.toNat
  go_enter Try.func46, Try.ntmps46
  go_wp2_with (
    (go_at_call 69; refine (inRange_yes _ _ (by omega) (by omega)).mono ?_; rintro e w' ⟨rfl, rfl⟩))
  go_loopg [0, 1, 6] (b.toNat) (fun k v0 v1 v6 wr => ∃ (x y c : Int), 0 ≤ x ∧ x ≤ 1000000000 ∧ 0 ≤ y ∧ y ≤ 1000000000 ∧ 0 ≤ c ∧ c ≤ 1000000000 ∧ Hid (c + (St x.toNat y.toNat : Nat) = (St a.toNat b.toNat : Nat)) ∧ v0 = .int .i64 x ∧ v1 = .int .i64 y ∧ v6 = .int .i64 c ∧ Hid (k = y.toNat) ∧ Ex w wr)
  case atStart => exact ⟨_, _, _, by omega, by omega, by omega, by omega, by omega, by omega, Lib.hid (by simp), rfl, rfl, rfl, Lib.hid rfl, Ex.refl _⟩
  case round =>
    obtain ⟨x, y, c, hx0, hx1, hy0, hy1, hc0, hc1, hS, rfl, rfl, rfl, hk, hw⟩ := hrel
    have HL : Hid (St a.toNat b.toNat ≤ b.toNat) := hle
    clear hle
    by_cases hy : y = 0
    · subst hy
      go_wp2
      go_ret2
      have := hS.out
      simp [St_zero] at this
      exact ⟨by simp [this], hw⟩
    · go_wp2
      refine wp_region_wo (by kernel_rfl) (by kernel_rfl) ?_
      repeat (go_big_quiet_step (fail))
      refine wpQuiet_nil ?_
      rintro _ ⟨⟨w2, hw2⟩, rfl⟩
      go_wp2
      have h1 := Int.emod_nonneg x hy
      have h2 := Int.emod_lt_of_pos x (b := y) (by omega)
      have hk := hk.out
      have hS := hS.out
      have hL := HL.out
      have e3 : (x % y).toNat = x.toNat % y.toNat := by
        have : ((x.toNat % y.toNat : Nat) : Int) = x % y := by rw [Int.natCast_emod]; congr 1 <;> omega
        omega
      rw [St_step _ _ (by omega), ← e3] at hS
      go_roundg (x % y).toNat
      case measure => omega
      case rel => exact ⟨y, x % y, c + 1, hy0, hy1, h1, by omega, by omega, by omega, Lib.hid (by omega), rfl, rfl, rfl, Lib.hid rfl, hw.trans hw2⟩

set_option maxHeartbeats 400000 in
theorem efactor_ok (a m : Int) (w : World) (ha : 0 ≤ a) (ha' : a ≤ m) (hm : 0 < m) (hm' : m ≤ 1000000000) :
    Calls Try.prog 111 #[.int .i64 a, .int .i64 m] w (fun e w' => ∃ x : Int, (∃ k, G a m = x * a + k * m) ∧ -m ≤ x ∧ x ≤ m ∧ Says (.int .i64 x) w e w') := by
  go_enter Try.func111, Try.ntmps111
  go_wp2_with (fail)
  go_loopg [5, 6, 7, 8] (a.toNat) (fun k v5 v6 v7 v8 wr => ∃ (r s x y : Int), FInv m a r s x y ∧ v5 = .int .i64 r ∧ v6 = .int .i64 s ∧ v7 = .int .i64 x ∧ v8 = .int .i64 y ∧ Hid (k = s.toNat) ∧ Ex w wr)
  case atStart => exact ⟨_, _, _, _, .start ha ha' hm, rfl, rfl, rfl, rfl, Lib.hid rfl, Ex.refl _⟩
  case round =>
    obtain ⟨r, s, x, y, hI, rfl, rfl, rfl, rfl, hk, hw⟩ := hrel
    have hr0 := hI.r0
    have hrm := hI.rm
    have hs0 := hI.s0
    by_cases hs : s = 0
    · subst hs
      go_wp2
      go_ret
      have hg := hI.g
      rw [G_zero _ (by omega)] at hg
      obtain ⟨k, e1⟩ := hI.e1
      exact ⟨x, ⟨k, by omega⟩, hI.bx.1, hI.bx.2, rfl, hw⟩
    · obtain ⟨hI2, q0, q1, q2, q3, q4, q5⟩ := hI.round (by omega)
      have hd := Int.emod_lt_of_pos r (b := s) (by omega)
      have hd2 : r - r / s * s = r % s := by rw [Int.emod_def, Int.mul_comm]
      have H : Hid (FInv m a s (r - r / s * s) y (x - r / s * y) ∧ r - r / s * s = r % s) := ⟨hI2, hd2⟩
      have HI : Hid (FInv m a r s x y) := hI
      clear hI hI2 hd2
      go_wp2
      have hI2 := H.out.1
      have hd2 := H.out.2
      have hk := hk.out
      have b1 := hI2.bY
      go_roundg (r - r / s * s).toNat
      case measure => omega
      case rel => exact ⟨_, _, _, _, hI2, rfl, int_eq (by go_unwrap), rfl, int_eq (by go_unwrap), Lib.hid rfl, hw⟩

set_option maxHeartbeats 400000 in
theorem mod_any (n m : Int) (w : World) (hn : -1000000000 ≤ n) (hn' : n ≤ 1000000000) (hm : 0 < m) (hm' : m ≤ 1000000000) :
    Calls Try.prog 110 #[.int .i64 n, .int .i64 m] w (fun e w' => e = .returned (.int .i64 (n % m)) ∧ w = w') := by
  have h1 := Int.emod_nonneg n (b := m) (by omega)
  have h2 := Int.emod_lt_of_pos n hm
  by_cases h : n < 0
  · have h3 := Int.tmod_lt_of_pos n hm
    have h4 := Int.lt_tmod_of_pos n hm
    go_enter Try.func110, Try.ntmps110
    go_wp2
    go_ret
    exact ⟨by simp [tmod_mod'], rfl⟩
  · go_enter Try.func110, Try.ntmps110
    go_wp2
    go_ret
    exact ⟨rfl, rfl⟩

set_option maxHeartbeats 400000 in
theorem sign_any (n : Int) (w : World) :
    Calls Try.prog 109 #[.int .i64 n] w (fun e w' => e = .returned (.int .i64 n.sign) ∧ w = w') := by
  rcases Int.lt_trichotomy n 0 with h | h | h
  · rw [Int.sign_eq_neg_one_of_neg h]
    go_enter Try.func109, Try.ntmps109
    go_wp2
    go_ret
    exact ⟨rfl, rfl⟩
  · subst h
    go_enter Try.func109, Try.ntmps109
    go_wp2
    go_ret
    exact ⟨rfl, rfl⟩
  · rw [Int.sign_eq_one_of_pos h]
    go_enter Try.func109, Try.ntmps109
    go_wp2
    go_ret
    exact ⟨rfl, rfl⟩

set_option maxHeartbeats 400000 in
theorem bezout_no (a b : Int) (w : World) (h : ¬ (Fit a ∧ Fit b)) :
    Calls Try.prog 73 #[.int .i64 a, .int .i64 b] w (Says (.tuple #[.int .i64 0, .int .i64 0, .int .i64 0, .int .i64 1]) w) := by
  go_enter Try.func73, Try.ntmps73
  go_wp2_with (
    (go_at_call 31; refine (gcd_no _ _ _ h).mono ?_; rintro e w2 ⟨rfl, hw2⟩))
  go_returns
  exact ⟨rfl, hw2⟩

set_option maxHeartbeats 400000 in
theorem bezout_nil (a : Int) (w : World) (ha : -1000000000 ≤ a) (ha' : a ≤ 1000000000) :
    Calls Try.prog 73 #[.int .i64 a, .int .i64 0] w (Says (.tuple #[.int .i64 a.sign, .int .i64 0, .int .i64 (G a 0), .int .i64 0]) w) := by
  go_enter Try.func73, Try.ntmps73
  go_wp2_with (first
    | (go_at_call 31; refine (gcd_ok _ _ _ (by omega) (by omega) (by omega) (by omega)).mono ?_; rintro e w2 ⟨rfl, hw2⟩)
    | (go_at_call 109; refine (sign_any _ _).mono ?_; rintro e w' ⟨rfl, rfl⟩))
  go_returns
  exact ⟨rfl, hw2⟩

/-- What Bezout says where b is not 0. -/
def BezoutSays (a b : Int) (w : World) (e : Ending) (w2 : World) : Prop :=
  ∃ x y : Int, 0 ≤ x ∧ x < (b.natAbs : Int) / G a b ∧ x * a + y * b = G a b ∧ Says (.tuple #[.int .i64 x, .int .i64 y, .int .i64 (G a b), .int .i64 0]) w e w2

set_option maxHeartbeats 400000 in
theorem bezout_ok (a b : Int) (w : World) (ha : -1000000000 ≤ a) (ha' : a ≤ 1000000000) (hb : -1000000000 ≤ b) (hb' : b ≤ 1000000000) (h0 : b ≠ 0) :
    Calls Try.prog 73 #[.int .i64 a, .int .i64 b] w (BezoutSays a b w) := by
  have hg := G_pos (a := a) (.inr h0)
  have hl := G_le 1000000000 ha ha' hb hb'
  have hm1 := Int.emod_nonneg a (b := (b.natAbs : Int)) (by omega)
  have hm2 := Int.emod_lt_of_pos a (b := (b.natAbs : Int)) (by omega)
  have hgm : G a b ∣ (b.natAbs : Int) := Int.dvd_natAbs.mpr (G_dvd_right a b)
  have hgle := Int.le_of_dvd (by omega) hgm
  have hn0 : 0 < (b.natAbs : Int) / G a b := Int.ediv_pos_of_pos_of_dvd (by omega) (by omega) hgm
  have hn1 : (b.natAbs : Int) / G a b ≤ (b.natAbs : Int) := Int.ediv_le_self _ (by omega)
  clear hgm
  go_enter Try.func73, Try.ntmps73
  go_wp2_with (first
    | (go_at_call 31; refine (gcd_ok _ _ _ (by omega) (by omega) (by omega) (by omega)).mono ?_; rintro e w2 ⟨rfl, hw2⟩)
    | (go_at_call 70; refine (abs_any _ _ (by omega) (by omega)).mono ?_; rintro e w' ⟨rfl, rfl⟩)
    | (go_at_call 111; refine (efactor_ok _ _ _ (by omega) (by omega) (by omega) (by omega)).mono ?_; rintro e w3 ⟨x0, hk, hx0, hx1, rfl, hw3⟩; have HK := Lib.hid hk; clear hk)
    | (go_at_call 110; refine (mod_any _ _ _ (by omega) (by omega) (by omega) (by omega)).mono ?_; rintro e w' ⟨rfl, rfl⟩))
  obtain ⟨y, hy⟩ := bezout_dvd h0 HK.out
  have HY := Lib.hid hy
  have hx2 := Int.emod_nonneg x0 (b := (b.natAbs : Int) / G a b) (by omega)
  have hx3 := Int.emod_lt_of_pos x0 hn0
  have hxa := abs_mul_le (B := 1000000000) (C := 1000000000) (a := x0 % ((b.natAbs : Int) / G a b)) (b := a) (by omega) (by omega) (by omega) (by omega)
  clear HK hy
  refine wp_region_wo (by kernel_rfl) (by kernel_rfl) ?_
  repeat (go_big_quiet_step (fail))
  refine wpQuiet_nil ?_
  rintro _ ⟨⟨w4, hw4⟩, rfl⟩
  go_wp2
  go_returns
  have hy := HY.out
  have hb2 := abs_le_mul (y := y) h0
  have e1 : wrap64 ((G a b - x0 % ((b.natAbs : Int) / G a b) * a).tdiv b) = y := by
    rw [hy, Int.mul_tdiv_cancel_left _ h0]
    exact IntWalk.wrap64_in _ (by omega)
  refine ⟨_, y, hx2, hx3, ?_, ?_, (hw2.trans hw3).trans hw4⟩
  · rw [Int.mul_comm y b]; omega
  · rw [e1]

end Go.Proofs.Ythlnbomapfjphaa

namespace Go.Proofs.Ythlnbomapfjphaa
open Go.RowKit
open Eu Rs

/-- A number to reckon by. -/
def Md (m : Int) : Prop := 1 ≤ m ∧ m ≤ 1000000

set_option maxHeartbeats 400000 in
theorem isMod_yes (m : Int) (w : World) (h1 : 1 ≤ m) (h2 : m ≤ 1000000) :
    Calls Try.prog 72 #[.int .i64 m] w fun e w' => e = .returned (.bool true) ∧ w = w' := by
  go_enter Try.func72, Try.ntmps72
  go_wp2
  go_ret
  exact ⟨rfl, rfl⟩

set_option maxHeartbeats 400000 in
theorem isMod_no (m : Int) (w : World) (h : m < 1 ∨ 1000000 < m) :
    Calls Try.prog 72 #[.int .i64 m] w fun e w' => e = .returned (.bool false) ∧ w = w' := by
  rcases h with h | h
  · go_enter Try.func72, Try.ntmps72
    go_wp2
    go_ret
    exact ⟨by first | rfl | (simp; done) | (simp; omega), rfl⟩
  · have h2 : 1 ≤ m := by omega
    go_enter Try.func72, Try.ntmps72
    go_wp2
    go_ret
    exact ⟨by first | rfl | (simp; done) | (simp; omega), rfl⟩

set_option maxHeartbeats 400000 in
theorem rmod_any (n m : Int) (w : World) (hm : 1 ≤ m) (hm' : m ≤ 1000000) :
    Calls Try.prog 74 #[.int .i64 n, .int .i64 m] w (fun e w' => e = .returned (.int .i64 (n % m)) ∧ w = w') := by
  have h1 := Int.emod_nonneg n (b := m) (by omega)
  have h2 := Int.emod_lt_of_pos n (b := m) (by omega)
  by_cases h : n < 0
  · have h3 := Int.tmod_lt_of_pos n (b := m) (by omega)
    have h4 := Int.lt_tmod_of_pos n (b := m) (by omega)
    go_enter Try.func74, Try.ntmps74
    go_wp2
    go_ret
    exact ⟨by simp [tmod_mod'], rfl⟩
  · go_enter Try.func74, Try.ntmps74
    go_wp2
    go_ret
    exact ⟨rfl, rfl⟩

set_option maxHeartbeats 400000 in
theorem of_ok (a m : Int) (w : World) (h1 : 1 ≤ m) (h2 : m ≤ 1000000) :
    Calls Try.prog 86 #[.int .i64 a, .int .i64 m] w (Says (.tuple #[.int .i64 (a % m), .int .i64 0]) w) := by
  go_enter Try.func86, Try.ntmps86
  go_wp2_with (first
    | (go_at_call 72; refine (isMod_yes _ _ (by omega) (by omega)).mono ?_; rintro e w' ⟨rfl, rfl⟩)
    | (go_at_call 74; refine (rmod_any _ _ _ (by omega) (by omega)).mono ?_; rintro e w' ⟨rfl, rfl⟩))
  go_ret2
  exact .same

set_option maxHeartbeats 400000 in
theorem of_no (a m : Int) (w : World) (h : m < 1 ∨ 1000000 < m) :
    Calls Try.prog 86 #[.int .i64 a, .int .i64 m] w (Says (.tuple #[.int .i64 0, .int .i64 1]) w) := by
  go_enter Try.func86, Try.ntmps86
  go_wp2_with (
    (go_at_call 72; refine (isMod_no _ _ h).mono ?_; rintro e w' ⟨rfl, rfl⟩))
  go_ret2
  exact .same



/-- What Inverse says where there is one. -/
def InverseSays (a m : Int) (w : World) (e : Ending) (w2 : World) : Prop :=
  ∃ x : Int, 0 ≤ x ∧ x < m ∧ Hid (x * a % m = 1 % m) ∧ Says (.tuple #[.int .i64 x, .int .i64 0]) w e w2

set_option maxHeartbeats 400000 in
theorem inverse_ok (a m : Int) (w : World) (h1 : 1 ≤ m) (h2 : m ≤ 1000000) (hg : G a m = 1) :
    Calls Try.prog 34 #[.int .i64 a, .int .i64 m] w (InverseSays a m w) := by
  have b1 := Int.emod_nonneg a (b := m) (by omega)
  have b2 := Int.emod_lt_of_pos a (b := m) (by omega)
  have hg2 : G (a % m) m = 1 := by rw [G_mod, hg]
  have HG := Lib.hid hg2
  have HE : Hid ((m.natAbs : Int) / 1 = m) := Lib.hid (by omega)
  clear hg hg2
  go_enter Try.func34, Try.ntmps34
  go_wp2_with (first
    | (go_at_call 72; refine (isMod_yes _ _ (by omega) (by omega)).mono ?_; rintro e w' ⟨rfl, rfl⟩)
    | (go_at_call 74; refine (rmod_any _ _ _ (by omega) (by omega)).mono ?_; rintro e w' ⟨rfl, rfl⟩)
    | (go_at_call 73; refine (bezout_ok _ _ _ (by omega) (by omega) (by omega) (by omega) (by omega)).mono ?_; rintro e w2 ⟨x, y, hx0, hx1, hxy, rfl, hw2⟩; rw [HG.out] at hx1 hxy ⊢; rw [HE.out] at hx1; have HX := Lib.hid hxy; clear hxy))
  go_ret2
  exact ⟨x, hx0, hx1, Lib.hid (by rw [← mul_emod_right]; exact bezout_inv HX.out), rfl, hw2⟩

set_option maxHeartbeats 400000 in
theorem inverse_none (a m : Int) (w : World) (h1 : 1 ≤ m) (h2 : m ≤ 1000000) (hg : G a m ≠ 1) :
    Calls Try.prog 34 #[.int .i64 a, .int .i64 m] w (Says (.tuple #[.int .i64 0, .int .i64 4]) w) := by
  have b1 := Int.emod_nonneg a (b := m) (by omega)
  have b2 := Int.emod_lt_of_pos a (b := m) (by omega)
  have HG := Lib.hid (G_mod a m)
  have hg1 : (G a m == 1) = false := by simpa using hg
  have hg2 : (G a m != 1) = true := by simpa using hg
  clear hg
  go_enter Try.func34, Try.ntmps34
  go_wp2_with (first
    | (go_at_call 72; refine (isMod_yes _ _ (by omega) (by omega)).mono ?_; rintro e w' ⟨rfl, rfl⟩)
    | (go_at_call 74; refine (rmod_any _ _ _ (by omega) (by omega)).mono ?_; rintro e w' ⟨rfl, rfl⟩)
    | (go_at_call 73; refine (bezout_ok _ _ _ (by omega) (by omega) (by omega) (by omega) (by omega)).mono ?_; rintro e w2 ⟨x, y, hx0, hx1, hxy, rfl, hw2⟩; rw [HG.out] at hx1 hxy ⊢; have HX := Lib.hid hxy; clear hxy hx1))
  go_ret2
  exact ⟨rfl, hw2⟩

set_option maxHeartbeats 400000 in
theorem inverse_no (a m : Int) (w : World) (h : m < 1 ∨ 1000000 < m) :
    Calls Try.prog 34 #[.int .i64 a, .int .i64 m] w (Says (.tuple #[.int .i64 0, .int .i64 1]) w) := by
  go_enter Try.func34, Try.ntmps34
  go_wp2_with (
    (go_at_call 72; refine (isMod_no _ _ h).mono ?_; rintro e w' ⟨rfl, rfl⟩))
  go_ret2
  exact .same

end Go.Proofs.Ythlnbomapfjphaa

namespace Go.Proofs.Ythlnbomapfjphaa
open Go.RowKit
open Eu Rs Pr

end Go.Proofs.Ythlnbomapfjphaa

namespace Go.Proofs.Ythlnbomapfjphaa
open Go.RowKit
open Pr

/-- The cells of a list of powers. -/
def pcs (l : List (Int × Nat)) : List Value := l.flatMap fun x => [.int .i64 x.1, .int .i64 (x.2 : Nat)]

theorem owns_ex {w w2 : World} {base : Nat} {e : TypeId} {size : Nat} {v : Value} {n : Nat} {xs : List Value} (h : w.ownsRow base e size v n xs) (hx : Ex w w2) : w2.ownsRow base e size v n xs := by
  refine ⟨h.1, ?_⟩
  rcases h.2 with hn | ⟨g, cap, cur, rfl, hb, hgg, rest⟩
  · exact .inl hn
  · refine .inr ⟨g, cap, cur, rfl, hb, ?_, rest⟩
    rw [hx.block g (Array.getElem?_eq_some_iff.1 hgg).1]
    exact hgg

theorem cell_two0 {w : World} {b : Nat} {u v : Value} {t : TypeId} (h : w.heap[b]? = some (.cells #[u, v] t (0, 0))) : w.cell? ⟨b, 0, none⟩ = some u := by simp [World.cell?, h]
theorem cell_two1 {w : World} {b : Nat} {u v : Value} {t : TypeId} (h : w.heap[b]? = some (.cells #[u, v] t (0, 0))) : w.cell? ⟨b, 1, none⟩ = some v := by simp [World.cell?, h]
theorem free_two {w : World} {b : Nat} {u v : Value} {t : TypeId} (h : w.heap[b]? = some (.cells #[u, v] t (0, 0))) (i : Nat) : w.frozen? ⟨b, i, none⟩ = false := by simp [World.frozen?, h]
theorem two_set1 {w : World} {b : Nat} {u v x : Value} {t : TypeId} (h : w.heap[b]? = some (.cells #[u, v] t (0, 0))) : (w.setCell ⟨b, 1, none⟩ x).heap[b]? = some (.cells #[u, x] t (0, 0)) := by
  have hb := lt_of_block h
  unfold World.setCell
  simp only [Array.getElem?_modify, if_true, h]
  simp

theorem news_two (w : World) (u v : Value) (t : TypeId) : ∀ j x, [u, v][j]? = some x → (w.alloc (.cells #[u, v] t)).cell? ((⟨w.heap.size, 0, none⟩ : Addr).add j) = some x := by
  intro j x hj
  have hb : (w.alloc (.cells #[u, v] t)).heap[w.heap.size]? = some (.cells #[u, v] t (0, 0)) := heap_alloc_new _ _
  match j, hj with
  | 0, hj => simp at hj; subst hj; exact cell_two0 hb
  | 1, hj => simp at hj; subst hj; exact cell_two1 hb

theorem two_oneCell (k : IntKind) (a b : Int) : ∀ u ∈ [Value.int k a, Value.int k b], u.oneCell' = true := by
  intro u hu
  simp at hu
  rcases hu with rfl | rfl <;> rfl

theorem pcs_snoc (l : List (Int × Nat)) (q : Int) (j : Nat) : pcs (l ++ [(q, j)]) = pcs l ++ [.int .i64 q, .int .i64 (j : Nat)] := by simp [pcs]

/-- What an append leaves has grown out of what was before the call. -/
theorem ex_append {w a b : World} {v : Value} {e : TypeId} {size n : Nat} {xs : List Value} (h : Ex w a) (hown : a.ownsRow w.heap.size e size v n xs) (hg : a.grownBy b v.ownBlock) : Ex w b :=
  Below.grown h hg h.size fun k hk => (hown.lt k hk).1

theorem info_power : (Try.prog.info? 111).map (fun i => (i.zero, i.size, i.bytes)) = some (some (.agg #[.int .i64 0, .int .i64 0]), 2, 16) := by kernel_rfl

set_option maxRecDepth 100000 in
set_option maxHeartbeats 1000000 in
theorem factor_ok (n : Int) (w : World) (h1 : 1 ≤ n) (h2 : n ≤ 1000000) :
    Calls Try.prog 71 #[.int .i64 n] w (fun e w2 => ∃ v : Value, e = .returned (.tuple #[v, .int .i64 0]) ∧ ∃ l : List (Int × Nat), Fac n l ∧ l.length ≤ 1000000 ∧ w2.ownsRow w.heap.size 111 2 v l.length (pcs l) ∧ Ex w w2) := by
  go_enter Try.func71, Try.ntmps71
  go_wp2
  go_loopg [0, 4] n.toNat (fun k v0 v4 wr => ∃ (m : Int) (l : List (Int × Nat)), 1 ≤ m ∧ m ≤ 1000000 ∧ Hid ((l.length : Int) + m ≤ n) ∧ v0 = .int .i64 m ∧ Hid (FacS n l m) ∧ Hid (wr.ownsRow w.heap.size 111 2 v4 l.length (pcs l)) ∧ Hid (k = m.toNat) ∧ Ex w wr)
  case atStart => exact ⟨n, [], h1, h2, Lib.hid (by simp), rfl, Lib.hid (FacS.start n), Lib.hid (World.ownsRow_nil _ _ _ _), Lib.hid rfl, Ex.refl _⟩
  case round =>
    obtain ⟨m, l, m1, m2, hl, rfl, hF, hown, hk, hw⟩ := hrel
    by_cases hm : 1 < m
    · obtain ⟨q, hq⟩ := mf_some (n := m) (by omega)
      have HQ := Lib.hid hq
      clear hq
      go_wp2_with (
        (go_at_call 108; refine (smallest_ok _ q _ (by omega) (by omega) HQ.out).mono ?_; rintro e w2 ⟨rfl, hw2⟩))
      go_loopg [0] m.toNat (fun k2 v0 x => ∃ (c : Int) (j : Nat), 1 ≤ c ∧ c ≤ 1000000 ∧ (j : Int) ≤ 1000000 ∧ Hid ((j : Int) + c ≤ m) ∧ v0 = .int .i64 c ∧ Hid (m = q ^ j * c) ∧ Hid (k2 = c.toNat) ∧ Hid (x.heap[w2.heap.size]? = some (.cells #[.int .i64 q, .int .i64 j] 111 (0, 0))) ∧ Ex w2 x)
      case atStart => exact ⟨m, 0, by omega, by omega, by omega, Lib.hid (by omega), rfl, Lib.hid (by simp), Lib.hid rfl, Lib.hid (heap_alloc_new _ _), (Ex.refl _).alloc _⟩
      case round =>
        obtain ⟨c, j, c1, c2, c3, hc, rfl, hp, hk2, hb, hx⟩ := hrel
        have q2 := HQ.out.1
        have hc0 := cell_two0 hb.out
        have hc1 := cell_two1 hb.out
        have hf1 := free_two hb.out 1
        by_cases hd : c % q = 0
        · have HD := Lib.hid (divided q2 c1 hp.out (emod_dvd hd))
          have d1 := HD.out.2.1
          have d2 := HD.out.2.2
          have hc' := hc.out
          have c4 : (j : Int) + 1 ≤ 1000000 := by omega
          have hx2 := Lib.hid (hx.setCell (Nat.le_refl _) (p := ⟨w2.heap.size, 1, none⟩) (.int .i64 ((j : Int) + 1)))
          have hb2 := Lib.hid (two_set1 hb.out (x := .int .i64 ((j : Int) + 1)))
          clear hc'
          go_wp2
          go_roundg (c / q).toNat
          case measure => have := hk2.out; omega
          case rel => exact ⟨c / q, j + 1, d1, by omega, by omega, Lib.hid (by have := hc.out; omega), rfl, Lib.hid HD.out.1, Lib.hid rfl, Lib.hid (by simpa using hb2.out), hx2.out⟩
        · have HD : Hid (¬ q ∣ c) := fun h => hd (Int.emod_eq_zero_of_dvd h)
          have hj1 : 1 ≤ j := by
            refine Decidable.byContradiction fun h0 => HD.out ?_
            obtain rfl : j = 0 := by omega
            have h3 := hp.out
            simp at h3
            rw [← h3]; exact HQ.out.2.1
          have HOWN := Lib.hid (owns_ex (owns_ex (owns_ex hown.out hw2) hx) ((Ex.refl wr).alloc (.cells #[.int .i64 q, .int .i64 j] 111)))
          have HX := Lib.hid (((hw.trans hw2).trans hx).alloc (.cells #[.int .i64 q, .int .i64 j] 111))
          have HL : Hid (l.length + 1 ≤ 1000000) := by have := hl.out; have : l.length + 1 ≤ 1000000 := by omega
                                                       exact this
          obtain ⟨i0, hi, hz0, hz1, hz2⟩ := info_parts info_power
          have HI := Lib.hid hi
          have HZ0 := Lib.hid hz0
          have HZ1 := Lib.hid hz1
          have HZ2 := Lib.hid hz2
          clear hi hz0 hz1 hz2 hown
          go_wp2_with (
            (at_builtin; refine wpList_append_own _ rfl _ _ 107 rfl w.heap.size 111 i0 _ 2 16 Try.underlying107 HI.out HZ0.out HZ1.out HZ2.out rfl (by decide) _ _ _ rfl HOWN.out ⟨wr.heap.size, 0, none⟩ 1 1 [.int .i64 q, .int .i64 j] rfl rfl (news_two _ _ _ _) (two_oneCell _ _ _) (by have := HL.out; unfold maxLen; omega) (by have := HL.out; omega) HX.out.size ?_; intro v' w3 hown3 hgrow3 _))
          have HX3 := Lib.hid (ex_append HX.out HOWN.out hgrow3)
          clear hgrow3
          have HR := Lib.hid (hF.out.step HQ.out hj1 c1 hp.out HD.out)
          go_wp2
          go_roundg c.toNat
          case measure =>
            have h3 := hk.out
            have h4 := hc.out
            omega
          case rel => exact ⟨c, l ++ [(q, j)], c1, c2, Lib.hid (by have := hl.out; have := hc.out; simp; omega), rfl, HR, Lib.hid (by rw [pcs_snoc, List.length_append]; exact hown3), Lib.hid rfl, HX3.out⟩
    · have e : m = 1 := by omega
      subst e
      go_wp2
      go_ret2
      exact ⟨_, rfl, l, hF.out.all, by have := hl.out; omega, hown.out, hw⟩

set_option maxHeartbeats 400000 in
theorem factor_no (n : Int) (w : World) (h : n < 1 ∨ 1000000 < n) :
    Calls Try.prog 71 #[.int .i64 n] w (Says (.tuple #[.slice none 0 0, .int .i64 1]) w) := by
  rcases h with h | h
  all_goals
    go_enter Try.func71, Try.ntmps71
    go_wp2
    go_ret2
    exact ⟨rfl, Ex.refl _⟩

end Go.Proofs.Ythlnbomapfjphaa
