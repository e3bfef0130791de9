/-
  Package prime, walked: smallestFactor, isPrime, Is, Next; and the document's Prime by sixes.
-/
import Derived.Test.YtbomiohgdlcmdaaSmall
import Derived.Test.YtbomiohgdlcmdaaPrMath
namespace Go.Proofs.Ytbomiohgdlcmdaa
open Go.RowKit
open Pr

theorem sq_le {d : Int} (h : 1001 ≤ d) : 1002001 ≤ d * d := by
  have h1 : 1001 * d ≤ d * d := Int.mul_le_mul_of_nonneg_right h (by omega)
  omega

theorem tmod_dvd {n d : Int} (h : n.tmod d = 0) : d ∣ n := Int.dvd_of_tmod_eq_zero h
theorem emod_dvd {n d : Int} (h : n % d = 0) : d ∣ n := Int.dvd_of_emod_eq_zero h

set_option maxHeartbeats 400000 in
theorem smallest_ok (n q : Int) (w : World) (h1 : 2 ≤ n) (h2 : n ≤ 1000000) (hq : IsMf n q) :
    Calls Try.prog 39 #[.int .i64 n] w (Says (.int .i64 q) w) := by
  have HQ := Lib.hid hq
  clear hq
  go_enter Try.func39, Try.ntmps39
  go_wp2
  go_loopg [3] 1000 (fun k v3 wr => ∃ d : Int, 2 ≤ d ∧ d ≤ 1001 ∧ Hid (∀ e : Int, 2 ≤ e → e < d → ¬ e ∣ n) ∧ v3 = .int .i64 d ∧ Hid (k = (1002 - d).toNat) ∧ Ex w wr)
  case atStart => exact ⟨2, by omega, by omega, Lib.hid (fun e h3 h4 => by omega), rfl, Lib.hid (by omega), Ex.refl _⟩
  case round =>
    obtain ⟨d, hd2, hd3, hno, rfl, hk, hw⟩ := hrel
    have hb1 := Eu.mul_le (a := d) (b := d) (A := 1001) (B := 1001) (by omega) (by omega) (by omega) (by omega)
    have hb2 : d * d ≤ 1002001 := by omega
    have hb3 := hb1.1
    clear hb1
    by_cases hs : d * d ≤ n
    · have hd4 : d ≤ 1000 := by
        refine Decidable.byContradiction fun hc => ?_
        have := sq_le (d := d) (by omega)
        omega
      by_cases hm : n % d = 0
      · have e : q = d := hit_mf hd2 HQ.out hno.out (emod_dvd hm)
        subst e
        go_wp2
        go_ret
        exact ⟨rfl, hw⟩
      · go_wp2
        go_roundg (1002 - (d + 1)).toNat
        case measure => have := hk.out; omega
        case rel => exact ⟨d + 1, by omega, by omega, Lib.hid (fun e h3 h4 => by
          rcases Int.lt_or_le e d with h5 | h5
          · exact hno.out e h3 h5
          · obtain rfl : e = d := by omega
            intro h6
            exact hm (Int.emod_eq_zero_of_dvd h6)), rfl, Lib.hid rfl, hw⟩
    · have e : q = n := sq_mf h1 hd2 HQ.out hno.out (by omega)
      have HE := Lib.hid e
      clear e
      go_wp2
      go_ret
      exact ⟨by simp [HE.out], hw⟩






end Go.Proofs.Ytbomiohgdlcmdaa
