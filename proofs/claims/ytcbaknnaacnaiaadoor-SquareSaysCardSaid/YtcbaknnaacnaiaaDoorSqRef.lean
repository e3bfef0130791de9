/-
  The document's answers for Symbol and Root, walked.
-/
import Derived.Test.YtcbaknnaacnaiaaDoorSqRootW
import Derived.Test.YtcbaknnaacnaiaaDoorRsSays
namespace Go.Proofs.YtcbaknnaacnaiaaDoor
open Go.RowKit
open Eu Pr Rs Sq

set_option maxHeartbeats 1000000 in
theorem rootOf_any (a : Int) (p : Nat) (r : Int) (w : World) (h1 : 1 ≤ p) (hb : p ≤ 1000000) (hr : (r = -1 ∧ ¬ IsSq a p) ∨ IsRoot a p r) :
    Calls Tryd.prog 14 #[.int .i64 a, .int .i64 p] w (Says (.int .i64 r) w) := by
  have b1 := Int.emod_nonneg a (b := (p : Int)) (by omega)
  have b2 := Int.emod_lt_of_pos a (b := (p : Int)) (by omega)
  have HH : Hid (∀ x : Int, 0 ≤ x → x < p → (∀ y : Int, 0 ≤ y → y < x → ¬ (p : Int) ∣ y * y - a) → x * x % p = a % p → x = r) := Lib.hid fun x x0 x1 hl he => by
    have hd : (p : Int) ∣ x * x - a := dvd_same.mpr he
    rcases hr with ⟨_, hn⟩ | h
    · exact absurd ⟨x, hd⟩ hn
    · exact IsRoot.uniq ⟨x0, x1, hd, hl⟩ h
  have HE : Hid ((∀ y : Int, 0 ≤ y → y < p → ¬ (p : Int) ∣ y * y - a) → r = -1) := Lib.hid fun hl => by
    rcases hr with ⟨h, _⟩ | h
    · exact h
    · exact absurd h.2.2.1 (hl r h.1 h.2.1)
  have HMD : Hid (∀ w : World, Calls Tryd.prog 28 #[.int .i64 a, .int .i64 p] w (Says (.int .i64 (a % p)) w)) := Lib.hid fun w => says_same (refmod_any a p w (by omega) (by omega))
  clear hr
  go_enter Tryd.func14, Tryd.ntmps14
  go_wp2
  go_loopg [7] p (fun k v7 wr => ∃ x : Int, 0 ≤ x ∧ x ≤ p ∧ v7 = .int .i64 x ∧ Hid (∀ y : Int, 0 ≤ y → y < x → ¬ (p : Int) ∣ y * y - a) ∧ Hid (k = ((p : Int) - x).toNat) ∧ Ex w wr)
  case atStart => exact ⟨0, by omega, by omega, rfl, Lib.hid (fun y y0 y1 => by omega), Lib.hid (by omega), Ex.refl _⟩
  case round =>
    obtain ⟨x, x0, x1, rfl, hno, hk, hw⟩ := hrel
    by_cases hlt : x < p
    · have m := Eu.mul_le (a := x) (b := x) (A := 1000000) (B := 1000000) (by omega) (by omega) (by omega) (by omega)
      obtain ⟨m0, m1⟩ := m
      have gp : ((p : Int) == 0) = false := by simp; omega
      by_cases he : x * x % p = a % p
      · have hx := HH.out x x0 hlt hno.out he
        subst hx
        have g : (x * x % (p : Int) == a % (p : Int)) = true := by simp [he]
        clear he
        go_wp2
        refine wp_region_wo (by kernel_rfl) (by kernel_rfl) ?_
        repeat (go_big_quiet_step ((go_at_call 28; exact says_wo (HMD.out _))))
        refine wpQuiet_nil ?_
        rintro _ ⟨⟨w4, hw4⟩, rfl⟩
        go_wp2
        go_ret
        exact ⟨rfl, hw.trans hw4⟩
      · have g : (x * x % (p : Int) == a % (p : Int)) = false := by simpa using he
        have HN : Hid (∀ y : Int, 0 ≤ y → y < x + 1 → ¬ (p : Int) ∣ y * y - a) := Lib.hid fun y y0 y1 hd => by
          by_cases hy : y < x
          · exact hno.out y y0 hy hd
          · obtain rfl : y = x := by omega
            exact he (dvd_same.mp hd)
        clear he
        go_wp2
        refine wp_region_wo (by kernel_rfl) (by kernel_rfl) ?_
        repeat (go_big_quiet_step ((go_at_call 28; exact says_wo (HMD.out _))))
        refine wpQuiet_nil ?_
        rintro _ ⟨⟨w4, hw4⟩, rfl⟩
        go_wp2
        go_roundg ((p : Int) - (x + 1)).toNat
        case measure => have := hk.out; omega
        case rel => exact ⟨x + 1, by omega, by omega, rfl, HN, Lib.hid rfl, hw.trans hw4⟩
    · have e : x = p := by omega
      subst e
      have hx := HE.out hno.out
      subst hx
      go_wp2
      go_ret
      exact ⟨rfl, hw⟩

/-- What SymbolOf keeps, on its way. -/
theorem sym_prime {n p : Int} (hp : 2 ≤ p) (hno : ∀ e : Int, 2 ≤ e → e < p → ¬ e ∣ n) (hd : p ∣ n) : Prm p :=
  ⟨hp, fun d d0 d1 h => hno d d0 d1 (Int.dvd_trans h hd)⟩

theorem sym_step {a n p o T : Int} (hn : 1 ≤ n) (ho : n % 2 = 1) (hp : Prm p) (h3 : 3 ≤ p) (hd : n % p = 0) (hI : o * jac a n.toNat = T) :
    1 ≤ n / p ∧ n / p < n ∧ (n / p) % 2 = 1 ∧ o * leg a p.toNat * jac a (n / p).toNat = T := by
  have e : n = p * (n / p) := by rw [Int.mul_ediv_cancel' (Int.dvd_of_emod_eq_zero hd)]
  obtain ⟨m, hm⟩ : ∃ m, n / p = m := ⟨_, rfl⟩
  rw [hm] at e ⊢
  have hpo : p % 2 = 1 := by
    have := prm_odd (p := p.toNat) (by rwa [Int.toNat_of_nonneg (by omega)]) (by omega)
    omega
  have m0 : 1 ≤ m := by
    refine Decidable.byContradiction fun hc => ?_
    have : p * m ≤ p * 0 := Int.mul_le_mul_of_nonneg_left (by omega) (by omega)
    omega
  have m1 : m < n := by
    have : 3 * m ≤ p * m := Int.mul_le_mul_of_nonneg_right h3 (by omega)
    omega
  have mo : m % 2 = 1 := by
    rcases Int.emod_two_eq m with h | h
    · rw [e, Int.mul_emod, h] at ho; simp at ho
    · exact h
  refine ⟨m0, m1, mo, ?_⟩
  rw [← hI, e, show (p * m).toNat = p.toNat * m.toNat by rw [← Int.natCast_inj]; rw [Int.toNat_of_nonneg (by omega), Int.natCast_mul, Int.toNat_of_nonneg (by omega), Int.toNat_of_nonneg (by omega)],
    jac_low (by omega) (by omega), jac_prime (p := p.toNat) (by rwa [Int.toNat_of_nonneg (by omega)]) (by omega), Int.mul_assoc]

theorem sym_next {n p : Int} (ho : n % 2 = 1) (hpo : p % 2 = 1) (hno : ∀ e : Int, 2 ≤ e → e < p → ¬ e ∣ n) (hd : n % p ≠ 0) : ∀ e : Int, 2 ≤ e → e < p + 2 → ¬ e ∣ n := by
  intro e e0 e1 h
  by_cases h1 : e < p
  · exact hno e e0 h1 h
  · by_cases h2 : e = p
    · subst h2; exact hd (Int.emod_eq_zero_of_dvd h)
    · have : e = p + 1 := by omega
      subst this
      have : (2 : Int) ∣ n := Int.dvd_trans (by omega) h
      omega

theorem no_down {n p m : Int} (hno : ∀ e : Int, 2 ≤ e → e < p → ¬ e ∣ n) (h : m ∣ n) : ∀ e : Int, 2 ≤ e → e < p → ¬ e ∣ m := fun e e0 e1 hd => hno e e0 e1 (Int.dvd_trans hd h)

end Go.Proofs.YtcbaknnaacnaiaaDoor
