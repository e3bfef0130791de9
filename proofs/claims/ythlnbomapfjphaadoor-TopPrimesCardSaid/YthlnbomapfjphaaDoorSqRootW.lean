/-
  Package square, walked: Root; the statements' helpers squares, odd.
-/
import Derived.Test.YthlnbomapfjphaaDoorSqAny
import Derived.Test.YthlnbomapfjphaaDoorGnu
namespace Go.Proofs.YthlnbomapfjphaaDoor
open Go.RowKit
open Eu Pr Rs Sq

theorem root_no (a p : Int) (w : World) (h : p < 0 ∨ 1000000 < p ∨ ¬ Prm p) :
    Calls Tryd.prog 15 #[.int .i64 a, .int .i64 p] w (Says (.tuple #[.int .i64 0, .int .i64 1]) w) := by
  by_cases hr : p < 0 ∨ 1000000 < p
  · have HR := Lib.hid hr
    clear h hr
    go_enter Tryd.func15, Tryd.ntmps15
    go_wp2_with (go_at_call 6; (with_reducible refine (is_no p _ HR.out).mono ?_); rintro e w1 ⟨rfl, hw1⟩)
    go_ret2
    exact ⟨rfl, hw1⟩
  · have hpb : pb p = false := pb_no (by rcases h with h | h | h; omega; omega; exact h)
    have HI := Lib.hid (fun w => is_ok p w (by omega) (by omega))
    rw [hpb] at HI
    clear h hr hpb
    go_enter Tryd.func15, Tryd.ntmps15
    go_wp2_with (go_at_call 6; (with_reducible refine (HI.out _).mono ?_); rintro e w1 ⟨rfl, hw1⟩)
    go_ret2
    exact ⟨rfl, hw1⟩

set_option maxHeartbeats 1000000 in
theorem root_at2 (a r : Int) (w : World) (hr : IsRoot a 2 r) (h0 : ¬ a % 2 = 0) :
    Calls Tryd.prog 15 #[.int .i64 a, .int .i64 2] w (Says (.tuple #[.int .i64 r, .int .i64 0]) w) := by
  have HI := Lib.hid (fun w => is_ok 2 w (by omega) (by omega))
  rw [(pb_iff 2).mpr prm_two] at HI
  have HO := Lib.hid fun w => of_ok a 2 w (by omega) (by omega)
  have h1 : a % 2 = 1 := by omega
  obtain rfl := hr.uniq (root_two h1)
  rw [h1] at HO
  clear hr h0 h1
  go_enter Tryd.func15, Tryd.ntmps15
  go_wp2_with (first
    | (go_at_call 6; (with_reducible refine (HI.out _).mono ?_); rintro e w1 ⟨rfl, hw1⟩)
    | (go_at_call 12; (with_reducible refine (HO.out _).mono ?_); rintro e w2 ⟨rfl, hw2⟩))
  go_ret2
  exact ⟨rfl, (by repeat (first | assumption | exact Ex.refl _ | refine Ex.trans ?_ (by assumption)))⟩

set_option maxHeartbeats 1000000 in
theorem root_ok (a : Int) (p : Nat) (r : Int) (w : World) (hp : Prm (p : Int)) (hb : p ≤ 1000000) (hr : IsRoot a p r) (hT : Tab w) :
    Calls Tryd.prog 15 #[.int .i64 a, .int .i64 p] w (Says (.tuple #[.int .i64 r, .int .i64 0]) w) := by
  have hp2 := hp.1
  have hpb := (pb_iff p).mpr hp
  have HI := Lib.hid (fun w => is_ok p w (by omega) (by omega))
  rw [hpb] at HI
  have b1 := Int.emod_nonneg a (b := (p : Int)) (by omega)
  have b2 := Int.emod_lt_of_pos a (b := (p : Int)) (by omega)
  have HO := Lib.hid fun w => of_ok a p w (by omega) (by omega)
  by_cases h0 : a % p = 0
  · obtain rfl := hr.uniq (root_zero (by omega) h0)
    have g : (a % (p : Int) == 0) = true := by simp [h0]
    have H0 := Lib.hid h0
    clear hpb hT hr hp h0
    go_enter Tryd.func15, Tryd.ntmps15
    go_wp2_with (first
      | (go_at_call 6; (with_reducible refine (HI.out _).mono ?_); rintro e w1 ⟨rfl, hw1⟩)
      | (go_at_call 12; (with_reducible refine (HO.out _).mono ?_); rintro e w2 ⟨rfl, hw2⟩))
    go_ret2
    exact ⟨by simp [H0.out], (by repeat (first | assumption | exact Ex.refl _ | refine Ex.trans ?_ (by assumption)))⟩
  · by_cases h2 : p = 2
    · subst h2
      exact root_at2 a r w hr h0
    · obtain ⟨ho, h3⟩ := prm_odd hp h2
      have hnd : ¬ (p : Int) ∣ a := fun h => h0 (Int.emod_eq_zero_of_dvd h)
      have hda : (p : Int) ∣ a - a % p := dvd_same.mpr (Int.emod_emod _ _).symm
      have hsq : ∀ r : Int, (p : Int) ∣ r * r - a % p → (p : Int) ∣ r * r - a := fun r h => by
        have := Int.dvd_sub h hda
        rwa [show r * r - a % p - (a - a % p) = r * r - a by omega] at this
      have hl : leg (a % p) p = 1 := by
        rw [leg_one]
        refine ⟨fun h => h0 ?_, r, ?_⟩
        · have := Int.emod_eq_zero_of_dvd h; rwa [Int.emod_emod] at this
        · have := Int.dvd_add hr.2.2.1 hda
          rwa [show r * r - a + (a - a % p) = r * r - a % p by omega] at this
      have HJ := Lib.hid fun w => jacobi_any (a % p) p w b1 (by omega) (by omega) (by omega) (by omega)
      rw [Int.toNat_natCast, jac_prime hp h2, hl] at HJ
      have HA : Hid (∀ w2, Ex w w2 → Calls Tryd.prog 34 #[.int .i64 (a % p), .int .i64 p] w2 (fun e w3 => ∃ x : Int, 0 ≤ x ∧ x < p ∧ Hid (min x (p - x) = r) ∧ Says (.tuple #[.int .i64 x, .int .i64 0]) w2 e w3)) := Lib.hid fun w2 hx => by
        refine (anyRoot_any (a % p) p w2 hp h2 hb b1 b2 hl (hT.ex hx)).mono ?_
        rintro e w3 ⟨x, x0, x1, hd, hs⟩
        refine ⟨x, x0, x1, Lib.hid ?_, hs⟩
        have hxa := hsq x hd.out
        have x00 : x ≠ 0 := fun h => by
          subst h
          refine hnd ?_
          have := Int.dvd_neg.mpr hxa
          simpa using this
        exact (root_min hp (by omega) x1 hxa).uniq hr
      have g : (a % (p : Int) == 0) = false := by simpa using h0
      have g2 : ((p : Int) == 2) = false := by simp; omega
      clear hpb hT hr hp h0 hnd hda hsq hl
      go_enter Tryd.func15, Tryd.ntmps15
      go_wp2_with (first
        | (go_at_call 6; (with_reducible refine (HI.out _).mono ?_); rintro e w1 ⟨rfl, hw1⟩)
        | (go_at_call 12; (with_reducible refine (HO.out _).mono ?_); rintro e w2 ⟨rfl, hw2⟩)
        | (go_at_call 33; (with_reducible refine (HJ.out _).mono ?_); rintro e w3 ⟨rfl, hw3⟩)
        | (go_at_call 34; (with_reducible refine (HA.out _ (show Ex w w3 from (by repeat (first | assumption | exact Ex.refl _ | refine Ex.trans ?_ (by assumption))))).mono ?_); rintro e w4 ⟨x, x0, x1, hm, rfl, hw4⟩))
      all_goals
        go_ret2
        refine ⟨?_, (by repeat (first | assumption | exact Ex.refl _ | refine Ex.trans ?_ (by assumption)))⟩
        have hm1 := hm.out
        first
          | (have e : (p : Int) - x = r := by omega
             simp [e]; done)
          | (have e : x = r := by omega
             simp [e]; done)

set_option maxHeartbeats 1000000 in
theorem root_none (a : Int) (p : Nat) (w : World) (hp : Prm (p : Int)) (hb : p ≤ 1000000) (hr : ¬ IsSq a p) :
    Calls Tryd.prog 15 #[.int .i64 a, .int .i64 p] w (Says (.tuple #[.int .i64 0, .int .i64 4]) w) := by
  have hp2 := hp.1
  have hpb := (pb_iff p).mpr hp
  have HI := Lib.hid (fun w => is_ok p w (by omega) (by omega))
  rw [hpb] at HI
  have b1 := Int.emod_nonneg a (b := (p : Int)) (by omega)
  have b2 := Int.emod_lt_of_pos a (b := (p : Int)) (by omega)
  have HO := Lib.hid fun w => of_ok a p w (by omega) (by omega)
  have h0 : a % p ≠ 0 := fun h => hr (root_zero (by omega) h).isSq
  have h2 : p ≠ 2 := fun h => by
    subst h
    exact hr (root_two (show a % 2 = 1 by omega)).isSq
  obtain ⟨ho, h3⟩ := prm_odd hp h2
  have hda : (p : Int) ∣ a - a % p := dvd_same.mpr (Int.emod_emod _ _).symm
  have hl : leg (a % p) p = -1 := by
    rw [leg_minus]
    rintro ⟨r, h⟩
    refine hr ⟨r, ?_⟩
    have := Int.dvd_sub h hda
    rwa [show r * r - a % p - (a - a % p) = r * r - a by omega] at this
  have HJ := Lib.hid fun w => jacobi_any (a % p) p w b1 (by omega) (by omega) (by omega) (by omega)
  rw [Int.toNat_natCast, jac_prime hp h2, hl] at HJ
  have g : (a % (p : Int) == 0) = false := by simpa using h0
  have g2 : ((p : Int) == 2) = false := by simp; omega
  clear hpb hr hp h0 hda hl
  go_enter Tryd.func15, Tryd.ntmps15
  go_wp2_with (first
    | (go_at_call 6; (with_reducible refine (HI.out _).mono ?_); rintro e w1 ⟨rfl, hw1⟩)
    | (go_at_call 12; (with_reducible refine (HO.out _).mono ?_); rintro e w2 ⟨rfl, hw2⟩)
    | (go_at_call 33; (with_reducible refine (HJ.out _).mono ?_); rintro e w3 ⟨rfl, hw3⟩))
  go_ret2
  exact ⟨rfl, (by repeat (first | assumption | exact Ex.refl _ | refine Ex.trans ?_ (by assumption)))⟩

/-- 3 is the least root of 2 by 7. -/
theorem root_27 : IsRoot 2 7 3 := ⟨by omega, by omega, by omega, fun y h1 h2 => by
  obtain h | h | h : y = 0 ∨ y = 1 ∨ y = 2 := by omega
  all_goals subst h; omega⟩

theorem prm_7 : Prm 7 := isP_prm (n := 7) (by decide +kernel)

theorem jac_27 : jac 2 7 = 1 := by
  rw [jac_two (n := 7) (by omega)]; decide

end Go.Proofs.YthlnbomapfjphaaDoor
