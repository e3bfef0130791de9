/-
  BinomKummer, walked.
-/
import Derived.Test.YtjgkpfkiflhkaaaBiLaw
namespace Go.Proofs.Ytjgkpfkiflhkaaa
open Go.RowKit
open Eu Pr Rs Bi

theorem vp_div {p c : Int} {r : Nat} (hp : Prm p) (h : Vp p c r) (hd : p ∣ c) : ∃ s, r = s + 1 ∧ Vp p (c / p) s := by
  obtain ⟨m, hm, hnd⟩ := h
  have h2 := hp.1
  match r with
  | 0 =>
    rw [Int.pow_zero, Int.one_mul] at hm
    exact absurd (hm ▸ hd) hnd
  | s + 1 =>
    refine ⟨s, rfl, m, ?_, hnd⟩
    rw [hm, Int.pow_succ, Int.mul_comm (p ^ s), Int.mul_assoc, Int.mul_ediv_cancel_left _ (by omega)]

theorem vp_not {p c : Int} {r : Nat} (hp : Prm p) (h : Vp p c r) (hd : ¬ p ∣ c) : r = 0 := by
  have h2 := hp.1
  exact h.uniq (by omega) (vp_zero hd)

theorem often_24 : often 2 4 = 3 ∧ often 2 2 = 1 := by
  have h0 := often_zero 2
  have h1 := often_step (p := 2) (by omega) 1
  have h2 := often_step (p := 2) (by omega) 2
  have h4 := often_step (p := 2) (by omega) 4
  simp at h1 h2 h4
  omega

set_option maxHeartbeats 4000000 in
theorem binomKummer_walk (n k p : Int) (w : World) (_ : I64 n) (_ : I64 k) (_ : I64 p) : Calls Try.prog 7 #[.int .i64 n, .int .i64 k, .int .i64 p] w (Says (.bool true) w) := by
  have H4 : Hid (∀ w, Calls Try.prog 10 #[.int .i64 4, .int .i64 2, .int .i64 2] w (Says (.tuple #[.int .i64 1, .int .i64 0]) w)) := Lib.hid fun w => by
    have h := btimes_ok 4 2 2 w ⟨by omega, by omega, by omega, by omega, by omega, prm_two⟩
    rw [often_24.1, often_24.2] at h
    exact h
  by_cases hok : OkB n k p
  · obtain ⟨n, k, p, rfl, rfl, rfl, hkn, p2, p3, n3⟩ := okB_nat hok
    have hp := hok.2.2.2.2.2
    have HM := Lib.hid fun w => bmod_ok n k p w hok
    have HT := Lib.hid fun w => btimes_ok n k p w hok
    obtain ⟨e, hv, he⟩ := kummer hp hkn
    have hle := often_le p2 n
    have hee : (often p n : Int) - (often p k : Int) - (often p (n - k) : Int) = (e : Int) := by omega
    rw [hee] at HT
    have he2 : e ≤ 1000000000 := by omega
    have hpos := vp_pos hv
    have HC := Lib.hid fun (h : n ≤ 60) w => bof_any n k w h
    have HCB := Lib.hid fun (h : n ≤ 60) => ch_bound (n := n) (k := k) h
    have hc1 := ch_pos hkn
    have HP := Lib.hid hp
    have gp : decide ((p : Int) < 2) = false := decide_eq_false (by omega)
    have r1 := Int.emod_nonneg (ch n k : Int) (b := (p : Int)) (by omega)
    have r2 := Int.emod_lt_of_pos (ch n k : Int) (b := (p : Int)) (by omega)
    obtain ⟨c, hc⟩ : ∃ c, ch n k = c := ⟨_, rfl⟩
    rw [hc] at HM HC HCB hv hpos hc1 r1 r2
    have HV := Lib.hid hv
    obtain ⟨m, hm⟩ : ∃ m, (c : Int) % (p : Int) = m := ⟨_, rfl⟩
    rw [hm] at HM r1 r2
    have hmz : 0 < e ↔ m = 0 := by
      rw [hpos, ← hm]
      exact ⟨fun h => Int.emod_eq_zero_of_dvd h, fun h => Int.dvd_of_emod_eq_zero h⟩
    clear hok hp hv he hle hee hpos hc hm
    by_cases h0 : 0 < e
    · obtain rfl : m = 0 := hmz.mp h0
      have g1 : decide ((0 : Int) < (e : Int)) = true := decide_eq_true (by omega)
      have g2 : decide (0 < e) = true := decide_eq_true (by omega)
      clear hmz
      by_cases h60 : n ≤ 60
      · have HC2 := Lib.hid (HC.out h60)
        have b60 := HCB.out h60
        have g60 : decide (60 < (n : Int)) = false := decide_eq_false (by omega)
        go_enter Try.func7, Try.ntmps7
        go_wp2_with (first
          | (go_at_call 10; (with_reducible refine (H4.out _).mono ?_); rintro e w1 ⟨rfl, hw1⟩)
          | (go_at_call 10; (with_reducible refine (HT.out _).mono ?_); rintro e w2 ⟨rfl, hw2⟩)
          | (go_at_call 9; (with_reducible refine (HM.out _).mono ?_); rintro e w3 ⟨rfl, hw3⟩)
          | (go_at_call 8; (with_reducible refine (HC2.out _).mono ?_); rintro e w4 ⟨rfl, hw4⟩))
        clear h0 g1 g2
        go_loopg [13, 15] e (fun m v13 v15 wr => ∃ (x : Int) (o r : Nat), 1 ≤ x ∧ x ≤ 118264581564861424 ∧ v13 = .int .i64 x ∧ v15 = .int .i64 o ∧ o + r = e ∧ Hid (Vp p x r) ∧ Hid (m = r) ∧ Ex w wr)
        case atStart => exact ⟨c, 0, e, by omega, by omega, rfl, rfl, by omega, HV, Lib.hid rfl, (by repeat (first | assumption | exact Ex.refl _ | refine Ex.trans ?_ (by assumption)))⟩
        case round =>
          obtain ⟨x, o, r, x0, x1, rfl, rfl, hor, hv, hm, hx⟩ := hrel
          have gx : decide ((0 : Int) < x) = true := decide_eq_true (by omega)
          by_cases hd : (p : Int) ∣ x
          · obtain ⟨s, rfl, hv2⟩ := vp_div HP.out hv.out hd
            have hmod : x % (p : Int) = 0 := Int.emod_eq_zero_of_dvd hd
            have gm : (x % (p : Int) == 0) = true := by simp [hmod]
            have hq1 : 1 ≤ x / (p : Int) := by
              have := Int.le_of_dvd (by omega) hd
              exact Int.le_ediv_of_mul_le (by omega) (by omega)
            have hq2 : x / (p : Int) ≤ x := Int.ediv_le_self _ (by omega)
            have HV2 := Lib.hid hv2
            clear hv2 hd
            go_wp2
            go_roundg s
            case measure => have := hm.out; omega
            case rel => exact ⟨x / (p : Int), o + 1, s, by omega, by omega, by first | rfl | go_num, by first | rfl | go_num, by omega, HV2, Lib.hid rfl, hx⟩
          · have hmod : ¬ x % (p : Int) = 0 := fun h => hd (Int.dvd_of_emod_eq_zero h)
            have gm : (x % (p : Int) == 0) = false := by simp [hmod]
            have hr := vp_not HP.out hv.out hd
            subst hr
            obtain rfl : o = e := by omega
            clear hd
            go_wp2
            go_ret
            exact ⟨by first | rfl | (simp; done), hx⟩
      · have g60 : decide (60 < (n : Int)) = true := decide_eq_true (by omega)
        have HC2 := Lib.hid True.intro
        go_enter Try.func7, Try.ntmps7
        go_wp2_with (first
          | (go_at_call 10; (with_reducible refine (H4.out _).mono ?_); rintro e w1 ⟨rfl, hw1⟩)
          | (go_at_call 10; (with_reducible refine (HT.out _).mono ?_); rintro e w2 ⟨rfl, hw2⟩)
          | (go_at_call 9; (with_reducible refine (HM.out _).mono ?_); rintro e w3 ⟨rfl, hw3⟩)
          | (go_at_call 8; (with_reducible refine (HC2.out _).mono ?_); rintro e w4 ⟨rfl, hw4⟩))
        go_ret
        exact ⟨by first | rfl | (simp; done) | (simp; omega), (by repeat (first | assumption | exact Ex.refl _ | refine Ex.trans ?_ (by assumption)))⟩
    · have hm0 : m ≠ 0 := fun h => h0 (hmz.mpr h)
      have g1 : decide ((0 : Int) < (e : Int)) = false := decide_eq_false (by omega)
      have g2 : decide (0 < e) = false := decide_eq_false (by omega)
      have g3 : (m == 0) = false := by simpa using hm0
      clear hmz hm0
      by_cases h60 : n ≤ 60
      · have HC2 := Lib.hid (HC.out h60)
        have b60 := HCB.out h60
        have g60 : decide (60 < (n : Int)) = false := decide_eq_false (by omega)
        go_enter Try.func7, Try.ntmps7
        go_wp2_with (first
          | (go_at_call 10; (with_reducible refine (H4.out _).mono ?_); rintro e w1 ⟨rfl, hw1⟩)
          | (go_at_call 10; (with_reducible refine (HT.out _).mono ?_); rintro e w2 ⟨rfl, hw2⟩)
          | (go_at_call 9; (with_reducible refine (HM.out _).mono ?_); rintro e w3 ⟨rfl, hw3⟩)
          | (go_at_call 8; (with_reducible refine (HC2.out _).mono ?_); rintro e w4 ⟨rfl, hw4⟩))
        clear h0 g1 g2
        go_loopg [13, 15] e (fun m v13 v15 wr => ∃ (x : Int) (o r : Nat), 1 ≤ x ∧ x ≤ 118264581564861424 ∧ v13 = .int .i64 x ∧ v15 = .int .i64 o ∧ o + r = e ∧ Hid (Vp p x r) ∧ Hid (m = r) ∧ Ex w wr)
        case atStart => exact ⟨c, 0, e, by omega, by omega, rfl, rfl, by omega, HV, Lib.hid rfl, (by repeat (first | assumption | exact Ex.refl _ | refine Ex.trans ?_ (by assumption)))⟩
        case round =>
          obtain ⟨x, o, r, x0, x1, rfl, rfl, hor, hv, hm, hx⟩ := hrel
          have gx : decide ((0 : Int) < x) = true := decide_eq_true (by omega)
          by_cases hd : (p : Int) ∣ x
          · obtain ⟨s, rfl, hv2⟩ := vp_div HP.out hv.out hd
            have hmod : x % (p : Int) = 0 := Int.emod_eq_zero_of_dvd hd
            have gm : (x % (p : Int) == 0) = true := by simp [hmod]
            have hq1 : 1 ≤ x / (p : Int) := by
              have := Int.le_of_dvd (by omega) hd
              exact Int.le_ediv_of_mul_le (by omega) (by omega)
            have hq2 : x / (p : Int) ≤ x := Int.ediv_le_self _ (by omega)
            have HV2 := Lib.hid hv2
            clear hv2 hd
            go_wp2
            go_roundg s
            case measure => have := hm.out; omega
            case rel => exact ⟨x / (p : Int), o + 1, s, by omega, by omega, by first | rfl | go_num, by first | rfl | go_num, by omega, HV2, Lib.hid rfl, hx⟩
          · have hmod : ¬ x % (p : Int) = 0 := fun h => hd (Int.dvd_of_emod_eq_zero h)
            have gm : (x % (p : Int) == 0) = false := by simp [hmod]
            have hr := vp_not HP.out hv.out hd
            subst hr
            obtain rfl : o = e := by omega
            clear hd
            go_wp2
            go_ret
            exact ⟨by first | rfl | (simp; done), hx⟩
      · have g60 : decide (60 < (n : Int)) = true := decide_eq_true (by omega)
        have HC2 := Lib.hid True.intro
        go_enter Try.func7, Try.ntmps7
        go_wp2_with (first
          | (go_at_call 10; (with_reducible refine (H4.out _).mono ?_); rintro e w1 ⟨rfl, hw1⟩)
          | (go_at_call 10; (with_reducible refine (HT.out _).mono ?_); rintro e w2 ⟨rfl, hw2⟩)
          | (go_at_call 9; (with_reducible refine (HM.out _).mono ?_); rintro e w3 ⟨rfl, hw3⟩)
          | (go_at_call 8; (with_reducible refine (HC2.out _).mono ?_); rintro e w4 ⟨rfl, hw4⟩))
        go_ret
        exact ⟨by first | rfl | (simp; done) | (simp; omega), (by repeat (first | assumption | exact Ex.refl _ | refine Ex.trans ?_ (by assumption)))⟩
  · have HM := Lib.hid fun w => bmod_no n k p w hok
    have HT := Lib.hid fun w => btimes_no n k p w hok
    have HC2 := Lib.hid True.intro
    clear hok
    go_enter Try.func7, Try.ntmps7
    go_wp2_with (first
      | (go_at_call 10; (with_reducible refine (H4.out _).mono ?_); rintro e w1 ⟨rfl, hw1⟩)
      | (go_at_call 10; (with_reducible refine (HT.out _).mono ?_); rintro e w2 ⟨rfl, hw2⟩)
      | (go_at_call 9; (with_reducible refine (HM.out _).mono ?_); rintro e w3 ⟨rfl, hw3⟩)
      | (go_at_call 8; (with_reducible refine (HC2.out _).mono ?_); rintro e w4 ⟨rfl, hw4⟩))
    go_ret
    exact ⟨by first | rfl | (simp; done) | (simp; omega), (by repeat (first | assumption | exact Ex.refl _ | refine Ex.trans ?_ (by assumption)))⟩

end Go.Proofs.Ytjgkpfkiflhkaaa
