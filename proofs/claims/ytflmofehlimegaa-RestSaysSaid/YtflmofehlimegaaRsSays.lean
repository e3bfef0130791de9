/-
  RestSays, walked.
-/
import Derived.Test.YtflmofehlimegaaRsOrd
import Derived.Test.YtflmofehlimegaaDivs
namespace Go.Proofs.Ytflmofehlimegaa
open Go.RowKit
open Eu Rs Pr

set_option maxHeartbeats 400000 in
theorem refmod_any (n m : Int) (w : World) (hm : 0 < m) (hm' : m ≤ 4611686018427387904) :
    Calls Try.prog 27 #[.int .i64 n, .int .i64 m] w (fun e w' => e = .returned (.int .i64 (n % m)) ∧ w = w') := by
  have h1 := Int.emod_nonneg n (b := m) (by omega)
  have h2 := Int.emod_lt_of_pos n hm
  go_enter Try.func27, Try.ntmps27
  go_wp2_with (
    (go_at_call 12; refine (rest_any _ _ _ (by omega) (by omega)).mono ?_; rintro e w' ⟨rfl, rfl⟩))
  go_ret
  exact ⟨rfl, rfl⟩

set_option maxHeartbeats 1000000 in
theorem powOf_any (a m : Int) (h1 : 1 ≤ m) (h2 : m ≤ 1000000) : ∀ (n : Nat), n ≤ 9223372036854775807 → ∀ w : World,
    Calls Try.prog 13 #[.int .i64 a, .int .i64 n, .int .i64 m] w (Says (.int .i64 (Pw a n m)) w) := by
  intro n
  induction n using Nat.strongRecOn with
  | ind n ih =>
    intro hn w
    by_cases h0 : n = 0
    · subst h0
      have HZ := Lib.hid (Pw_zero a m)
      go_enter Try.func13, Try.ntmps13
      go_wp2
      go_ret
      exact ⟨by simp [HZ.out], Ex.refl _⟩
    · have HI : Hid (∀ w, Calls Try.prog 13 #[.int .i64 a, .int .i64 ((n : Int) / 2), .int .i64 m] w (Says (.int .i64 (Pw a (n / 2) m)) w)) := Lib.hid (ih (n / 2) (by omega) (by omega))
      have p1 := Pw_nonneg a (n / 2) (m := m) (by omega)
      have p2 := Pw_lt a (n / 2) (m := m) (by omega)
      have c1 := Int.emod_nonneg a (b := m) (by omega)
      have c2 := Int.emod_lt_of_pos a (b := m) (by omega)
      have hnb : ((n : Int) == 0) = false := by simpa using h0
      have HE : Hid (n % 2 = 0 → Pw a (n / 2) m * Pw a (n / 2) m % m = Pw a n m) := Lib.hid (front_even a n m)
      have HO : Hid (n % 2 = 1 → Pw a (n / 2) m * Pw a (n / 2) m % m * (a % m) % m = Pw a n m) := Lib.hid (front_odd a n m)
      clear ih
      obtain ⟨X, hX⟩ : ∃ X, Pw a (n / 2) m = X := ⟨_, rfl⟩
      rw [hX] at HI p1 p2 HE HO
      clear hX
      have xx := Eu.mul_le (a := X) (b := X) (A := 1000000) (B := 1000000) (by omega) (by omega) (by omega) (by omega)
      obtain ⟨xx1, xx2⟩ := xx
      have q1 := Int.emod_nonneg (X * X) (b := m) (by omega)
      have q2 := Int.emod_lt_of_pos (X * X) (b := m) (by omega)
      have yy := Eu.mul_le (a := X * X % m) (b := a % m) (A := 1000000) (B := 1000000) (by omega) (by omega) (by omega) (by omega)
      obtain ⟨yy1, yy2⟩ := yy
      by_cases ho : (n : Int) % 2 = 1
      · have HR := Lib.hid (HO.out (by omega))
        go_enter Try.func13, Try.ntmps13
        go_wp2_with (first
          | (go_at_call 13; refine (HI.out _).mono ?_; rintro e w2 ⟨rfl, hw2⟩)
          | (go_at_call 27; refine (refmod_any _ _ _ (by omega) (by omega)).mono ?_; rintro e w' ⟨rfl, rfl⟩))
        go_ret
        exact ⟨by simp [HR.out], hw2⟩
      · have HR := Lib.hid (HE.out (by omega))
        have hob : ((n : Int) % 2 == 1) = false := by simpa using ho
        go_enter Try.func13, Try.ntmps13
        go_wp2_with (first
          | (go_at_call 13; refine (HI.out _).mono ?_; rintro e w2 ⟨rfl, hw2⟩)
          | (go_at_call 27; refine (refmod_any _ _ _ (by omega) (by omega)).mono ?_; rintro e w' ⟨rfl, rfl⟩))
        go_ret
        exact ⟨by simp [HR.out], hw2⟩

set_option maxHeartbeats 400000 in
theorem coprime_any (a b : Int) (w : World) (ha : -1000000000 ≤ a) (ha' : a ≤ 1000000000) (hb : -1000000000 ≤ b) (hb' : b ≤ 1000000000) :
    Calls Try.prog 14 #[.int .i64 a, .int .i64 b] w (Says (.bool (G a b == 1)) w) := by
  go_enter Try.func14, Try.ntmps14
  go_wp2_with (
    (go_at_call 28; refine (gcdOf_any _ _ _ (by omega) (by omega) (by omega) (by omega)).mono ?_; rintro e w2 ⟨rfl, hw2⟩))
  go_ret
  exact ⟨rfl, hw2⟩

set_option maxRecDepth 100000 in
set_option maxHeartbeats 1000000 in
theorem restSays_out (a n m : Int) (w : World) (h : m < 1 ∨ 1000000 < m) : Calls Try.prog 3 #[.int .i64 a, .int .i64 n, .int .i64 m] w (Says (.bool true) w) := by
  have HM := Lib.hid h
  rcases h with h | h
  all_goals
    go_enter Try.func3, Try.ntmps3
    go_wp2_with (first
      | (go_at_call 8; refine (of_no _ _ _ HM.out).mono ?_; rintro e w1 ⟨rfl, hw1⟩)
      | (go_at_call 9; refine (pow_no _ _ _ _ (by omega)).mono ?_; rintro e w2 ⟨rfl, hw2⟩)
      | (go_at_call 10; refine (inverse_no _ _ _ HM.out).mono ?_; rintro e w3 ⟨rfl, hw3⟩)
      | (go_at_call 11; refine (order_no _ _ _ HM.out).mono ?_; rintro e w4 ⟨rfl, hw4⟩))
    go_ret
    exact ⟨rfl, (by repeat (first | assumption | exact Ex.refl _ | refine Ex.trans ?_ (by assumption)))⟩

set_option maxRecDepth 100000 in
set_option maxHeartbeats 1000000 in
theorem restSays_none (a n m : Int) (w : World) (h1 : 1 ≤ m) (h2 : m ≤ 1000000) (hn' : n ≤ 9223372036854775807) (hg : G a m ≠ 1) : Calls Try.prog 3 #[.int .i64 a, .int .i64 n, .int .i64 m] w (Says (.bool true) w) := by
  have HG : Hid (G a m ≠ 1) := Lib.hid hg
  have hgb : (G (a % m) m == 1) = false := by rw [G_mod]; simpa using hg
  have c1 := Int.emod_nonneg a (b := m) (by omega)
  have c2 := Int.emod_lt_of_pos a (b := m) (by omega)
  clear hg
  by_cases hn : n < 0
  · go_enter Try.func3, Try.ntmps3
    go_wp2_with (first
      | (go_at_call 8; refine (of_ok _ _ _ (by omega) (by omega)).mono ?_; rintro e w1 ⟨rfl, hw1⟩)
      | (go_at_call 9; refine (pow_no _ _ _ _ (by omega)).mono ?_; rintro e w2 ⟨rfl, hw2⟩)
      | (go_at_call 10; (with_reducible refine (inverse_none a m _ (by omega) (by omega) HG.out).mono ?_); rintro e w3 ⟨rfl, hw3⟩)
      | (go_at_call 11; (with_reducible refine (order_none a m _ (by omega) (by omega) HG.out).mono ?_); rintro e w4 ⟨rfl, hw4⟩)
      | (go_at_call 12; refine (rest_any _ _ _ (by omega) (by omega)).mono ?_; rintro e w' ⟨rfl, rfl⟩)
      | (go_at_call 14; refine (coprime_any _ _ _ (by omega) (by omega) (by omega) (by omega)).mono ?_; rintro e w5 ⟨rfl, hw5⟩; rw [hgb]))
    go_ret
    exact ⟨rfl, (by repeat (first | assumption | exact Ex.refl _ | refine Ex.trans ?_ (by assumption)))⟩
  · obtain ⟨N, rfl⟩ : ∃ N : Nat, n = N := ⟨n.toNat, by omega⟩
    have HN := Lib.hid (Int.toNat_natCast N)
    go_enter Try.func3, Try.ntmps3
    go_wp2_with (first
      | (go_at_call 8; refine (of_ok _ _ _ (by omega) (by omega)).mono ?_; rintro e w1 ⟨rfl, hw1⟩)
      | (go_at_call 9; (with_reducible refine (pow_ok a (N : Int) m _ (by omega) (by omega) (by omega) (by omega)).mono ?_); rintro e w2 ⟨rfl, hw2⟩; rw [HN.out])
      | (go_at_call 10; (with_reducible refine (inverse_none a m _ (by omega) (by omega) HG.out).mono ?_); rintro e w3 ⟨rfl, hw3⟩)
      | (go_at_call 11; (with_reducible refine (order_none a m _ (by omega) (by omega) HG.out).mono ?_); rintro e w4 ⟨rfl, hw4⟩)
      | (go_at_call 12; refine (rest_any _ _ _ (by omega) (by omega)).mono ?_; rintro e w' ⟨rfl, rfl⟩)
      | (go_at_call 13; (with_reducible refine (powOf_any a m (by omega) (by omega) N (by omega) _).mono ?_); rintro e w6 ⟨rfl, hw6⟩)
      | (go_at_call 14; refine (coprime_any _ _ _ (by omega) (by omega) (by omega) (by omega)).mono ?_; rintro e w5 ⟨rfl, hw5⟩; rw [hgb]))
    go_ret
    exact ⟨rfl, (by repeat (first | assumption | exact Ex.refl _ | refine Ex.trans ?_ (by assumption)))⟩

/-- Which of the numbers up to the order give 1: the order alone. -/
theorem ord_divs {a m : Int} {o r : Nat} (ho : IsOrd a m o) (i : Nat) (hi : i < (divsAt o r).length) :
    ∃ d : Nat, nth (divsAt o r) i = d ∧ 1 ≤ d ∧ d ≤ o ∧ (d < o → Pw a d m ≠ 1 % m) := by
  obtain ⟨d, hd, h1, h2⟩ := divsAt_mem ho.1 (nth_mem hi)
  exact ⟨d, hd, h2, Nat.le_of_dvd ho.1 h1, fun hlt h => ho.least h1 hlt (pw_one.mpr h)⟩

set_option maxRecDepth 100000 in
set_option maxHeartbeats 2000000 in
theorem restSays_neg (a n m : Int) (w : World) (h1 : 1 ≤ m) (h2 : m ≤ 1000000) (hn : n < 0) (hg : G a m = 1) : Calls Try.prog 3 #[.int .i64 a, .int .i64 n, .int .i64 m] w (Says (.bool true) w) := by
  have HG := Lib.hid hg
  have hgb : (G (a % m) m == 1) = true := by rw [G_mod]; simpa using hg
  have c1 := Int.emod_nonneg a (b := m) (by omega)
  have c2 := Int.emod_lt_of_pos a (b := m) (by omega)
  clear hg
  go_enter Try.func3, Try.ntmps3
  go_wp2_with (first
    | (go_at_call 8; refine (of_ok _ _ _ (by omega) (by omega)).mono ?_; rintro e w1 ⟨rfl, hw1⟩)
    | (go_at_call 9; refine (pow_no _ _ _ _ (by omega)).mono ?_; rintro e w2 ⟨rfl, hw2⟩)
    | (go_at_call 10; (with_reducible refine (inverse_ok a m _ (by omega) (by omega) HG.out).mono ?_); rintro e w3 ⟨x, hx0, hx1, hxa, rfl, hw3⟩)
    | (go_at_call 11; (with_reducible refine (order_ok a m _ (by omega) (by omega) HG.out).mono ?_); rintro e w4 ⟨o, hO, o1, o2, rfl, hw4⟩)
    | (go_at_call 12; refine (rest_any _ _ _ (by omega) (by omega)).mono ?_; rintro e w' ⟨rfl, rfl⟩)
    | (go_at_call 14; refine (coprime_any _ _ _ (by omega) (by omega) (by omega) (by omega)).mono ?_; rintro e w5 ⟨rfl, hw5⟩; rw [hgb]))
  have hxb : (x * (a % m) % m != 1 % m) = false := by rw [mul_emod_right, hxa.out]; simp
  have xa := Eu.mul_le (a := x) (b := a % m) (A := 1000000) (B := 1000000) (by omega) (by omega) (by omega) (by omega)
  obtain ⟨xa1, xa2⟩ := xa
  have hb0 : decide (x < 0) = false := by simp; omega
  have hb1 : decide (m ≤ x) = false := by simp; omega
  have hb2 : decide ((o : Int) < 1) = false := by simp; omega
  have hpb : (1 % m != 1 % m) = false := by simp
  have HPO : Hid (∀ w, Calls Try.prog 13 #[.int .i64 a, .int .i64 o, .int .i64 m] w (Says (.int .i64 (1 % m)) w)) := Lib.hid (fun w => by rw [← pw_one.mp hO.out.2.1]; exact powOf_any a m h1 h2 o (by omega) w)
  refine wp_region_wo (by kernel_rfl) (by kernel_rfl) ?_
  repeat (go_big_quiet_step ((go_at_call 13; exact says_wo (HPO.out _))))
  refine wpQuiet_nil ?_
  rintro _ ⟨⟨w7, hw7⟩, rfl⟩
  go_wp2_with (first
    | (go_at_call 15; (with_reducible refine (divisors_ok o _ o1 o2).mono ?_); rintro e w8 ⟨v, r, hr, hrr, rfl, hrow, hw8⟩; obtain ⟨ad, cap, rfl, hlen, hread, _⟩ := hrow.out.reads))
  have HD := Lib.hid (fun i hi => ord_divs (r := r) hO.out i hi)
  obtain ⟨L, hL⟩ : ∃ L, divsAt o r = L := ⟨_, rfl⟩
  rw [hL] at HD hread hlen
  rw [hL]
  have HR := Lib.hid hread
  unfold maxLen at hlen
  have HW : Hid (Ex w w8) := Lib.hid (by repeat (first | assumption | exact Ex.refl _ | refine Ex.trans ?_ (by assumption)))
  clear hread hL hrow hrr hxb hb0 hb1 hb2 hpb hw7 hw8
  go_loopg [170] L.length (fun k v170 wr => ∃ i : Nat, i ≤ L.length ∧ v170 = .int .i64 i ∧ Hid (k = L.length - i) ∧ Ex w8 wr)
  case atStart => exact ⟨0, by omega, rfl, Lib.hid (by omega), Ex.refl _⟩
  case round =>
    obtain ⟨i, hi, rfl, hk, hw⟩ := hrel
    by_cases hlt : i < L.length
    · rcases HR.out.ex hw with hnil | ⟨b, off, rfl, hc⟩
      · rw [hnil] at hlt; exact absurd hlt (Nat.not_lt_zero _)
      have hci := hc i hlt
      clear hc
      obtain ⟨d, hd, d1, d2, d3⟩ := HD.out i hlt
      rw [hd] at hci
      have HX := Lib.hid d3
      clear hd d3
      by_cases hdo : d < o
      · have hdb : decide ((d : Int) < (o : Int)) = true := by simp; omega
        have hpb : (Pw a d m == 1 % m) = false := by have := HX.out hdo; simpa using this
        go_wp2
        refine wp_region_wo (by kernel_rfl) (by kernel_rfl) ?_
        repeat (go_big_quiet_step ((go_at_call 13; exact says_wo (powOf_any a m (by omega) (by omega) d (by omega) _))))
        refine wpQuiet_nil ?_
        rintro _ ⟨⟨w9, hw9⟩, rfl⟩
        go_wp2
        go_roundg (L.length - (i + 1))
        case measure => have := hk.out; omega
        case rel => exact ⟨i + 1, by omega, by go_num, Lib.hid rfl, hw.trans hw9⟩
      · have hdb : decide ((d : Int) < (o : Int)) = false := by simp; omega
        go_wp2
        refine wp_region_wo (by kernel_rfl) (by kernel_rfl) ?_
        repeat (go_big_quiet_step (fail))
        refine wpQuiet_nil ?_
        rintro _ ⟨⟨w9, hw9⟩, rfl⟩
        go_wp2
        go_roundg (L.length - (i + 1))
        case measure => have := hk.out; omega
        case rel => exact ⟨i + 1, by omega, by go_num, Lib.hid rfl, hw.trans hw9⟩
    · have e : i = L.length := by omega
      subst e
      go_wp2
      go_ret
      exact ⟨rfl, HW.out.trans hw⟩

set_option maxRecDepth 100000 in
set_option maxHeartbeats 2000000 in
theorem restSays_pos (a : Int) (N : Nat) (m : Int) (w : World) (h1 : 1 ≤ m) (h2 : m ≤ 1000000) (hn' : N ≤ 9223372036854775807) (hg : G a m = 1) : Calls Try.prog 3 #[.int .i64 a, .int .i64 N, .int .i64 m] w (Says (.bool true) w) := by
  have HG := Lib.hid hg
  have HN := Lib.hid (Int.toNat_natCast N)
  have hgb : (G (a % m) m == 1) = true := by rw [G_mod]; simpa using hg
  have c1 := Int.emod_nonneg a (b := m) (by omega)
  have c2 := Int.emod_lt_of_pos a (b := m) (by omega)
  clear hg
  go_enter Try.func3, Try.ntmps3
  go_wp2_with (first
    | (go_at_call 8; refine (of_ok _ _ _ (by omega) (by omega)).mono ?_; rintro e w1 ⟨rfl, hw1⟩)
    | (go_at_call 9; (with_reducible refine (pow_ok a (N : Int) m _ (by omega) (by omega) (by omega) (by omega)).mono ?_); rintro e w2 ⟨rfl, hw2⟩; rw [HN.out]) | (go_at_call 13; (with_reducible refine (powOf_any a m (by omega) (by omega) N (by omega) _).mono ?_); rintro e w6 ⟨rfl, hw6⟩)
    | (go_at_call 10; (with_reducible refine (inverse_ok a m _ (by omega) (by omega) HG.out).mono ?_); rintro e w3 ⟨x, hx0, hx1, hxa, rfl, hw3⟩)
    | (go_at_call 11; (with_reducible refine (order_ok a m _ (by omega) (by omega) HG.out).mono ?_); rintro e w4 ⟨o, hO, o1, o2, rfl, hw4⟩)
    | (go_at_call 12; refine (rest_any _ _ _ (by omega) (by omega)).mono ?_; rintro e w' ⟨rfl, rfl⟩)
    | (go_at_call 14; refine (coprime_any _ _ _ (by omega) (by omega) (by omega) (by omega)).mono ?_; rintro e w5 ⟨rfl, hw5⟩; rw [hgb]))
  have hxb : (x * (a % m) % m != 1 % m) = false := by rw [mul_emod_right, hxa.out]; simp
  have xa := Eu.mul_le (a := x) (b := a % m) (A := 1000000) (B := 1000000) (by omega) (by omega) (by omega) (by omega)
  obtain ⟨xa1, xa2⟩ := xa
  have hb0 : decide (x < 0) = false := by simp; omega
  have hb1 : decide (m ≤ x) = false := by simp; omega
  have hb2 : decide ((o : Int) < 1) = false := by simp; omega
  have hpb : (1 % m != 1 % m) = false := by simp
  have HPO : Hid (∀ w, Calls Try.prog 13 #[.int .i64 a, .int .i64 o, .int .i64 m] w (Says (.int .i64 (1 % m)) w)) := Lib.hid (fun w => by rw [← pw_one.mp hO.out.2.1]; exact powOf_any a m h1 h2 o (by omega) w)
  refine wp_region_wo (by kernel_rfl) (by kernel_rfl) ?_
  repeat (go_big_quiet_step ((go_at_call 13; exact says_wo (HPO.out _))))
  refine wpQuiet_nil ?_
  rintro _ ⟨⟨w7, hw7⟩, rfl⟩
  go_wp2_with (first
    | (go_at_call 15; (with_reducible refine (divisors_ok o _ o1 o2).mono ?_); rintro e w8 ⟨v, r, hr, hrr, rfl, hrow, hw8⟩; obtain ⟨ad, cap, rfl, hlen, hread, _⟩ := hrow.out.reads))
  have HD := Lib.hid (fun i hi => ord_divs (r := r) hO.out i hi)
  obtain ⟨L, hL⟩ : ∃ L, divsAt o r = L := ⟨_, rfl⟩
  rw [hL] at HD hread hlen
  rw [hL]
  have HR := Lib.hid hread
  unfold maxLen at hlen
  have HW : Hid (Ex w w8) := Lib.hid (by repeat (first | assumption | exact Ex.refl _ | refine Ex.trans ?_ (by assumption)))
  clear hread hL hrow hrr hxb hb0 hb1 hb2 hpb hw7 hw8
  go_loopg [170] L.length (fun k v170 wr => ∃ i : Nat, i ≤ L.length ∧ v170 = .int .i64 i ∧ Hid (k = L.length - i) ∧ Ex w8 wr)
  case atStart => exact ⟨0, by omega, rfl, Lib.hid (by omega), Ex.refl _⟩
  case round =>
    obtain ⟨i, hi, rfl, hk, hw⟩ := hrel
    by_cases hlt : i < L.length
    · rcases HR.out.ex hw with hnil | ⟨b, off, rfl, hc⟩
      · rw [hnil] at hlt; exact absurd hlt (Nat.not_lt_zero _)
      have hci := hc i hlt
      clear hc
      obtain ⟨d, hd, d1, d2, d3⟩ := HD.out i hlt
      rw [hd] at hci
      have HX := Lib.hid d3
      clear hd d3
      by_cases hdo : d < o
      · have hdb : decide ((d : Int) < (o : Int)) = true := by simp; omega
        have hpb : (Pw a d m == 1 % m) = false := by have := HX.out hdo; simpa using this
        go_wp2
        refine wp_region_wo (by kernel_rfl) (by kernel_rfl) ?_
        repeat (go_big_quiet_step ((go_at_call 13; exact says_wo (powOf_any a m (by omega) (by omega) d (by omega) _))))
        refine wpQuiet_nil ?_
        rintro _ ⟨⟨w9, hw9⟩, rfl⟩
        go_wp2
        go_roundg (L.length - (i + 1))
        case measure => have := hk.out; omega
        case rel => exact ⟨i + 1, by omega, by go_num, Lib.hid rfl, hw.trans hw9⟩
      · have hdb : decide ((d : Int) < (o : Int)) = false := by simp; omega
        go_wp2
        refine wp_region_wo (by kernel_rfl) (by kernel_rfl) ?_
        repeat (go_big_quiet_step (fail))
        refine wpQuiet_nil ?_
        rintro _ ⟨⟨w9, hw9⟩, rfl⟩
        go_wp2
        go_roundg (L.length - (i + 1))
        case measure => have := hk.out; omega
        case rel => exact ⟨i + 1, by omega, by go_num, Lib.hid rfl, hw.trans hw9⟩
    · have e : i = L.length := by omega
      subst e
      go_wp2
      go_ret
      exact ⟨rfl, HW.out.trans hw⟩

theorem restSays_walk (a n m : Int) (w : World) (_ : I64 a) (hn : I64 n) (_ : I64 m) : Calls Try.prog 3 #[.int .i64 a, .int .i64 n, .int .i64 m] w (Says (.bool true) w) := by
  by_cases h : m < 1 ∨ 1000000 < m
  · exact restSays_out a n m w h
  · by_cases hg : G a m = 1
    · by_cases h0 : n < 0
      · exact restSays_neg a n m w (by omega) (by omega) h0 hg
      · obtain ⟨N, rfl⟩ : ∃ N : Nat, n = N := ⟨n.toNat, by omega⟩
        exact restSays_pos a N m w (by omega) (by omega) (by have := hn.2; omega) hg
    · exact restSays_none a n m w (by omega) (by omega) hn.2 hg

end Go.Proofs.Ytflmofehlimegaa
