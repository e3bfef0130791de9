/-
  BinomLucas, BinomKummer, walked.
-/
import Derived.Test.YtjgkpfkiflhkaaaBiWalks
import Derived.Test.YtjgkpfkiflhkaaaMix
namespace Go.Proofs.Ytjgkpfkiflhkaaa
open Go.RowKit
open Eu Pr Rs Bi

theorem prm_7 : Prm 7 := isP_prm (n := 7) (by decide +kernel)

theorem okB_nat {n k p : Int} (h : OkB n k p) : ∃ a b q : Nat, n = a ∧ k = b ∧ p = q ∧ b ≤ a ∧ 2 ≤ q ∧ q ≤ 1000 ∧ a ≤ 1000000000 := by
  obtain ⟨h1, h2, h3, h4, h5, hp⟩ := h
  have := hp.1
  exact ⟨n.toNat, k.toNat, p.toNat, by omega, by omega, by omega, by omega, by omega, by omega, by omega⟩

set_option maxHeartbeats 4000000 in
theorem binomLucas_walk (n k p : Int) (w : World) (_ : I64 n) (_ : I64 k) (_ : I64 p) : Calls Try.prog 6 #[.int .i64 n, .int .i64 k, .int .i64 p] w (Says (.bool true) w) := by
  have H7 : Hid (∀ w, Calls Try.prog 9 #[.int .i64 5, .int .i64 2, .int .i64 7] w (Says (.tuple #[.int .i64 3, .int .i64 0]) w)) := Lib.hid fun w => by
    have h := bmod_ok 5 2 7 w ⟨by omega, by omega, by omega, by omega, by omega, prm_7⟩
    rw [show ((ch 5 2 : Nat) : Int) % ((7 : Nat) : Int) = 3 by decide] at h
    exact h
  by_cases hok : OkB n k p
  · obtain ⟨n, k, p, rfl, rfl, rfl, hkn, p2, p3, n3⟩ := okB_nat hok
    have hp := hok.2.2.2.2.2
    have HM := Lib.hid fun w => bmod_ok n k p w hok
    obtain ⟨a, ha⟩ : ∃ a, n / p = a := ⟨_, rfl⟩
    obtain ⟨b, hb⟩ : ∃ a, k / p = a := ⟨_, rfl⟩
    obtain ⟨A, hA⟩ : ∃ a, n % p = a := ⟨_, rfl⟩
    obtain ⟨B, hB⟩ : ∃ a, k % p = a := ⟨_, rfl⟩
    have eA : (n : Int) % (p : Int) = (A : Int) := by rw [← hA]; exact (Int.natCast_emod n p).symm
    have eB : (k : Int) % (p : Int) = (B : Int) := by rw [← hB]; exact (Int.natCast_emod k p).symm
    have ea : (n : Int) / (p : Int) = (a : Int) := by rw [← ha]; exact (Int.natCast_ediv n p).symm
    have eb : (k : Int) / (p : Int) = (b : Int) := by rw [← hb]; exact (Int.natCast_ediv k p).symm
    have lA : A < p := by rw [← hA]; exact Nat.mod_lt _ (by omega)
    have lB : B < p := by rw [← hB]; exact Nat.mod_lt _ (by omega)
    have lba : b ≤ a := by rw [← hb, ← ha]; exact Nat.div_le_div_right hkn
    have la : a ≤ n := by rw [← ha]; exact Nat.div_le_self n p
    have hl := lucasZ hp n k
    rw [ha, hb, hA, hB] at hl
    have HX : Hid (∀ w (e : Int), e = (b : Int) → Calls Try.prog 9 #[.int .i64 a, .int .i64 e, .int .i64 p] w (Says (.tuple #[.int .i64 ((ch a b : Int) % (p : Int)), .int .i64 0]) w)) := Lib.hid fun w e he => by
      subst he
      exact bmod_ok a b p w ⟨by omega, by omega, by omega, by omega, by omega, hp⟩
    have HY : Hid (∀ w (e : Int), e = ((min A B : Nat) : Int) → Calls Try.prog 9 #[.int .i64 A, .int .i64 e, .int .i64 p] w (Says (.tuple #[.int .i64 ((ch A (min A B) : Int) % (p : Int)), .int .i64 0]) w)) := Lib.hid fun w e he => by
      subst he
      exact bmod_ok A (min A B) p w ⟨by omega, by omega, by omega, by omega, by omega, hp⟩
    have HL : Hid ((ch n k : Int) % (p : Int) = ((ch a b : Int) % (p : Int)) * ((ch A B : Int) % (p : Int)) % (p : Int)) := Lib.hid (by rw [mul_emod_both]; exact hl)
    have HZ : Hid (A < B → (ch n k : Int) % (p : Int) = 0) := Lib.hid fun h => by
      rw [hl, ch_big A B h, show ((0 : Nat) : Int) = 0 from rfl, Int.mul_zero, Int.zero_emod]
    have r1 := Int.emod_nonneg (ch n k : Int) (b := (p : Int)) (by omega)
    have r2 := Int.emod_lt_of_pos (ch n k : Int) (b := (p : Int)) (by omega)
    have s1 := Int.emod_nonneg (ch a b : Int) (b := (p : Int)) (by omega)
    have s2 := Int.emod_lt_of_pos (ch a b : Int) (b := (p : Int)) (by omega)
    have HC := Lib.hid fun (h : n ≤ 60) w => bof_any n k w h
    have gp : decide ((p : Int) < 2) = false := decide_eq_false (by omega)
    have g1 : decide ((b : Int) ≤ (a : Int)) = true := decide_eq_true (by omega)
    have g7 : decide (b ≤ a) = true := decide_eq_true (by omega)
    obtain ⟨c, hc⟩ : ∃ c, ch n k = c := ⟨_, rfl⟩
    have HCC := Lib.hid hc
    rw [hc] at HM HL HZ HC r1 r2
    obtain ⟨m, hm⟩ : ∃ m, (c : Int) % (p : Int) = m := ⟨_, rfl⟩
    have HMC := Lib.hid hm
    rw [hm] at HM HL HZ r1 r2
    obtain ⟨x, hx⟩ : ∃ m, (ch a b : Int) % (p : Int) = m := ⟨_, rfl⟩
    rw [hx] at HX HL s1 s2
    clear hok hp hl ha hb hA hB hc hm hx
    have hif1 : (if b < a then (b : Int) else (a : Int)) = (b : Int) := by split <;> omega
    by_cases hAB : B ≤ A
    · rw [Nat.min_eq_right hAB] at HY
      have t1 := Int.emod_nonneg (ch A B : Int) (b := (p : Int)) (by omega)
      have t2 := Int.emod_lt_of_pos (ch A B : Int) (b := (p : Int)) (by omega)
      obtain ⟨y, hy⟩ : ∃ m, (ch A B : Int) % (p : Int) = m := ⟨_, rfl⟩
      rw [hy] at HY HL t1 t2
      have g2 : decide ((B : Int) ≤ (A : Int)) = true := decide_eq_true (by omega)
      have g3 : decide ((A : Int) < (B : Int)) = false := decide_eq_false (by omega)
      have g5 : decide (A < B) = false := decide_eq_false (by omega)
      have g6 : decide (B ≤ A) = true := decide_eq_true (by omega)
      obtain ⟨m1a, m1b⟩ := Eu.mul_le (a := x) (b := y) (A := 1000000) (B := 1000000) (by omega) (by omega) (by omega) (by omega)
      have d1 := Int.emod_nonneg (x * y) (b := (p : Int)) (by omega)
      have d2 := Int.emod_lt_of_pos (x * y) (b := (p : Int)) (by omega)
      have g4 : (m != x * y % (p : Int)) = false := by rw [HL.out]; simp
      have hif2 : (if B < A then (B : Int) else (A : Int)) = (B : Int) := by split <;> omega
      clear hy
      by_cases h60 : n ≤ 60
      · have HC2 := Lib.hid (HC.out h60)
        have b60 := ch_bound (n := n) (k := k) h60
        rw [HCC.out] at b60
        have g60 : decide (60 < (n : Int)) = false := decide_eq_false (by omega)
        go_enter Try.func6, Try.ntmps6
        go_wp2_with (first
          | (go_at_call 9; (with_reducible refine (H7.out _).mono ?_); rintro e w1 ⟨rfl, hw1⟩)
          | (go_at_call 15; (with_reducible refine (chooses_yes _).mono ?_); rintro e w2 ⟨rfl, hw2⟩)
          | (go_at_call 9; (with_reducible refine (HM.out _).mono ?_); rintro e w3 ⟨rfl, hw3⟩))
        refine wp_region_wo (by kernel_rfl) (by kernel_rfl) ?_
        repeat (go_big_quiet_step ((go_at_call 9; exact says_wo (HX.out _ _ (by first | omega | (split <;> omega))))))
        refine wpQuiet_nil ?_
        rintro _ ⟨⟨w4, hw4⟩, rfl⟩
        go_wp2
        refine wp_region_wo (by kernel_rfl) (by kernel_rfl) ?_
        repeat (go_big_quiet_step ((go_at_call 9; exact says_wo (HY.out _ _ (by first | omega | (split <;> omega))))))
        refine wpQuiet_nil ?_
        rintro _ ⟨⟨w5, hw5⟩, rfl⟩
        go_wp2
        refine wp_region_mix (fun _ => True) [false, false, true, true, false, false, false, false, false, false, false, false, false, false, false, false, false, false, false, false, false, false, false, false, false, false, false, false, false, false, false, false, false, false, false, false, false, false, false, false, false, false, false, false, false] (by kernel_rfl) (by kernel_rfl) (by intro _ _ d _ _ h; cases d <;> exact h) trivial ?_
        repeat (first
          | ((with_reducible refine wpMix_pure ?_); go_big_quiet_step (fail); (with_reducible refine mixQ_on ?_))
          | ((with_reducible refine wpMix_turn ?_); intro K hK; go_wp2_with (first | fail | (go_at_call 17; refine (good_zeros_dr 2 (by omega) _ rfl _ _).mono ?_; rintro e w6 ⟨rfl, hw6⟩)); refine hK _ _ trivial ?_; clear hK K))
        refine wpMix_nil ?_
        go_wp2_with ((go_at_call 8; (with_reducible refine (HC2.out _).mono ?_); rintro e w7 ⟨rfl, hw7⟩))
        go_ret
        exact ⟨by first | rfl | (simp [HMC.out]; done) | (simp; omega), (by repeat (first | assumption | exact Ex.refl _ | refine Ex.trans ?_ (by assumption)))⟩
      · have g60 : decide (60 < (n : Int)) = true := decide_eq_true (by omega)
        go_enter Try.func6, Try.ntmps6
        go_wp2_with (first
          | (go_at_call 9; (with_reducible refine (H7.out _).mono ?_); rintro e w1 ⟨rfl, hw1⟩)
          | (go_at_call 15; (with_reducible refine (chooses_yes _).mono ?_); rintro e w2 ⟨rfl, hw2⟩)
          | (go_at_call 9; (with_reducible refine (HM.out _).mono ?_); rintro e w3 ⟨rfl, hw3⟩))
        refine wp_region_wo (by kernel_rfl) (by kernel_rfl) ?_
        repeat (go_big_quiet_step ((go_at_call 9; exact says_wo (HX.out _ _ (by first | omega | (split <;> omega))))))
        refine wpQuiet_nil ?_
        rintro _ ⟨⟨w4, hw4⟩, rfl⟩
        go_wp2
        refine wp_region_wo (by kernel_rfl) (by kernel_rfl) ?_
        repeat (go_big_quiet_step ((go_at_call 9; exact says_wo (HY.out _ _ (by first | omega | (split <;> omega))))))
        refine wpQuiet_nil ?_
        rintro _ ⟨⟨w5, hw5⟩, rfl⟩
        go_wp2
        refine wp_region_mix (fun _ => True) [false, false, true, true, false, false, false, false, false, false, false, false, false, false, false, false, false, false, false, false, false, false, false, false, false, false, false, false, false, false, false, false, false, false, false, false, false, false, false, false, false, false, false, false, false] (by kernel_rfl) (by kernel_rfl) (by intro _ _ d _ _ h; cases d <;> exact h) trivial ?_
        repeat (first
          | ((with_reducible refine wpMix_pure ?_); go_big_quiet_step (fail); (with_reducible refine mixQ_on ?_))
          | ((with_reducible refine wpMix_turn ?_); intro K hK; go_wp2_with (first | fail | (go_at_call 17; refine (good_zeros_dr 2 (by omega) _ rfl _ _).mono ?_; rintro e w6 ⟨rfl, hw6⟩)); refine hK _ _ trivial ?_; clear hK K))
        refine wpMix_nil ?_
        go_wp2
        go_ret
        exact ⟨by first | rfl | (simp; done) | (simp; omega), (by repeat (first | assumption | exact Ex.refl _ | refine Ex.trans ?_ (by assumption)))⟩
    · have hAB2 : A < B := by omega
      rw [Nat.min_eq_left (by omega), ch_self] at HY
      have hm0 := HZ.out hAB2
      subst hm0
      have eY : ((1 : Nat) : Int) % (p : Int) = 1 := Int.emod_eq_of_lt (by omega) (by omega)
      rw [eY] at HY
      have g2 : decide ((B : Int) ≤ (A : Int)) = false := decide_eq_false (by omega)
      have g3 : decide ((A : Int) < (B : Int)) = true := decide_eq_true (by omega)
      have g5 : decide (A < B) = true := decide_eq_true (by omega)
      have g6 : decide (B ≤ A) = false := decide_eq_false (by omega)
      clear hAB
      by_cases h60 : n ≤ 60
      · have HC2 := Lib.hid (HC.out h60)
        have b60 := ch_bound (n := n) (k := k) h60
        rw [HCC.out] at b60
        have g60 : decide (60 < (n : Int)) = false := decide_eq_false (by omega)
        go_enter Try.func6, Try.ntmps6
        go_wp2_with (first
          | (go_at_call 9; (with_reducible refine (H7.out _).mono ?_); rintro e w1 ⟨rfl, hw1⟩)
          | (go_at_call 15; (with_reducible refine (chooses_yes _).mono ?_); rintro e w2 ⟨rfl, hw2⟩)
          | (go_at_call 9; (with_reducible refine (HM.out _).mono ?_); rintro e w3 ⟨rfl, hw3⟩))
        refine wp_region_wo (by kernel_rfl) (by kernel_rfl) ?_
        repeat (go_big_quiet_step ((go_at_call 9; exact says_wo (HX.out _ _ (by first | omega | (split <;> omega))))))
        refine wpQuiet_nil ?_
        rintro _ ⟨⟨w4, hw4⟩, rfl⟩
        go_wp2
        refine wp_region_wo (by kernel_rfl) (by kernel_rfl) ?_
        repeat (go_big_quiet_step ((go_at_call 9; exact says_wo (HY.out _ _ (by first | omega | (split <;> omega))))))
        refine wpQuiet_nil ?_
        rintro _ ⟨⟨w5, hw5⟩, rfl⟩
        go_wp2
        refine wp_region_mix (fun _ => True) [false, false, true, true, false, false, false, false, false, false, false, false, false, false, false, false, false, false, false, false, false, false, false, false, false, false, false, false, false, false, false, false, false, false, false, false, false, false, false, false, false, false, false, false, false] (by kernel_rfl) (by kernel_rfl) (by intro _ _ d _ _ h; cases d <;> exact h) trivial ?_
        repeat (first
          | ((with_reducible refine wpMix_pure ?_); go_big_quiet_step (fail); (with_reducible refine mixQ_on ?_))
          | ((with_reducible refine wpMix_turn ?_); intro K hK; go_wp2_with (first | fail | (go_at_call 17; refine (good_zeros_dr 2 (by omega) _ rfl _ _).mono ?_; rintro e w6 ⟨rfl, hw6⟩)); refine hK _ _ trivial ?_; clear hK K))
        refine wpMix_nil ?_
        go_wp2_with ((go_at_call 8; (with_reducible refine (HC2.out _).mono ?_); rintro e w7 ⟨rfl, hw7⟩))
        go_ret
        exact ⟨by first | rfl | (simp [HMC.out]; done) | (simp; omega), (by repeat (first | assumption | exact Ex.refl _ | refine Ex.trans ?_ (by assumption)))⟩
      · have g60 : decide (60 < (n : Int)) = true := decide_eq_true (by omega)
        go_enter Try.func6, Try.ntmps6
        go_wp2_with (first
          | (go_at_call 9; (with_reducible refine (H7.out _).mono ?_); rintro e w1 ⟨rfl, hw1⟩)
          | (go_at_call 15; (with_reducible refine (chooses_yes _).mono ?_); rintro e w2 ⟨rfl, hw2⟩)
          | (go_at_call 9; (with_reducible refine (HM.out _).mono ?_); rintro e w3 ⟨rfl, hw3⟩))
        refine wp_region_wo (by kernel_rfl) (by kernel_rfl) ?_
        repeat (go_big_quiet_step ((go_at_call 9; exact says_wo (HX.out _ _ (by first | omega | (split <;> omega))))))
        refine wpQuiet_nil ?_
        rintro _ ⟨⟨w4, hw4⟩, rfl⟩
        go_wp2
        refine wp_region_wo (by kernel_rfl) (by kernel_rfl) ?_
        repeat (go_big_quiet_step ((go_at_call 9; exact says_wo (HY.out _ _ (by first | omega | (split <;> omega))))))
        refine wpQuiet_nil ?_
        rintro _ ⟨⟨w5, hw5⟩, rfl⟩
        go_wp2
        refine wp_region_mix (fun _ => True) [false, false, true, true, false, false, false, false, false, false, false, false, false, false, false, false, false, false, false, false, false, false, false, false, false, false, false, false, false, false, false, false, false, false, false, false, false, false, false, false, false, false, false, false, false] (by kernel_rfl) (by kernel_rfl) (by intro _ _ d _ _ h; cases d <;> exact h) trivial ?_
        repeat (first
          | ((with_reducible refine wpMix_pure ?_); go_big_quiet_step (fail); (with_reducible refine mixQ_on ?_))
          | ((with_reducible refine wpMix_turn ?_); intro K hK; go_wp2_with (first | fail | (go_at_call 17; refine (good_zeros_dr 2 (by omega) _ rfl _ _).mono ?_; rintro e w6 ⟨rfl, hw6⟩)); refine hK _ _ trivial ?_; clear hK K))
        refine wpMix_nil ?_
        go_wp2
        go_ret
        exact ⟨by first | rfl | (simp; done) | (simp; omega), (by repeat (first | assumption | exact Ex.refl _ | refine Ex.trans ?_ (by assumption)))⟩
  · have HN := Lib.hid fun w => bmod_no n k p w hok
    clear hok
    go_enter Try.func6, Try.ntmps6
    go_wp2_with (first
      | (go_at_call 9; (with_reducible refine (H7.out _).mono ?_); rintro e w1 ⟨rfl, hw1⟩)
      | (go_at_call 15; (with_reducible refine (chooses_yes _).mono ?_); rintro e w2 ⟨rfl, hw2⟩)
      | (go_at_call 9; (with_reducible refine (HN.out _).mono ?_); rintro e w3 ⟨rfl, hw3⟩))
    go_ret
    exact ⟨by first | rfl | (simp; done) | (simp; omega), (by repeat (first | assumption | exact Ex.refl _ | refine Ex.trans ?_ (by assumption)))⟩

end Go.Proofs.Ytjgkpfkiflhkaaa
