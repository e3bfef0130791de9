/-
  BinomSays, walked.
-/
import Derived.Test.YtjgkpfkiflhkaaaBiMd
import Derived.Test.YtjgkpfkiflhkaaaBiLaw
namespace Go.Proofs.Ytjgkpfkiflhkaaa
open Go.RowKit
open Eu Pr Rs Bi

/-- What Of says, and the document. -/
theorem of_says (n k : Int) : ∃ c e : Int, (∀ w, Calls Try.prog 8 #[.int .i64 n, .int .i64 k] w (Says (.tuple #[.int .i64 c, .int .i64 e]) w)) ∧
    ((n < 0 ∨ 60 < n) ∧ c = 0 ∧ e = 1 ∨ 0 ≤ n ∧ n ≤ 60 ∧ e = 0 ∧ ∀ w, Calls Try.prog 11 #[.int .i64 n, .int .i64 k] w (Says (.int .i64 c) w)) := by
  by_cases h : n < 0 ∨ 60 < n
  · exact ⟨0, 1, fun w => bof_no n k w h, .inl ⟨h, rfl, rfl⟩⟩
  · by_cases h2 : k < 0 ∨ n < k
    · exact ⟨0, 0, fun w => bof_out n k w (by omega) (by omega) h2, .inr ⟨by omega, by omega, rfl, fun w => chooseOf_out n k w h2⟩⟩
    · obtain ⟨a, rfl⟩ : ∃ a : Nat, n = a := ⟨n.toNat, by omega⟩
      obtain ⟨b, rfl⟩ : ∃ b : Nat, k = b := ⟨k.toNat, by omega⟩
      exact ⟨(ch a b : Nat), 0, fun w => bof_in a b w (by omega) (by omega), .inr ⟨by omega, by omega, rfl, fun w => chooseOf_in a b w (by omega) (by omega)⟩⟩

set_option maxHeartbeats 8000000 in
theorem binomSays_no (n k p : Int) (w : World) (h : n < 0) : Calls Try.prog 3 #[.int .i64 n, .int .i64 k, .int .i64 p] w (Says (.bool true) w) := by
  have hok : ¬ OkB n k p := fun h2 => by have := h2.1; omega
  have HO := Lib.hid fun w => bof_no n k w (.inl h)
  have HM := Lib.hid fun w => bmod_no n k p w hok
  have HT := Lib.hid fun w => btimes_no n k p w hok
  have HC := Lib.hid True.intro
  have HP := Lib.hid True.intro
  have HON := Lib.hid True.intro
  have HOK := Lib.hid True.intro
  have HOM := Lib.hid True.intro
  have HCM := Lib.hid True.intro
  clear hok
  go_enter Try.func3, Try.ntmps3
  go_wp2_with (first
    | (go_at_call 8; (with_reducible refine (HO.out _).mono ?_); rintro e w1 ⟨rfl, hw1⟩)
    | (go_at_call 9; (with_reducible refine (HM.out _).mono ?_); rintro e w2 ⟨rfl, hw2⟩)
    | (go_at_call 10; (with_reducible refine (HT.out _).mono ?_); rintro e w3 ⟨rfl, hw3⟩)
    | (go_at_call 11; (with_reducible refine (HC.out _).mono ?_); rintro e w4 ⟨rfl, hw4⟩)
    | (go_at_call 12; (with_reducible refine (HP.out _).mono ?_); rintro e w5 ⟨rfl, hw5⟩)
    | (go_at_call 13; (with_reducible refine (HCM.out _).mono ?_); rintro e w6 ⟨rfl, hw6⟩)
    | (go_at_call 14; (with_reducible refine (HON.out _ _ rfl).mono ?_); rintro e w7 ⟨rfl, hw7⟩; clear HON)
    | (go_at_call 14; (with_reducible refine (HOK.out _ _ rfl).mono ?_); rintro e w8 ⟨rfl, hw8⟩; clear HOK)
    | (go_at_call 14; (with_reducible refine (HOM.out _ _ (by omega)).mono ?_); rintro e w9 ⟨rfl, hw9⟩))
  all_goals go_ret
  all_goals exact ⟨by first | rfl | (simp; done) | (simp; omega), (by repeat (first | assumption | exact Ex.refl _ | refine Ex.trans ?_ (by assumption)))⟩

set_option maxHeartbeats 8000000 in
theorem binomSays_high (n k p : Int) (w : World) (h : 60 < n) : Calls Try.prog 3 #[.int .i64 n, .int .i64 k, .int .i64 p] w (Says (.bool true) w) := by
  have HO := Lib.hid fun w => bof_no n k w (.inr h)
  have HC := Lib.hid True.intro
  by_cases hok : OkB n k p
  · obtain ⟨n, k, p, rfl, rfl, rfl, hkn, p2, p3, n3⟩ := okB_nat hok
    have hp := hok.2.2.2.2.2
    have HM := Lib.hid fun w => bmod_ok n k p w hok
    have HCM := Lib.hid fun w => chooseMod_any n k p w hok
    have HT := Lib.hid fun w => btimes_ok n k p w hok
    have hb := (pb_iff p).mpr hp
    have HP := Lib.hid fun w => refPrime_ok p w (by omega)
    rw [hb] at HP
    have HON : Hid (∀ (w : World) (a : Int), a = (n : Int) → Calls Try.prog 14 #[.int .i64 a, .int .i64 p] w (Says (.int .i64 (often p n : Nat)) w)) := Lib.hid fun w a ha => by
      subst ha; exact refOften_any n p w (by omega) (by omega) (by omega)
    have HOK : Hid (∀ (w : World) (a : Int), a = (k : Int) → Calls Try.prog 14 #[.int .i64 a, .int .i64 p] w (Says (.int .i64 (often p k : Nat)) w)) := Lib.hid fun w a ha => by
      subst ha; exact refOften_any k p w (by omega) (by omega) (by omega)
    have HOM : Hid (∀ (w : World) (a : Int), a = (n : Int) - (k : Int) → Calls Try.prog 14 #[.int .i64 a, .int .i64 p] w (Says (.int .i64 (often p (n - k) : Nat)) w)) := Lib.hid fun w a ha => by
      obtain rfl : a = ((n - k : Nat) : Int) := by omega
      exact refOften_any (n - k) p w (by omega) (by omega) (by omega)
    have b1 := often_le (p := p) (by omega) n
    have b2 := often_le (p := p) (by omega) k
    have b3 := often_le (p := p) (by omega) (n - k)
    obtain ⟨x, hx⟩ : ∃ x, often p n = x := ⟨_, rfl⟩
    obtain ⟨y, hy⟩ : ∃ y, often p k = y := ⟨_, rfl⟩
    obtain ⟨z, hz⟩ : ∃ z, often p (n - k) = z := ⟨_, rfl⟩
    obtain ⟨m, hm⟩ : ∃ m, (ch n k : Int) % (p : Int) = m := ⟨_, rfl⟩
    rw [hx] at HON HT b1
    rw [hy] at HOK HT b2
    rw [hz] at HOM HT b3
    rw [hm] at HM HCM
    clear hok hp hb hx hy hz hm
    go_enter Try.func3, Try.ntmps3
    go_wp2_with (first
      | (go_at_call 8; (with_reducible refine (HO.out _).mono ?_); rintro e w1 ⟨rfl, hw1⟩)
      | (go_at_call 9; (with_reducible refine (HM.out _).mono ?_); rintro e w2 ⟨rfl, hw2⟩)
      | (go_at_call 10; (with_reducible refine (HT.out _).mono ?_); rintro e w3 ⟨rfl, hw3⟩)
      | (go_at_call 11; (with_reducible refine (HC.out _).mono ?_); rintro e w4 ⟨rfl, hw4⟩)
      | (go_at_call 12; (with_reducible refine (HP.out _).mono ?_); rintro e w5 ⟨rfl, hw5⟩)
      | (go_at_call 13; (with_reducible refine (HCM.out _).mono ?_); rintro e w6 ⟨rfl, hw6⟩)
      | (go_at_call 14; (with_reducible refine (HON.out _ _ rfl).mono ?_); rintro e w7 ⟨rfl, hw7⟩; clear HON)
      | (go_at_call 14; (with_reducible refine (HOK.out _ _ rfl).mono ?_); rintro e w8 ⟨rfl, hw8⟩; clear HOK)
      | (go_at_call 14; (with_reducible refine (HOM.out _ _ (by omega)).mono ?_); rintro e w9 ⟨rfl, hw9⟩))
    all_goals go_ret
    all_goals exact ⟨by first | rfl | (simp; done) | (simp; omega), (by repeat (first | assumption | exact Ex.refl _ | refine Ex.trans ?_ (by assumption)))⟩
  · have HM := Lib.hid fun w => bmod_no n k p w hok
    have HT := Lib.hid fun w => btimes_no n k p w hok
    have HON := Lib.hid True.intro
    have HOK := Lib.hid True.intro
    have HOM := Lib.hid True.intro
    have HCM := Lib.hid True.intro
    by_cases c1 : 1000000000 < n
    · have HP := Lib.hid True.intro
      clear hok
      go_enter Try.func3, Try.ntmps3
      go_wp2_with (first
        | (go_at_call 8; (with_reducible refine (HO.out _).mono ?_); rintro e w1 ⟨rfl, hw1⟩)
        | (go_at_call 9; (with_reducible refine (HM.out _).mono ?_); rintro e w2 ⟨rfl, hw2⟩)
        | (go_at_call 10; (with_reducible refine (HT.out _).mono ?_); rintro e w3 ⟨rfl, hw3⟩)
        | (go_at_call 11; (with_reducible refine (HC.out _).mono ?_); rintro e w4 ⟨rfl, hw4⟩)
        | (go_at_call 12; (with_reducible refine (HP.out _).mono ?_); rintro e w5 ⟨rfl, hw5⟩)
        | (go_at_call 13; (with_reducible refine (HCM.out _).mono ?_); rintro e w6 ⟨rfl, hw6⟩)
        | (go_at_call 14; (with_reducible refine (HON.out _ _ rfl).mono ?_); rintro e w7 ⟨rfl, hw7⟩; clear HON)
        | (go_at_call 14; (with_reducible refine (HOK.out _ _ rfl).mono ?_); rintro e w8 ⟨rfl, hw8⟩; clear HOK)
        | (go_at_call 14; (with_reducible refine (HOM.out _ _ (by omega)).mono ?_); rintro e w9 ⟨rfl, hw9⟩))
      all_goals go_ret
      all_goals exact ⟨by first | rfl | (simp; done) | (simp; omega), (by repeat (first | assumption | exact Ex.refl _ | refine Ex.trans ?_ (by assumption)))⟩
    by_cases c2 : k < 0
    · have HP := Lib.hid True.intro
      clear hok
      go_enter Try.func3, Try.ntmps3
      go_wp2_with (first
        | (go_at_call 8; (with_reducible refine (HO.out _).mono ?_); rintro e w1 ⟨rfl, hw1⟩)
        | (go_at_call 9; (with_reducible refine (HM.out _).mono ?_); rintro e w2 ⟨rfl, hw2⟩)
        | (go_at_call 10; (with_reducible refine (HT.out _).mono ?_); rintro e w3 ⟨rfl, hw3⟩)
        | (go_at_call 11; (with_reducible refine (HC.out _).mono ?_); rintro e w4 ⟨rfl, hw4⟩)
        | (go_at_call 12; (with_reducible refine (HP.out _).mono ?_); rintro e w5 ⟨rfl, hw5⟩)
        | (go_at_call 13; (with_reducible refine (HCM.out _).mono ?_); rintro e w6 ⟨rfl, hw6⟩)
        | (go_at_call 14; (with_reducible refine (HON.out _ _ rfl).mono ?_); rintro e w7 ⟨rfl, hw7⟩; clear HON)
        | (go_at_call 14; (with_reducible refine (HOK.out _ _ rfl).mono ?_); rintro e w8 ⟨rfl, hw8⟩; clear HOK)
        | (go_at_call 14; (with_reducible refine (HOM.out _ _ (by omega)).mono ?_); rintro e w9 ⟨rfl, hw9⟩))
      all_goals go_ret
      all_goals exact ⟨by first | rfl | (simp; done) | (simp; omega), (by repeat (first | assumption | exact Ex.refl _ | refine Ex.trans ?_ (by assumption)))⟩
    by_cases c3 : n < k
    · have HP := Lib.hid True.intro
      clear hok
      go_enter Try.func3, Try.ntmps3
      go_wp2_with (first
        | (go_at_call 8; (with_reducible refine (HO.out _).mono ?_); rintro e w1 ⟨rfl, hw1⟩)
        | (go_at_call 9; (with_reducible refine (HM.out _).mono ?_); rintro e w2 ⟨rfl, hw2⟩)
        | (go_at_call 10; (with_reducible refine (HT.out _).mono ?_); rintro e w3 ⟨rfl, hw3⟩)
        | (go_at_call 11; (with_reducible refine (HC.out _).mono ?_); rintro e w4 ⟨rfl, hw4⟩)
        | (go_at_call 12; (with_reducible refine (HP.out _).mono ?_); rintro e w5 ⟨rfl, hw5⟩)
        | (go_at_call 13; (with_reducible refine (HCM.out _).mono ?_); rintro e w6 ⟨rfl, hw6⟩)
        | (go_at_call 14; (with_reducible refine (HON.out _ _ rfl).mono ?_); rintro e w7 ⟨rfl, hw7⟩; clear HON)
        | (go_at_call 14; (with_reducible refine (HOK.out _ _ rfl).mono ?_); rintro e w8 ⟨rfl, hw8⟩; clear HOK)
        | (go_at_call 14; (with_reducible refine (HOM.out _ _ (by omega)).mono ?_); rintro e w9 ⟨rfl, hw9⟩))
      all_goals go_ret
      all_goals exact ⟨by first | rfl | (simp; done) | (simp; omega), (by repeat (first | assumption | exact Ex.refl _ | refine Ex.trans ?_ (by assumption)))⟩
    by_cases c4 : p < 2
    · have HP := Lib.hid True.intro
      clear hok
      go_enter Try.func3, Try.ntmps3
      go_wp2_with (first
        | (go_at_call 8; (with_reducible refine (HO.out _).mono ?_); rintro e w1 ⟨rfl, hw1⟩)
        | (go_at_call 9; (with_reducible refine (HM.out _).mono ?_); rintro e w2 ⟨rfl, hw2⟩)
        | (go_at_call 10; (with_reducible refine (HT.out _).mono ?_); rintro e w3 ⟨rfl, hw3⟩)
        | (go_at_call 11; (with_reducible refine (HC.out _).mono ?_); rintro e w4 ⟨rfl, hw4⟩)
        | (go_at_call 12; (with_reducible refine (HP.out _).mono ?_); rintro e w5 ⟨rfl, hw5⟩)
        | (go_at_call 13; (with_reducible refine (HCM.out _).mono ?_); rintro e w6 ⟨rfl, hw6⟩)
        | (go_at_call 14; (with_reducible refine (HON.out _ _ rfl).mono ?_); rintro e w7 ⟨rfl, hw7⟩; clear HON)
        | (go_at_call 14; (with_reducible refine (HOK.out _ _ rfl).mono ?_); rintro e w8 ⟨rfl, hw8⟩; clear HOK)
        | (go_at_call 14; (with_reducible refine (HOM.out _ _ (by omega)).mono ?_); rintro e w9 ⟨rfl, hw9⟩))
      all_goals go_ret
      all_goals exact ⟨by first | rfl | (simp; done) | (simp; omega), (by repeat (first | assumption | exact Ex.refl _ | refine Ex.trans ?_ (by assumption)))⟩
    by_cases c5 : 1000 < p
    · have HP := Lib.hid True.intro
      clear hok
      go_enter Try.func3, Try.ntmps3
      go_wp2_with (first
        | (go_at_call 8; (with_reducible refine (HO.out _).mono ?_); rintro e w1 ⟨rfl, hw1⟩)
        | (go_at_call 9; (with_reducible refine (HM.out _).mono ?_); rintro e w2 ⟨rfl, hw2⟩)
        | (go_at_call 10; (with_reducible refine (HT.out _).mono ?_); rintro e w3 ⟨rfl, hw3⟩)
        | (go_at_call 11; (with_reducible refine (HC.out _).mono ?_); rintro e w4 ⟨rfl, hw4⟩)
        | (go_at_call 12; (with_reducible refine (HP.out _).mono ?_); rintro e w5 ⟨rfl, hw5⟩)
        | (go_at_call 13; (with_reducible refine (HCM.out _).mono ?_); rintro e w6 ⟨rfl, hw6⟩)
        | (go_at_call 14; (with_reducible refine (HON.out _ _ rfl).mono ?_); rintro e w7 ⟨rfl, hw7⟩; clear HON)
        | (go_at_call 14; (with_reducible refine (HOK.out _ _ rfl).mono ?_); rintro e w8 ⟨rfl, hw8⟩; clear HOK)
        | (go_at_call 14; (with_reducible refine (HOM.out _ _ (by omega)).mono ?_); rintro e w9 ⟨rfl, hw9⟩))
      all_goals go_ret
      all_goals exact ⟨by first | rfl | (simp; done) | (simp; omega), (by repeat (first | assumption | exact Ex.refl _ | refine Ex.trans ?_ (by assumption)))⟩
    have hb := pb_no (n := p) (fun hp => hok ⟨by omega, by omega, by omega, by omega, by omega, hp⟩)
    have HP := Lib.hid fun w => refPrime_ok p w (by omega)
    rw [hb] at HP
    clear hok hb
    go_enter Try.func3, Try.ntmps3
    go_wp2_with (first
      | (go_at_call 8; (with_reducible refine (HO.out _).mono ?_); rintro e w1 ⟨rfl, hw1⟩)
      | (go_at_call 9; (with_reducible refine (HM.out _).mono ?_); rintro e w2 ⟨rfl, hw2⟩)
      | (go_at_call 10; (with_reducible refine (HT.out _).mono ?_); rintro e w3 ⟨rfl, hw3⟩)
      | (go_at_call 11; (with_reducible refine (HC.out _).mono ?_); rintro e w4 ⟨rfl, hw4⟩)
      | (go_at_call 12; (with_reducible refine (HP.out _).mono ?_); rintro e w5 ⟨rfl, hw5⟩)
      | (go_at_call 13; (with_reducible refine (HCM.out _).mono ?_); rintro e w6 ⟨rfl, hw6⟩)
      | (go_at_call 14; (with_reducible refine (HON.out _ _ rfl).mono ?_); rintro e w7 ⟨rfl, hw7⟩; clear HON)
      | (go_at_call 14; (with_reducible refine (HOK.out _ _ rfl).mono ?_); rintro e w8 ⟨rfl, hw8⟩; clear HOK)
      | (go_at_call 14; (with_reducible refine (HOM.out _ _ (by omega)).mono ?_); rintro e w9 ⟨rfl, hw9⟩))
    all_goals go_ret
    all_goals exact ⟨by first | rfl | (simp; done) | (simp; omega), (by repeat (first | assumption | exact Ex.refl _ | refine Ex.trans ?_ (by assumption)))⟩

set_option maxHeartbeats 8000000 in
theorem binomSays_low (n k p : Int) (w : World) (h0 : 0 ≤ n) (h1 : n ≤ 60) : Calls Try.prog 3 #[.int .i64 n, .int .i64 k, .int .i64 p] w (Says (.bool true) w) := by
  obtain ⟨c, e, hO, hC⟩ := of_says n k
  have he : e = 0 := by omega
  have hC2 : ∀ w, Calls Try.prog 11 #[.int .i64 n, .int .i64 k] w (Says (.int .i64 c) w) := by
    rcases hC with h | h
    · omega
    · exact h.2.2.2
  subst he
  have HO := Lib.hid hO
  have HC := Lib.hid hC2
  clear hO hC hC2
  by_cases hok : OkB n k p
  · obtain ⟨n, k, p, rfl, rfl, rfl, hkn, p2, p3, n3⟩ := okB_nat hok
    have hp := hok.2.2.2.2.2
    have HM := Lib.hid fun w => bmod_ok n k p w hok
    have HCM := Lib.hid fun w => chooseMod_any n k p w hok
    have HT := Lib.hid fun w => btimes_ok n k p w hok
    have hb := (pb_iff p).mpr hp
    have HP := Lib.hid fun w => refPrime_ok p w (by omega)
    rw [hb] at HP
    have HON : Hid (∀ (w : World) (a : Int), a = (n : Int) → Calls Try.prog 14 #[.int .i64 a, .int .i64 p] w (Says (.int .i64 (often p n : Nat)) w)) := Lib.hid fun w a ha => by
      subst ha; exact refOften_any n p w (by omega) (by omega) (by omega)
    have HOK : Hid (∀ (w : World) (a : Int), a = (k : Int) → Calls Try.prog 14 #[.int .i64 a, .int .i64 p] w (Says (.int .i64 (often p k : Nat)) w)) := Lib.hid fun w a ha => by
      subst ha; exact refOften_any k p w (by omega) (by omega) (by omega)
    have HOM : Hid (∀ (w : World) (a : Int), a = (n : Int) - (k : Int) → Calls Try.prog 14 #[.int .i64 a, .int .i64 p] w (Says (.int .i64 (often p (n - k) : Nat)) w)) := Lib.hid fun w a ha => by
      obtain rfl : a = ((n - k : Nat) : Int) := by omega
      exact refOften_any (n - k) p w (by omega) (by omega) (by omega)
    have b1 := often_le (p := p) (by omega) n
    have b2 := often_le (p := p) (by omega) k
    have b3 := often_le (p := p) (by omega) (n - k)
    obtain ⟨x, hx⟩ : ∃ x, often p n = x := ⟨_, rfl⟩
    obtain ⟨y, hy⟩ : ∃ y, often p k = y := ⟨_, rfl⟩
    obtain ⟨z, hz⟩ : ∃ z, often p (n - k) = z := ⟨_, rfl⟩
    obtain ⟨m, hm⟩ : ∃ m, (ch n k : Int) % (p : Int) = m := ⟨_, rfl⟩
    rw [hx] at HON HT b1
    rw [hy] at HOK HT b2
    rw [hz] at HOM HT b3
    rw [hm] at HM HCM
    clear hok hp hb hx hy hz hm
    go_enter Try.func3, Try.ntmps3
    go_wp2_with (first
      | (go_at_call 8; (with_reducible refine (HO.out _).mono ?_); rintro e w1 ⟨rfl, hw1⟩)
      | (go_at_call 9; (with_reducible refine (HM.out _).mono ?_); rintro e w2 ⟨rfl, hw2⟩)
      | (go_at_call 10; (with_reducible refine (HT.out _).mono ?_); rintro e w3 ⟨rfl, hw3⟩)
      | (go_at_call 11; (with_reducible refine (HC.out _).mono ?_); rintro e w4 ⟨rfl, hw4⟩)
      | (go_at_call 12; (with_reducible refine (HP.out _).mono ?_); rintro e w5 ⟨rfl, hw5⟩)
      | (go_at_call 13; (with_reducible refine (HCM.out _).mono ?_); rintro e w6 ⟨rfl, hw6⟩)
      | (go_at_call 14; (with_reducible refine (HON.out _ _ rfl).mono ?_); rintro e w7 ⟨rfl, hw7⟩; clear HON)
      | (go_at_call 14; (with_reducible refine (HOK.out _ _ rfl).mono ?_); rintro e w8 ⟨rfl, hw8⟩; clear HOK)
      | (go_at_call 14; (with_reducible refine (HOM.out _ _ (by omega)).mono ?_); rintro e w9 ⟨rfl, hw9⟩))
    all_goals go_ret
    all_goals exact ⟨by first | rfl | (simp; done) | (simp; omega), (by repeat (first | assumption | exact Ex.refl _ | refine Ex.trans ?_ (by assumption)))⟩
  · have HM := Lib.hid fun w => bmod_no n k p w hok
    have HT := Lib.hid fun w => btimes_no n k p w hok
    have HON := Lib.hid True.intro
    have HOK := Lib.hid True.intro
    have HOM := Lib.hid True.intro
    have HCM := Lib.hid True.intro
    by_cases c1 : 1000000000 < n
    · have HP := Lib.hid True.intro
      clear hok
      go_enter Try.func3, Try.ntmps3
      go_wp2_with (first
        | (go_at_call 8; (with_reducible refine (HO.out _).mono ?_); rintro e w1 ⟨rfl, hw1⟩)
        | (go_at_call 9; (with_reducible refine (HM.out _).mono ?_); rintro e w2 ⟨rfl, hw2⟩)
        | (go_at_call 10; (with_reducible refine (HT.out _).mono ?_); rintro e w3 ⟨rfl, hw3⟩)
        | (go_at_call 11; (with_reducible refine (HC.out _).mono ?_); rintro e w4 ⟨rfl, hw4⟩)
        | (go_at_call 12; (with_reducible refine (HP.out _).mono ?_); rintro e w5 ⟨rfl, hw5⟩)
        | (go_at_call 13; (with_reducible refine (HCM.out _).mono ?_); rintro e w6 ⟨rfl, hw6⟩)
        | (go_at_call 14; (with_reducible refine (HON.out _ _ rfl).mono ?_); rintro e w7 ⟨rfl, hw7⟩; clear HON)
        | (go_at_call 14; (with_reducible refine (HOK.out _ _ rfl).mono ?_); rintro e w8 ⟨rfl, hw8⟩; clear HOK)
        | (go_at_call 14; (with_reducible refine (HOM.out _ _ (by omega)).mono ?_); rintro e w9 ⟨rfl, hw9⟩))
      all_goals go_ret
      all_goals exact ⟨by first | rfl | (simp; done) | (simp; omega), (by repeat (first | assumption | exact Ex.refl _ | refine Ex.trans ?_ (by assumption)))⟩
    by_cases c2 : k < 0
    · have HP := Lib.hid True.intro
      clear hok
      go_enter Try.func3, Try.ntmps3
      go_wp2_with (first
        | (go_at_call 8; (with_reducible refine (HO.out _).mono ?_); rintro e w1 ⟨rfl, hw1⟩)
        | (go_at_call 9; (with_reducible refine (HM.out _).mono ?_); rintro e w2 ⟨rfl, hw2⟩)
        | (go_at_call 10; (with_reducible refine (HT.out _).mono ?_); rintro e w3 ⟨rfl, hw3⟩)
        | (go_at_call 11; (with_reducible refine (HC.out _).mono ?_); rintro e w4 ⟨rfl, hw4⟩)
        | (go_at_call 12; (with_reducible refine (HP.out _).mono ?_); rintro e w5 ⟨rfl, hw5⟩)
        | (go_at_call 13; (with_reducible refine (HCM.out _).mono ?_); rintro e w6 ⟨rfl, hw6⟩)
        | (go_at_call 14; (with_reducible refine (HON.out _ _ rfl).mono ?_); rintro e w7 ⟨rfl, hw7⟩; clear HON)
        | (go_at_call 14; (with_reducible refine (HOK.out _ _ rfl).mono ?_); rintro e w8 ⟨rfl, hw8⟩; clear HOK)
        | (go_at_call 14; (with_reducible refine (HOM.out _ _ (by omega)).mono ?_); rintro e w9 ⟨rfl, hw9⟩))
      all_goals go_ret
      all_goals exact ⟨by first | rfl | (simp; done) | (simp; omega), (by repeat (first | assumption | exact Ex.refl _ | refine Ex.trans ?_ (by assumption)))⟩
    by_cases c3 : n < k
    · have HP := Lib.hid True.intro
      clear hok
      go_enter Try.func3, Try.ntmps3
      go_wp2_with (first
        | (go_at_call 8; (with_reducible refine (HO.out _).mono ?_); rintro e w1 ⟨rfl, hw1⟩)
        | (go_at_call 9; (with_reducible refine (HM.out _).mono ?_); rintro e w2 ⟨rfl, hw2⟩)
        | (go_at_call 10; (with_reducible refine (HT.out _).mono ?_); rintro e w3 ⟨rfl, hw3⟩)
        | (go_at_call 11; (with_reducible refine (HC.out _).mono ?_); rintro e w4 ⟨rfl, hw4⟩)
        | (go_at_call 12; (with_reducible refine (HP.out _).mono ?_); rintro e w5 ⟨rfl, hw5⟩)
        | (go_at_call 13; (with_reducible refine (HCM.out _).mono ?_); rintro e w6 ⟨rfl, hw6⟩)
        | (go_at_call 14; (with_reducible refine (HON.out _ _ rfl).mono ?_); rintro e w7 ⟨rfl, hw7⟩; clear HON)
        | (go_at_call 14; (with_reducible refine (HOK.out _ _ rfl).mono ?_); rintro e w8 ⟨rfl, hw8⟩; clear HOK)
        | (go_at_call 14; (with_reducible refine (HOM.out _ _ (by omega)).mono ?_); rintro e w9 ⟨rfl, hw9⟩))
      all_goals go_ret
      all_goals exact ⟨by first | rfl | (simp; done) | (simp; omega), (by repeat (first | assumption | exact Ex.refl _ | refine Ex.trans ?_ (by assumption)))⟩
    by_cases c4 : p < 2
    · have HP := Lib.hid True.intro
      clear hok
      go_enter Try.func3, Try.ntmps3
      go_wp2_with (first
        | (go_at_call 8; (with_reducible refine (HO.out _).mono ?_); rintro e w1 ⟨rfl, hw1⟩)
        | (go_at_call 9; (with_reducible refine (HM.out _).mono ?_); rintro e w2 ⟨rfl, hw2⟩)
        | (go_at_call 10; (with_reducible refine (HT.out _).mono ?_); rintro e w3 ⟨rfl, hw3⟩)
        | (go_at_call 11; (with_reducible refine (HC.out _).mono ?_); rintro e w4 ⟨rfl, hw4⟩)
        | (go_at_call 12; (with_reducible refine (HP.out _).mono ?_); rintro e w5 ⟨rfl, hw5⟩)
        | (go_at_call 13; (with_reducible refine (HCM.out _).mono ?_); rintro e w6 ⟨rfl, hw6⟩)
        | (go_at_call 14; (with_reducible refine (HON.out _ _ rfl).mono ?_); rintro e w7 ⟨rfl, hw7⟩; clear HON)
        | (go_at_call 14; (with_reducible refine (HOK.out _ _ rfl).mono ?_); rintro e w8 ⟨rfl, hw8⟩; clear HOK)
        | (go_at_call 14; (with_reducible refine (HOM.out _ _ (by omega)).mono ?_); rintro e w9 ⟨rfl, hw9⟩))
      all_goals go_ret
      all_goals exact ⟨by first | rfl | (simp; done) | (simp; omega), (by repeat (first | assumption | exact Ex.refl _ | refine Ex.trans ?_ (by assumption)))⟩
    by_cases c5 : 1000 < p
    · have HP := Lib.hid True.intro
      clear hok
      go_enter Try.func3, Try.ntmps3
      go_wp2_with (first
        | (go_at_call 8; (with_reducible refine (HO.out _).mono ?_); rintro e w1 ⟨rfl, hw1⟩)
        | (go_at_call 9; (with_reducible refine (HM.out _).mono ?_); rintro e w2 ⟨rfl, hw2⟩)
        | (go_at_call 10; (with_reducible refine (HT.out _).mono ?_); rintro e w3 ⟨rfl, hw3⟩)
        | (go_at_call 11; (with_reducible refine (HC.out _).mono ?_); rintro e w4 ⟨rfl, hw4⟩)
        | (go_at_call 12; (with_reducible refine (HP.out _).mono ?_); rintro e w5 ⟨rfl, hw5⟩)
        | (go_at_call 13; (with_reducible refine (HCM.out _).mono ?_); rintro e w6 ⟨rfl, hw6⟩)
        | (go_at_call 14; (with_reducible refine (HON.out _ _ rfl).mono ?_); rintro e w7 ⟨rfl, hw7⟩; clear HON)
        | (go_at_call 14; (with_reducible refine (HOK.out _ _ rfl).mono ?_); rintro e w8 ⟨rfl, hw8⟩; clear HOK)
        | (go_at_call 14; (with_reducible refine (HOM.out _ _ (by omega)).mono ?_); rintro e w9 ⟨rfl, hw9⟩))
      all_goals go_ret
      all_goals exact ⟨by first | rfl | (simp; done) | (simp; omega), (by repeat (first | assumption | exact Ex.refl _ | refine Ex.trans ?_ (by assumption)))⟩
    have hb := pb_no (n := p) (fun hp => hok ⟨by omega, by omega, by omega, by omega, by omega, hp⟩)
    have HP := Lib.hid fun w => refPrime_ok p w (by omega)
    rw [hb] at HP
    clear hok hb
    go_enter Try.func3, Try.ntmps3
    go_wp2_with (first
      | (go_at_call 8; (with_reducible refine (HO.out _).mono ?_); rintro e w1 ⟨rfl, hw1⟩)
      | (go_at_call 9; (with_reducible refine (HM.out _).mono ?_); rintro e w2 ⟨rfl, hw2⟩)
      | (go_at_call 10; (with_reducible refine (HT.out _).mono ?_); rintro e w3 ⟨rfl, hw3⟩)
      | (go_at_call 11; (with_reducible refine (HC.out _).mono ?_); rintro e w4 ⟨rfl, hw4⟩)
      | (go_at_call 12; (with_reducible refine (HP.out _).mono ?_); rintro e w5 ⟨rfl, hw5⟩)
      | (go_at_call 13; (with_reducible refine (HCM.out _).mono ?_); rintro e w6 ⟨rfl, hw6⟩)
      | (go_at_call 14; (with_reducible refine (HON.out _ _ rfl).mono ?_); rintro e w7 ⟨rfl, hw7⟩; clear HON)
      | (go_at_call 14; (with_reducible refine (HOK.out _ _ rfl).mono ?_); rintro e w8 ⟨rfl, hw8⟩; clear HOK)
      | (go_at_call 14; (with_reducible refine (HOM.out _ _ (by omega)).mono ?_); rintro e w9 ⟨rfl, hw9⟩))
    all_goals go_ret
    all_goals exact ⟨by first | rfl | (simp; done) | (simp; omega), (by repeat (first | assumption | exact Ex.refl _ | refine Ex.trans ?_ (by assumption)))⟩

theorem binomSays_walk (n k p : Int) (w : World) (_ : I64 n) (_ : I64 k) (_ : I64 p) : Calls Try.prog 3 #[.int .i64 n, .int .i64 k, .int .i64 p] w (Says (.bool true) w) := by
  by_cases h : n < 0
  · exact binomSays_no n k p w h
  · by_cases h2 : 60 < n
    · exact binomSays_high n k p w h2
    · exact binomSays_low n k p w (by omega) (by omega)

end Go.Proofs.Ytjgkpfkiflhkaaa
