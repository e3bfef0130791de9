/-
  FieldLogs, FieldSays, walked.
-/
import Derived.Test.YtpfkhodiegkigaaGfLaws
namespace Go.Proofs.Ytpfkhodiegkigaa
open Go.RowKit
open Gf

theorem logH (a l : Nat) (ha : a < 256) (h0 : a ≠ 0) (hl : l < 255) (h1 : gp 2 l = a) : Hid (∀ w, Calls Try.prog 11 #[.int .u8 (a : Int)] w (Says (.tuple #[.int .i64 (l : Int), .int .i64 0]) w)) := Lib.hid fun w =>
  flog_ok a l w ha h0 hl h1 fun m hm h => by
    have := two_apart (by omega) hl (h.trans h1.symm)
    omega
theorem log4H : Hid (∀ w, Calls Try.prog 11 #[.int .u8 4] w (Says (.tuple #[.int .i64 2, .int .i64 0]) w)) := logH 4 2 (by decide) (by decide) (by decide) (by decide)
theorem log0H : Hid (∀ w, Calls Try.prog 11 #[.int .u8 0] w (Says (.tuple #[.int .i64 0, .int .i64 5]) w)) := Lib.hid flog_no

set_option maxRecDepth 100000 in
set_option maxHeartbeats 2000000 in
theorem fieldLogs_walk (a b : Int) (w : World) (ha0 : 0 ≤ a ∧ a ≤ 255) (hb0 : 0 ≤ b ∧ b ≤ 255) : Calls Try.prog 7 #[.int .u8 a, .int .u8 b] w (Says (.bool true) w) := by
  obtain ⟨a, ha, rfl⟩ := byte_of ha0
  obtain ⟨b, hb, rfl⟩ := byte_of hb0
  have HF := Lib.hid fields_yes
  have H4 := log4H
  clear ha0 hb0
  by_cases h0 : a = 0
  · subst h0
    have L1 := log0H
    have L3 := log0H
    have M1 : Hid (∀ w, Calls Try.prog 12 #[.int .u8 0, .int .u8 (b : Int)] w (Says (.int .u8 0) w)) := mulH 0 b 0 (by decide) hb (zero_gm b)
    by_cases h1 : b = 0
    · subst h1
      have L2 := log0H
      show Calls _ _ #[.int .u8 0, .int .u8 0] w _
      have M1 : Hid (∀ w, Calls Try.prog 12 #[.int .u8 0, .int .u8 0] w (Says (.int .u8 0) w)) := M1
      go_enter Try.func7, Try.ntmps7
      go_wp2_with (first
        | (go_at_call 11; (with_reducible refine (H4.out _).mono ?_); rintro e w0 ⟨rfl, hw0⟩; clear H4)
        | (go_at_call 16; (with_reducible refine (HF.out _).mono ?_); rintro e w1 ⟨rfl, hw1⟩; clear HF)
        | (go_at_call 11; (with_reducible refine (L1.out _).mono ?_); rintro e w2 ⟨rfl, hw2⟩; clear L1)
        | (go_at_call 11; (with_reducible refine (L2.out _).mono ?_); rintro e w3 ⟨rfl, hw3⟩; clear L2)
        | (go_at_call 12; (with_reducible refine (M1.out _).mono ?_); rintro e w4 ⟨rfl, hw4⟩; clear M1)
        | (go_at_call 11; (with_reducible refine (L3.out _).mono ?_); rintro e w5 ⟨rfl, hw5⟩; clear L3)
        | fail)
      go_ret
      exact ⟨rfl, (by repeat (first | assumption | exact Ex.refl _ | refine Ex.trans ?_ (by assumption)))⟩
    · obtain ⟨l, l1, l2, _⟩ := log_some hb h1
      have L2 := logH b l hb h1 l1 l2
      have z1 : ((b : Int) == 0) = false := by simp [h1]
      have y1 : ((b : Int) != 0) = true := by simp; omega
      show Calls _ _ #[.int .u8 0, .int .u8 b] w _
      clear h1 l2
      go_enter Try.func7, Try.ntmps7
      go_wp2_with (first
        | (go_at_call 11; (with_reducible refine (H4.out _).mono ?_); rintro e w0 ⟨rfl, hw0⟩; clear H4)
        | (go_at_call 16; (with_reducible refine (HF.out _).mono ?_); rintro e w1 ⟨rfl, hw1⟩; clear HF)
        | (go_at_call 11; (with_reducible refine (L1.out _).mono ?_); rintro e w2 ⟨rfl, hw2⟩; clear L1)
        | (go_at_call 11; (with_reducible refine (L2.out _).mono ?_); rintro e w3 ⟨rfl, hw3⟩; clear L2)
        | (go_at_call 12; (with_reducible refine (M1.out _).mono ?_); rintro e w4 ⟨rfl, hw4⟩; clear M1)
        | (go_at_call 11; (with_reducible refine (L3.out _).mono ?_); rintro e w5 ⟨rfl, hw5⟩; clear L3)
        | fail)
      go_ret
      exact ⟨rfl, (by repeat (first | assumption | exact Ex.refl _ | refine Ex.trans ?_ (by assumption)))⟩
  · obtain ⟨k, k1, k2, _⟩ := log_some ha h0
    have L1 := logH a k ha h0 k1 k2
    have z1 : ((a : Int) == 0) = false := by simp [h0]
    have y1 : ((a : Int) != 0) = true := by simp; omega
    by_cases h1 : b = 0
    · subst h1
      have L2 := log0H
      have L3 := log0H
      have M1 : Hid (∀ w, Calls Try.prog 12 #[.int .u8 (a : Int), .int .u8 0] w (Says (.int .u8 0) w)) := mulH a 0 0 ha (by decide) (gm_zero a)
      show Calls _ _ #[.int .u8 a, .int .u8 0] w _
      clear h0 k2
      go_enter Try.func7, Try.ntmps7
      go_wp2_with (first
        | (go_at_call 11; (with_reducible refine (H4.out _).mono ?_); rintro e w0 ⟨rfl, hw0⟩; clear H4)
        | (go_at_call 16; (with_reducible refine (HF.out _).mono ?_); rintro e w1 ⟨rfl, hw1⟩; clear HF)
        | (go_at_call 11; (with_reducible refine (L1.out _).mono ?_); rintro e w2 ⟨rfl, hw2⟩; clear L1)
        | (go_at_call 11; (with_reducible refine (L2.out _).mono ?_); rintro e w3 ⟨rfl, hw3⟩; clear L2)
        | (go_at_call 12; (with_reducible refine (M1.out _).mono ?_); rintro e w4 ⟨rfl, hw4⟩; clear M1)
        | (go_at_call 11; (with_reducible refine (L3.out _).mono ?_); rintro e w5 ⟨rfl, hw5⟩; clear L3)
        | fail)
      go_ret
      exact ⟨rfl, (by repeat (first | assumption | exact Ex.refl _ | refine Ex.trans ?_ (by assumption)))⟩
    · obtain ⟨l, l1, l2, _⟩ := log_some hb h1
      have L2 := logH b l hb h1 l1 l2
      have z2 : ((b : Int) == 0) = false := by simp [h1]
      obtain ⟨P, hP⟩ : ∃ P, gm a b = P := ⟨_, rfl⟩
      have P9 : P < 256 := by rw [← hP]; exact gm_lt ha
      have P0 : P ≠ 0 := fun h => by rcases gm_none ha hb (hP.trans h) with h | h <;> contradiction
      obtain ⟨m, m1, m2, _⟩ := log_some P9 P0
      have M1 := mulH a b P ha hb hP
      have L3 := logH P m P9 P0 m1 m2
      have hm : ((k : Int) + (l : Int)) % 255 = (m : Int) := by
        have := log_times k2 l2 m1 (m2.trans hP.symm)
        omega
      clear h0 h1 k2 l2 m2 P0 hP
      go_enter Try.func7, Try.ntmps7
      go_wp2_with (first
        | (go_at_call 11; (with_reducible refine (H4.out _).mono ?_); rintro e w0 ⟨rfl, hw0⟩; clear H4)
        | (go_at_call 16; (with_reducible refine (HF.out _).mono ?_); rintro e w1 ⟨rfl, hw1⟩; clear HF)
        | (go_at_call 11; (with_reducible refine (L1.out _).mono ?_); rintro e w2 ⟨rfl, hw2⟩; clear L1)
        | (go_at_call 11; (with_reducible refine (L2.out _).mono ?_); rintro e w3 ⟨rfl, hw3⟩; clear L2)
        | (go_at_call 12; (with_reducible refine (M1.out _).mono ?_); rintro e w4 ⟨rfl, hw4⟩; clear M1)
        | (go_at_call 11; (with_reducible refine (L3.out _).mono ?_); rintro e w5 ⟨rfl, hw5⟩; clear L3)
        | fail)
      go_ret
      exact ⟨rfl, (by repeat (first | assumption | exact Ex.refl _ | refine Ex.trans ?_ (by assumption)))⟩

set_option maxRecDepth 100000 in
set_option maxHeartbeats 2000000 in
theorem fieldSays_walk (a b n : Int) (w : World) (ha0 : 0 ≤ a ∧ a ≤ 255) (hb0 : 0 ≤ b ∧ b ≤ 255) (hn0 : I64 n) : Calls Try.prog 3 #[.int .u8 a, .int .u8 b, .int .i64 n] w (Says (.bool true) w) := by
  obtain ⟨a, ha, rfl⟩ := byte_of ha0
  obtain ⟨b, hb, rfl⟩ := byte_of hb0
  obtain ⟨hn1, hn2⟩ := hn0
  obtain ⟨P, hP⟩ : ∃ P, gm a b = P := ⟨_, rfl⟩
  have P9 : P < 256 := by rw [← hP]; exact gm_lt ha
  have H4 := mulH a b P ha hb hP
  have H5 : Hid (∀ w, Calls Try.prog 13 #[.int .u8 (a : Int), .int .u8 (b : Int)] w (Says (.int .u8 (P : Int)) w)) := Lib.hid fun w => by
    rw [← hP]
    exact times_any a b w ha hb
  clear hP ha0 hb0
  by_cases hn : n < 0
  · have H1 : Hid (∀ w, Calls Try.prog 9 #[.int .u8 (a : Int), .int .i64 n] w (Says (.tuple #[.int .u8 0, .int .i64 1]) w)) := Lib.hid fun w => fpow_no a n w hn
    by_cases h0 : a = 0
    · subst h0
      have H2 : Hid (∀ w, Calls Try.prog 10 #[.int .u8 0] w (Says (.tuple #[.int .u8 0, .int .i64 5]) w)) := Lib.hid finv_no
      have H3 := log0H
      have H4 : Hid (∀ w, Calls Try.prog 12 #[.int .u8 0, .int .u8 (b : Int)] w (Says (.int .u8 (P : Int)) w)) := H4
      have H5 : Hid (∀ w, Calls Try.prog 13 #[.int .u8 0, .int .u8 (b : Int)] w (Says (.int .u8 (P : Int)) w)) := H5
      have H1 : Hid (∀ w, Calls Try.prog 9 #[.int .u8 0, .int .i64 n] w (Says (.tuple #[.int .u8 0, .int .i64 1]) w)) := H1
      show Calls _ _ #[.int .u8 0, .int .u8 b, .int .i64 n] w _
      go_enter Try.func3, Try.ntmps3
      go_wp2_with (first
        | (go_at_call 9; (with_reducible refine (H1.out _).mono ?_); rintro e w1 ⟨rfl, hw1⟩; clear H1)
        | (go_at_call 10; (with_reducible refine (H2.out _).mono ?_); rintro e w2 ⟨rfl, hw2⟩; clear H2)
        | (go_at_call 11; (with_reducible refine (H3.out _).mono ?_); rintro e w3 ⟨rfl, hw3⟩; clear H3)
        | (go_at_call 12; (with_reducible refine (H4.out _).mono ?_); rintro e w4 ⟨rfl, hw4⟩; clear H4)
        | (go_at_call 13; (with_reducible refine (H5.out _).mono ?_); rintro e w5 ⟨rfl, hw5⟩; clear H5)
        | (go_at_call 14; (with_reducible refine (H6.out _).mono ?_); rintro e w6 ⟨rfl, hw6⟩; clear H6)
        | (go_at_call 15; (with_reducible refine (H7.out _).mono ?_); rintro e w7 ⟨rfl, hw7⟩; clear H7)
        | (go_at_call 14; (with_reducible refine (H8.out _).mono ?_); rintro e w8 ⟨rfl, hw8⟩; clear H8)
        | fail)
      go_ret
      exact ⟨rfl, (by repeat (first | assumption | exact Ex.refl _ | refine Ex.trans ?_ (by assumption)))⟩
    · obtain ⟨k, k1, k2, _⟩ := log_some ha h0
      obtain ⟨Y, hY⟩ : ∃ Y, gi a = Y := ⟨_, rfl⟩
      have Y9 : Y < 256 := by rw [← hY]; exact gi_lt ha
      have H2 := invH a Y ha h0 hY
      have H3 := logH a k ha h0 k1 k2
      have H7 : Hid (∀ w, Calls Try.prog 15 #[.int .u8 (a : Int)] w (Says (.int .u8 (Y : Int)) w)) := Lib.hid fun w => by
        rw [← hY]
        exact undo_any a w ha
      have H8 : Hid (∀ w, Calls Try.prog 14 #[.int .u8 2, .int .i64 (k : Int)] w (Says (.int .u8 (a : Int)) w)) := Lib.hid fun w => by
        have := rpower_any 2 k w (by decide) (by omega)
        rw [k2] at this
        exact this
      have z1 : ((a : Int) == 0) = false := by simp [h0]
      clear h0 k2 hY
      go_enter Try.func3, Try.ntmps3
      go_wp2_with (first
        | (go_at_call 9; (with_reducible refine (H1.out _).mono ?_); rintro e w1 ⟨rfl, hw1⟩; clear H1)
        | (go_at_call 10; (with_reducible refine (H2.out _).mono ?_); rintro e w2 ⟨rfl, hw2⟩; clear H2)
        | (go_at_call 11; (with_reducible refine (H3.out _).mono ?_); rintro e w3 ⟨rfl, hw3⟩; clear H3)
        | (go_at_call 12; (with_reducible refine (H4.out _).mono ?_); rintro e w4 ⟨rfl, hw4⟩; clear H4)
        | (go_at_call 13; (with_reducible refine (H5.out _).mono ?_); rintro e w5 ⟨rfl, hw5⟩; clear H5)
        | (go_at_call 14; (with_reducible refine (H6.out _).mono ?_); rintro e w6 ⟨rfl, hw6⟩; clear H6)
        | (go_at_call 15; (with_reducible refine (H7.out _).mono ?_); rintro e w7 ⟨rfl, hw7⟩; clear H7)
        | (go_at_call 14; (with_reducible refine (H8.out _).mono ?_); rintro e w8 ⟨rfl, hw8⟩; clear H8)
        | fail)
      go_ret
      exact ⟨rfl, (by repeat (first | assumption | exact Ex.refl _ | refine Ex.trans ?_ (by assumption)))⟩
  · obtain ⟨m, rfl⟩ : ∃ m : Nat, n = (m : Int) := ⟨n.toNat, by omega⟩
    obtain ⟨V, hV⟩ : ∃ V, gp a m = V := ⟨_, rfl⟩
    have V9 : V < 256 := by rw [← hV]; exact gp_lt m
    have H1 := powH a m V ha (by omega) hV
    have H6 : Hid (∀ w, Calls Try.prog 14 #[.int .u8 (a : Int), .int .i64 (m : Int)] w (Says (.int .u8 (V : Int)) w)) := Lib.hid fun w => by
      rw [← hV]
      exact rpower_any a m w ha (by omega)
    clear hV
    by_cases h0 : a = 0
    · subst h0
      have H2 : Hid (∀ w, Calls Try.prog 10 #[.int .u8 0] w (Says (.tuple #[.int .u8 0, .int .i64 5]) w)) := Lib.hid finv_no
      have H3 := log0H
      have H4 : Hid (∀ w, Calls Try.prog 12 #[.int .u8 0, .int .u8 (b : Int)] w (Says (.int .u8 (P : Int)) w)) := H4
      have H5 : Hid (∀ w, Calls Try.prog 13 #[.int .u8 0, .int .u8 (b : Int)] w (Says (.int .u8 (P : Int)) w)) := H5
      have H1 : Hid (∀ w, Calls Try.prog 9 #[.int .u8 0, .int .i64 (m : Int)] w (Says (.tuple #[.int .u8 (V : Int), .int .i64 0]) w)) := H1
      have H6 : Hid (∀ w, Calls Try.prog 14 #[.int .u8 0, .int .i64 (m : Int)] w (Says (.int .u8 (V : Int)) w)) := H6
      show Calls _ _ #[.int .u8 0, .int .u8 b, .int .i64 m] w _
      go_enter Try.func3, Try.ntmps3
      go_wp2_with (first
        | (go_at_call 9; (with_reducible refine (H1.out _).mono ?_); rintro e w1 ⟨rfl, hw1⟩; clear H1)
        | (go_at_call 10; (with_reducible refine (H2.out _).mono ?_); rintro e w2 ⟨rfl, hw2⟩; clear H2)
        | (go_at_call 11; (with_reducible refine (H3.out _).mono ?_); rintro e w3 ⟨rfl, hw3⟩; clear H3)
        | (go_at_call 12; (with_reducible refine (H4.out _).mono ?_); rintro e w4 ⟨rfl, hw4⟩; clear H4)
        | (go_at_call 13; (with_reducible refine (H5.out _).mono ?_); rintro e w5 ⟨rfl, hw5⟩; clear H5)
        | (go_at_call 14; (with_reducible refine (H6.out _).mono ?_); rintro e w6 ⟨rfl, hw6⟩; clear H6)
        | (go_at_call 15; (with_reducible refine (H7.out _).mono ?_); rintro e w7 ⟨rfl, hw7⟩; clear H7)
        | (go_at_call 14; (with_reducible refine (H8.out _).mono ?_); rintro e w8 ⟨rfl, hw8⟩; clear H8)
        | fail)
      go_ret
      exact ⟨rfl, (by repeat (first | assumption | exact Ex.refl _ | refine Ex.trans ?_ (by assumption)))⟩
    · obtain ⟨k, k1, k2, _⟩ := log_some ha h0
      obtain ⟨Y, hY⟩ : ∃ Y, gi a = Y := ⟨_, rfl⟩
      have Y9 : Y < 256 := by rw [← hY]; exact gi_lt ha
      have H2 := invH a Y ha h0 hY
      have H3 := logH a k ha h0 k1 k2
      have H7 : Hid (∀ w, Calls Try.prog 15 #[.int .u8 (a : Int)] w (Says (.int .u8 (Y : Int)) w)) := Lib.hid fun w => by
        rw [← hY]
        exact undo_any a w ha
      have H8 : Hid (∀ w, Calls Try.prog 14 #[.int .u8 2, .int .i64 (k : Int)] w (Says (.int .u8 (a : Int)) w)) := Lib.hid fun w => by
        have := rpower_any 2 k w (by decide) (by omega)
        rw [k2] at this
        exact this
      have z1 : ((a : Int) == 0) = false := by simp [h0]
      clear h0 k2 hY
      go_enter Try.func3, Try.ntmps3
      go_wp2_with (first
        | (go_at_call 9; (with_reducible refine (H1.out _).mono ?_); rintro e w1 ⟨rfl, hw1⟩; clear H1)
        | (go_at_call 10; (with_reducible refine (H2.out _).mono ?_); rintro e w2 ⟨rfl, hw2⟩; clear H2)
        | (go_at_call 11; (with_reducible refine (H3.out _).mono ?_); rintro e w3 ⟨rfl, hw3⟩; clear H3)
        | (go_at_call 12; (with_reducible refine (H4.out _).mono ?_); rintro e w4 ⟨rfl, hw4⟩; clear H4)
        | (go_at_call 13; (with_reducible refine (H5.out _).mono ?_); rintro e w5 ⟨rfl, hw5⟩; clear H5)
        | (go_at_call 14; (with_reducible refine (H6.out _).mono ?_); rintro e w6 ⟨rfl, hw6⟩; clear H6)
        | (go_at_call 15; (with_reducible refine (H7.out _).mono ?_); rintro e w7 ⟨rfl, hw7⟩; clear H7)
        | (go_at_call 14; (with_reducible refine (H8.out _).mono ?_); rintro e w8 ⟨rfl, hw8⟩; clear H8)
        | fail)
      go_ret
      exact ⟨rfl, (by repeat (first | assumption | exact Ex.refl _ | refine Ex.trans ?_ (by assumption)))⟩

end Go.Proofs.Ytpfkhodiegkigaa
