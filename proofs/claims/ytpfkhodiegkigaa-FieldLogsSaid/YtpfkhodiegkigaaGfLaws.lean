/-
  FieldLaws, FieldFermat, FieldTwice, FieldLogs, FieldSays, walked.
-/
import Derived.Test.YtpfkhodiegkigaaGfRefW
import Derived.Test.YtpfkhodiegkigaaGnu
import Derived.Test.YtpfkhodiegkigaaGro
namespace Go.Proofs.Ytpfkhodiegkigaa
open Go.RowKit
open Gf

theorem byte_of {a : Int} (h : 0 ≤ a ∧ a ≤ 255) : ∃ n : Nat, n < 256 ∧ a = (n : Int) := ⟨a.toNat, by omega, by omega⟩

/-- A call answers so at every world. -/
theorem mulH (a b v : Nat) (ha : a < 256) (hb : b < 256) (h : gm a b = v) : Hid (∀ w, Calls Try.prog 12 #[.int .u8 (a : Int), .int .u8 (b : Int)] w (Says (.int .u8 (v : Int)) w)) := Lib.hid fun w => by
  subst h
  exact fmul_any a b w ha hb
theorem powH (a n v : Nat) (ha : a < 256) (hn : n < 9223372036854775808) (h : gp a n = v) : Hid (∀ w, Calls Try.prog 9 #[.int .u8 (a : Int), .int .i64 (n : Int)] w (Says (.tuple #[.int .u8 (v : Int), .int .i64 0]) w)) := Lib.hid fun w => by
  subst h
  exact fpow_ok a n w ha hn
theorem invH (a v : Nat) (ha : a < 256) (h0 : a ≠ 0) (h : gi a = v) : Hid (∀ w, Calls Try.prog 10 #[.int .u8 (a : Int)] w (Says (.tuple #[.int .u8 (v : Int), .int .i64 0]) w)) := Lib.hid fun w => by
  subst h
  exact finv_ok a w ha h0

set_option maxRecDepth 100000 in
set_option maxHeartbeats 2000000 in
theorem fieldLaws_walk (a b c : Int) (w : World) (ha0 : 0 ≤ a ∧ a ≤ 255) (hb0 : 0 ≤ b ∧ b ≤ 255) (hc0 : 0 ≤ c ∧ c ≤ 255) : Calls Try.prog 4 #[.int .u8 a, .int .u8 b, .int .u8 c] w (Says (.bool true) w) := by
  obtain ⟨a, ha, rfl⟩ := byte_of ha0
  obtain ⟨b, hb, rfl⟩ := byte_of hb0
  obtain ⟨c, hc, rfl⟩ := byte_of hc0
  obtain ⟨P, hP⟩ : ∃ P, gm a b = P := ⟨_, rfl⟩
  obtain ⟨Q, hQ⟩ : ∃ Q, gm b c = Q := ⟨_, rfl⟩
  obtain ⟨R, hR⟩ : ∃ R, gm P c = R := ⟨_, rfl⟩
  obtain ⟨T, hT⟩ : ∃ T, gm a c = T := ⟨_, rfl⟩
  obtain ⟨Z, hZ⟩ : ∃ Z, P ^^^ T = Z := ⟨_, rfl⟩
  obtain ⟨Y, hY⟩ : ∃ Y, b ^^^ c = Y := ⟨_, rfl⟩
  have P9 : P < 256 := by rw [← hP]; exact gm_lt ha
  have Q9 : Q < 256 := by rw [← hQ]; exact gm_lt hb
  have T9 : T < 256 := by rw [← hT]; exact gm_lt ha
  have Y9 : Y < 256 := by rw [← hY]; exact xor_lt hb hc
  have HF := Lib.hid fields_yes
  have M1 := mulH a b P ha hb hP
  have M2 := mulH b a P hb ha (by rw [gm_comm hb ha, hP])
  have M3 := mulH a b P ha hb hP
  have M4 := mulH P c R P9 hc hR
  have M5 := mulH b c Q hb hc hQ
  have M6 := mulH a Q R ha Q9 (by rw [← hQ, ← gm_assoc ha hb hc, hP, hR])
  have M7 := mulH a Y Z ha Y9 (by rw [← hY, gm_add, hP, hT, hZ])
  have M8 := mulH a b P ha hb hP
  have M9 := mulH a c T ha hc hT
  have M10 : Hid (∀ w, Calls Try.prog 12 #[.int .u8 (a : Int), .int .u8 1] w (Says (.int .u8 (a : Int)) w)) := mulH a 1 a ha (by omega) (gm_one a)
  have M11 := mulH a b P ha hb hP
  have X1 := xor_u8_nat b c hb hc
  rw [hY] at X1
  have X2 := xor_u8_nat P T P9 T9
  rw [hZ] at X2
  have hz : (a = 0 ∧ P = 0) ∨ (a ≠ 0 ∧ b = 0 ∧ P = 0) ∨ (a ≠ 0 ∧ b ≠ 0 ∧ P ≠ 0) := by
    by_cases h1 : a = 0
    · exact .inl ⟨h1, by rw [← hP, h1, zero_gm]⟩
    · by_cases h2 : b = 0
      · exact .inr (.inl ⟨h1, h2, by rw [← hP, h2, gm_zero]⟩)
      · exact .inr (.inr ⟨h1, h2, fun h => by rcases gm_none ha hb (hP.trans h) with h | h <;> contradiction⟩)
  clear hP hQ hR hT hZ hY
  rcases hz with ⟨h1, h2⟩ | ⟨h1, h2, h3⟩ | ⟨h1, h2, h3⟩
  · have z1 : ((a : Int) == 0) = true := by simp [h1]
    have z2 : ((P : Int) == 0) = true := by simp [h2]
    clear h1 h2
    go_enter Try.func4, Try.ntmps4
    go_wp2_with (first
      | (go_at_call 16; (with_reducible refine (HF.out _).mono ?_); rintro e w0 ⟨rfl, hw0⟩)
      | (go_at_call 12; (with_reducible refine (M1.out _).mono ?_); rintro e w1 ⟨rfl, hw1⟩; clear M1)
      | (go_at_call 12; (with_reducible refine (M2.out _).mono ?_); rintro e w2 ⟨rfl, hw2⟩; clear M2)
      | (go_at_call 12; (with_reducible refine (M3.out _).mono ?_); rintro e w3 ⟨rfl, hw3⟩; clear M3)
      | (go_at_call 12; (with_reducible refine (M4.out _).mono ?_); rintro e w4 ⟨rfl, hw4⟩; clear M4)
      | (go_at_call 12; (with_reducible refine (M5.out _).mono ?_); rintro e w5 ⟨rfl, hw5⟩; clear M5)
      | (go_at_call 12; (with_reducible refine (M6.out _).mono ?_); rintro e w6 ⟨rfl, hw6⟩; clear M6)
      | (go_at_call 12; (with_reducible refine (M7.out _).mono ?_); rintro e w7 ⟨rfl, hw7⟩; clear M7)
      | (go_at_call 12; (with_reducible refine (M8.out _).mono ?_); rintro e w8 ⟨rfl, hw8⟩; clear M8)
      | (go_at_call 12; (with_reducible refine (M9.out _).mono ?_); rintro e w9 ⟨rfl, hw9⟩; clear M9)
      | (go_at_call 12; (with_reducible refine (M10.out _).mono ?_); rintro e w10 ⟨rfl, hw10⟩; clear M10)
      | (go_at_call 12; (with_reducible refine (M11.out _).mono ?_); rintro e w11 ⟨rfl, hw11⟩; clear M11)
      | fail)
    go_ret
    exact ⟨rfl, (by repeat (first | assumption | exact Ex.refl _ | refine Ex.trans ?_ (by assumption)))⟩
  · have z1 : ((a : Int) == 0) = false := by simp [h1]
    have z2 : ((b : Int) == 0) = true := by simp [h2]
    have z3 : ((P : Int) == 0) = true := by simp [h3]
    clear h1 h2 h3
    go_enter Try.func4, Try.ntmps4
    go_wp2_with (first
      | (go_at_call 16; (with_reducible refine (HF.out _).mono ?_); rintro e w0 ⟨rfl, hw0⟩)
      | (go_at_call 12; (with_reducible refine (M1.out _).mono ?_); rintro e w1 ⟨rfl, hw1⟩; clear M1)
      | (go_at_call 12; (with_reducible refine (M2.out _).mono ?_); rintro e w2 ⟨rfl, hw2⟩; clear M2)
      | (go_at_call 12; (with_reducible refine (M3.out _).mono ?_); rintro e w3 ⟨rfl, hw3⟩; clear M3)
      | (go_at_call 12; (with_reducible refine (M4.out _).mono ?_); rintro e w4 ⟨rfl, hw4⟩; clear M4)
      | (go_at_call 12; (with_reducible refine (M5.out _).mono ?_); rintro e w5 ⟨rfl, hw5⟩; clear M5)
      | (go_at_call 12; (with_reducible refine (M6.out _).mono ?_); rintro e w6 ⟨rfl, hw6⟩; clear M6)
      | (go_at_call 12; (with_reducible refine (M7.out _).mono ?_); rintro e w7 ⟨rfl, hw7⟩; clear M7)
      | (go_at_call 12; (with_reducible refine (M8.out _).mono ?_); rintro e w8 ⟨rfl, hw8⟩; clear M8)
      | (go_at_call 12; (with_reducible refine (M9.out _).mono ?_); rintro e w9 ⟨rfl, hw9⟩; clear M9)
      | (go_at_call 12; (with_reducible refine (M10.out _).mono ?_); rintro e w10 ⟨rfl, hw10⟩; clear M10)
      | (go_at_call 12; (with_reducible refine (M11.out _).mono ?_); rintro e w11 ⟨rfl, hw11⟩; clear M11)
      | fail)
    go_ret
    exact ⟨rfl, (by repeat (first | assumption | exact Ex.refl _ | refine Ex.trans ?_ (by assumption)))⟩
  · have z1 : ((a : Int) == 0) = false := by simp [h1]
    have z2 : ((b : Int) == 0) = false := by simp [h2]
    have z3 : ((P : Int) == 0) = false := by simp [h3]
    clear h1 h2 h3
    go_enter Try.func4, Try.ntmps4
    go_wp2_with (first
      | (go_at_call 16; (with_reducible refine (HF.out _).mono ?_); rintro e w0 ⟨rfl, hw0⟩)
      | (go_at_call 12; (with_reducible refine (M1.out _).mono ?_); rintro e w1 ⟨rfl, hw1⟩; clear M1)
      | (go_at_call 12; (with_reducible refine (M2.out _).mono ?_); rintro e w2 ⟨rfl, hw2⟩; clear M2)
      | (go_at_call 12; (with_reducible refine (M3.out _).mono ?_); rintro e w3 ⟨rfl, hw3⟩; clear M3)
      | (go_at_call 12; (with_reducible refine (M4.out _).mono ?_); rintro e w4 ⟨rfl, hw4⟩; clear M4)
      | (go_at_call 12; (with_reducible refine (M5.out _).mono ?_); rintro e w5 ⟨rfl, hw5⟩; clear M5)
      | (go_at_call 12; (with_reducible refine (M6.out _).mono ?_); rintro e w6 ⟨rfl, hw6⟩; clear M6)
      | (go_at_call 12; (with_reducible refine (M7.out _).mono ?_); rintro e w7 ⟨rfl, hw7⟩; clear M7)
      | (go_at_call 12; (with_reducible refine (M8.out _).mono ?_); rintro e w8 ⟨rfl, hw8⟩; clear M8)
      | (go_at_call 12; (with_reducible refine (M9.out _).mono ?_); rintro e w9 ⟨rfl, hw9⟩; clear M9)
      | (go_at_call 12; (with_reducible refine (M10.out _).mono ?_); rintro e w10 ⟨rfl, hw10⟩; clear M10)
      | (go_at_call 12; (with_reducible refine (M11.out _).mono ?_); rintro e w11 ⟨rfl, hw11⟩; clear M11)
      | fail)
    go_ret
    exact ⟨rfl, (by repeat (first | assumption | exact Ex.refl _ | refine Ex.trans ?_ (by assumption)))⟩

theorem gp_two {a : Nat} (ha : a < 256) : gp a 2 = gm a a := by rw [show 2 = 1 + 1 from rfl, gp_add ha, gp_one ha]
theorem gp_256 {a : Nat} (ha : a < 256) : gp a 256 = a := by
  show gm (gp a 255) a = a
  by_cases h : a = 0
  · rw [h, gm_zero]
  · rw [gp_all ha h, gm_comm (by decide) ha, gm_one]
theorem gi_gi {a : Nat} (ha : a < 256) (h0 : a ≠ 0) : gi (gi a) = a := (gi_uniq (gi_lt ha) ha (by rw [gm_comm (gi_lt ha) ha, gi_inv ha h0])).symm
theorem gi_not {a : Nat} (ha : a < 256) (h0 : a ≠ 0) : gi a ≠ 0 := fun h => by
  have := gi_inv ha h0
  rw [h, gm_zero] at this
  cases this
theorem zero_pow {n : Nat} (h : n ≠ 0) : gp 0 n = 0 := by
  obtain ⟨m, rfl⟩ : ∃ m, n = m + 1 := ⟨n - 1, by omega⟩
  exact gm_zero _

set_option maxRecDepth 100000 in
set_option maxHeartbeats 2000000 in
theorem fieldTwice_walk (a b : Int) (w : World) (ha0 : 0 ≤ a ∧ a ≤ 255) (hb0 : 0 ≤ b ∧ b ≤ 255) : Calls Try.prog 6 #[.int .u8 a, .int .u8 b] w (Says (.bool true) w) := by
  obtain ⟨a, ha, rfl⟩ := byte_of ha0
  obtain ⟨b, hb, rfl⟩ := byte_of hb0
  obtain ⟨P, hP⟩ : ∃ P, gp a 2 = P := ⟨_, rfl⟩
  obtain ⟨Q, hQ⟩ : ∃ Q, gp b 2 = Q := ⟨_, rfl⟩
  obtain ⟨Y, hY⟩ : ∃ Y, a ^^^ b = Y := ⟨_, rfl⟩
  obtain ⟨Z, hZ⟩ : ∃ Z, P ^^^ Q = Z := ⟨_, rfl⟩
  have P9 : P < 256 := by rw [← hP]; exact gp_lt 2
  have Q9 : Q < 256 := by rw [← hQ]; exact gp_lt 2
  have Y9 : Y < 256 := by rw [← hY]; exact xor_lt ha hb
  have HF := Lib.hid fields_yes
  have M1 : Hid (∀ w, Calls Try.prog 9 #[.int .u8 (a : Int), .int .i64 2] w (Says (.tuple #[.int .u8 (P : Int), .int .i64 0]) w)) := powH a 2 P ha (by decide) hP
  have M2 : Hid (∀ w, Calls Try.prog 9 #[.int .u8 (b : Int), .int .i64 2] w (Says (.tuple #[.int .u8 (Q : Int), .int .i64 0]) w)) := powH b 2 Q hb (by decide) hQ
  have M3 : Hid (∀ w, Calls Try.prog 9 #[.int .u8 (Y : Int), .int .i64 2] w (Says (.tuple #[.int .u8 (Z : Int), .int .i64 0]) w)) := powH Y 2 Z Y9 (by decide) (by rw [gp_two Y9, ← hY, gm_twice ha hb, ← gp_two ha, ← gp_two hb, hP, hQ, hZ])
  have M4 : Hid (∀ w, Calls Try.prog 9 #[.int .u8 (a : Int), .int .i64 256] w (Says (.tuple #[.int .u8 (a : Int), .int .i64 0]) w)) := powH a 256 a ha (by decide) (gp_256 ha)
  have X1 := xor_u8_nat a b ha hb
  rw [hY] at X1
  have X2 := xor_u8_nat P Q P9 Q9
  rw [hZ] at X2
  clear hP hQ hZ hY
  have HG := Lib.hid True.intro
  go_enter Try.func6, Try.ntmps6
  go_wp2_with (first
    | (go_at_call 16; (with_reducible refine (HF.out _).mono ?_); rintro e w0 ⟨rfl, hw0⟩; clear HF)
    | (go_at_call 9; (with_reducible refine (M1.out _).mono ?_); rintro e w1 ⟨rfl, hw1⟩; clear M1)
    | (go_at_call 9; (with_reducible refine (M2.out _).mono ?_); rintro e w2 ⟨rfl, hw2⟩; clear M2)
    | (go_at_call 9; (with_reducible refine (M3.out _).mono ?_); rintro e w3 ⟨rfl, hw3⟩; clear M3)
    | (go_at_call 9; (with_reducible refine (M4.out _).mono ?_); rintro e w4 ⟨rfl, hw4⟩; clear M4)
    | (go_at_call 18; clear HG; refine (good_zeros 4 (by omega) _ rfl _ _).mono ?_; rintro e w5 ⟨rfl, hw5⟩)
    | fail)
  go_ret
  exact ⟨rfl, (by repeat (first | assumption | exact Ex.refl _ | refine Ex.trans ?_ (by assumption)))⟩

set_option maxRecDepth 100000 in
set_option maxHeartbeats 2000000 in
theorem fieldFermat_walk (a n k : Int) (w : World) (ha0 : 0 ≤ a ∧ a ≤ 255) (hn0 : I64 n) (hk0 : I64 k) : Calls Try.prog 5 #[.int .u8 a, .int .i64 n, .int .i64 k] w (Says (.bool true) w) := by
  obtain ⟨a, ha, rfl⟩ := byte_of ha0
  obtain ⟨hn1, hn2⟩ := hn0
  obtain ⟨hk1, hk2⟩ := hk0
  obtain ⟨N, hN⟩ : ∃ N : Nat, n % 1073741824 = (N : Int) := ⟨(n % 1073741824).toNat, by omega⟩
  obtain ⟨K, hK⟩ : ∃ K : Nat, k % 1073741824 = (K : Int) := ⟨(k % 1073741824).toNat, by omega⟩
  have N9 : N < 1073741824 := by omega
  have K9 : K < 1073741824 := by omega
  have HF := Lib.hid fields_yes
  have HN := Lib.hid fun w => within_any n 1073741824 w (by omega) (by omega)
  have HK := Lib.hid fun w => within_any k 1073741824 w (by omega) (by omega)
  rw [hN] at HN
  rw [hK] at HK
  obtain ⟨U, hU⟩ : ∃ U, gp a N = U := ⟨_, rfl⟩
  obtain ⟨V, hV⟩ : ∃ V, gp a K = V := ⟨_, rfl⟩
  obtain ⟨W, hW⟩ : ∃ W, gm U V = W := ⟨_, rfl⟩
  have U9 : U < 256 := by rw [← hU]; exact gp_lt N
  have V9 : V < 256 := by rw [← hV]; exact gp_lt K
  have hNK : gp a (N + K) = W := by rw [gp_add ha, hU, hV, hW]
  have M6 := mulH U V W U9 V9 hW
  clear hn1 hn2 hk1 hk2 hN hK hW
  by_cases h0 : a = 0
  · subst h0
    have M1 : Hid (∀ w, Calls Try.prog 9 #[.int .u8 0, .int .i64 255] w (Says (.tuple #[.int .u8 0, .int .i64 0]) w)) := powH 0 255 0 (by decide) (by decide) (zero_pow (by decide))
    have M2 : Hid (∀ w, Calls Try.prog 10 #[.int .u8 0] w (Says (.tuple #[.int .u8 0, .int .i64 5]) w)) := Lib.hid finv_no
    have M3 : Hid (∀ w, Calls Try.prog 9 #[.int .u8 0, .int .i64 (N : Int)] w (Says (.tuple #[.int .u8 (U : Int), .int .i64 0]) w)) := powH 0 N U (by decide) (by omega) hU
    have M4 : Hid (∀ w, Calls Try.prog 9 #[.int .u8 0, .int .i64 (K : Int)] w (Says (.tuple #[.int .u8 (V : Int), .int .i64 0]) w)) := powH 0 K V (by decide) (by omega) hV
    have M5 : Hid (∀ w, Calls Try.prog 9 #[.int .u8 0, .int .i64 ((N : Int) + (K : Int))] w (Says (.tuple #[.int .u8 (W : Int), .int .i64 0]) w)) := powH 0 (N + K) W (by decide) (by omega) hNK
    clear hU hV hNK
    show Calls _ _ #[.int .u8 0, .int .i64 n, .int .i64 k] w _
    have HG := Lib.hid True.intro
    have HG2 := Lib.hid True.intro
    go_enter Try.func5, Try.ntmps5
    go_wp2_with (first
      | (go_at_call 16; (with_reducible refine (HF.out _).mono ?_); rintro e w0 ⟨rfl, hw0⟩; clear HF)
      | (go_at_call 17; (with_reducible refine (HN.out _).mono ?_); rintro e w1 ⟨rfl, rfl⟩; clear HN)
      | (go_at_call 17; (with_reducible refine (HK.out _).mono ?_); rintro e w2 ⟨rfl, rfl⟩; clear HK)
      | (go_at_call 9; (with_reducible refine (M1.out _).mono ?_); rintro e w3 ⟨rfl, hw3⟩; clear M1)
      | (go_at_call 10; (with_reducible refine (M2.out _).mono ?_); rintro e w4 ⟨rfl, hw4⟩; clear M2)
      | (go_at_call 9; (with_reducible refine (M3.out _).mono ?_); rintro e w5 ⟨rfl, hw5⟩; clear M3)
      | (go_at_call 9; (with_reducible refine (M4.out _).mono ?_); rintro e w6 ⟨rfl, hw6⟩; clear M4)
      | (go_at_call 9; (with_reducible refine (M5.out _).mono ?_); rintro e w7 ⟨rfl, hw7⟩; clear M5)
      | (go_at_call 18; clear HG; refine (good_zeros 4 (by omega) _ rfl _ _).mono ?_; rintro e w8 ⟨rfl, hw8⟩)
      | (go_at_call 12; (with_reducible refine (M6.out _).mono ?_); rintro e w9 ⟨rfl, hw9⟩; clear M6)
      | fail)
    go_ret
    exact ⟨rfl, (by repeat (first | assumption | exact Ex.refl _ | refine Ex.trans ?_ (by assumption)))⟩
  · obtain ⟨Y, hY⟩ : ∃ Y, gi a = Y := ⟨_, rfl⟩
    have Y9 : Y < 256 := by rw [← hY]; exact gi_lt ha
    have Y0 : Y ≠ 0 := by rw [← hY]; exact gi_not ha h0
    have M1 : Hid (∀ w, Calls Try.prog 9 #[.int .u8 (a : Int), .int .i64 255] w (Says (.tuple #[.int .u8 1, .int .i64 0]) w)) := powH a 255 1 ha (by decide) (gp_all ha h0)
    have M2 := invH a Y ha h0 hY
    have M3 := powH a N U ha (by omega) hU
    have M4 := powH a K V ha (by omega) hV
    have M5 : Hid (∀ w, Calls Try.prog 9 #[.int .u8 (a : Int), .int .i64 ((N : Int) + (K : Int))] w (Says (.tuple #[.int .u8 (W : Int), .int .i64 0]) w)) := powH a (N + K) W ha (by omega) hNK
    have M7 := invH Y a Y9 Y0 (by rw [← hY, gi_gi ha h0])
    have M8 : Hid (∀ w, Calls Try.prog 12 #[.int .u8 (a : Int), .int .u8 (Y : Int)] w (Says (.int .u8 1) w)) := mulH a Y 1 ha Y9 (by rw [← hY, gi_inv ha h0])
    have z1 : ((a : Int) == 0) = false := by simp [h0]
    clear hU hV hNK hY h0 Y0
    have HG := Lib.hid True.intro
    have HG2 := Lib.hid True.intro
    go_enter Try.func5, Try.ntmps5
    go_wp2_with (first
      | (go_at_call 16; (with_reducible refine (HF.out _).mono ?_); rintro e w0 ⟨rfl, hw0⟩; clear HF)
      | (go_at_call 17; (with_reducible refine (HN.out _).mono ?_); rintro e w1 ⟨rfl, rfl⟩; clear HN)
      | (go_at_call 17; (with_reducible refine (HK.out _).mono ?_); rintro e w2 ⟨rfl, rfl⟩; clear HK)
      | (go_at_call 9; (with_reducible refine (M1.out _).mono ?_); rintro e w3 ⟨rfl, hw3⟩; clear M1)
      | (go_at_call 10; (with_reducible refine (M2.out _).mono ?_); rintro e w4 ⟨rfl, hw4⟩; clear M2)
      | (go_at_call 9; (with_reducible refine (M3.out _).mono ?_); rintro e w5 ⟨rfl, hw5⟩; clear M3)
      | (go_at_call 9; (with_reducible refine (M4.out _).mono ?_); rintro e w6 ⟨rfl, hw6⟩; clear M4)
      | (go_at_call 9; (with_reducible refine (M5.out _).mono ?_); rintro e w7 ⟨rfl, hw7⟩; clear M5)
      | (go_at_call 18; clear HG; refine (good_zeros 4 (by omega) _ rfl _ _).mono ?_; rintro e w8 ⟨rfl, hw8⟩)
      | (go_at_call 12; (with_reducible refine (M6.out _).mono ?_); rintro e w9 ⟨rfl, hw9⟩; clear M6)
      | (go_at_call 10; (with_reducible refine (M7.out _).mono ?_); rintro e w10 ⟨rfl, hw10⟩; clear M7)
      | (go_at_call 18; clear HG2; refine (good_zeros 2 (by omega) _ rfl _ _).mono ?_; rintro e w11 ⟨rfl, hw11⟩)
      | (go_at_call 12; (with_reducible refine (M8.out _).mono ?_); rintro e w12 ⟨rfl, hw12⟩; clear M8)
      | fail)
    go_ret
    exact ⟨rfl, (by repeat (first | assumption | exact Ex.refl _ | refine Ex.trans ?_ (by assumption)))⟩

end Go.Proofs.Ytpfkhodiegkigaa
