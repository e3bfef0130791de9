/-
  TopFractions, by contracts.
-/
import Derived.Test.YthlnbomapfjphaaTpBase
import Derived.Test.YthlnbomapfjphaaTpFrM
import Derived.Test.YthlnbomapfjphaaFrSides
import Derived.Test.YthlnbomapfjphaaGnu
import Derived.Deep.CutRange
import Derived.Deep.DeepCutAuto
import Derived.BigQuiet
namespace Go.Proofs.Ythlnbomapfjphaa
open Go.RowKit
open Eu Rs Ch Fr

/-- Inverse's answer, fixed ahead of the walk. -/
theorem inverse_at {a m : Int} (h1 : 1 ≤ m) (h2 : m ≤ 1000000) (hg : G a m = 1) : ∃ X : Int, 0 ≤ X ∧ X < m ∧ X * a % m = 1 % m ∧ ∀ w, Calls Try.prog 34 #[.int .i64 a, .int .i64 m] w (Says (.tuple #[.int .i64 X, .int .i64 0]) w) := by
  obtain ⟨u, v, huv⟩ := bez m.toNat a
  have em : ((m.toNat : Nat) : Int) = m := by omega
  rw [em, hg] at huv
  have hu : u % m * a % m = 1 % m := by
    rw [mul_emod_left, ← huv, Int.add_mul_emod_self_right]
  refine ⟨u % m, Int.emod_nonneg _ (by omega), Int.emod_lt_of_pos _ (by omega), hu, fun w => ?_⟩
  refine (inverse_ok a m w h1 h2 hg).mono ?_
  rintro e w2 ⟨x, hx0, hx1, hx, rfl, hw⟩
  have e2 := inv_uniq (x := a) (Int.emod_nonneg u (by omega)) (Int.emod_lt_of_pos u (by omega)) hx0 hx1 (by rw [Int.mul_comm]; exact hu) hx.out
  exact ⟨by rw [e2], hw⟩

set_option maxRecDepth 100000 in
set_option maxHeartbeats 4000000 in
theorem topFractions_of (HP : RePutC) (p q most : Int) (w : World) (_ : I64 p) (_ : I64 q) (_ : I64 most) : Calls Try.prog 11 #[.int .i64 p, .int .i64 q, .int .i64 most] w (Says (.bool true) w) := by
  have HY := Lib.hid fun w => works_yes HP w
  obtain ⟨P, hP⟩ : ∃ P, p % 10000 = P := ⟨_, rfl⟩
  obtain ⟨Q, hQ⟩ : ∃ Q, 1 + q % 10000 = Q := ⟨_, rfl⟩
  obtain ⟨M, hM⟩ : ∃ M, 1 + most % 10000 = M := ⟨_, rfl⟩
  obtain ⟨P0, P1⟩ : 0 ≤ P ∧ P < 10000 := by omega
  obtain ⟨Q0, Q1⟩ : 1 ≤ Q ∧ Q ≤ 10000 := by omega
  obtain ⟨M0, M1⟩ : 1 ≤ M ∧ M ≤ 10000 := by omega
  have hok : OkFr P Q := ⟨Q0, by omega, P0, by omega⟩
  obtain ⟨g1, g2, g3, g4, g5, g6⟩ := low_div (P := P) Q0
  have HGC := Lib.hid fun w => gcd_ok P Q w (by omega) (by omega) (by omega) (by omega)
  have HST := Lib.hid fun w => steps_ok P Q w P0 (by omega) (by omega) (by omega)
  have hlen := cf_steps Q.toNat P Q rfl P0 (by omega)
  have hll := cf_len Q.toNat P Q rfl
  have hof : ∀ w, Calls Try.prog 45 #[.agg #[.int .i64 P, .int .i64 Q]] w (fun e w2 => ∃ a c, e = .returned (.tuple #[.slice a (cf P Q).length c, .int .i64 0]) ∧ Ex w w2) := fun w => by
    refine (frOf_ok P Q w hok).mono ?_
    rintro e w2 ⟨v, rfl, hR, hx⟩
    obtain ⟨a, c, rfl, _⟩ := hR.out.reads
    exact ⟨a, c, rfl, hx⟩
  rw [hlen] at hof hll
  obtain ⟨N, hN⟩ : ∃ N, St P.toNat Q.toNat = N := ⟨_, rfl⟩
  rw [hN] at hof HST hll
  have HOF := Lib.hid hof
  have hA0 : 0 ≤ P / G P Q := Int.ediv_nonneg P0 (by omega)
  have hA1 : P / G P Q ≤ P := Int.ediv_le_self _ P0
  have hB1 : Q / G P Q ≤ Q := Int.ediv_le_self _ (by omega)
  have hlt : ∀ a b c d, IsLow P Q M a b → IsHigh P Q M c d → Hid (∀ w, Calls Try.prog 47 #[.agg #[.int .i64 P, .int .i64 Q], .int .i64 M] w (Says (.tuple #[.agg #[.int .i64 a, .int .i64 b], .agg #[.int .i64 c, .int .i64 d], .int .i64 0]) w)) :=
    fun a b c d hl hh => Lib.hid fun w => near_at hok M0 (by omega) hl hh w
  obtain ⟨X, X0, X1, hX, hI⟩ := inverse_at (a := P / G P Q) (m := Q / G P Q) g2 (by omega) g4
  have hcase : (Q / G P Q ≤ M ∧ IsLow P Q M (P / G P Q) (Q / G P Q) ∧ IsHigh P Q M (P / G P Q) (Q / G P Q)) ∨ (M < Q / G P Q ∧ ∃ a b c d, IsLow P Q M a b ∧ IsHigh P Q M c d ∧ 1 ≤ b ∧ b ≤ M ∧ 1 ≤ d ∧ d ≤ M ∧ 0 ≤ a ∧ a ≤ 1000000000000 ∧ 0 ≤ c ∧ c ≤ 1000000000000 ∧ ¬ (a = c ∧ b = d) ∧ c * b - a * d = 1) := by
    by_cases hle : Q / G P Q ≤ M
    · exact .inl ⟨hle, near_self Q0 g2 hle g3 g4⟩
    · obtain ⟨a, b, c, d, hl, hh, l1, l2, r1, r2, a0, a1, c0, c1, _, _⟩ := near_some hok M0 (by omega)
      have hne := near_two Q0 hl hh (by omega)
      exact .inr ⟨by omega, a, b, c, d, hl, hh, l1, l2, r1, r2, a0, a1, c0, c1, hne, sides Q0 hl hh hne⟩
  obtain ⟨g, hg⟩ : ∃ g, G P Q = g := ⟨_, rfl⟩
  rw [hg] at g1 g2 g4 g5 g6 HGC hA0 hA1 hB1 hX hI X1 hcase
  have hgQ : g ≤ Q := by
    have : 1 * g ≤ Q / g * g := Int.mul_le_mul_of_nonneg_right g2 (by omega)
    omega
  obtain ⟨A, hA⟩ : ∃ A, P / g = A := ⟨_, rfl⟩
  obtain ⟨B, hB⟩ : ∃ B, Q / g = B := ⟨_, rfl⟩
  rw [hA] at hA0 hA1 hX hI hcase
  rw [hB] at hB1 g2 hX hI X1 hcase
  have HI := Lib.hid hI
  have HX := Lib.hid ((Ex.refl w).alloc (.cells #[.int .i64 P, .int .i64 Q] 75))
  have HT : Hid (Two 75 (w.alloc (.cells #[.int .i64 P, .int .i64 Q] 75)) w.heap.size P Q) := Lib.hid (Two.at rfl)
  have ca0 := HT.out.c0
  have ca1 := HT.out.c1
  have hmx : (if g < 1 then 1 else g) = g := by rw [if_neg (by omega)]
  clear hof hlen hN hok g3 g4 g5 g6 hg hI
  rcases hcase with ⟨hle, hl, hh⟩ | ⟨hgt, a, b, c, d, hl, hh, l1, l2, r1, r2, a0, a1, c0, c1, hne, hdet⟩
  · have HNR := hlt A B A B hl hh
    clear hlt hl hh
    go_enter Try.func11, Try.ntmps11
    go_upto_region 6 with (first
      | (go_at_call 32; (with_reducible refine (HY.out _).mono ?_); rintro e w0 ⟨rfl, hw0⟩)
      | (go_at_call 24; refine (within_any _ _ _ (by omega) (by omega)).mono ?_; rintro e w' ⟨rfl, rfl⟩)
      | (go_at_call 45; (with_reducible refine (HOF.out _).mono ?_); rintro e w1 ⟨l1, c1, rfl, hw1⟩
         have HX1 := Lib.hid (HX.out.trans hw1)
         have HT1 := Lib.hid (HT.out.ex hw1)
         clear ca0 ca1
         have ca0 := HT1.out.c0
         have ca1 := HT1.out.c1)
      | (go_at_call 46; (with_reducible refine (HST.out _).mono ?_); rintro e w2 ⟨rfl, hw2⟩
         have HX2 := Lib.hid (HX1.out.trans hw2)
         have HT2 := Lib.hid (HT1.out.ex hw2)
         clear ca0 ca1
         have ca0 := HT2.out.c0
         have ca1 := HT2.out.c1)
      | (go_at_call 47; (with_reducible refine (HNR.out _).mono ?_); rintro e w3 ⟨rfl, hw3⟩
         have HX3 := Lib.hid (HX2.out.trans hw3)
         clear ca0 ca1)
      )
    obtain ⟨w4, h4⟩ : ∃ w4, (w3.alloc (.cells #[.int .i64 A, .int .i64 B] 75)).alloc (.cells #[.int .i64 A, .int .i64 B] 75) = w4 := ⟨_, rfl⟩
    have HT1 : Hid (Two 75 w4 w3.heap.size A B) := Lib.hid (by rw [← h4]; exact (Two.at rfl).ex ((Ex.refl _).alloc _))
    have HT2 : Hid (Two 75 w4 (w3.heap.size + 1) A B) := Lib.hid (by rw [← h4]; exact Two.at (by simp))
    have HX4 : Hid (Ex w w4) := Lib.hid (by rw [← h4]; exact (HX3.out.alloc _).alloc _)
    rw [h4]
    clear h4
    go_upto_region 7 with (go_at_call 31; (with_reducible refine (HGC.out _).mono ?_); rintro e w5 ⟨rfl, hw5⟩)
    refine wp_region_wo (by kernel_rfl) (by kernel_rfl) ?_
    repeat (go_big_quiet_step ((go_at_call 34; exact says_wo (HI.out _))))
    refine wpQuiet_nil ?_
    rintro _ ⟨⟨w6, hw6⟩, rfl⟩
    go_upto_region 10 with (first
      | (go_at_call 32; (with_reducible refine (HY.out _).mono ?_); rintro e w7 ⟨rfl, hw7⟩)
      | (go_at_call 35; refine (tgood_zeros 5 (by omega) _ rfl _ _).mono ?_; rintro e w8 ⟨rfl, hw8⟩))
    have hx8 := (((HX4.out.trans hw5).trans hw6).trans hw7).trans hw8
    have hT := (((HT1.out.ex hw5).ex hw6).ex hw7).ex hw8
    have hS := (((HT2.out.ex hw5).ex hw6).ex hw7).ex hw8
    have c1 := hT.c0
    have c2 := hT.c1
    have d1 := hS.c0
    have d2 := hS.c1
    have k1 := so_cell c1
    have k2 := so_cell c2
    have k3 := so_cell d1
    have k4 := so_cell d2
    have m1 : 0 ≤ X * A := Int.mul_nonneg X0 hA0
    have m2 : X * A ≤ 10000 * A := Int.mul_le_mul_of_nonneg_right (by omega) hA0
    have gX : (X * A % B == 1 % B) = true := beq_iff_eq.mpr hX
    clear hX c1 c2 d1 d2 hT hS
    go_upto_region 11 with fail
    refine wp_region_wo (by kernel_rfl) (by kernel_rfl) ?_
    repeat (go_big_quiet_step (fail))
    refine wpQuiet_nil ?_
    rintro _ ⟨⟨w9, hw9⟩, rfl⟩
    go_wp2
    go_ret
    exact ⟨rfl, hx8.trans hw9⟩
  · have HNR := hlt a b c d hl hh
    clear hlt hl hh hX
    have x7 : 0 ≤ c * b := Int.mul_nonneg c0 (by omega)
    have x8 : c * b ≤ 1000000000000 * b := Int.mul_le_mul_of_nonneg_right c1 (by omega)
    have x9 : 0 ≤ a * d := Int.mul_nonneg a0 (by omega)
    have x10 : a * d ≤ 1000000000000 * d := Int.mul_le_mul_of_nonneg_right a1 (by omega)
    have gX : (c * b - a * d == 1) = true := beq_iff_eq.mpr hdet
    have HNE := Lib.hid hne
    clear hdet hne
    go_enter Try.func11, Try.ntmps11
    go_upto_region 6 with (first
      | (go_at_call 32; (with_reducible refine (HY.out _).mono ?_); rintro e w0 ⟨rfl, hw0⟩)
      | (go_at_call 24; refine (within_any _ _ _ (by omega) (by omega)).mono ?_; rintro e w' ⟨rfl, rfl⟩)
      | (go_at_call 45; (with_reducible refine (HOF.out _).mono ?_); rintro e w1 ⟨l1, c1, rfl, hw1⟩
         have HX1 := Lib.hid (HX.out.trans hw1)
         have HT1 := Lib.hid (HT.out.ex hw1)
         clear ca0 ca1
         have ca0 := HT1.out.c0
         have ca1 := HT1.out.c1)
      | (go_at_call 46; (with_reducible refine (HST.out _).mono ?_); rintro e w2 ⟨rfl, hw2⟩
         have HX2 := Lib.hid (HX1.out.trans hw2)
         have HT2 := Lib.hid (HT1.out.ex hw2)
         clear ca0 ca1
         have ca0 := HT2.out.c0
         have ca1 := HT2.out.c1)
      | (go_at_call 47; (with_reducible refine (HNR.out _).mono ?_); rintro e w3 ⟨rfl, hw3⟩
         have HX3 := Lib.hid (HX2.out.trans hw3)
         clear ca0 ca1)
      )
    obtain ⟨w4, h4⟩ : ∃ w4, (w3.alloc (.cells #[.int .i64 a, .int .i64 b] 75)).alloc (.cells #[.int .i64 c, .int .i64 d] 75) = w4 := ⟨_, rfl⟩
    have HT1 : Hid (Two 75 w4 w3.heap.size a b) := Lib.hid (by rw [← h4]; exact (Two.at rfl).ex ((Ex.refl _).alloc _))
    have HT2 : Hid (Two 75 w4 (w3.heap.size + 1) c d) := Lib.hid (by rw [← h4]; exact Two.at (by simp))
    have HX4 : Hid (Ex w w4) := Lib.hid (by rw [← h4]; exact (HX3.out.alloc _).alloc _)
    rw [h4]
    clear h4
    go_upto_region 7 with (go_at_call 31; (with_reducible refine (HGC.out _).mono ?_); rintro e w5 ⟨rfl, hw5⟩)
    refine wp_region_wo (by kernel_rfl) (by kernel_rfl) ?_
    repeat (go_big_quiet_step ((go_at_call 34; exact says_wo (HI.out _))))
    refine wpQuiet_nil ?_
    rintro _ ⟨⟨w6, hw6⟩, rfl⟩
    go_upto_region 10 with (first
      | (go_at_call 32; (with_reducible refine (HY.out _).mono ?_); rintro e w7 ⟨rfl, hw7⟩)
      | (go_at_call 35; refine (tgood_zeros 5 (by omega) _ rfl _ _).mono ?_; rintro e w8 ⟨rfl, hw8⟩))
    have hx8 := (((HX4.out.trans hw5).trans hw6).trans hw7).trans hw8
    have hT := (((HT1.out.ex hw5).ex hw6).ex hw7).ex hw8
    have hS := (((HT2.out.ex hw5).ex hw6).ex hw7).ex hw8
    have k1 := hT.c0
    have k2 := hT.c1
    have k3 := hS.c0
    have k4 := hS.c1
    clear hT hS
    by_cases hac : a = c
    · have hbd : (b == d) = false := beq_eq_false_iff_ne.mpr fun e => HNE.out ⟨hac, e⟩
      have hac2 : (a == c) = true := beq_iff_eq.mpr hac
      clear hac
      go_wp2
      go_ret
      exact ⟨by first | rfl | simp [hac2, gX] | simp [hac2, hbd, gX], hx8⟩
    · have hac2 : (a == c) = false := beq_eq_false_iff_ne.mpr hac
      clear hac
      go_wp2
      go_ret
      exact ⟨by first | rfl | simp [hac2, gX] | simp [hac2, hbd, gX], hx8⟩

end Go.Proofs.Ythlnbomapfjphaa
