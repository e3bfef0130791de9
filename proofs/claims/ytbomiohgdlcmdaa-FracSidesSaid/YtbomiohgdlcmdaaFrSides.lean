/-
  FracSides, walked.
-/
import Derived.Test.YtbomiohgdlcmdaaFrNearW
import Derived.Deep.CutRange
import Derived.Deep.DeepCutAuto
namespace Go.Proofs.Ytbomiohgdlcmdaa
open Go.RowKit
open Eu Fr

theorem near_30 (w : World) : Calls Try.prog 12 #[.agg #[.int .i64 30, .int .i64 13], .int .i64 5] w (Says (.tuple #[.agg #[.int .i64 9, .int .i64 4], .agg #[.int .i64 7, .int .i64 3], .int .i64 0]) w) := by
  refine (near_ok 30 13 5 w ⟨by decide, by decide, by decide, by decide⟩ (by decide) (by decide)).mono ?_
  rintro e w2 ⟨a, b, c, d, hl, hh, _, _, _, _, _, _, rfl, hx⟩
  have h := nearest (P := 30) (Q := 13) (N := 5) (a := 9) (b := 4) (c := 7) (d := 3) (s := 1) (t := 3) (by decide) (by decide) (by decide) (by decide) (by decide) (by decide) (by decide) (by decide) (by decide) (by decide)
  obtain ⟨rfl, rfl⟩ := hl.uniq h.1
  obtain ⟨rfl, rfl⟩ := hh.uniq h.2
  exact ⟨rfl, hx⟩

theorem best_some {P Q : Int} (hQ : 1 ≤ Q) (n : Nat) : ∃ a b, Best P Q ((n : Int) + 1) a b := by
  induction n with
  | zero => exact ⟨_, _, best_one hQ⟩
  | succ n ih =>
    obtain ⟨a, b, h⟩ := ih
    rw [show ((n + 1 : Nat) : Int) = (n : Int) + 1 by omega]
    by_cases hl : a * ((n : Int) + 1 + 1) < P * ((n : Int) + 1 + 1) / Q * b
    · exact ⟨_, _, best_take hQ h (by omega) hl⟩
    · exact ⟨_, _, best_keep hQ h hl⟩

/-- There are two nearest. -/
theorem near_some {P Q m : Int} (h : OkFr P Q) (m1 : 1 ≤ m) (m2 : m ≤ 1000000) : ∃ a b c d, IsLow P Q m a b ∧ IsHigh P Q m c d ∧ 1 ≤ b ∧ b ≤ m ∧ 1 ≤ d ∧ d ≤ m ∧ 0 ≤ a ∧ a ≤ 1000000000000 ∧ 0 ≤ c ∧ c ≤ 1000000000000 ∧ a * Q ≤ P * b ∧ P * d ≤ c * Q := by
  obtain ⟨h1, h2, h3, h4⟩ := h
  obtain ⟨a, b, hl⟩ := best_some (P := P) h1 (m - 1).toNat
  obtain ⟨c, d, hh⟩ := best_some (P := -P) h1 (m - 1).toNat
  rw [show (((m - 1).toNat : Nat) : Int) + 1 = m by omega] at hl hh
  have hl := hl.lowest.1
  have hh := hh.lowest.1
  generalize a / G a b = a at *
  generalize b / G _ b = b at *
  obtain ⟨c2, hc2⟩ : ∃ c2, c / G c d = -c2 := ⟨-(c / G c d), by omega⟩
  rw [hc2] at hh
  generalize d / G c d = d at *
  have hh : IsHigh P Q m c2 d := hh
  have l1 := hl.1.1
  have l2 := hl.1.2.1
  have l3 := hl.1.2.2.1
  have r1 := hh.1.1
  have r2 := hh.1.2.1
  have r3 := hh.1.2.2.1
  rw [Int.neg_mul, Int.neg_mul] at r3
  have a0 := hl.1.2.2.2 0 1 (by omega) (by omega) (by omega)
  have a1 : 0 ≤ a := by omega
  have a2 : a * 1 ≤ a * Q := Int.mul_le_mul_of_nonneg_left h1 a1
  have a3 : P * b ≤ 1000000 * b := Int.mul_le_mul_of_nonneg_right h4 (by omega)
  have c0 : 0 ≤ P * d := Int.mul_nonneg h3 (by omega)
  have c1 : 0 ≤ c2 := by
    refine Decidable.byContradiction fun hc => ?_
    have : c2 * Q ≤ (-1) * Q := Int.mul_le_mul_of_nonneg_right (by omega) (by omega)
    omega
  have c3 := hh.1.2.2.2 (-P) 1 (by omega) (by omega) (by
    have : P * 1 ≤ P * Q := Int.mul_le_mul_of_nonneg_left h1 h3
    rw [Int.neg_mul, Int.neg_mul]; omega)
  rw [Int.neg_mul, Int.neg_mul] at c3
  have c4 : P * d ≤ 1000000 * d := Int.mul_le_mul_of_nonneg_right h4 (by omega)
  exact ⟨a, b, c2, d, hl, hh, l1, l2, r1, r2, a1, by omega, c1, by omega, l3, by omega⟩

theorem near_at {P Q m a b c d : Int} (h : OkFr P Q) (m1 : 1 ≤ m) (m2 : m ≤ 1000000) (hl : IsLow P Q m a b) (hh : IsHigh P Q m c d) (w : World) :
    Calls Try.prog 12 #[.agg #[.int .i64 P, .int .i64 Q], .int .i64 m] w (Says (.tuple #[.agg #[.int .i64 a, .int .i64 b], .agg #[.int .i64 c, .int .i64 d], .int .i64 0]) w) := by
  refine (near_ok P Q m w h m1 m2).mono ?_
  rintro e w2 ⟨a2, b2, c2, d2, hl2, hh2, _, _, _, _, _, _, rfl, hx⟩
  obtain ⟨rfl, rfl⟩ := hl.uniq hl2
  obtain ⟨rfl, rfl⟩ := hh.uniq hh2
  exact ⟨rfl, hx⟩

theorem near_none (P Q m : Int) (h : ¬ (1 ≤ m ∧ m ≤ 1000000 ∧ OkFr P Q)) (w : World) : Calls Try.prog 12 #[.agg #[.int .i64 P, .int .i64 Q], .int .i64 m] w (Says (.tuple #[.agg #[.int .i64 0, .int .i64 0], .agg #[.int .i64 0, .int .i64 0], .int .i64 1]) w) := by
  by_cases h1 : m < 1 ∨ 1000000 < m
  · exact near_out P Q m w h1
  · exact near_bad P Q m w (by omega) (by omega) (fun h2 => h ⟨by omega, by omega, h2⟩)

set_option maxRecDepth 100000 in
set_option maxHeartbeats 4000000 in
theorem sides_bad (P Q yp yq m : Int) (w : World) (h : ¬ (1 ≤ m ∧ m ≤ 1000000 ∧ OkFr P Q)) :
    Calls Try.prog 7 #[.agg #[.int .i64 P, .int .i64 Q], .agg #[.int .i64 yp, .int .i64 yq], .int .i64 m] w (Says (.bool true) w) := by
  have H2 := Lib.hid fun w => near_none P Q m h w
  have H1 := Lib.hid near_30
  have HX := Lib.hid (((Ex.refl w).alloc (.cells #[.int .i64 P, .int .i64 Q] 23)).alloc (.cells #[.int .i64 yp, .int .i64 yq] 23))
  have HA : Hid (Two 23 ((w.alloc (.cells #[.int .i64 P, .int .i64 Q] 23)).alloc (.cells #[.int .i64 yp, .int .i64 yq] 23)) w.heap.size P Q) := Lib.hid ((Two.at rfl).ex ((Ex.refl _).alloc _))
  have HB : Hid (Two 23 ((w.alloc (.cells #[.int .i64 P, .int .i64 Q] 23)).alloc (.cells #[.int .i64 yp, .int .i64 yq] 23)) (w.heap.size + 1) yp yq) := Lib.hid (Two.at (by simp))
  clear h
  go_enter Try.func7, Try.ntmps7
  go_wp2_with (first
    | (go_at_call 12; (with_reducible refine (H1.out _).mono ?_); rintro e w1 ⟨rfl, hw1⟩; clear H1; have HX1 := Lib.hid (HX.out.trans hw1); have HA1 := Lib.hid (HA.out.ex hw1); have HB1 := Lib.hid (HB.out.ex hw1)
       have HA1b := Lib.hid ((HA1.out.ex ((Ex.refl _).alloc (.cells #[.int .i64 9, .int .i64 4] 23))).ex ((Ex.refl _).alloc (.cells #[.int .i64 7, .int .i64 3] 23)))
       have ca0 := HA1b.out.c0
       have ca1 := HA1b.out.c1)
    | (go_at_call 12; (with_reducible refine (H2.out _).mono ?_); rintro e w2 ⟨rfl, hw2⟩
       have HX2 := Lib.hid ((((HX1.out.alloc (.cells #[.int .i64 9, .int .i64 4] 23)).alloc (.cells #[.int .i64 7, .int .i64 3] 23))).trans hw2)
       have HA2 := Lib.hid (HA1b.out.ex hw2)
       have HB2 := Lib.hid (((HB1.out.ex ((Ex.refl _).alloc (.cells #[.int .i64 9, .int .i64 4] 23))).ex ((Ex.refl _).alloc (.cells #[.int .i64 7, .int .i64 3] 23))).ex hw2)
       have HA2b := Lib.hid ((HA2.out.ex ((Ex.refl _).alloc (.cells #[.int .i64 0, .int .i64 0] 23))).ex ((Ex.refl _).alloc (.cells #[.int .i64 0, .int .i64 0] 23)))
       have HB2b := Lib.hid ((HB2.out.ex ((Ex.refl _).alloc (.cells #[.int .i64 0, .int .i64 0] 23))).ex ((Ex.refl _).alloc (.cells #[.int .i64 0, .int .i64 0] 23)))
       clear ca0 ca1
       have ca0 := HA2b.out.c0
       have ca1 := HA2b.out.c1
       have cb0 := HB2b.out.c0
       have cb1 := HB2b.out.c1))
  go_ret
  exact ⟨by first | rfl | (simp; done) | (simp; omega), by repeat (first | exact HX2.out | refine Ex.alloc ?_ _)⟩

set_option maxRecDepth 100000 in
set_option maxHeartbeats 8000000 in
theorem sides_ok (P Q yp yq m : Int) (w : World) (h : OkFr P Q) (m1 : 1 ≤ m) (m2 : m ≤ 1000000) (_ : I64 yp) (_ : I64 yq) :
    Calls Try.prog 7 #[.agg #[.int .i64 P, .int .i64 Q], .agg #[.int .i64 yp, .int .i64 yq], .int .i64 m] w (Says (.bool true) w) := by
  obtain ⟨a, b, c, d, hl, hh, l1, l2, r1, r2, a0, a1, c0, c1, l3, r3⟩ := near_some h m1 m2
  have H2 := Lib.hid fun w => near_at h m1 m2 hl hh w
  have HL := Lib.hid hl
  have HH := Lib.hid hh
  obtain ⟨q1, q2, p1, p2⟩ := h
  clear hl hh
  have x1 : 0 ≤ a * Q := Int.mul_nonneg a0 (by omega)
  have x2 : 0 ≤ P * b := Int.mul_nonneg p1 (by omega)
  have x3 : P * b ≤ 1000000 * b := Int.mul_le_mul_of_nonneg_right p2 (by omega)
  have x4 : 0 ≤ c * Q := Int.mul_nonneg c0 (by omega)
  have x5 : c * Q ≤ 1000000000000 * Q := Int.mul_le_mul_of_nonneg_right c1 (by omega)
  have x6 : 0 ≤ P * d := Int.mul_nonneg p1 (by omega)
  have x7 : 0 ≤ c * b := Int.mul_nonneg c0 (by omega)
  have x8 : c * b ≤ 1000000000000 * b := Int.mul_le_mul_of_nonneg_right c1 (by omega)
  have x9 : 0 ≤ a * d := Int.mul_nonneg a0 (by omega)
  have x10 : a * d ≤ 1000000000000 * d := Int.mul_le_mul_of_nonneg_right a1 (by omega)
  have H1 := Lib.hid near_30
  have HX := Lib.hid (((Ex.refl w).alloc (.cells #[.int .i64 P, .int .i64 Q] 23)).alloc (.cells #[.int .i64 yp, .int .i64 yq] 23))
  have HA : Hid (Two 23 ((w.alloc (.cells #[.int .i64 P, .int .i64 Q] 23)).alloc (.cells #[.int .i64 yp, .int .i64 yq] 23)) w.heap.size P Q) := Lib.hid ((Two.at rfl).ex ((Ex.refl _).alloc _))
  have HB : Hid (Two 23 ((w.alloc (.cells #[.int .i64 P, .int .i64 Q] 23)).alloc (.cells #[.int .i64 yp, .int .i64 yq] 23)) (w.heap.size + 1) yp yq) := Lib.hid (Two.at (by simp))
  by_cases he : a = c ∧ b = d
  · obtain ⟨rfl, rfl⟩ := he
    have hz := low_self HL.out HH.out
    go_enter Try.func7, Try.ntmps7
    go_wp2_with (first
      | (go_at_call 12; (with_reducible refine (H1.out _).mono ?_); rintro e w1 ⟨rfl, hw1⟩; clear H1; have HX1 := Lib.hid (HX.out.trans hw1); have HA1 := Lib.hid (HA.out.ex hw1); have HB1 := Lib.hid (HB.out.ex hw1)
         have HA1b := Lib.hid ((HA1.out.ex ((Ex.refl _).alloc (.cells #[.int .i64 9, .int .i64 4] 23))).ex ((Ex.refl _).alloc (.cells #[.int .i64 7, .int .i64 3] 23)))
         have ca0 := HA1b.out.c0
         have ca1 := HA1b.out.c1)
      | (go_at_call 12; (with_reducible refine (H2.out _).mono ?_); rintro e w2 ⟨rfl, hw2⟩
         have HX2 := Lib.hid ((((HX1.out.alloc (.cells #[.int .i64 9, .int .i64 4] 23)).alloc (.cells #[.int .i64 7, .int .i64 3] 23))).trans hw2)
         have HA2 := Lib.hid (HA1b.out.ex hw2)
         have HB2 := Lib.hid (((HB1.out.ex ((Ex.refl _).alloc (.cells #[.int .i64 9, .int .i64 4] 23))).ex ((Ex.refl _).alloc (.cells #[.int .i64 7, .int .i64 3] 23))).ex hw2)
         have HA2b := Lib.hid ((HA2.out.ex ((Ex.refl _).alloc (.cells #[.int .i64 a, .int .i64 b] 23))).ex ((Ex.refl _).alloc (.cells #[.int .i64 a, .int .i64 b] 23)))
         have HB2b := Lib.hid ((HB2.out.ex ((Ex.refl _).alloc (.cells #[.int .i64 a, .int .i64 b] 23))).ex ((Ex.refl _).alloc (.cells #[.int .i64 a, .int .i64 b] 23)))
         clear ca0 ca1
         have ca0 := HA2b.out.c0
         have ca1 := HA2b.out.c1
         have cb0 := HB2b.out.c0
         have cb1 := HB2b.out.c1))
    go_ret
    exact ⟨by first | rfl | (simp; done) | (simp; omega), by repeat (first | exact HX2.out | refine Ex.alloc ?_ _)⟩
  · have hdet := sides q1 HL.out HH.out he
    go_enter Try.func7, Try.ntmps7
    go_upto_region 9 with (first
      | (go_at_call 12; (with_reducible refine (H1.out _).mono ?_); rintro e w1 ⟨rfl, hw1⟩; clear H1; have HX1 := Lib.hid (HX.out.trans hw1); have HA1 := Lib.hid (HA.out.ex hw1); have HB1 := Lib.hid (HB.out.ex hw1)
         have HA1b := Lib.hid ((HA1.out.ex ((Ex.refl _).alloc (.cells #[.int .i64 9, .int .i64 4] 23))).ex ((Ex.refl _).alloc (.cells #[.int .i64 7, .int .i64 3] 23)))
         have ca0 := HA1b.out.c0
         have ca1 := HA1b.out.c1)
      | (go_at_call 12; (with_reducible refine (H2.out _).mono ?_); rintro e w2 ⟨rfl, hw2⟩
         have HX2 := Lib.hid ((((HX1.out.alloc (.cells #[.int .i64 9, .int .i64 4] 23)).alloc (.cells #[.int .i64 7, .int .i64 3] 23))).trans hw2)
         have HA2 := Lib.hid (HA1b.out.ex hw2)
         have HB2 := Lib.hid (((HB1.out.ex ((Ex.refl _).alloc (.cells #[.int .i64 9, .int .i64 4] 23))).ex ((Ex.refl _).alloc (.cells #[.int .i64 7, .int .i64 3] 23))).ex hw2)
         have HA2b := Lib.hid ((HA2.out.ex ((Ex.refl _).alloc (.cells #[.int .i64 a, .int .i64 b] 23))).ex ((Ex.refl _).alloc (.cells #[.int .i64 c, .int .i64 d] 23)))
         have HB2b := Lib.hid ((HB2.out.ex ((Ex.refl _).alloc (.cells #[.int .i64 a, .int .i64 b] 23))).ex ((Ex.refl _).alloc (.cells #[.int .i64 c, .int .i64 d] 23)))
         clear ca0 ca1
         have ca0 := HA2b.out.c0
         have ca1 := HA2b.out.c1
         have cb0 := HB2b.out.c0
         have cb1 := HB2b.out.c1))
    clear ca0 ca1 cb0 cb1
    have HT1 : Hid (Two 23 ((w2.alloc (.cells #[.int .i64 a, .int .i64 b] 23)).alloc (.cells #[.int .i64 c, .int .i64 d] 23)) w2.heap.size a b) := Lib.hid ((Two.at rfl).ex ((Ex.refl _).alloc _))
    have HT2 : Hid (Two 23 ((w2.alloc (.cells #[.int .i64 a, .int .i64 b] 23)).alloc (.cells #[.int .i64 c, .int .i64 d] 23)) (w2.heap.size + 1) c d) := Lib.hid (Two.at (by simp))
    have HXN : Hid (Ex w ((w2.alloc (.cells #[.int .i64 a, .int .i64 b] 23)).alloc (.cells #[.int .i64 c, .int .i64 d] 23))) := Lib.hid ((HX2.out.alloc _).alloc _)
    go_cut [94, 95, 96] (fun v94 v95 v96 wx => v96 = .bool false ∧ Hid (Two 23 wx w.heap.size P Q) ∧ Hid (Two 23 wx (w.heap.size + 1) yp yq) ∧ Hid (Two 23 wx w2.heap.size a b) ∧ Hid (Two 23 wx (w2.heap.size + 1) c d) ∧ Ex w wx)
    case first =>
      by_cases hac : a = c
      · have hbd : b ≠ d := fun e => he ⟨hac, e⟩
        subst hac
        clear he
        go_wp2
        go_meet
        exact ⟨rfl, HA2b, HB2b, HT1, HT2, HXN.out⟩
      · clear he
        go_wp2
        go_meet
        exact ⟨rfl, HA2b, HB2b, HT1, HT2, HXN.out⟩
    case rest =>
      obtain ⟨rfl, G1, G2, G3, G4, hxx⟩ := hcut
      rename World => w3
      clear he HA2b HB2b HT1 HT2 HXN HA2 HB2 HA1b HA1 HB1 HX HA HB
      have ca0 := G1.out.c0
      have ca1 := G1.out.c1
      have caf0 := G1.out.free 0
      have caf1 := G1.out.free 1
      have cb0 := G2.out.c0
      have cb1 := G2.out.c1
      have cbf0 := G2.out.free 0
      have cbf1 := G2.out.free 1
      have cc0 := G3.out.c0
      have cc1 := G3.out.c1
      have ccf0 := G3.out.free 0
      have ccf1 := G3.out.free 1
      have cd0 := G4.out.c0
      have cd1 := G4.out.c1
      have cdf0 := G4.out.free 0
      have cdf1 := G4.out.free 1
      by_cases k1 : yq < 1
      · go_wp2
        go_ret
        exact ⟨by first | rfl | (simp; done) | (simp; omega), hxx⟩
      by_cases k2 : m < yq
      · go_wp2
        go_ret
        exact ⟨by first | rfl | (simp; done) | (simp; omega), hxx⟩
      by_cases k3 : yp < 0
      · go_wp2
        go_ret
        exact ⟨by first | rfl | (simp; done) | (simp; omega), hxx⟩
      by_cases k4 : 1000000 < yp
      · go_wp2
        go_ret
        exact ⟨by first | rfl | (simp; done) | (simp; omega), hxx⟩
      have hbt := between (p := yp) (q := yq) HL.out HH.out (by omega) (by omega)
      have z1 : 0 ≤ yp * b := Int.mul_nonneg (by omega) (by omega)
      have z2 : yp * b ≤ 1000000 * b := Int.mul_le_mul_of_nonneg_right (by omega) (by omega)
      have z3 : 0 ≤ a * yq := Int.mul_nonneg a0 (by omega)
      have z4 : a * yq ≤ 1000000000000 * yq := Int.mul_le_mul_of_nonneg_right a1 (by omega)
      have z5 : 0 ≤ yp * d := Int.mul_nonneg (by omega) (by omega)
      have z6 : yp * d ≤ 1000000 * d := Int.mul_le_mul_of_nonneg_right (by omega) (by omega)
      have z7 : 0 ≤ c * yq := Int.mul_nonneg c0 (by omega)
      have z8 : c * yq ≤ 1000000000000 * yq := Int.mul_le_mul_of_nonneg_right c1 (by omega)
      by_cases k5 : yp * b ≤ a * yq
      · clear hbt
        go_wp2
        go_ret
        exact ⟨by first | rfl | (simp; done) | (simp; omega), hxx⟩
      · have k6 : c * yq ≤ yp * d := by omega
        clear hbt
        go_wp2
        go_ret
        exact ⟨by first | rfl | (simp; done) | (simp; omega), hxx⟩

theorem fracSides_walk (p q yp yq m : Int) (w : World) (_ : I64 p ∧ I64 q) (hy : I64 yp ∧ I64 yq) (_ : I64 m) : Calls Try.prog 7 #[.agg #[.int .i64 p, .int .i64 q], .agg #[.int .i64 yp, .int .i64 yq], .int .i64 m] w (Says (.bool true) w) := by
  by_cases h : 1 ≤ m ∧ m ≤ 1000000 ∧ OkFr p q
  · exact sides_ok p q yp yq m w h.2.2 h.1 h.2.1 hy.1 hy.2
  · exact sides_bad p q yp yq m w h

end Go.Proofs.Ytbomiohgdlcmdaa
