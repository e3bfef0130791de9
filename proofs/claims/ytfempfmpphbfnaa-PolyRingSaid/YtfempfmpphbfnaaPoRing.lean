/-
  PolyRing, walked.
-/
import Derived.Test.YtfempfmpphbfnaaPoTool
namespace Go.Proofs.Ytfempfmpphbfnaa
open Go.RowKit
open Pr Po

set_option maxRecDepth 100000 in
set_option maxHeartbeats 1000000 in
theorem polyRing_walk (n : Int) (a1 : Option Addr) (l1 c1 : Nat) (z1 : List Int) (a2 : Option Addr) (l2 c2 : Nat) (z2 : List Int) (a3 : Option Addr) (l3 c3 : Nat) (z3 : List Int) (w : World)
    (_ : I64 n) (h1 : IsInts .i64 8 w a1 l1 c1 z1) (h2 : IsInts .i64 8 w a2 l2 c2 z2) (h3 : IsInts .i64 8 w a3 l3 c3 z3) :
    Calls Try.prog 5 #[.int .i64 n, .slice a1 l1 c1, .slice a2 l2 c2, .slice a3 l3 c3] w (Says (.bool true) w) := by
  obtain ⟨p, hp, p9, hfo⟩ := fieldOf_some n
  have p2 := hp.1
  obtain ⟨F, LF, lF, mF, cF, hF⟩ := polyL hp p9 12 12 rfl (by omega) h1
  obtain ⟨G, LG, lG, mG, cG, hG⟩ := polyL hp p9 12 12 rfl (by omega) h2
  obtain ⟨H, LH, lH, mH, cH, hH⟩ := polyL hp p9 12 12 rfl (by omega) h3
  obtain ⟨FG, N1, e1, n1, m1, k1, z1', y1, hFG⟩ := mulL hp p9 cF cG lF lG (by omega)
  obtain ⟨GF, N1', e1', n1', m1', k1', _, _, hGF⟩ := mulL hp p9 cG cF lG lF (by omega)
  obtain ⟨X, N2, e2, n2, m2, k2, _, _, hX⟩ := mulL hp p9 k1 cH n1 lH (by omega)
  obtain ⟨GH, N3, e3, n3, m3, k3, _, _, hGH⟩ := mulL hp p9 cG cH lG lH (by omega)
  obtain ⟨Y, N4, e4, n4, m4, k4, _, _, hY⟩ := mulL hp p9 cF k3 lF n3 (by omega)
  obtain ⟨S, N5, e5, n5, m5, k5, hS⟩ := addL hp p9 cG cH lG lH (by omega)
  obtain ⟨Z, N6, e6, n6, m6, k6, _, _, hZ⟩ := mulL hp p9 cF k5 lF n5 (by omega)
  obtain ⟨FH, N7, e7, n7, m7, k7, _, _, hFH⟩ := mulL hp p9 cF cH lF lH (by omega)
  obtain ⟨W, N8, e8, n8, m8, k8, hW⟩ := addL hp p9 k1 k7 n1 n7 (by omega)
  have q1 : GF = FG := by rw [← e1', ← e1]; exact ring_comm p (by omega) F G
  have q2 : Y = X := by rw [← e4, ← e2, ← e3, ← e1]; exact ring_assoc (by omega) F G H
  have q3 : W = Z := by rw [← e8, ← e6, ← e5, ← e1, ← e7]; exact ring_dist (by omega) F G H
  subst q1
  subst q2
  subst q3
  obtain rfl : N1' = N1 := by omega
  obtain rfl : N4 = N2 := by omega
  obtain rfl : N8 = N6 := by omega
  have HPO := Lib.hid polys_yes
  have HFO := Lib.hid hfo
  have HF := Lib.hid hF
  have HG := Lib.hid hG
  have HH := Lib.hid hH
  have HFG := Lib.hid hFG
  have HGF := Lib.hid hGF
  have HX := Lib.hid hX
  have HGH := Lib.hid hGH
  have HY := Lib.hid hY
  have HS := Lib.hid hS
  have HZ := Lib.hid hZ
  have HFH := Lib.hid hFH
  have HW := Lib.hid hW
  have HE1 := Lib.hid (eqS n1 (by omega))
  have HE2 := Lib.hid (eqS n2 (by omega))
  have HE3 := Lib.hid (eqS n6 (by omega))
  have m0 := Int.mul_nonneg (Int.natCast_nonneg LF) (Int.natCast_nonneg LG)
  have m9 := Int.mul_le_mul (show (LF : Int) ≤ 12 by omega) (show (LG : Int) ≤ 12 by omega) (Int.natCast_nonneg LG) (by omega)
  have hz : ((LF : Int) * LG == 0) = decide (LF = 0 ∨ LG = 0) := by
    by_cases h : LF = 0 ∨ LG = 0
    · rw [decide_eq_true h]
      rcases h with h | h <;> simp [h]
    · rw [decide_eq_false h, beq_eq_false_iff_ne]
      have := Int.mul_pos (show 0 < (LF : Int) by omega) (show 0 < (LG : Int) by omega)
      omega
  by_cases hd : LF = 0 ∨ LG = 0
  · rw [decide_eq_true hd] at hz
    clear h1 h2 h3 hfo hF hG hH hFG hGF hX hGH hY hS hZ hFH hW cF cG cH k1 k1' k2 k3 k4 k5 k6 k7 k8 e1 e1' e2 e3 e4 e5 e6 e7 e8 lF lG lH n1 n1' n2 n3 n4 n5 n6 n7 n8 y1 z1' hd hp
    go_enter Try.func5, Try.ntmps5
    go_wp2_with (first
      | (go_at_call 27; (with_reducible refine (HPO.out _).mono ?_); rintro e w1 ⟨rfl, hw1⟩)
      | (go_at_call 28; (with_reducible refine (HFO.out _).mono ?_); rintro e w2 ⟨rfl, hw2⟩)
      | (go_at_call 29; (with_reducible refine (HF.out _ (by repeat (first | assumption | exact Ex.refl _ | refine Ex.trans ?_ (by assumption)))).mono ?_); rintro e w3 ⟨b3, d3, rfl, hr3, hn3, hw3⟩)
      | (go_at_call 29; (with_reducible refine (HG.out _ (by repeat (first | assumption | exact Ex.refl _ | refine Ex.trans ?_ (by assumption)))).mono ?_); rintro e w4 ⟨b4, d4, rfl, hr4, hn4, hw4⟩)
      | (go_at_call 29; (with_reducible refine (HH.out _ (by repeat (first | assumption | exact Ex.refl _ | refine Ex.trans ?_ (by assumption)))).mono ?_); rintro e w5 ⟨b5, d5, rfl, hr5, hn5, hw5⟩)
      | (go_at_call 12; (with_reducible refine (HFG.out _ _ _ _ _ (hr3.out.ex (by repeat (first | assumption | exact Ex.refl _ | refine Ex.trans ?_ (by assumption)))) (hr4.out.ex (by repeat (first | assumption | exact Ex.refl _ | refine Ex.trans ?_ (by assumption))))).mono ?_); rintro e w6 ⟨b6, d6, rfl, hr6, hn6, hw6⟩)
      | (go_at_call 12; (with_reducible refine (HGF.out _ _ _ _ _ (hr4.out.ex (by repeat (first | assumption | exact Ex.refl _ | refine Ex.trans ?_ (by assumption)))) (hr3.out.ex (by repeat (first | assumption | exact Ex.refl _ | refine Ex.trans ?_ (by assumption))))).mono ?_); rintro e w7 ⟨b7, d7, rfl, hr7, hn7, hw7⟩)
      | (go_at_call 12; (with_reducible refine (HX.out _ _ _ _ _ (hr6.out.ex (by repeat (first | assumption | exact Ex.refl _ | refine Ex.trans ?_ (by assumption)))) (hr5.out.ex (by repeat (first | assumption | exact Ex.refl _ | refine Ex.trans ?_ (by assumption))))).mono ?_); rintro e w8 ⟨b8, d8, rfl, hr8, hn8, hw8⟩)
      | (go_at_call 12; (with_reducible refine (HGH.out _ _ _ _ _ (hr4.out.ex (by repeat (first | assumption | exact Ex.refl _ | refine Ex.trans ?_ (by assumption)))) (hr5.out.ex (by repeat (first | assumption | exact Ex.refl _ | refine Ex.trans ?_ (by assumption))))).mono ?_); rintro e w9 ⟨b9, d9, rfl, hr9, hn9, hw9⟩)
      | (go_at_call 12; (with_reducible refine (HY.out _ _ _ _ _ (hr3.out.ex (by repeat (first | assumption | exact Ex.refl _ | refine Ex.trans ?_ (by assumption)))) (hr9.out.ex (by repeat (first | assumption | exact Ex.refl _ | refine Ex.trans ?_ (by assumption))))).mono ?_); rintro e w10 ⟨b10, d10, rfl, hr10, hn10, hw10⟩)
      | (go_at_call 11; (with_reducible refine (HS.out _ _ _ _ _ (hr4.out.ex (by repeat (first | assumption | exact Ex.refl _ | refine Ex.trans ?_ (by assumption)))) (hr5.out.ex (by repeat (first | assumption | exact Ex.refl _ | refine Ex.trans ?_ (by assumption))))).mono ?_); rintro e w11 ⟨b11, d11, rfl, hr11, hn11, hw11⟩)
      | (go_at_call 12; (with_reducible refine (HZ.out _ _ _ _ _ (hr3.out.ex (by repeat (first | assumption | exact Ex.refl _ | refine Ex.trans ?_ (by assumption)))) (hr11.out.ex (by repeat (first | assumption | exact Ex.refl _ | refine Ex.trans ?_ (by assumption))))).mono ?_); rintro e w12 ⟨b12, d12, rfl, hr12, hn12, hw12⟩)
      | (go_at_call 12; (with_reducible refine (HFH.out _ _ _ _ _ (hr3.out.ex (by repeat (first | assumption | exact Ex.refl _ | refine Ex.trans ?_ (by assumption)))) (hr5.out.ex (by repeat (first | assumption | exact Ex.refl _ | refine Ex.trans ?_ (by assumption))))).mono ?_); rintro e w13 ⟨b13, d13, rfl, hr13, hn13, hw13⟩)
      | (go_at_call 11; (with_reducible refine (HW.out _ _ _ _ _ (hr6.out.ex (by repeat (first | assumption | exact Ex.refl _ | refine Ex.trans ?_ (by assumption)))) (hr13.out.ex (by repeat (first | assumption | exact Ex.refl _ | refine Ex.trans ?_ (by assumption))))).mono ?_); rintro e w14 ⟨b14, d14, rfl, hr14, hn14, hw14⟩)
      | (go_at_call 30; refine (good_zeros 9 (by omega) _ rfl _ _).mono ?_; rintro e w15 ⟨rfl, hw15⟩)
      | (go_at_call 31; (with_reducible refine (HE1.out _ _ _ _ _ (hr6.out.ex (by repeat (first | assumption | exact Ex.refl _ | refine Ex.trans ?_ (by assumption)))) (hr7.out.ex (by repeat (first | assumption | exact Ex.refl _ | refine Ex.trans ?_ (by assumption))))).mono ?_); rintro e w16 ⟨rfl, hw16⟩)
      | (go_at_call 31; (with_reducible refine (HE2.out _ _ _ _ _ (hr8.out.ex (by repeat (first | assumption | exact Ex.refl _ | refine Ex.trans ?_ (by assumption)))) (hr10.out.ex (by repeat (first | assumption | exact Ex.refl _ | refine Ex.trans ?_ (by assumption))))).mono ?_); rintro e w17 ⟨rfl, hw17⟩)
      | (go_at_call 31; (with_reducible refine (HE3.out _ _ _ _ _ (hr12.out.ex (by repeat (first | assumption | exact Ex.refl _ | refine Ex.trans ?_ (by assumption)))) (hr14.out.ex (by repeat (first | assumption | exact Ex.refl _ | refine Ex.trans ?_ (by assumption))))).mono ?_); rintro e w18 ⟨rfl, hw18⟩))
    go_ret
    exact ⟨rfl, (by repeat (first | assumption | exact Ex.refl _ | refine Ex.trans ?_ (by assumption)))⟩
  · rw [decide_eq_false hd] at hz
    have hl : ((N1' : Int) == (LF : Int) + LG - 1) = true := by simp; omega
    clear h1 h2 h3 hfo hF hG hH hFG hGF hX hGH hY hS hZ hFH hW cF cG cH k1 k1' k2 k3 k4 k5 k6 k7 k8 e1 e1' e2 e3 e4 e5 e6 e7 e8 lF lG lH n1 n1' n2 n3 n4 n5 n6 n7 n8 y1 z1' hd hp
    go_enter Try.func5, Try.ntmps5
    go_wp2_with (first
      | (go_at_call 27; (with_reducible refine (HPO.out _).mono ?_); rintro e w1 ⟨rfl, hw1⟩)
      | (go_at_call 28; (with_reducible refine (HFO.out _).mono ?_); rintro e w2 ⟨rfl, hw2⟩)
      | (go_at_call 29; (with_reducible refine (HF.out _ (by repeat (first | assumption | exact Ex.refl _ | refine Ex.trans ?_ (by assumption)))).mono ?_); rintro e w3 ⟨b3, d3, rfl, hr3, hn3, hw3⟩)
      | (go_at_call 29; (with_reducible refine (HG.out _ (by repeat (first | assumption | exact Ex.refl _ | refine Ex.trans ?_ (by assumption)))).mono ?_); rintro e w4 ⟨b4, d4, rfl, hr4, hn4, hw4⟩)
      | (go_at_call 29; (with_reducible refine (HH.out _ (by repeat (first | assumption | exact Ex.refl _ | refine Ex.trans ?_ (by assumption)))).mono ?_); rintro e w5 ⟨b5, d5, rfl, hr5, hn5, hw5⟩)
      | (go_at_call 12; (with_reducible refine (HFG.out _ _ _ _ _ (hr3.out.ex (by repeat (first | assumption | exact Ex.refl _ | refine Ex.trans ?_ (by assumption)))) (hr4.out.ex (by repeat (first | assumption | exact Ex.refl _ | refine Ex.trans ?_ (by assumption))))).mono ?_); rintro e w6 ⟨b6, d6, rfl, hr6, hn6, hw6⟩)
      | (go_at_call 12; (with_reducible refine (HGF.out _ _ _ _ _ (hr4.out.ex (by repeat (first | assumption | exact Ex.refl _ | refine Ex.trans ?_ (by assumption)))) (hr3.out.ex (by repeat (first | assumption | exact Ex.refl _ | refine Ex.trans ?_ (by assumption))))).mono ?_); rintro e w7 ⟨b7, d7, rfl, hr7, hn7, hw7⟩)
      | (go_at_call 12; (with_reducible refine (HX.out _ _ _ _ _ (hr6.out.ex (by repeat (first | assumption | exact Ex.refl _ | refine Ex.trans ?_ (by assumption)))) (hr5.out.ex (by repeat (first | assumption | exact Ex.refl _ | refine Ex.trans ?_ (by assumption))))).mono ?_); rintro e w8 ⟨b8, d8, rfl, hr8, hn8, hw8⟩)
      | (go_at_call 12; (with_reducible refine (HGH.out _ _ _ _ _ (hr4.out.ex (by repeat (first | assumption | exact Ex.refl _ | refine Ex.trans ?_ (by assumption)))) (hr5.out.ex (by repeat (first | assumption | exact Ex.refl _ | refine Ex.trans ?_ (by assumption))))).mono ?_); rintro e w9 ⟨b9, d9, rfl, hr9, hn9, hw9⟩)
      | (go_at_call 12; (with_reducible refine (HY.out _ _ _ _ _ (hr3.out.ex (by repeat (first | assumption | exact Ex.refl _ | refine Ex.trans ?_ (by assumption)))) (hr9.out.ex (by repeat (first | assumption | exact Ex.refl _ | refine Ex.trans ?_ (by assumption))))).mono ?_); rintro e w10 ⟨b10, d10, rfl, hr10, hn10, hw10⟩)
      | (go_at_call 11; (with_reducible refine (HS.out _ _ _ _ _ (hr4.out.ex (by repeat (first | assumption | exact Ex.refl _ | refine Ex.trans ?_ (by assumption)))) (hr5.out.ex (by repeat (first | assumption | exact Ex.refl _ | refine Ex.trans ?_ (by assumption))))).mono ?_); rintro e w11 ⟨b11, d11, rfl, hr11, hn11, hw11⟩)
      | (go_at_call 12; (with_reducible refine (HZ.out _ _ _ _ _ (hr3.out.ex (by repeat (first | assumption | exact Ex.refl _ | refine Ex.trans ?_ (by assumption)))) (hr11.out.ex (by repeat (first | assumption | exact Ex.refl _ | refine Ex.trans ?_ (by assumption))))).mono ?_); rintro e w12 ⟨b12, d12, rfl, hr12, hn12, hw12⟩)
      | (go_at_call 12; (with_reducible refine (HFH.out _ _ _ _ _ (hr3.out.ex (by repeat (first | assumption | exact Ex.refl _ | refine Ex.trans ?_ (by assumption)))) (hr5.out.ex (by repeat (first | assumption | exact Ex.refl _ | refine Ex.trans ?_ (by assumption))))).mono ?_); rintro e w13 ⟨b13, d13, rfl, hr13, hn13, hw13⟩)
      | (go_at_call 11; (with_reducible refine (HW.out _ _ _ _ _ (hr6.out.ex (by repeat (first | assumption | exact Ex.refl _ | refine Ex.trans ?_ (by assumption)))) (hr13.out.ex (by repeat (first | assumption | exact Ex.refl _ | refine Ex.trans ?_ (by assumption))))).mono ?_); rintro e w14 ⟨b14, d14, rfl, hr14, hn14, hw14⟩)
      | (go_at_call 30; refine (good_zeros 9 (by omega) _ rfl _ _).mono ?_; rintro e w15 ⟨rfl, hw15⟩)
      | (go_at_call 31; (with_reducible refine (HE1.out _ _ _ _ _ (hr6.out.ex (by repeat (first | assumption | exact Ex.refl _ | refine Ex.trans ?_ (by assumption)))) (hr7.out.ex (by repeat (first | assumption | exact Ex.refl _ | refine Ex.trans ?_ (by assumption))))).mono ?_); rintro e w16 ⟨rfl, hw16⟩)
      | (go_at_call 31; (with_reducible refine (HE2.out _ _ _ _ _ (hr8.out.ex (by repeat (first | assumption | exact Ex.refl _ | refine Ex.trans ?_ (by assumption)))) (hr10.out.ex (by repeat (first | assumption | exact Ex.refl _ | refine Ex.trans ?_ (by assumption))))).mono ?_); rintro e w17 ⟨rfl, hw17⟩)
      | (go_at_call 31; (with_reducible refine (HE3.out _ _ _ _ _ (hr12.out.ex (by repeat (first | assumption | exact Ex.refl _ | refine Ex.trans ?_ (by assumption)))) (hr14.out.ex (by repeat (first | assumption | exact Ex.refl _ | refine Ex.trans ?_ (by assumption))))).mono ?_); rintro e w18 ⟨rfl, hw18⟩))
    go_ret
    exact ⟨rfl, (by repeat (first | assumption | exact Ex.refl _ | refine Ex.trans ?_ (by assumption)))⟩

end Go.Proofs.Ytfempfmpphbfnaa
