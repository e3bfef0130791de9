/-
  PolyDivides, walked.
-/
import Derived.Test.YtfempfmpphbfnaaPoTool
namespace Go.Proofs.Ytfempfmpphbfnaa
open Go.RowKit
open Pr Po

theorem dv_back {p : Int} {F G Q R : List Int} (hp : 0 < p) (hF : Po.Can p F) (h : IsDv p F G Q R) : red p (add (red p (mul Q G)) R) = F := by
  rw [← red_can hp hF]
  exact red_cg hp (((cg_red p _).add (Cg.refl p R)).trans h.2.2.2)

theorem dv_forth {p : Int} {G H R : List Int} (hH : Po.Can p H) (hR : Po.Can p R) (hl : R.length < G.length) : IsDv p (red p (add (red p (mul H G)) R)) G H R :=
  ⟨hH, hR, hl, (((cg_red p (mul H G)).add (Cg.refl p R)).symm).trans (cg_red p _).symm⟩

set_option maxRecDepth 100000 in
set_option maxHeartbeats 1000000 in
theorem polyDivides_walk (n : Int) (a1 : Option Addr) (l1 c1 : Nat) (z1 : List Int) (a2 : Option Addr) (l2 c2 : Nat) (z2 : List Int) (a3 : Option Addr) (l3 c3 : Nat) (z3 : List Int) (w : World)
    (_ : I64 n) (h1 : IsInts .i64 8 w a1 l1 c1 z1) (h2 : IsInts .i64 8 w a2 l2 c2 z2) (h3 : IsInts .i64 8 w a3 l3 c3 z3) :
    Calls Try.prog 6 #[.int .i64 n, .slice a1 l1 c1, .slice a2 l2 c2, .slice a3 l3 c3] w (Says (.bool true) w) := by
  obtain ⟨p, hp, p9, hfo⟩ := fieldOf_some n
  have p2 := hp.1
  obtain ⟨F, LF, lF, mF, cF, hF⟩ := polyL hp p9 20 20 rfl (by omega) h1
  obtain ⟨G, LG, lG, mG, cG, hG⟩ := polyL hp p9 20 20 rfl (by omega) h2
  have HPO := Lib.hid polys_yes
  have HFO := Lib.hid hfo
  have HF := Lib.hid hF
  have HG := Lib.hid hG
  by_cases h0 : LG = 0
  · obtain rfl : G = [] := List.length_eq_zero_iff.mp (by omega)
    subst h0
    have HD : Hid (∀ (w2 : World) (a b : Option Addr) (ca cb : Nat), Reads w2 .i64 a F → Calls Try.prog 13 #[.int .i64 p, .slice a LF ca, .slice b 0 cb] w2 (Says (.tuple #[.slice none 0 0, .slice none 0 0, .int .i64 5]) w2)) := Lib.hid fun w2 a b ca cb hr => by
      subst lF
      exact div_zero p F a b ca cb w2 hr (both_can hp p9 cF (Can.nil p) (by omega) (by simp))
    clear h1 h2 h3 hfo hF hG cF cG lF lG hp
    go_enter Try.func6, Try.ntmps6
    go_wp2_with (first
      | (go_at_call 27; (with_reducible refine (HPO.out _).mono ?_); rintro e w1 ⟨rfl, hw1⟩)
      | (go_at_call 28; (with_reducible refine (HFO.out _).mono ?_); rintro e w2 ⟨rfl, hw2⟩)
      | (go_at_call 29; (with_reducible refine (HF.out _ (by repeat (first | assumption | exact Ex.refl _ | refine Ex.trans ?_ (by assumption)))).mono ?_); rintro e w3 ⟨b3, d3, rfl, hr3, hn3, hw3⟩)
      | (go_at_call 29; (with_reducible refine (HG.out _ (by repeat (first | assumption | exact Ex.refl _ | refine Ex.trans ?_ (by assumption)))).mono ?_); rintro e w4 ⟨b4, d4, rfl, hr4, hn4, hw4⟩)
      | (go_at_call 13; (with_reducible refine (HD.out _ _ _ _ _ (hr3.out.ex (by repeat (first | assumption | exact Ex.refl _ | refine Ex.trans ?_ (by assumption))))).mono ?_); rintro e w6 ⟨rfl, hw6⟩))
    go_ret
    exact ⟨rfl, (by repeat (first | assumption | exact Ex.refl _ | refine Ex.trans ?_ (by assumption)))⟩
  · obtain ⟨J, rfl⟩ : ∃ J, LG = J + 1 := ⟨LG - 1, by omega⟩
    obtain ⟨Q, R, NQ, NR, hD, lQ, lR, mR, mQ, hDv⟩ := divL hp p9 cF cG lF lG (by omega) (by omega)
    obtain ⟨H, LH, lH, mH, cH, hH⟩ := polyL hp p9 12 12 rfl (by omega) h3
    obtain ⟨E, LE, lE, mE, cE, hE⟩ := polyL hp p9 J J rfl (by omega) h1
    obtain ⟨X, N1, e1, n1, m1, k1, _, _, hX⟩ := mulL hp p9 hD.1 cG lQ lG (by omega)
    obtain ⟨Y, N2, e2, n2, m2, k2, hY⟩ := addL hp p9 k1 hD.2.1 n1 lR (by omega)
    obtain ⟨Z, N3, e3, n3, m3, k3, _, _, hZ⟩ := mulL hp p9 cH cG lH lG (by omega)
    obtain ⟨W, N4, e4, n4, m4, k4, hW⟩ := addL hp p9 k3 cE n3 lE (by omega)
    have hDW : IsDv p W G H E := by rw [← e4, ← e3]; exact dv_forth cH cE (by omega)
    have q2 : Y = F := by rw [← e2, ← e1]; exact dv_back (by omega) cF hD
    subst q2
    obtain rfl : N2 = LF := by omega
    have hg0 : G ≠ [] := fun h => by rw [h] at lG; simp at lG
    have HDV := Lib.hid hDv
    have HDW := Lib.hid (divS hp p9 k4 cG n4 lG (by omega) (by omega) hg0 hDW lH lE)
    have HH := Lib.hid hH
    have HE : Hid (∀ (w2 : World) (m : Int), Ex w w2 → m = J → Calls Try.prog 29 #[.int .i64 p, .slice a1 l1 c1, .int .i64 m] w2 (Slc1 E LE w2)) := Lib.hid fun w2 m hx hm => by
      subst hm
      exact hE w2 hx
    have HX := Lib.hid hX
    have HY := Lib.hid hY
    have HZ := Lib.hid hZ
    have HW := Lib.hid hW
    have HE1 := Lib.hid (eqS lF (by omega))
    have HE2 := Lib.hid (eqS lH (by omega))
    have HE3 := Lib.hid (eqS lE (by omega))
    have hlt : (NR : Int) < (J : Int) + 1 := by omega
    clear h1 h2 h3 hfo hF hG hH hE hX hY hZ hW cF cG cH cE hD hDv hDW hg0 k1 k2 k3 k4 e1 e2 e3 e4 lF lG lH lE lQ lR n1 n2 n3 n4 hp h0
    go_enter Try.func6, Try.ntmps6
    go_wp2_with (first
      | (go_at_call 27; (with_reducible refine (HPO.out _).mono ?_); rintro e w1 ⟨rfl, hw1⟩)
      | (go_at_call 28; (with_reducible refine (HFO.out _).mono ?_); rintro e w2 ⟨rfl, hw2⟩)
      | (go_at_call 29; (with_reducible refine (HF.out _ (by repeat (first | assumption | exact Ex.refl _ | refine Ex.trans ?_ (by assumption)))).mono ?_); rintro e w3 ⟨b3, d3, rfl, hr3, hn3, hw3⟩)
      | (go_at_call 29; (with_reducible refine (HG.out _ (by repeat (first | assumption | exact Ex.refl _ | refine Ex.trans ?_ (by assumption)))).mono ?_); rintro e w4 ⟨b4, d4, rfl, hr4, hn4, hw4⟩)
      | (go_at_call 13; (with_reducible refine (HDV.out _ _ _ _ _ (hr3.out.ex (by repeat (first | assumption | exact Ex.refl _ | refine Ex.trans ?_ (by assumption)))) hn3.out (hr4.out.ex (by repeat (first | assumption | exact Ex.refl _ | refine Ex.trans ?_ (by assumption))))).mono ?_); rintro e w5 ⟨b5, d5, b6, d6, rfl, hr5, hn5, hr6, hn6, hw5⟩)
      | (go_at_call 12; (with_reducible refine (HX.out _ _ _ _ _ (hr5.out.ex (by repeat (first | assumption | exact Ex.refl _ | refine Ex.trans ?_ (by assumption)))) (hr4.out.ex (by repeat (first | assumption | exact Ex.refl _ | refine Ex.trans ?_ (by assumption))))).mono ?_); rintro e w7 ⟨b7, d7, rfl, hr7, hn7, hw7⟩)
      | (go_at_call 11; (with_reducible refine (HY.out _ _ _ _ _ (hr7.out.ex (by repeat (first | assumption | exact Ex.refl _ | refine Ex.trans ?_ (by assumption)))) (hr6.out.ex (by repeat (first | assumption | exact Ex.refl _ | refine Ex.trans ?_ (by assumption))))).mono ?_); rintro e w8 ⟨b8, d8, rfl, hr8, hn8, hw8⟩)
      | (go_at_call 29; (with_reducible refine (HH.out _ (by repeat (first | assumption | exact Ex.refl _ | refine Ex.trans ?_ (by assumption)))).mono ?_); rintro e w9 ⟨b9, d9, rfl, hr9, hn9, hw9⟩)
      | (go_at_call 29; (with_reducible refine (HE.out _ _ (by repeat (first | assumption | exact Ex.refl _ | refine Ex.trans ?_ (by assumption))) (by omega)).mono ?_); rintro e w10 ⟨b10, d10, rfl, hr10, hn10, hw10⟩)
      | (go_at_call 12; (with_reducible refine (HZ.out _ _ _ _ _ (hr9.out.ex (by repeat (first | assumption | exact Ex.refl _ | refine Ex.trans ?_ (by assumption)))) (hr4.out.ex (by repeat (first | assumption | exact Ex.refl _ | refine Ex.trans ?_ (by assumption))))).mono ?_); rintro e w11 ⟨b11, d11, rfl, hr11, hn11, hw11⟩)
      | (go_at_call 11; (with_reducible refine (HW.out _ _ _ _ _ (hr11.out.ex (by repeat (first | assumption | exact Ex.refl _ | refine Ex.trans ?_ (by assumption)))) (hr10.out.ex (by repeat (first | assumption | exact Ex.refl _ | refine Ex.trans ?_ (by assumption))))).mono ?_); rintro e w12 ⟨b12, d12, rfl, hr12, hn12, hw12⟩)
      | (go_at_call 13; (with_reducible refine (HDW.out _ _ _ _ _ (hr12.out.ex (by repeat (first | assumption | exact Ex.refl _ | refine Ex.trans ?_ (by assumption)))) hn12.out (hr4.out.ex (by repeat (first | assumption | exact Ex.refl _ | refine Ex.trans ?_ (by assumption))))).mono ?_); rintro e w13 ⟨b13, d13, b14, d14, rfl, hr13, hn13, hr14, hn14, hw13⟩)
      | (go_at_call 30; refine (good_zeros 6 (by omega) _ rfl _ _).mono ?_; rintro e w15 ⟨rfl, hw15⟩)
      | (go_at_call 31; (with_reducible refine (HE1.out _ _ _ _ _ (hr8.out.ex (by repeat (first | assumption | exact Ex.refl _ | refine Ex.trans ?_ (by assumption)))) (hr3.out.ex (by repeat (first | assumption | exact Ex.refl _ | refine Ex.trans ?_ (by assumption))))).mono ?_); rintro e w16 ⟨rfl, hw16⟩)
      | (go_at_call 31; (with_reducible refine (HE2.out _ _ _ _ _ (hr13.out.ex (by repeat (first | assumption | exact Ex.refl _ | refine Ex.trans ?_ (by assumption)))) (hr9.out.ex (by repeat (first | assumption | exact Ex.refl _ | refine Ex.trans ?_ (by assumption))))).mono ?_); rintro e w17 ⟨rfl, hw17⟩)
      | (go_at_call 31; (with_reducible refine (HE3.out _ _ _ _ _ (hr14.out.ex (by repeat (first | assumption | exact Ex.refl _ | refine Ex.trans ?_ (by assumption)))) (hr10.out.ex (by repeat (first | assumption | exact Ex.refl _ | refine Ex.trans ?_ (by assumption))))).mono ?_); rintro e w18 ⟨rfl, hw18⟩))
    go_ret
    exact ⟨rfl, (by repeat (first | assumption | exact Ex.refl _ | refine Ex.trans ?_ (by assumption)))⟩

end Go.Proofs.Ytfempfmpphbfnaa
