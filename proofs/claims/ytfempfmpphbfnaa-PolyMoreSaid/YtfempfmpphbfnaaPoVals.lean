/-
  PolyValues, walked.
-/
import Derived.Test.YtfempfmpphbfnaaPoTool
import Derived.Test.YtfempfmpphbfnaaPoAt
namespace Go.Proofs.Ytfempfmpphbfnaa
open Go.RowKit
open Pr Po

theorem atL {p : Int} (hp : Prm p) (p9 : p ≤ 997) {F : List Int} {L : Nat} (hF : Po.Can p F) (hL : F.length = L) (hm : L ≤ 40) (x : Int) :
    ∃ u, ev F x % p = u ∧ 0 ≤ u ∧ u < p ∧ ∀ (w : World) (a : Option Addr) (ca : Nat), Reads w .i64 a F → Calls Try.prog 24 #[.int .i64 p, .slice a L ca, .int .i64 x] w (Says (.tuple #[.int .i64 u, .int .i64 0]) w) := by
  have p2 := hp.1
  subst hL
  exact ⟨_, rfl, Int.emod_nonneg _ (by omega), Int.emod_lt_of_pos _ (by omega), fun w a ca hr => pat_ok p F x a ca w hr (polyE_zero.mpr ⟨hp, p9, hm, hF⟩)⟩

theorem at_lit (w : World) : Calls Try.prog 24 #[.int .i64 7, .slice (some ⟨w.heap.size, 0, none⟩) 3 3, .int .i64 2] (w.alloc (.cells #[.int .i64 1, .int .i64 2, .int .i64 3] 3)) (Says (.tuple #[.int .i64 3, .int .i64 0]) (w.alloc (.cells #[.int .i64 1, .int .i64 2, .int .i64 3] 3))) := by
  have h1 := reads_new .i64 [1, 2, 3] #[.int .i64 1, .int .i64 2, .int .i64 3] rfl 3 w
  have := pat_ok 7 [1, 2, 3] 2 _ 3 _ h1 (polyE_zero.mpr ⟨(pb_iff 7).mp (by decide), by omega, by decide, ⟨by decide, by decide⟩⟩)
  rw [show ev [1, 2, 3] 2 % 7 = 3 by decide] at this
  exact this

theorem ev_red {p : Int} (f : List Int) (x : Int) : ev (red p f) x % p = ev f x % p :=
  Int.emod_eq_emod_iff_emod_sub_eq_zero.mpr (Int.emod_eq_zero_of_dvd (ev_cg (cg_red p f) x))

set_option maxRecDepth 100000 in
set_option maxHeartbeats 1000000 in
theorem polyValues_walk (n : Int) (a1 : Option Addr) (l1 c1 : Nat) (z1 : List Int) (a2 : Option Addr) (l2 c2 : Nat) (z2 : List Int) (x : Int) (w : World)
    (_ : I64 n) (h1 : IsInts .i64 8 w a1 l1 c1 z1) (h2 : IsInts .i64 8 w a2 l2 c2 z2) (_ : I64 x) :
    Calls Try.prog 8 #[.int .i64 n, .slice a1 l1 c1, .slice a2 l2 c2, .int .i64 x] w (Says (.bool true) w) := by
  obtain ⟨p, hp, p9, hfo⟩ := fieldOf_some n
  have p2 := hp.1
  obtain ⟨F, LF, lF, mF, cF, hF⟩ := polyL hp p9 20 20 rfl (by omega) h1
  obtain ⟨G, LG, lG, mG, cG, hG⟩ := polyL hp p9 20 20 rfl (by omega) h2
  obtain ⟨S, N1, e1, n1, m1, k1, hS⟩ := addL hp p9 cF cG lF lG (by omega)
  obtain ⟨M, N2, e2, n2, m2, k2, _, _, hM⟩ := mulL hp p9 cF cG lF lG (by omega)
  obtain ⟨u, eu, u0, u1, hu⟩ := atL hp p9 cF lF (by omega) x
  obtain ⟨v, ev', v0, v1, hv⟩ := atL hp p9 cG lG (by omega) x
  obtain ⟨y, ey, y0, y1, hy⟩ := atL hp p9 k1 n1 (by omega) x
  obtain ⟨z, ez, z0, z1', hz⟩ := atL hp p9 k2 n2 (by omega) x
  have hsum : (u + v) % p = y := by rw [← eu, ← ev', ← ey, ← e1, ev_red, ev_add, ← Int.add_emod]
  have hprod : u * v % p = z := by rw [← eu, ← ev', ← ez, ← e2, ev_red, ev_mul, ← Int.mul_emod]
  obtain ⟨t0, t1⟩ := Eu.mul_le (a := u) (b := v) (A := 997) (B := 997) (by omega) (by omega) (by omega) (by omega)
  have HPO := Lib.hid polys_yes
  have HFO := Lib.hid hfo
  have HF := Lib.hid hF
  have HG := Lib.hid hG
  have HS := Lib.hid hS
  have HM := Lib.hid hM
  have HU := Lib.hid hu
  have HV := Lib.hid hv
  have HY := Lib.hid hy
  have HZ := Lib.hid hz
  have HL := Lib.hid at_lit
  clear h1 h2 hfo hF hG cF cG lF lG hp hS hM hu hv hy hz eu ev' ey ez e1 e2 k1 k2 n1 n2
  go_enter Try.func8, Try.ntmps8
  go_wp2_with (first
    | (go_at_call 24; (with_reducible refine (HL.out _).mono ?_); rintro e w0 ⟨rfl, hw0⟩
       have hx0 : Ex w w0 := ((Ex.refl w).alloc _).trans hw0
       clear hw0)
    | (go_at_call 27; (with_reducible refine (HPO.out _).mono ?_); rintro e w1 ⟨rfl, hw1⟩)
    | (go_at_call 28; (with_reducible refine (HFO.out _).mono ?_); rintro e w2 ⟨rfl, hw2⟩)
    | (go_at_call 29; (with_reducible refine (HF.out _ (by repeat (first | assumption | exact Ex.refl _ | refine Ex.trans ?_ (by assumption)))).mono ?_); rintro e w3 ⟨b3, d3, rfl, hr3, hn3, hw3⟩)
    | (go_at_call 29; (with_reducible refine (HG.out _ (by repeat (first | assumption | exact Ex.refl _ | refine Ex.trans ?_ (by assumption)))).mono ?_); rintro e w4 ⟨b4, d4, rfl, hr4, hn4, hw4⟩)
    | (go_at_call 11; (with_reducible refine (HS.out _ _ _ _ _ (hr3.out.ex (by repeat (first | assumption | exact Ex.refl _ | refine Ex.trans ?_ (by assumption)))) (hr4.out.ex (by repeat (first | assumption | exact Ex.refl _ | refine Ex.trans ?_ (by assumption))))).mono ?_); rintro e w5 ⟨b5, d5, rfl, hr5, hn5, hw5⟩)
    | (go_at_call 12; (with_reducible refine (HM.out _ _ _ _ _ (hr3.out.ex (by repeat (first | assumption | exact Ex.refl _ | refine Ex.trans ?_ (by assumption)))) (hr4.out.ex (by repeat (first | assumption | exact Ex.refl _ | refine Ex.trans ?_ (by assumption))))).mono ?_); rintro e w6 ⟨b6, d6, rfl, hr6, hn6, hw6⟩)
    | (go_at_call 24; (with_reducible refine (HU.out _ _ _ (hr3.out.ex (by repeat (first | assumption | exact Ex.refl _ | refine Ex.trans ?_ (by assumption))))).mono ?_); rintro e w7 ⟨rfl, hw7⟩)
    | (go_at_call 24; (with_reducible refine (HV.out _ _ _ (hr4.out.ex (by repeat (first | assumption | exact Ex.refl _ | refine Ex.trans ?_ (by assumption))))).mono ?_); rintro e w8 ⟨rfl, hw8⟩)
    | (go_at_call 24; (with_reducible refine (HY.out _ _ _ (hr5.out.ex (by repeat (first | assumption | exact Ex.refl _ | refine Ex.trans ?_ (by assumption))))).mono ?_); rintro e w9 ⟨rfl, hw9⟩)
    | (go_at_call 24; (with_reducible refine (HZ.out _ _ _ (hr6.out.ex (by repeat (first | assumption | exact Ex.refl _ | refine Ex.trans ?_ (by assumption))))).mono ?_); rintro e w10 ⟨rfl, hw10⟩)
    | (go_at_call 30; refine (good_zeros 6 (by omega) _ rfl _ _).mono ?_; rintro e w15 ⟨rfl, hw15⟩))
  go_ret
  exact ⟨rfl, (by repeat (first | assumption | exact Ex.refl _ | refine Ex.trans ?_ (by assumption)))⟩

end Go.Proofs.Ytfempfmpphbfnaa
