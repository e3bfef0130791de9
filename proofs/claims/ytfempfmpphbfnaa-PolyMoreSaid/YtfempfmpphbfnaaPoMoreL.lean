/-
  PolyMore, walked.
-/
import Derived.Test.YtfempfmpphbfnaaPoSays
import Derived.Test.YtfempfmpphbfnaaPoCom
import Derived.Test.YtfempfmpphbfnaaPoVal
import Derived.Test.YtfempfmpphbfnaaPoVals
import Derived.Test.YtfempfmpphbfnaaPoComm
namespace Go.Proofs.Ytfempfmpphbfnaa
open Go.RowKit
open Pr Po

set_option maxRecDepth 100000 in
set_option maxHeartbeats 1000000 in
theorem polyMore_walk (p : Int) (a1 : Option Addr) (l1 c1 : Nat) (f : List Int) (a2 : Option Addr) (l2 c2 : Nat) (g : List Int) (x : Int) (w : World)
    (_ : I64 p) (h1 : IsInts .i64 8 w a1 l1 c1 f) (h2 : IsInts .i64 8 w a2 l2 c2 g) (_ : I64 x) :
    Calls Try.prog 4 #[.int .i64 p, .slice a1 l1 c1, .slice a2 l2 c2, .int .i64 x] w (Says (.bool true) w) := by
  obtain ⟨rfl, hc1, hb1, hr1, hn1, _⟩ := h1
  obtain ⟨rfl, hc2, hb2, hr2, hn2, _⟩ := h2
  have m1 : f.length ≤ maxLen := by unfold maxLen; omega
  have m2 : g.length ≤ maxLen := by unfold maxLen; omega
  have HP1 := Lib.hid fun w2 (hx : Ex w w2) => polyErr_any p f a1 c1 w2 m1 (hr1.ex hx)
  have HP2 := Lib.hid fun w2 (hx : Ex w w2) => polyErr_any p g a2 c2 w2 m2 (hr2.ex hx)
  have hbe : bothE p f g = if polyE p f ≠ 0 then polyE p f else polyE p g := rfl
  by_cases hf : polyE p f = 0
  rotate_left
  · rw [if_pos hf] at hbe
    have HG := Lib.hid fun w2 (hx : Ex w w2) => pgcd_no p f g a1 a2 c1 c2 w2 m1 (hr1.ex hx) m2 (hr2.ex hx) (by rw [hbe]; exact hf)
    have HA := Lib.hid fun w2 (hx : Ex w w2) => pat_no p f x a1 c1 w2 m1 (hr1.ex hx) hf
    rw [hbe] at HG
    obtain ⟨A, hA⟩ : ∃ A, polyE p f = A := ⟨_, rfl⟩
    obtain ⟨LF, hLF⟩ : ∃ LF, f.length = LF := ⟨_, rfl⟩
    obtain ⟨LG, hLG⟩ : ∃ LG, g.length = LG := ⟨_, rfl⟩
    rw [hA] at HP1 HG HA hf
    rw [hLF] at HP1 HG HA ⊢
    rw [hLG] at HG ⊢
    have hb : (A != 0) = true := by simpa using hf
    clear hA hLF hLG hbe m1 m2 hr1 hr2 HP2 hn1 hn2
    go_enter Try.func4, Try.ntmps4
    go_wp2_with (first
      | (go_at_call 17; (with_reducible refine (HP1.out _ (by repeat (first | assumption | exact Ex.refl _ | refine Ex.trans ?_ (by assumption)))).mono ?_); rintro e w3 ⟨rfl, hw3⟩)
      | (go_at_call 23; (with_reducible refine (HG.out _ (by repeat (first | assumption | exact Ex.refl _ | refine Ex.trans ?_ (by assumption)))).mono ?_); rintro e w1 ⟨rfl, hw1⟩) | (go_at_call 24; (with_reducible refine (HA.out _ (by repeat (first | assumption | exact Ex.refl _ | refine Ex.trans ?_ (by assumption)))).mono ?_); rintro e w2 ⟨rfl, hw2⟩))
    go_ret
    exact ⟨rfl, (by repeat (first | assumption | exact Ex.refl _ | refine Ex.trans ?_ (by assumption)))⟩
  rw [if_neg (by simpa using hf)] at hbe
  obtain ⟨hp, hp9, lf, cf⟩ := polyE_zero.mp hf
  have p2 := hp.1
  rw [hf] at HP1
  obtain ⟨y, ey, y0, y1, hy⟩ := atL hp hp9 cf rfl lf x
  have HA := Lib.hid fun w2 (hx : Ex w w2) => hy w2 a1 c1 (hr1.ex hx)
  have HV := Lib.hid fun w2 (hx : Ex w w2) => refValue_any p f x a1 c1 w2 p2 hp9 cf.bnd (by omega) (hr1.ex hx)
  rw [ey] at HV
  by_cases hg : polyE p g = 0
  · have hB : bothE p f g = 0 := hbe.trans hg
    obtain ⟨_, _, lg, cg⟩ := polyE_zero.mp hg
    rw [hg] at HP2
    obtain ⟨D, hD⟩ := isG_some hp g.length f g (Nat.le_refl _) cf cg
    have dl := hD.mon.1
    obtain ⟨ND, hND⟩ : ∃ ND, D.length = ND := ⟨_, rfl⟩
    have HG : Hid (∀ w2, Ex w w2 → Calls Try.prog 23 #[.int .i64 p, .slice a1 f.length c1, .slice a2 g.length c2] w2 (Slc D ND w2)) := Lib.hid fun w2 hx =>
      (pgcd_ok p f g a1 a2 c1 c2 w2 (hr1.ex hx) hn1 (hr2.ex hx) hn2 hB D hD).mono fun e w3 k => Rowed.slc k hND
    have HC : Hid (∀ w2, Ex w w2 → Calls Try.prog 26 #[.int .i64 p, .slice a1 f.length c1, .slice a2 g.length c2] w2 (Slc1 D ND w2)) := Lib.hid fun w2 hx =>
      (refCommon_any p hp hp9 g.length f g a1 a2 c1 c2 w2 D (Nat.le_refl _) cf cg (by omega) (by omega) (hr1.ex hx) hn1 hc1 (by omega) (hr2.ex hx) hn2 hc2 (by omega) hD).mono fun e w3 k => Row1.slc k hND
    have hdl := isG_len hp cf cg hD
    have HS := Lib.hid (sameS hND (by omega))
    obtain ⟨LF, hLF⟩ : ∃ LF, f.length = LF := ⟨_, rfl⟩
    obtain ⟨LG, hLG⟩ : ∃ LG, g.length = LG := ⟨_, rfl⟩
    rw [hLF] at HP1 HG HA HV HC ⊢
    rw [hLG] at HP2 HG HC ⊢
    clear hLF hLG hbe m1 m2 hr1 hr2 hn1 hn2 hD hdl hND dl hy ey hp cf cg hf hg hB hc1 hb1 hc2 hb2 lf lg
    go_enter Try.func4, Try.ntmps4
    go_wp2_with (first
      | (go_at_call 17; (with_reducible refine (HP1.out _ (by repeat (first | assumption | exact Ex.refl _ | refine Ex.trans ?_ (by assumption)))).mono ?_); rintro e w3 ⟨rfl, hw3⟩)
      | (go_at_call 23; (with_reducible refine (HG.out _ (by repeat (first | assumption | exact Ex.refl _ | refine Ex.trans ?_ (by assumption)))).mono ?_); rintro e w1 ⟨b1, d1, rfl, hr1, hn1, hw1⟩) | (go_at_call 24; (with_reducible refine (HA.out _ (by repeat (first | assumption | exact Ex.refl _ | refine Ex.trans ?_ (by assumption)))).mono ?_); rintro e w2 ⟨rfl, hw2⟩) | (go_at_call 25; (with_reducible refine (HV.out _ (by repeat (first | assumption | exact Ex.refl _ | refine Ex.trans ?_ (by assumption)))).mono ?_); rintro e w4 ⟨rfl, hw4⟩) | (go_at_call 17; (with_reducible refine (HP2.out _ (by repeat (first | assumption | exact Ex.refl _ | refine Ex.trans ?_ (by assumption)))).mono ?_); rintro e w5 ⟨rfl, hw5⟩) | (go_at_call 26; (with_reducible refine (HC.out _ (by repeat (first | assumption | exact Ex.refl _ | refine Ex.trans ?_ (by assumption)))).mono ?_); rintro e w6 ⟨b6, d6, rfl, hr6, hn6, hw6⟩) | (go_at_call 18; (with_reducible refine (HS.out _ _ _ _ _ (hr1.out.ex (by repeat (first | assumption | exact Ex.refl _ | refine Ex.trans ?_ (by assumption)))) (hr6.out.ex (by repeat (first | assumption | exact Ex.refl _ | refine Ex.trans ?_ (by assumption))))).mono ?_); rintro e w7 ⟨rfl, hw7⟩))
    go_ret
    exact ⟨rfl, (by repeat (first | assumption | exact Ex.refl _ | refine Ex.trans ?_ (by assumption)))⟩
  · have HG := Lib.hid fun w2 (hx : Ex w w2) => pgcd_no p f g a1 a2 c1 c2 w2 m1 (hr1.ex hx) m2 (hr2.ex hx) (by rw [hbe]; exact hg)
    rw [hbe] at HG
    obtain ⟨A, hA⟩ : ∃ A, polyE p g = A := ⟨_, rfl⟩
    obtain ⟨LF, hLF⟩ : ∃ LF, f.length = LF := ⟨_, rfl⟩
    obtain ⟨LG, hLG⟩ : ∃ LG, g.length = LG := ⟨_, rfl⟩
    rw [hA] at HP2 HG hg
    rw [hLF] at HP1 HG HA HV ⊢
    rw [hLG] at HP2 HG ⊢
    have hb : (A != 0) = true := by simpa using hg
    clear hA hLF hLG hbe m1 m2 hr1 hr2 hn1 hn2 hy ey hp cf hf
    go_enter Try.func4, Try.ntmps4
    go_wp2_with (first
      | (go_at_call 17; (with_reducible refine (HP1.out _ (by repeat (first | assumption | exact Ex.refl _ | refine Ex.trans ?_ (by assumption)))).mono ?_); rintro e w3 ⟨rfl, hw3⟩)
      | (go_at_call 23; (with_reducible refine (HG.out _ (by repeat (first | assumption | exact Ex.refl _ | refine Ex.trans ?_ (by assumption)))).mono ?_); rintro e w1 ⟨rfl, hw1⟩) | (go_at_call 24; (with_reducible refine (HA.out _ (by repeat (first | assumption | exact Ex.refl _ | refine Ex.trans ?_ (by assumption)))).mono ?_); rintro e w2 ⟨rfl, hw2⟩) | (go_at_call 25; (with_reducible refine (HV.out _ (by repeat (first | assumption | exact Ex.refl _ | refine Ex.trans ?_ (by assumption)))).mono ?_); rintro e w4 ⟨rfl, hw4⟩) | (go_at_call 17; (with_reducible refine (HP2.out _ (by repeat (first | assumption | exact Ex.refl _ | refine Ex.trans ?_ (by assumption)))).mono ?_); rintro e w5 ⟨rfl, hw5⟩))
    go_ret
    exact ⟨rfl, (by repeat (first | assumption | exact Ex.refl _ | refine Ex.trans ?_ (by assumption)))⟩

end Go.Proofs.Ytfempfmpphbfnaa
