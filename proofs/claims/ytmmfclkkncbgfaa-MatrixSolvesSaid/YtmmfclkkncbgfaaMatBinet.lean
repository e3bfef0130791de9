/-
  MatrixBinet, walked.
-/
import Derived.Test.YtmmfclkkncbgfaaMatW
import Derived.Test.YtmmfclkkncbgfaaTabTurn
import Derived.Test.YtmmfclkkncbgfaaGfw
namespace Go.Proofs.Ytmmfclkkncbgfaa
open Go.RowKit
open Gf

set_option maxRecDepth 100000 in
set_option maxHeartbeats 2000000 in
theorem matrixBinet_of (HM : MulC) (HD : DetC) (HR : RankC) (a : Option Addr) (la ca : Nat) (m : List (List Int)) (b : Option Addr) (lb cb : Nat) (n : List (List Int)) (w : World) (ha : IsMat .u8 w a la ca m) (hb : IsMat .u8 w b lb cb n) :
    Calls Try.prog 6 #[.slice a la ca, .slice b lb cb] w (Says (.bool true) w) := by
  have HT := Lib.hid (tables_yes HD HR)
  have TA := Lib.hid True.intro
  have TB := Lib.hid True.intro
  obtain ⟨x, E1, hA, hA0, hA1⟩ : ∃ (x : E) (E1 : Int), (∀ w2, Ex w w2 → Calls Try.prog 12 #[.slice a la ca] w2 (Says (.tuple #[.int .u8 ((x.v : Nat) : Int), .int .i64 E1]) w2)) ∧ (E1 = 0 → detE m = 0 ∧ x = det (tbl m) la) ∧ (E1 ≠ 0 → x = 0) := by
    by_cases h : detE m = 0
    · obtain ⟨s1, s2, s3⟩ := ha.sq h
      exact ⟨det (tbl m) la, 0, fun w2 hx => HD.ok s1 s2 (s3.ex hx), fun _ => ⟨h, rfl⟩, fun h => absurd rfl h⟩
    · exact ⟨0, detE m, fun w2 hx => HD.no (ha.ex hx) h, fun h2 => absurd h2 h, fun _ => rfl⟩
  obtain ⟨y, E2, hB, hB0, hB1⟩ : ∃ (x : E) (E1 : Int), (∀ w2, Ex w w2 → Calls Try.prog 12 #[.slice b lb cb] w2 (Says (.tuple #[.int .u8 ((x.v : Nat) : Int), .int .i64 E1]) w2)) ∧ (E1 = 0 → detE n = 0 ∧ x = det (tbl n) lb) ∧ (E1 ≠ 0 → x = 0) := by
    by_cases h : detE n = 0
    · obtain ⟨s1, s2, s3⟩ := hb.sq h
      exact ⟨det (tbl n) lb, 0, fun w2 hx => HD.ok s1 s2 (s3.ex hx), fun _ => ⟨h, rfl⟩, fun h => absurd rfl h⟩
    · exact ⟨0, detE n, fun w2 hx => HD.no (hb.ex hx) h, fun h2 => absurd h2 h, fun _ => rfl⟩
  have HDA := Lib.hid hA
  have HDB := Lib.hid hB
  have xl := x.lt
  have yl := y.lt
  by_cases h1 : E1 = 0
  · obtain ⟨d1, x1⟩ := hA0 h1
    obtain ⟨s1, s2, s3⟩ := ha.sq d1
    subst h1
    by_cases h2 : E2 = 0
    · obtain ⟨d2, y1⟩ := hB0 h2
      obtain ⟨t1, t2, t3⟩ := hb.sq d2
      subst h2
      by_cases hl : la = lb
      · subst hl
        have HAB := Lib.hid fun w2 (hx : Ex w w2) => HM.ok (ca := ca) (cb := cb) s1 s2 s1 s2 s1 s2 (s3.ex hx) (t3.ex hx)
        have HZ := Lib.hid fun w2 a2 c2 (h : ReadsT w2 a2 la la (mm (tbl m) (tbl n) la)) => HD.ok (ca := c2) s1 s2 h
        have HU := Lib.hid fun w2 (hx : Ex w w2) => turned_any (tbl m) la la a ca w2 s1 s2 s1 s2 (s3.ex hx)
        have HV := Lib.hid fun w2 a2 c2 (h : ReadsT w2 a2 la la (fun j i => tbl m i j)) => HD.ok (ca := c2) s1 s2 h
        rw [det_mul, ← x1, ← y1] at HZ
        rw [det_turn, ← x1] at HV
        obtain ⟨z, hz⟩ : ∃ z, x * y = z := ⟨_, rfl⟩
        rw [hz] at HZ
        have HXY := mulH x.v y.v z.v x.lt y.lt (by rw [← hz]; rfl)
        have zl := z.lt
        clear hA hB hA0 hA1 hB0 hB1 d1 d2 x1 y1 s3 t3 hz ha hb
        have TC := Lib.hid True.intro
        have TD := Lib.hid True.intro
        go_enter Try.func6, Try.ntmps6
        go_wp2_with (first
          | (go_at_call 26; (with_reducible refine (HT.out _).mono ?_); rintro e w1 ⟨rfl, hw1⟩)
          | (go_at_call 12; clear TA; (with_reducible refine (HDA.out _ (by repeat (first | assumption | exact Ex.refl _ | refine Ex.trans ?_ (by assumption)))).mono ?_); rintro e w2 ⟨rfl, hw2⟩)
          | (go_at_call 12; clear TB; (with_reducible refine (HDB.out _ (by repeat (first | assumption | exact Ex.refl _ | refine Ex.trans ?_ (by assumption)))).mono ?_); rintro e w3 ⟨rfl, hw3⟩)
          | (go_at_call 10; (with_reducible refine (HAB.out _ (by repeat (first | assumption | exact Ex.refl _ | refine Ex.trans ?_ (by assumption)))).mono ?_); rintro e w4 ⟨a4, c4, rfl, hc4, hr4, hw4⟩)
          | (go_at_call 12; clear TC; (with_reducible refine (HZ.out _ _ _ hr4.out).mono ?_); rintro e w5 ⟨rfl, hw5⟩)
          | (go_at_call 27; (with_reducible refine (HU.out _ (by repeat (first | assumption | exact Ex.refl _ | refine Ex.trans ?_ (by assumption)))).mono ?_); rintro e w6 ⟨a6, c6, rfl, hc6, hr6, hw6⟩)
          | (go_at_call 12; clear TD; (with_reducible refine (HV.out _ _ _ hr6.out).mono ?_); rintro e w7 ⟨rfl, hw7⟩)
          | (go_at_call 24; refine (good_zeros 3 (by omega) _ rfl _ _).mono ?_; rintro e w8 ⟨rfl, hw8⟩)
          | (go_at_call 28; (with_reducible refine (HXY.out _).mono ?_); rintro e w9 ⟨rfl, hw9⟩))
        go_ret
        exact ⟨rfl, (by repeat (first | assumption | exact Ex.refl _ | refine Ex.trans ?_ (by assumption)))⟩
      · have hne : ((la : Int) != (lb : Int)) = true := by simp; omega
        have hne2 : ((la : Int) == (lb : Int)) = false := by simp; omega
        clear hA hB hA0 hA1 hB0 hB1 d1 d2 x1 y1 s3 t3 ha hb
        go_enter Try.func6, Try.ntmps6
        go_wp2_with (first
          | (go_at_call 26; (with_reducible refine (HT.out _).mono ?_); rintro e w1 ⟨rfl, hw1⟩)
          | (go_at_call 12; clear TA; (with_reducible refine (HDA.out _ (by repeat (first | assumption | exact Ex.refl _ | refine Ex.trans ?_ (by assumption)))).mono ?_); rintro e w2 ⟨rfl, hw2⟩)
          | (go_at_call 12; clear TB; (with_reducible refine (HDB.out _ (by repeat (first | assumption | exact Ex.refl _ | refine Ex.trans ?_ (by assumption)))).mono ?_); rintro e w3 ⟨rfl, hw3⟩))
        go_ret
        exact ⟨rfl, (by repeat (first | assumption | exact Ex.refl _ | refine Ex.trans ?_ (by assumption)))⟩
    · have e2 : (E2 != 0) = true := by simpa using h2
      have e3 : (E2 == 0) = false := by simpa using h2
      obtain rfl := hB1 h2
      clear hA hB hA0 hA1 hB0 hB1 h2 d1 x1 s3 ha hb
      go_enter Try.func6, Try.ntmps6
      go_wp2_with (first
        | (go_at_call 26; (with_reducible refine (HT.out _).mono ?_); rintro e w1 ⟨rfl, hw1⟩)
        | (go_at_call 12; clear TA; (with_reducible refine (HDA.out _ (by repeat (first | assumption | exact Ex.refl _ | refine Ex.trans ?_ (by assumption)))).mono ?_); rintro e w2 ⟨rfl, hw2⟩)
        | (go_at_call 12; clear TB; (with_reducible refine (HDB.out _ (by repeat (first | assumption | exact Ex.refl _ | refine Ex.trans ?_ (by assumption)))).mono ?_); rintro e w3 ⟨rfl, hw3⟩))
      go_ret
      exact ⟨rfl, (by repeat (first | assumption | exact Ex.refl _ | refine Ex.trans ?_ (by assumption)))⟩
  · have e1 : (E1 != 0) = true := by simpa using h1
    have e1' : (E1 == 0) = false := by simpa using h1
    obtain rfl := hA1 h1
    by_cases h2 : E2 = 0
    · subst h2
      clear hA hB hA0 hA1 hB0 hB1 h1 ha hb
      go_enter Try.func6, Try.ntmps6
      go_wp2_with (first
        | (go_at_call 26; (with_reducible refine (HT.out _).mono ?_); rintro e w1 ⟨rfl, hw1⟩)
        | (go_at_call 12; clear TA; (with_reducible refine (HDA.out _ (by repeat (first | assumption | exact Ex.refl _ | refine Ex.trans ?_ (by assumption)))).mono ?_); rintro e w2 ⟨rfl, hw2⟩)
        | (go_at_call 12; clear TB; (with_reducible refine (HDB.out _ (by repeat (first | assumption | exact Ex.refl _ | refine Ex.trans ?_ (by assumption)))).mono ?_); rintro e w3 ⟨rfl, hw3⟩))
      go_ret
      exact ⟨rfl, (by repeat (first | assumption | exact Ex.refl _ | refine Ex.trans ?_ (by assumption)))⟩
    · have e2 : (E2 != 0) = true := by simpa using h2
      have e3 : (E2 == 0) = false := by simpa using h2
      obtain rfl := hB1 h2
      clear hA hB hA0 hA1 hB0 hB1 h1 h2 ha hb
      go_enter Try.func6, Try.ntmps6
      go_wp2_with (first
        | (go_at_call 26; (with_reducible refine (HT.out _).mono ?_); rintro e w1 ⟨rfl, hw1⟩)
        | (go_at_call 12; clear TA; (with_reducible refine (HDA.out _ (by repeat (first | assumption | exact Ex.refl _ | refine Ex.trans ?_ (by assumption)))).mono ?_); rintro e w2 ⟨rfl, hw2⟩)
        | (go_at_call 12; clear TB; (with_reducible refine (HDB.out _ (by repeat (first | assumption | exact Ex.refl _ | refine Ex.trans ?_ (by assumption)))).mono ?_); rintro e w3 ⟨rfl, hw3⟩))
      go_ret
      exact ⟨rfl, (by repeat (first | assumption | exact Ex.refl _ | refine Ex.trans ?_ (by assumption)))⟩

end Go.Proofs.Ytmmfclkkncbgfaa
