/-
  MatrixRanks, walked.
-/
import Derived.Test.YtmmfclkkncbgfaaMatW
import Derived.Test.YtmmfclkkncbgfaaGmx
import Derived.Test.YtmmfclkkncbgfaaTabTurn
namespace Go.Proofs.Ytmmfclkkncbgfaa
open Go.RowKit
open Gf

theorem ranks_prod {A B : Nat → Nat → E} {R K C x y z : Nat} (hR : R ≤ 12) (hC : C ≤ 12) (hx : Rk A (List.range R) (List.range K) x) (hy : Rk B (List.range K) (List.range C) y) (hz : Rk (mm A B K) (List.range R) (List.range C) z) :
    z ≤ x ∧ z ≤ y ∧ x + y ≤ z + K ∧ x ≤ R ∧ x ≤ K ∧ y ≤ C := by
  refine ⟨hx.2 z (Hm.left (A := A) (B := B) hz.1), hy.2 z (Hm.right (A := A) (B := B) hz.1), ?_, ?_, ?_, ?_⟩
  · have := sylvester (A := A) (B := B) (t := z) (fun i hi => by have := List.mem_range.mp hi; omega) (fun i hi => by have := List.mem_range.mp hi; omega) List.nodup_range List.nodup_range List.nodup_range hx.1 hy.1 fun u hu => hz.2 u hu
    rwa [List.length_range] at this
  · have := hx.1.le.1; rwa [List.length_range] at this
  · have := hx.1.le.2; rwa [List.length_range] at this
  · have := hy.1.le.2; rwa [List.length_range] at this

set_option maxRecDepth 100000 in
set_option maxHeartbeats 2000000 in
theorem matrixRanks_of (HM : MulC) (HD : DetC) (HR : RankC) (a : Option Addr) (la ca : Nat) (m : List (List Int)) (b : Option Addr) (lb cb : Nat) (n : List (List Int)) (w : World) (ha : IsMat .u8 w a la ca m) (hb : IsMat .u8 w b lb cb n) :
    Calls Try.prog 7 #[.slice a la ca, .slice b lb cb] w (Says (.bool true) w) := by
  have HT := Lib.hid (tables_yes HD HR)
  have TA := Lib.hid True.intro
  have TB := Lib.hid True.intro
  by_cases h1 : mulE m n = 0
  · obtain ⟨d1, d2, d3⟩ := mulE_zero.mp h1
    obtain ⟨s1, s2, s3, s4, s5⟩ := ha.ok d1
    obtain ⟨t1, t2, t3, t4, t5⟩ := hb.ok d2
    have hlb := hb.1
    have hbk : lb = colsM m := by omega
    rw [← hbk] at s3 s4 s5
    obtain ⟨C, hC⟩ : ∃ C, colsM n = C := ⟨_, rfl⟩
    rw [hC] at t3 t4 t5
    obtain ⟨x, hx⟩ := rk_some (tbl m) (List.range la) (List.range lb)
    obtain ⟨y, hy⟩ := rk_some (tbl n) (List.range lb) (List.range C)
    obtain ⟨z, hz⟩ := rk_some (mm (tbl m) (tbl n) lb) (List.range la) (List.range C)
    obtain ⟨r1, r2, r3, r4, r5, r6⟩ := ranks_prod s2 t4 hx hy hz
    obtain ⟨bA, oA, bA0, oA0, cA0, rfl, hA0, hA0c, hA0m, _⟩ := s5.at (r := 0) (by omega)
    rw [Nat.add_zero] at hA0
    have HRA := Lib.hid fun w2 (k : Ex w w2) => HR.ok (ca := ca) s1 s2 s3 s4 (s5.ex k) hx
    have HRB := Lib.hid fun w2 (k : Ex w w2) => HR.ok (ca := cb) t1 t2 t3 t4 (t5.ex k) hy
    have HAB := Lib.hid fun w2 (k : Ex w w2) => HM.ok (ca := ca) (cb := cb) s1 s2 t1 t2 t3 t4 (s5.ex k) (t5.ex k)
    have HZ := Lib.hid fun w2 a2 c2 (h : ReadsT w2 a2 la C (mm (tbl m) (tbl n) lb)) => HR.ok (ca := c2) s1 s2 t3 t4 h hz
    have HU := Lib.hid fun w2 (k : Ex w w2) => turned_any (tbl m) la lb (some ⟨bA, oA, none⟩) ca w2 s1 s2 s3 s4 (s5.ex k)
    have HV := Lib.hid fun w2 a2 c2 (h : ReadsT w2 a2 lb la (fun j i => tbl m i j)) => HR.ok (ca := c2) s3 s4 s1 s2 h hx.turn
    have HC0 := Lib.hid fun w2 (k : Ex w w2) => k.cell hA0
    have g1 : decide ((z : Int) ≤ (x : Int)) = true := decide_eq_true (by omega)
    have g2 : decide ((z : Int) ≤ (y : Int)) = true := decide_eq_true (by omega)
    have g3 : decide ((x : Int) + (y : Int) - (lb : Int) ≤ (z : Int)) = true := decide_eq_true (by omega)
    have TC := Lib.hid True.intro
    have TD := Lib.hid True.intro
    clear h1 d1 d2 d3 s5 t5 ha hb hbk hlb hC hx hy hz hA0
    go_enter Try.func7, Try.ntmps7
    go_wp2_with (first
      | (go_at_call 26; (with_reducible refine (HT.out _).mono ?_); rintro e w1 ⟨rfl, hw1⟩)
      | (go_at_call 11; clear TA; (with_reducible refine (HRA.out _ (by repeat (first | assumption | exact Ex.refl _ | refine Ex.trans ?_ (by assumption)))).mono ?_); rintro e w2 ⟨rfl, hw2⟩)
      | (go_at_call 11; clear TB; (with_reducible refine (HRB.out _ (by repeat (first | assumption | exact Ex.refl _ | refine Ex.trans ?_ (by assumption)))).mono ?_); rintro e w3 ⟨rfl, hw3⟩)
      | (go_at_call 10; (with_reducible refine (HAB.out _ (by repeat (first | assumption | exact Ex.refl _ | refine Ex.trans ?_ (by assumption)))).mono ?_); rintro e w4 ⟨a4, c4, rfl, hc4, hr4, hw4⟩)
      | (go_at_call 11; clear TC; (with_reducible refine (HZ.out _ _ _ hr4.out).mono ?_); rintro e w5 ⟨rfl, hw5⟩)
      | (go_at_call 27; (with_reducible refine (HU.out _ (by repeat (first | assumption | exact Ex.refl _ | refine Ex.trans ?_ (by assumption)))).mono ?_); rintro e w6 ⟨a6, c6, rfl, hc6, hr6, hw6⟩)
      | (go_at_call 11; clear TD; (with_reducible refine (HV.out _ _ _ hr6.out).mono ?_); rintro e w7 ⟨rfl, hw7⟩)
      | (go_at_call 24; refine (good_zeros 2 (by omega) _ rfl _ _).mono ?_; rintro e w8 ⟨rfl, hw8⟩; have q8 := HC0.out w8 (by repeat (first | assumption | exact Ex.refl _ | refine Ex.trans ?_ (by assumption)))))
    all_goals go_ret
    all_goals exact ⟨by first | rfl | (simp; done) | (simp; omega), (by repeat (first | assumption | exact Ex.refl _ | refine Ex.trans ?_ (by assumption)))⟩
  · have HAB := Lib.hid fun w2 (hx : Ex w w2) => HM.no (ha.ex hx) (hb.ex hx) h1
    obtain ⟨E3, hE3⟩ : ∃ E3, mulE m n = E3 := ⟨_, rfl⟩
    rw [hE3] at HAB h1
    have e3 : (E3 != 0) = true := by simpa using h1
    obtain ⟨x, E1, hA, hA1, xl⟩ : ∃ (x : Nat) (E1 : Int), (∀ w2, Ex w w2 → Calls Try.prog 11 #[.slice a la ca] w2 (Says (.tuple #[.int .i64 (x : Int), .int .i64 E1]) w2)) ∧ (E1 ≠ 0 → x = 0) ∧ x ≤ 1000 := by
      by_cases h : tabE m = 0
      · obtain ⟨s1, s2, s3, s4, s5⟩ := ha.ok h
        obtain ⟨x, hx⟩ := rk_some (tbl m) (List.range la) (List.range (colsM m))
        have := hx.1.le.1
        rw [List.length_range] at this
        exact ⟨x, 0, fun w2 k => HR.ok s1 s2 s3 s4 (s5.ex k) hx, fun h => absurd rfl h, by omega⟩
      · exact ⟨0, tabE m, fun w2 hx => HR.no (ha.ex hx) h, fun _ => rfl, by omega⟩
    obtain ⟨y, E2, hB, yl⟩ : ∃ (x : Nat) (E1 : Int), (∀ w2, Ex w w2 → Calls Try.prog 11 #[.slice b lb cb] w2 (Says (.tuple #[.int .i64 (x : Int), .int .i64 E1]) w2)) ∧ x ≤ 1000 := by
      by_cases h : tabE n = 0
      · obtain ⟨s1, s2, s3, s4, s5⟩ := hb.ok h
        obtain ⟨x, hx⟩ := rk_some (tbl n) (List.range lb) (List.range (colsM n))
        have := hx.1.le.1
        rw [List.length_range] at this
        exact ⟨x, 0, fun w2 k => HR.ok s1 s2 s3 s4 (s5.ex k) hx, by omega⟩
      · exact ⟨0, tabE n, fun w2 hx => HR.no (hb.ex hx) h, by omega⟩
    have HRA := Lib.hid hA
    have HRB := Lib.hid hB
    clear hA hB h1 hE3 ha hb
    by_cases h1 : E1 = 0
    · subst h1
      by_cases h2 : E2 = 0
      · subst h2
        go_enter Try.func7, Try.ntmps7
        go_wp2_with (first
          | (go_at_call 26; (with_reducible refine (HT.out _).mono ?_); rintro e w1 ⟨rfl, hw1⟩)
          | (go_at_call 11; clear TA; (with_reducible refine (HRA.out _ (by repeat (first | assumption | exact Ex.refl _ | refine Ex.trans ?_ (by assumption)))).mono ?_); rintro e w2 ⟨rfl, hw2⟩)
          | (go_at_call 11; clear TB; (with_reducible refine (HRB.out _ (by repeat (first | assumption | exact Ex.refl _ | refine Ex.trans ?_ (by assumption)))).mono ?_); rintro e w3 ⟨rfl, hw3⟩)
          | (go_at_call 10; (with_reducible refine (HAB.out _ (by repeat (first | assumption | exact Ex.refl _ | refine Ex.trans ?_ (by assumption)))).mono ?_); rintro e w4 ⟨a4, c4, rfl, hw4⟩))
        go_ret
        exact ⟨rfl, (by repeat (first | assumption | exact Ex.refl _ | refine Ex.trans ?_ (by assumption)))⟩
      · have e2 : (E2 != 0) = true := by simpa using h2
        clear h2
        go_enter Try.func7, Try.ntmps7
        go_wp2_with (first
          | (go_at_call 26; (with_reducible refine (HT.out _).mono ?_); rintro e w1 ⟨rfl, hw1⟩)
          | (go_at_call 11; clear TA; (with_reducible refine (HRA.out _ (by repeat (first | assumption | exact Ex.refl _ | refine Ex.trans ?_ (by assumption)))).mono ?_); rintro e w2 ⟨rfl, hw2⟩)
          | (go_at_call 11; clear TB; (with_reducible refine (HRB.out _ (by repeat (first | assumption | exact Ex.refl _ | refine Ex.trans ?_ (by assumption)))).mono ?_); rintro e w3 ⟨rfl, hw3⟩)
          | (go_at_call 10; (with_reducible refine (HAB.out _ (by repeat (first | assumption | exact Ex.refl _ | refine Ex.trans ?_ (by assumption)))).mono ?_); rintro e w4 ⟨a4, c4, rfl, hw4⟩))
        go_ret
        exact ⟨rfl, (by repeat (first | assumption | exact Ex.refl _ | refine Ex.trans ?_ (by assumption)))⟩
    · have e1 : (E1 != 0) = true := by simpa using h1
      have e1' : (E1 == 0) = false := by simpa using h1
      obtain rfl := hA1 h1
      clear h1 hA1
      go_enter Try.func7, Try.ntmps7
      go_wp2_with (first
        | (go_at_call 26; (with_reducible refine (HT.out _).mono ?_); rintro e w1 ⟨rfl, hw1⟩)
        | (go_at_call 11; clear TA; (with_reducible refine (HRA.out _ (by repeat (first | assumption | exact Ex.refl _ | refine Ex.trans ?_ (by assumption)))).mono ?_); rintro e w2 ⟨rfl, hw2⟩)
        | (go_at_call 11; clear TB; (with_reducible refine (HRB.out _ (by repeat (first | assumption | exact Ex.refl _ | refine Ex.trans ?_ (by assumption)))).mono ?_); rintro e w3 ⟨rfl, hw3⟩)
        | (go_at_call 10; (with_reducible refine (HAB.out _ (by repeat (first | assumption | exact Ex.refl _ | refine Ex.trans ?_ (by assumption)))).mono ?_); rintro e w4 ⟨a4, c4, rfl, hw4⟩))
      go_ret
      exact ⟨rfl, (by repeat (first | assumption | exact Ex.refl _ | refine Ex.trans ?_ (by assumption)))⟩

end Go.Proofs.Ytmmfclkkncbgfaa
