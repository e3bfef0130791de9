/-
  MatrixSays, walked.
-/
import Derived.Test.YtmmfclkkncbgfaaMatW
import Derived.Test.YtmmfclkkncbgfaaTabRank
import Derived.Test.YtmmfclkkncbgfaaTabDet
namespace Go.Proofs.Ytmmfclkkncbgfaa
open Go.RowKit
open Gf

/-- Any table that came in: as the document's own error of it wants it. -/
theorem IsMat.err {w : World} {a : Option Addr} {len cap : Nat} {m : List (List Int)} (h : IsMat .u8 w a len cap m) : m.length = len ∧ len ≤ maxLen ∧ ReadsM .u8 w a m ∧ ∀ r ∈ m, r.length ≤ maxLen := by
  obtain ⟨h1, h2, h3, h4, _, h6⟩ := h
  exact ⟨h1, by unfold maxLen; omega, h4, fun r hr => (h6 r hr).2⟩

set_option maxRecDepth 100000 in
set_option maxHeartbeats 4000000 in
theorem matrixSays_of (HM : MulC) (HD : DetC) (HR : RankC) (HC : CheckC) (a : Option Addr) (la ca : Nat) (m : List (List Int)) (b : Option Addr) (lb cb : Nat) (n : List (List Int)) (w : World) (ha : IsMat .u8 w a la ca m) (hb : IsMat .u8 w b lb cb n) :
    Calls Try.prog 3 #[.slice a la ca, .slice b lb cb] w (Says (.bool true) w) := by
  obtain ⟨ea1, ea2, ea3, ea4⟩ := ha.err
  obtain ⟨eb1, eb2, eb3, eb4⟩ := hb.err
  have HEA := Lib.hid fun w2 (k : Ex w w2) => tableErr_any m a la ca w2 ea1 ea2 (ea3.ex k) ea4
  have HEB := Lib.hid fun w2 (k : Ex w w2) => tableErr_any n b lb cb w2 eb1 eb2 (eb3.ex k) eb4
  have HCA := Lib.hid fun w2 (k : Ex w w2) => HC.any (ha.ex k)
  have TA := Lib.hid True.intro
  clear ea2 ea3 ea4 eb2 eb3 eb4
  by_cases h1 : tabE m = 0
  · obtain ⟨s1, s2, s3, s4, s5⟩ := ha.ok h1
    obtain ⟨C, hC⟩ : ∃ C, colsM m = C := ⟨_, rfl⟩
    rw [hC] at s3 s4 s5
    obtain ⟨r, hr⟩ := rk_some (tbl m) (List.range la) (List.range C)
    have rl := hr.1.le.1
    rw [List.length_range] at rl
    obtain ⟨bA, oA, bA0, oA0, cA0, rfl, hA0, hA0c, hA0m, _⟩ := s5.at (r := 0) (by omega)
    rw [Nat.add_zero] at hA0
    have HC0 := Lib.hid fun w2 (k : Ex w w2) => k.cell hA0
    have HRA := Lib.hid fun w2 (k : Ex w w2) => HR.ok (ca := ca) s1 s2 s3 s4 (s5.ex k) hr
    have HTR := Lib.hid fun w2 (k : Ex w w2) => tableRank_any (tbl m) la C r (some ⟨bA, oA, none⟩) ca w2 s1 (by omega) s3 (by omega) (s5.ex k) hr
    rw [h1] at HEA HCA
    by_cases hsq : la = C
    · subst hsq
      have HDA := Lib.hid fun w2 (k : Ex w w2) => HD.ok (ca := ca) s1 s2 (s5.ex k)
      have HTD := Lib.hid fun w2 (k : Ex w w2) => tableDet_any (tbl m) la (some ⟨bA, oA, none⟩) ca w2 s1 s2 (s5.ex k)
      rw [show dt ((List.range la).map (tbl m)) (List.range la) = det (tbl m) la from rfl] at HTD
      obtain ⟨d, hd⟩ : ∃ d, det (tbl m) la = d := ⟨_, rfl⟩
      rw [hd] at HDA HTD
      have dl := d.lt
      by_cases h2 : mulE m n = 0
      · obtain ⟨_, d2, d3⟩ := mulE_zero.mp h2
        obtain ⟨t1, t2, t3, t4, t5⟩ := hb.ok d2
        obtain rfl : lb = la := by omega
        have HAB := Lib.hid fun w2 (k : Ex w w2) => HM.ok (ca := ca) (cb := cb) s1 s2 s1 s2 t3 t4 (s5.ex k) (t5.ex k)
        have HTM := Lib.hid fun w2 (k : Ex w w2) => tableMul_any (tbl m) (tbl n) lb lb (colsM n) (some ⟨bA, oA, none⟩) b ca cb w2 s1 s2 s1 s2 t3 t4 (s5.ex k) (t5.ex k)
        have HSR := Lib.hid fun w2 a2 c2 a3 c3 (h : ReadsT w2 a2 lb (colsM n) (mm (tbl m) (tbl n) lb)) (k : ReadsT w2 a3 lb (colsM n) (mm (tbl m) (tbl n) lb)) => lawSame_any lb (colsM n) _ (by omega) s1 (by omega) a2 a3 c2 c3 w2 h k
        rw [d2] at HEB
        clear h1 h2 d2 d3 hd hr hA0 s5 t5 ha hb hC ea1 eb1
        go_enter Try.func3, Try.ntmps3
        go_wp2_with (first
          | (go_at_call 10; (with_reducible refine (HAB.out _ (by repeat (first | assumption | exact Ex.refl _ | refine Ex.trans ?_ (by assumption)))).mono ?_); rintro e w1 ⟨a1, c1, rfl, hc1, hr1,hw1⟩)
          | (go_at_call 11; (with_reducible refine (HRA.out _ (by repeat (first | assumption | exact Ex.refl _ | refine Ex.trans ?_ (by assumption)))).mono ?_); rintro e w2 ⟨rfl, hw2⟩)
          | (go_at_call 12; (with_reducible refine (HDA.out _ (by repeat (first | assumption | exact Ex.refl _ | refine Ex.trans ?_ (by assumption)))).mono ?_); rintro e w3 ⟨rfl, hw3⟩)
          | (go_at_call 13; clear TA; (with_reducible refine (HEA.out _ (by repeat (first | assumption | exact Ex.refl _ | refine Ex.trans ?_ (by assumption)))).mono ?_); rintro e w4 ⟨rfl, hw4⟩)
          | (go_at_call 14; (with_reducible refine (HCA.out _ (by repeat (first | assumption | exact Ex.refl _ | refine Ex.trans ?_ (by assumption)))).mono ?_); rintro e w5 ⟨rfl, hw5⟩; have q5 := HC0.out w5 (by repeat (first | assumption | exact Ex.refl _ | refine Ex.trans ?_ (by assumption))))
          | (go_at_call 15; (with_reducible refine (HTR.out _ (by repeat (first | assumption | exact Ex.refl _ | refine Ex.trans ?_ (by assumption)))).mono ?_); rintro e w6 ⟨rfl, hw6⟩; have q6 := HC0.out w6 (by repeat (first | assumption | exact Ex.refl _ | refine Ex.trans ?_ (by assumption))))
          | (go_at_call 16; (with_reducible refine (HTD.out _ (by repeat (first | assumption | exact Ex.refl _ | refine Ex.trans ?_ (by assumption)))).mono ?_); rintro e w7 ⟨rfl, hw7⟩)
          | (go_at_call 13; (with_reducible refine (HEB.out _ (by repeat (first | assumption | exact Ex.refl _ | refine Ex.trans ?_ (by assumption)))).mono ?_); rintro e w8 ⟨rfl, hw8⟩; have q8 := HC0.out w8 (by repeat (first | assumption | exact Ex.refl _ | refine Ex.trans ?_ (by assumption))))
          | (go_at_call 18; (with_reducible refine (HTM.out _ (by repeat (first | assumption | exact Ex.refl _ | refine Ex.trans ?_ (by assumption)))).mono ?_); rintro e w9 ⟨a9, c9, rfl, hc9, hr9, hw9⟩)
          | (go_at_call 17; (with_reducible refine (HSR.out _ _ _ _ _ (hr1.out.ex (by repeat (first | assumption | exact Ex.refl _ | refine Ex.trans ?_ (by assumption)))) hr9.out).mono ?_); rintro e w10 ⟨rfl, hw10⟩))
        go_ret
        exact ⟨rfl, (by repeat (first | assumption | exact Ex.refl _ | refine Ex.trans ?_ (by assumption)))⟩
      · have HAB := Lib.hid fun w2 (k : Ex w w2) => HM.no (ha.ex k) (hb.ex k) h2
        by_cases d2 : tabE n = 0
        · have hne : lb ≠ la := fun e => h2 (mulE_zero.mpr ⟨h1, d2, by omega⟩)
          have e3 : mulE m n = 3 := by unfold mulE; rw [if_neg (by simpa using h1), if_neg (by simpa using d2), if_pos (by omega)]
          have hn1 : ((la : Int) != (lb : Int)) = true := by simp; omega
          rw [e3] at HAB
          rw [d2] at HEB
          clear h1 h2 d2 hd hr hA0 s5 ha hb hC ea1 eb1 e3
          go_enter Try.func3, Try.ntmps3
          go_wp2_with (first
            | (go_at_call 10; (with_reducible refine (HAB.out _ (by repeat (first | assumption | exact Ex.refl _ | refine Ex.trans ?_ (by assumption)))).mono ?_); rintro e w1 ⟨a1, c1, rfl, hw1⟩)
            | (go_at_call 11; (with_reducible refine (HRA.out _ (by repeat (first | assumption | exact Ex.refl _ | refine Ex.trans ?_ (by assumption)))).mono ?_); rintro e w2 ⟨rfl, hw2⟩)
            | (go_at_call 12; (with_reducible refine (HDA.out _ (by repeat (first | assumption | exact Ex.refl _ | refine Ex.trans ?_ (by assumption)))).mono ?_); rintro e w3 ⟨rfl, hw3⟩)
            | (go_at_call 13; clear TA; (with_reducible refine (HEA.out _ (by repeat (first | assumption | exact Ex.refl _ | refine Ex.trans ?_ (by assumption)))).mono ?_); rintro e w4 ⟨rfl, hw4⟩)
            | (go_at_call 14; (with_reducible refine (HCA.out _ (by repeat (first | assumption | exact Ex.refl _ | refine Ex.trans ?_ (by assumption)))).mono ?_); rintro e w5 ⟨rfl, hw5⟩; have q5 := HC0.out w5 (by repeat (first | assumption | exact Ex.refl _ | refine Ex.trans ?_ (by assumption))))
            | (go_at_call 15; (with_reducible refine (HTR.out _ (by repeat (first | assumption | exact Ex.refl _ | refine Ex.trans ?_ (by assumption)))).mono ?_); rintro e w6 ⟨rfl, hw6⟩; have q6 := HC0.out w6 (by repeat (first | assumption | exact Ex.refl _ | refine Ex.trans ?_ (by assumption))))
            | (go_at_call 16; (with_reducible refine (HTD.out _ (by repeat (first | assumption | exact Ex.refl _ | refine Ex.trans ?_ (by assumption)))).mono ?_); rintro e w7 ⟨rfl, hw7⟩)
            | (go_at_call 13; (with_reducible refine (HEB.out _ (by repeat (first | assumption | exact Ex.refl _ | refine Ex.trans ?_ (by assumption)))).mono ?_); rintro e w8 ⟨rfl, hw8⟩; have q8 := HC0.out w8 (by repeat (first | assumption | exact Ex.refl _ | refine Ex.trans ?_ (by assumption))))
            | fail)
          go_ret
          exact ⟨rfl, (by repeat (first | assumption | exact Ex.refl _ | refine Ex.trans ?_ (by assumption)))⟩
        · have e3 : mulE m n = tabE n := by unfold mulE; rw [if_neg (by simpa using h1), if_pos d2]
          rw [e3] at HAB
          have h3 := tabE_is n
          obtain ⟨E2, hE2⟩ : ∃ E2, tabE n = E2 := ⟨_, rfl⟩
          rw [hE2] at HAB HEB d2 h3
          have e4 : (E2 == 0) = false := by simpa using d2
          have e5 : (E2 != 0) = true := by simpa using d2
          clear h1 h2 d2 hd hr hA0 s5 ha hb hC ea1 eb1 e3 h3 hE2
          go_enter Try.func3, Try.ntmps3
          go_wp2_with (first
            | (go_at_call 10; (with_reducible refine (HAB.out _ (by repeat (first | assumption | exact Ex.refl _ | refine Ex.trans ?_ (by assumption)))).mono ?_); rintro e w1 ⟨a1, c1, rfl, hw1⟩)
            | (go_at_call 11; (with_reducible refine (HRA.out _ (by repeat (first | assumption | exact Ex.refl _ | refine Ex.trans ?_ (by assumption)))).mono ?_); rintro e w2 ⟨rfl, hw2⟩)
            | (go_at_call 12; (with_reducible refine (HDA.out _ (by repeat (first | assumption | exact Ex.refl _ | refine Ex.trans ?_ (by assumption)))).mono ?_); rintro e w3 ⟨rfl, hw3⟩)
            | (go_at_call 13; clear TA; (with_reducible refine (HEA.out _ (by repeat (first | assumption | exact Ex.refl _ | refine Ex.trans ?_ (by assumption)))).mono ?_); rintro e w4 ⟨rfl, hw4⟩)
            | (go_at_call 14; (with_reducible refine (HCA.out _ (by repeat (first | assumption | exact Ex.refl _ | refine Ex.trans ?_ (by assumption)))).mono ?_); rintro e w5 ⟨rfl, hw5⟩; have q5 := HC0.out w5 (by repeat (first | assumption | exact Ex.refl _ | refine Ex.trans ?_ (by assumption))))
            | (go_at_call 15; (with_reducible refine (HTR.out _ (by repeat (first | assumption | exact Ex.refl _ | refine Ex.trans ?_ (by assumption)))).mono ?_); rintro e w6 ⟨rfl, hw6⟩; have q6 := HC0.out w6 (by repeat (first | assumption | exact Ex.refl _ | refine Ex.trans ?_ (by assumption))))
            | (go_at_call 16; (with_reducible refine (HTD.out _ (by repeat (first | assumption | exact Ex.refl _ | refine Ex.trans ?_ (by assumption)))).mono ?_); rintro e w7 ⟨rfl, hw7⟩)
            | (go_at_call 13; (with_reducible refine (HEB.out _ (by repeat (first | assumption | exact Ex.refl _ | refine Ex.trans ?_ (by assumption)))).mono ?_); rintro e w8 ⟨rfl, hw8⟩; have q8 := HC0.out w8 (by repeat (first | assumption | exact Ex.refl _ | refine Ex.trans ?_ (by assumption))))
            | fail)
          go_ret
          exact ⟨rfl, (by repeat (first | assumption | exact Ex.refl _ | refine Ex.trans ?_ (by assumption)))⟩
    · have hE : detE m = 3 := by unfold detE; rw [if_neg (by simpa using h1), if_pos (by omega)]
      have HDA := Lib.hid fun w2 (k : Ex w w2) => HD.no (ha.ex k) (by rw [hE]; decide)
      rw [hE] at HDA
      have hn0 : ((la : Int) != (C : Int)) = true := by simp; omega
      by_cases h2 : mulE m n = 0
      · obtain ⟨_, d2, d3⟩ := mulE_zero.mp h2
        obtain ⟨t1, t2, t3, t4, t5⟩ := hb.ok d2
        obtain rfl : lb = C := by omega
        have HAB := Lib.hid fun w2 (k : Ex w w2) => HM.ok (ca := ca) (cb := cb) s1 s2 s3 s4 t3 t4 (s5.ex k) (t5.ex k)
        have HTM := Lib.hid fun w2 (k : Ex w w2) => tableMul_any (tbl m) (tbl n) la lb (colsM n) (some ⟨bA, oA, none⟩) b ca cb w2 s1 s2 s3 s4 t3 t4 (s5.ex k) (t5.ex k)
        have HSR := Lib.hid fun w2 a2 c2 a3 c3 (h : ReadsT w2 a2 la (colsM n) (mm (tbl m) (tbl n) lb)) (k : ReadsT w2 a3 la (colsM n) (mm (tbl m) (tbl n) lb)) => lawSame_any la (colsM n) _ (by omega) s1 (by omega) a2 a3 c2 c3 w2 h k
        rw [d2] at HEB
        clear h1 h2 d2 d3 hr hA0 s5 t5 ha hb hC ea1 eb1 hE
        go_enter Try.func3, Try.ntmps3
        go_wp2_with (first
          | (go_at_call 10; (with_reducible refine (HAB.out _ (by repeat (first | assumption | exact Ex.refl _ | refine Ex.trans ?_ (by assumption)))).mono ?_); rintro e w1 ⟨a1, c1, rfl, hc1, hr1,hw1⟩)
          | (go_at_call 11; (with_reducible refine (HRA.out _ (by repeat (first | assumption | exact Ex.refl _ | refine Ex.trans ?_ (by assumption)))).mono ?_); rintro e w2 ⟨rfl, hw2⟩)
          | (go_at_call 12; (with_reducible refine (HDA.out _ (by repeat (first | assumption | exact Ex.refl _ | refine Ex.trans ?_ (by assumption)))).mono ?_); rintro e w3 ⟨rfl, hw3⟩)
          | (go_at_call 13; clear TA; (with_reducible refine (HEA.out _ (by repeat (first | assumption | exact Ex.refl _ | refine Ex.trans ?_ (by assumption)))).mono ?_); rintro e w4 ⟨rfl, hw4⟩)
          | (go_at_call 14; (with_reducible refine (HCA.out _ (by repeat (first | assumption | exact Ex.refl _ | refine Ex.trans ?_ (by assumption)))).mono ?_); rintro e w5 ⟨rfl, hw5⟩; have q5 := HC0.out w5 (by repeat (first | assumption | exact Ex.refl _ | refine Ex.trans ?_ (by assumption))))
          | (go_at_call 15; (with_reducible refine (HTR.out _ (by repeat (first | assumption | exact Ex.refl _ | refine Ex.trans ?_ (by assumption)))).mono ?_); rintro e w6 ⟨rfl, hw6⟩; have q6 := HC0.out w6 (by repeat (first | assumption | exact Ex.refl _ | refine Ex.trans ?_ (by assumption))))
          | (go_at_call 16; (with_reducible refine (HTD.out _ (by repeat (first | assumption | exact Ex.refl _ | refine Ex.trans ?_ (by assumption)))).mono ?_); rintro e w7 ⟨rfl, hw7⟩)
          | (go_at_call 13; (with_reducible refine (HEB.out _ (by repeat (first | assumption | exact Ex.refl _ | refine Ex.trans ?_ (by assumption)))).mono ?_); rintro e w8 ⟨rfl, hw8⟩; have q8 := HC0.out w8 (by repeat (first | assumption | exact Ex.refl _ | refine Ex.trans ?_ (by assumption))))
          | (go_at_call 18; (with_reducible refine (HTM.out _ (by repeat (first | assumption | exact Ex.refl _ | refine Ex.trans ?_ (by assumption)))).mono ?_); rintro e w9 ⟨a9, c9, rfl, hc9, hr9, hw9⟩)
          | (go_at_call 17; (with_reducible refine (HSR.out _ _ _ _ _ (hr1.out.ex (by repeat (first | assumption | exact Ex.refl _ | refine Ex.trans ?_ (by assumption)))) hr9.out).mono ?_); rintro e w10 ⟨rfl, hw10⟩))
        go_ret
        exact ⟨rfl, (by repeat (first | assumption | exact Ex.refl _ | refine Ex.trans ?_ (by assumption)))⟩
      · have HAB := Lib.hid fun w2 (k : Ex w w2) => HM.no (ha.ex k) (hb.ex k) h2
        by_cases d2 : tabE n = 0
        · have hne : lb ≠ C := fun e => h2 (mulE_zero.mpr ⟨h1, d2, by omega⟩)
          have e3 : mulE m n = 3 := by unfold mulE; rw [if_neg (by simpa using h1), if_neg (by simpa using d2), if_pos (by omega)]
          have hn1 : ((C : Int) != (lb : Int)) = true := by simp; omega
          rw [e3] at HAB
          rw [d2] at HEB
          clear h1 h2 d2 hr hA0 s5 ha hb hC ea1 eb1 e3 hE
          go_enter Try.func3, Try.ntmps3
          go_wp2_with (first
            | (go_at_call 10; (with_reducible refine (HAB.out _ (by repeat (first | assumption | exact Ex.refl _ | refine Ex.trans ?_ (by assumption)))).mono ?_); rintro e w1 ⟨a1, c1, rfl, hw1⟩)
            | (go_at_call 11; (with_reducible refine (HRA.out _ (by repeat (first | assumption | exact Ex.refl _ | refine Ex.trans ?_ (by assumption)))).mono ?_); rintro e w2 ⟨rfl, hw2⟩)
            | (go_at_call 12; (with_reducible refine (HDA.out _ (by repeat (first | assumption | exact Ex.refl _ | refine Ex.trans ?_ (by assumption)))).mono ?_); rintro e w3 ⟨rfl, hw3⟩)
            | (go_at_call 13; clear TA; (with_reducible refine (HEA.out _ (by repeat (first | assumption | exact Ex.refl _ | refine Ex.trans ?_ (by assumption)))).mono ?_); rintro e w4 ⟨rfl, hw4⟩)
            | (go_at_call 14; (with_reducible refine (HCA.out _ (by repeat (first | assumption | exact Ex.refl _ | refine Ex.trans ?_ (by assumption)))).mono ?_); rintro e w5 ⟨rfl, hw5⟩; have q5 := HC0.out w5 (by repeat (first | assumption | exact Ex.refl _ | refine Ex.trans ?_ (by assumption))))
            | (go_at_call 15; (with_reducible refine (HTR.out _ (by repeat (first | assumption | exact Ex.refl _ | refine Ex.trans ?_ (by assumption)))).mono ?_); rintro e w6 ⟨rfl, hw6⟩; have q6 := HC0.out w6 (by repeat (first | assumption | exact Ex.refl _ | refine Ex.trans ?_ (by assumption))))
            | (go_at_call 16; (with_reducible refine (HTD.out _ (by repeat (first | assumption | exact Ex.refl _ | refine Ex.trans ?_ (by assumption)))).mono ?_); rintro e w7 ⟨rfl, hw7⟩)
            | (go_at_call 13; (with_reducible refine (HEB.out _ (by repeat (first | assumption | exact Ex.refl _ | refine Ex.trans ?_ (by assumption)))).mono ?_); rintro e w8 ⟨rfl, hw8⟩; have q8 := HC0.out w8 (by repeat (first | assumption | exact Ex.refl _ | refine Ex.trans ?_ (by assumption))))
            | fail)
          go_ret
          exact ⟨rfl, (by repeat (first | assumption | exact Ex.refl _ | refine Ex.trans ?_ (by assumption)))⟩
        · have e3 : mulE m n = tabE n := by unfold mulE; rw [if_neg (by simpa using h1), if_pos d2]
          rw [e3] at HAB
          obtain ⟨E2, hE2⟩ : ∃ E2, tabE n = E2 := ⟨_, rfl⟩
          rw [hE2] at HAB HEB d2
          have e4 : (E2 == 0) = false := by simpa using d2
          have e5 : (E2 != 0) = true := by simpa using d2
          clear h1 h2 d2 hr hA0 s5 ha hb hC ea1 eb1 e3 hE hE2
          go_enter Try.func3, Try.ntmps3
          go_wp2_with (first
            | (go_at_call 10; (with_reducible refine (HAB.out _ (by repeat (first | assumption | exact Ex.refl _ | refine Ex.trans ?_ (by assumption)))).mono ?_); rintro e w1 ⟨a1, c1, rfl, hw1⟩)
            | (go_at_call 11; (with_reducible refine (HRA.out _ (by repeat (first | assumption | exact Ex.refl _ | refine Ex.trans ?_ (by assumption)))).mono ?_); rintro e w2 ⟨rfl, hw2⟩)
            | (go_at_call 12; (with_reducible refine (HDA.out _ (by repeat (first | assumption | exact Ex.refl _ | refine Ex.trans ?_ (by assumption)))).mono ?_); rintro e w3 ⟨rfl, hw3⟩)
            | (go_at_call 13; clear TA; (with_reducible refine (HEA.out _ (by repeat (first | assumption | exact Ex.refl _ | refine Ex.trans ?_ (by assumption)))).mono ?_); rintro e w4 ⟨rfl, hw4⟩)
            | (go_at_call 14; (with_reducible refine (HCA.out _ (by repeat (first | assumption | exact Ex.refl _ | refine Ex.trans ?_ (by assumption)))).mono ?_); rintro e w5 ⟨rfl, hw5⟩; have q5 := HC0.out w5 (by repeat (first | assumption | exact Ex.refl _ | refine Ex.trans ?_ (by assumption))))
            | (go_at_call 15; (with_reducible refine (HTR.out _ (by repeat (first | assumption | exact Ex.refl _ | refine Ex.trans ?_ (by assumption)))).mono ?_); rintro e w6 ⟨rfl, hw6⟩; have q6 := HC0.out w6 (by repeat (first | assumption | exact Ex.refl _ | refine Ex.trans ?_ (by assumption))))
            | (go_at_call 16; (with_reducible refine (HTD.out _ (by repeat (first | assumption | exact Ex.refl _ | refine Ex.trans ?_ (by assumption)))).mono ?_); rintro e w7 ⟨rfl, hw7⟩)
            | (go_at_call 13; (with_reducible refine (HEB.out _ (by repeat (first | assumption | exact Ex.refl _ | refine Ex.trans ?_ (by assumption)))).mono ?_); rintro e w8 ⟨rfl, hw8⟩; have q8 := HC0.out w8 (by repeat (first | assumption | exact Ex.refl _ | refine Ex.trans ?_ (by assumption))))
            | fail)
          go_ret
          exact ⟨rfl, (by repeat (first | assumption | exact Ex.refl _ | refine Ex.trans ?_ (by assumption)))⟩
  · have e1 : mulE m n = tabE m := by unfold mulE; rw [if_pos h1]
    have e2 : detE m = tabE m := by unfold detE; rw [if_pos h1]
    have HAB := Lib.hid fun w2 (k : Ex w w2) => HM.no (ha.ex k) (hb.ex k) (by rw [e1]; exact h1)
    have HRA := Lib.hid fun w2 (k : Ex w w2) => HR.no (ha.ex k) h1
    have HDA := Lib.hid fun w2 (k : Ex w w2) => HD.no (ha.ex k) (by rw [e2]; exact h1)
    rw [e1] at HAB
    rw [e2] at HDA
    obtain ⟨E1, hE1⟩ : ∃ E1, tabE m = E1 := ⟨_, rfl⟩
    rw [hE1] at HAB HRA HDA HEA HCA h1
    have e3 : (E1 != 0) = true := by simpa using h1
    have e4 : (E1 == 0) = false := by simpa using h1
    have HC0 := Lib.hid fun (w2 : World) (_ : Ex w w2) => True.intro
    clear h1 e1 e2 hE1 ha hb ea1 eb1
    go_enter Try.func3, Try.ntmps3
    go_wp2_with (first
      | (go_at_call 10; (with_reducible refine (HAB.out _ (by repeat (first | assumption | exact Ex.refl _ | refine Ex.trans ?_ (by assumption)))).mono ?_); rintro e w1 ⟨a1, c1, rfl, hw1⟩)
      | (go_at_call 11; (with_reducible refine (HRA.out _ (by repeat (first | assumption | exact Ex.refl _ | refine Ex.trans ?_ (by assumption)))).mono ?_); rintro e w2 ⟨rfl, hw2⟩)
      | (go_at_call 12; (with_reducible refine (HDA.out _ (by repeat (first | assumption | exact Ex.refl _ | refine Ex.trans ?_ (by assumption)))).mono ?_); rintro e w3 ⟨rfl, hw3⟩)
      | (go_at_call 13; clear TA; (with_reducible refine (HEA.out _ (by repeat (first | assumption | exact Ex.refl _ | refine Ex.trans ?_ (by assumption)))).mono ?_); rintro e w4 ⟨rfl, hw4⟩)
      | (go_at_call 14; (with_reducible refine (HCA.out _ (by repeat (first | assumption | exact Ex.refl _ | refine Ex.trans ?_ (by assumption)))).mono ?_); rintro e w5 ⟨rfl, hw5⟩; have q5 := HC0.out w5 (by repeat (first | assumption | exact Ex.refl _ | refine Ex.trans ?_ (by assumption))))
      | (go_at_call 15; (with_reducible refine (HTR.out _ (by repeat (first | assumption | exact Ex.refl _ | refine Ex.trans ?_ (by assumption)))).mono ?_); rintro e w6 ⟨rfl, hw6⟩; have q6 := HC0.out w6 (by repeat (first | assumption | exact Ex.refl _ | refine Ex.trans ?_ (by assumption))))
      | (go_at_call 16; (with_reducible refine (HTD.out _ (by repeat (first | assumption | exact Ex.refl _ | refine Ex.trans ?_ (by assumption)))).mono ?_); rintro e w7 ⟨rfl, hw7⟩)
      | (go_at_call 13; (with_reducible refine (HEB.out _ (by repeat (first | assumption | exact Ex.refl _ | refine Ex.trans ?_ (by assumption)))).mono ?_); rintro e w8 ⟨rfl, hw8⟩; have q8 := HC0.out w8 (by repeat (first | assumption | exact Ex.refl _ | refine Ex.trans ?_ (by assumption))))
      | fail)
    go_ret
    exact ⟨rfl, (by repeat (first | assumption | exact Ex.refl _ | refine Ex.trans ?_ (by assumption)))⟩

end Go.Proofs.Ytmmfclkkncbgfaa
