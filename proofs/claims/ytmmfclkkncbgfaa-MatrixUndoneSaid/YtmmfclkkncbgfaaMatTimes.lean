/-
  MatrixTimes, walked.
-/
import Derived.Test.YtmmfclkkncbgfaaMatW
namespace Go.Proofs.Ytmmfclkkncbgfaa
open Go.RowKit
open Gf

/-- {{1, 2}} times {{3}, {4}}. -/
theorem mul_lit11 (HM : MulC) (w : World) (T T2 : TypeId) :
    Calls Try.prog 10 #[.slice (some ⟨w.heap.size + 1, 0, none⟩) 1 1, .slice (some ⟨w.heap.size + 4, 0, none⟩) 2 2]
      (((((w.alloc (.cells #[.int .u8 1, .int .u8 2] T)).alloc (.cells #[.slice (some ⟨w.heap.size, 0, none⟩) 2 2] T2)).alloc (.cells #[.int .u8 3] T)).alloc (.cells #[.int .u8 4] T)).alloc (.cells #[.slice (some ⟨w.heap.size + 2, 0, none⟩) 1 1, .slice (some ⟨w.heap.size + 3, 0, none⟩) 1 1] T2))
      (Tab2 1 1 (fun _ _ => ⟨11, by decide⟩) w) := by
  obtain ⟨w1, e1⟩ : ∃ w1, w.alloc (.cells #[.int .u8 1, .int .u8 2] T) = w1 := ⟨_, rfl⟩
  obtain ⟨w2, e2⟩ : ∃ w2, w1.alloc (.cells #[.slice (some ⟨w.heap.size, 0, none⟩) 2 2] T2) = w2 := ⟨_, rfl⟩
  obtain ⟨w3, e3⟩ : ∃ w3, w2.alloc (.cells #[.int .u8 3] T) = w3 := ⟨_, rfl⟩
  obtain ⟨w4, e4⟩ : ∃ w4, w3.alloc (.cells #[.int .u8 4] T) = w4 := ⟨_, rfl⟩
  obtain ⟨w5, e5⟩ : ∃ w5, w4.alloc (.cells #[.slice (some ⟨w.heap.size + 2, 0, none⟩) 1 1, .slice (some ⟨w.heap.size + 3, 0, none⟩) 1 1] T2) = w5 := ⟨_, rfl⟩
  have s1 : w1.heap.size = w.heap.size + 1 := by rw [← e1]; exact World.size_alloc _ _
  have s2 : w2.heap.size = w.heap.size + 2 := by rw [← e2, World.size_alloc, s1]
  have s3 : w3.heap.size = w.heap.size + 3 := by rw [← e3, World.size_alloc, s2]
  have s4 : w4.heap.size = w.heap.size + 4 := by rw [← e4, World.size_alloc, s3]
  have x1 : Ex w w1 := by rw [← e1]; exact (Ex.refl _).alloc _
  have x2 : Ex w1 w2 := by rw [← e2]; exact (Ex.refl _).alloc _
  have x3 : Ex w2 w3 := by rw [← e3]; exact (Ex.refl _).alloc _
  have x4 : Ex w3 w4 := by rw [← e4]; exact (Ex.refl _).alloc _
  have x5 : Ex w4 w5 := by rw [← e5]; exact (Ex.refl _).alloc _
  have c1 : ∀ i, w1.cell? ⟨w.heap.size, i, none⟩ = #[Value.int .u8 1, .int .u8 2][i]? := fun i => by rw [← e1]; exact World.cell?_alloc_new _ _ _ _
  have c2 : ∀ i, w2.cell? ⟨w.heap.size + 1, i, none⟩ = #[Value.slice (some ⟨w.heap.size, 0, none⟩) 2 2][i]? := fun i => by rw [← e2, ← s1]; exact World.cell?_alloc_new _ _ _ _
  have c3 : ∀ i, w3.cell? ⟨w.heap.size + 2, i, none⟩ = #[Value.int .u8 3][i]? := fun i => by rw [← e3, ← s2]; exact World.cell?_alloc_new _ _ _ _
  have c4 : ∀ i, w4.cell? ⟨w.heap.size + 3, i, none⟩ = #[Value.int .u8 4][i]? := fun i => by rw [← e4, ← s3]; exact World.cell?_alloc_new _ _ _ _
  have c5 : ∀ i, w5.cell? ⟨w.heap.size + 4, i, none⟩ = #[Value.slice (some ⟨w.heap.size + 2, 0, none⟩) 1 1, .slice (some ⟨w.heap.size + 3, 0, none⟩) 1 1][i]? := fun i => by rw [← e5, ← s4]; exact World.cell?_alloc_new _ _ _ _
  rw [e1, e2, e3, e4, e5]
  have rA : ReadsT w5 (some ⟨w.heap.size + 1, 0, none⟩) 1 2 (litM [[1, 2]]) := by
    refine readsT_one ((x3.trans (x4.trans x5)).cell (c2 0)) (by omega) (by unfold maxLen; omega) fun k hk => (x2.trans (x3.trans (x4.trans x5))).cell ?_
    rw [c1]
    have hk : k = 0 ∨ k = 1 := by omega
    rcases hk with rfl | rfl <;> rfl
  have rB : ReadsT w5 (some ⟨w.heap.size + 4, 0, none⟩) 2 1 (litM [[3], [4]]) := by
    refine readsT_two (c5 0) (by omega) (by unfold maxLen; omega) (fun k hk => (x4.trans x5).cell ?_) (c5 1) (by omega) (by unfold maxLen; omega) fun k hk => x5.cell ?_
    · rw [c3]
      obtain rfl : k = 0 := by omega
      rfl
    · rw [c4]
      obtain rfl : k = 0 := by omega
      rfl
  refine (HM.ok (by omega) (by omega) (by omega) (by omega) (by omega) (by omega) rA rB).mono fun e w6 ⟨a2, c2, h1, h2, h3, h4⟩ => ⟨a2, c2, h1, h2, Lib.hid (h3.out.congr fun r hr k hk => ?_), ((((x1.trans x2).trans x3).trans x4).trans x5).trans h4⟩
  obtain rfl : r = 0 := by omega
  obtain rfl : k = 0 := by omega
  exact E.ext (by decide)

/-- A row of one byte against one written out. -/
theorem equal_one (x : Nat) (hx : x < 256) (b1 o1 c1 : Nat) (w : World) (T : TypeId) (h : w.cell? ⟨b1, o1, none⟩ = some (.int .u8 (x : Int))) :
    Calls Try.prog 23 #[.slice (some ⟨b1, o1, none⟩) 1 c1, .slice (some ⟨w.heap.size, 0, none⟩) 1 1] (w.alloc (.cells #[.int .u8 (x : Int)] T)) (Says (.bool true) w) := by
  have hx2 := (Ex.refl w).alloc (.cells #[.int .u8 (x : Int)] T)
  refine (sameBytes_any (fun _ => ⟨x, hx⟩) 1 (by omega) b1 o1 w.heap.size 0 c1 1 _ (fun k hk => ?_) fun k hk => ?_).mono fun e w2 ⟨h1, h2⟩ => ⟨h1, hx2.trans h2⟩
  · obtain rfl : k = 0 := by omega
    rw [Nat.add_zero]
    exact hx2.cell h
  · obtain rfl : k = 0 := by omega
    exact World.cell?_alloc_new _ _ _ _

set_option maxRecDepth 100000 in
set_option maxHeartbeats 2000000 in
theorem matrixTimes_of (HM : MulC) (a : Option Addr) (la ca : Nat) (m : List (List Int)) (b : Option Addr) (lb cb : Nat) (n : List (List Int)) (c : Option Addr) (lc cc : Nat) (o : List (List Int)) (w : World) (ha : IsMat .u8 w a la ca m) (hb : IsMat .u8 w b lb cb n) (hc : IsMat .u8 w c lc cc o) :
    Calls Try.prog 5 #[.slice a la ca, .slice b lb cb, .slice c lc cc] w (Says (.bool true) w) := by
  have HL := Lib.hid fun w => mul_lit11 HM w 5 32
  have T0 := Lib.hid True.intro
  have TA := Lib.hid True.intro
  have TB := Lib.hid True.intro
  by_cases h1 : mulE m n = 0
  · obtain ⟨d1, d2, d3⟩ := mulE_zero.mp h1
    obtain ⟨s1, s2, s3, s4, s5⟩ := ha.ok d1
    obtain ⟨t1, t2, t3, t4, t5⟩ := hb.ok d2
    have hlb := hb.1
    have hbk : lb = colsM m := by omega
    have HAB := Lib.hid fun w2 (hx : Ex w w2) => HM.ok (ca := ca) (cb := cb) s1 s2 t1 t2 t3 t4 ((show ReadsT w a la lb (tbl m) by rw [hbk]; exact s5).ex hx) (t5.ex hx)
    by_cases h2 : mulE n o = 0
    · obtain ⟨_, d5, d6⟩ := mulE_zero.mp h2
      obtain ⟨u1, u2, u3, u4, u5⟩ := hc.ok d5
      have hlc := hc.1
      have hck : lc = colsM n := by omega
      obtain ⟨L, hL⟩ : ∃ L, colsM n = L := ⟨_, rfl⟩
      obtain ⟨C, hC⟩ : ∃ C, colsM o = C := ⟨_, rfl⟩
      rw [hL] at hck t3 t4 t5 HAB
      rw [hC] at u3 u4 u5
      subst hck
      rw [← hbk] at s3 s4 s5
      have HBC := Lib.hid fun w2 (hx : Ex w w2) => HM.ok (ca := cb) (cb := cc) t1 t2 u1 u2 u3 u4 (t5.ex hx) (u5.ex hx)
      have HX := Lib.hid fun w2 a2 c2 (h : ReadsT w2 a2 la lc (mm (tbl m) (tbl n) lb)) (hx : Ex w w2) => HM.ok (ca := c2) (cb := cc) s1 s2 u1 u2 u3 u4 h (u5.ex hx)
      have HY := Lib.hid fun w2 a2 c2 (h : ReadsT w2 a2 lb C (mm (tbl n) (tbl o) lc)) (hx : Ex w w2) => HM.ok (ca := ca) (cb := c2) s1 s2 t1 t2 u3 u4 (s5.ex hx) h
      have HS := Lib.hid fun w2 a2 c2 a3 c3 (h : ReadsT w2 a2 la C (mm (mm (tbl m) (tbl n) lb) (tbl o) lc)) (k : ReadsT w2 a3 la C (mm (tbl m) (mm (tbl n) (tbl o) lc) lb)) =>
        keepSame_any la C _ (by omega) s1 (by omega) a2 a3 c2 c3 w2 h (k.congr fun i _ j _ => (mm_assoc (tbl m) (tbl n) (tbl o) lb lc i j).symm)
      have TC := Lib.hid True.intro
      have TD := Lib.hid True.intro
      clear h1 h2 d1 d2 d3 d5 d6 s5 t5 u5 ha hb hc hbk hL hC hlb hlc
      go_enter Try.func5, Try.ntmps5
      go_wp2_with (first
        | (go_at_call 10; clear T0; (with_reducible refine (HL.out _).mono ?_); rintro e w1 ⟨a1, c1, rfl, hc1, hr1, hw1⟩
           obtain ⟨b1, o1, g1, p1, cc1, rfl, hcell, hcc1, hcc2, hin⟩ := hr1.out.at (r := 0) (by omega)
           rw [Nat.add_zero] at hcell
           have hin0 := hin 0 (by omega)
           rw [Nat.add_zero] at hin0
           have HEQ : Hid (Calls Try.prog 23 #[.slice (some ⟨g1, p1, none⟩) 1 cc1, .slice (some ⟨w1.heap.size, 0, none⟩) 1 1] (w1.alloc (.cells #[.int .u8 11] 5)) (Says (.bool true) w1)) := Lib.hid (equal_one 11 (by decide) g1 p1 cc1 w1 5 hin0)
           clear hr1 hin hin0)
        | (go_at_call 23; (with_reducible refine (HEQ.out).mono ?_); rintro e w2 ⟨rfl, hw2⟩)
        | (go_at_call 10; clear TA; (with_reducible refine (HAB.out _ (by repeat (first | assumption | exact Ex.refl _ | refine Ex.trans ?_ (by assumption)))).mono ?_); rintro e w3 ⟨a3, c3, rfl, hc3, hr3, hw3⟩)
        | (go_at_call 10; clear TB; (with_reducible refine (HBC.out _ (by repeat (first | assumption | exact Ex.refl _ | refine Ex.trans ?_ (by assumption)))).mono ?_); rintro e w4 ⟨a4, c4, rfl, hc4, hr4, hw4⟩)
        | (go_at_call 10; clear TC; (with_reducible refine (HX.out _ _ _ (hr3.out.ex (by repeat (first | assumption | exact Ex.refl _ | refine Ex.trans ?_ (by assumption)))) (by repeat (first | assumption | exact Ex.refl _ | refine Ex.trans ?_ (by assumption)))).mono ?_); rintro e w5 ⟨a5, c5, rfl, hc5, hr5, hw5⟩)
        | (go_at_call 10; clear TD; (with_reducible refine (HY.out _ _ _ (hr4.out.ex (by repeat (first | assumption | exact Ex.refl _ | refine Ex.trans ?_ (by assumption)))) (by repeat (first | assumption | exact Ex.refl _ | refine Ex.trans ?_ (by assumption)))).mono ?_); rintro e w6 ⟨a6, c6, rfl, hc6, hr6, hw6⟩)
        | (go_at_call 24; refine (good_zeros 2 (by omega) _ rfl _ _).mono ?_; rintro e w8 ⟨rfl, hw8⟩)
        | (go_at_call 25; (with_reducible refine (HS.out _ _ _ _ _ (hr5.out.ex (by repeat (first | assumption | exact Ex.refl _ | refine Ex.trans ?_ (by assumption)))) (hr6.out.ex (by repeat (first | assumption | exact Ex.refl _ | refine Ex.trans ?_ (by assumption))))).mono ?_); rintro e w9 ⟨rfl, hw9⟩))
      go_ret
      exact ⟨rfl, (by repeat (first | assumption | exact Ex.refl _ | refine Ex.trans ?_ (by assumption)))⟩
    · have HBC := Lib.hid fun w2 (hx : Ex w w2) => HM.no (hb.ex hx) (hc.ex hx) h2
      obtain ⟨E2, hE2⟩ : ∃ E2, mulE n o = E2 := ⟨_, rfl⟩
      rw [hE2] at HBC h2
      have e2 : (E2 != 0) = true := by simpa using h2
      have e3 : (E2 == 0) = false := by simpa using h2
      clear h1 h2 d1 d2 d3 s5 t5 ha hb hc hbk hlb hE2
      go_enter Try.func5, Try.ntmps5
      go_wp2_with (first
        | (go_at_call 10; clear T0; (with_reducible refine (HL.out _).mono ?_); rintro e w1 ⟨a1, c1, rfl, hc1, hr1, hw1⟩
           obtain ⟨b1, o1, g1, p1, cc1, rfl, hcell, hcc1, hcc2, hin⟩ := hr1.out.at (r := 0) (by omega)
           rw [Nat.add_zero] at hcell
           have hin0 := hin 0 (by omega)
           rw [Nat.add_zero] at hin0
           have HEQ : Hid (Calls Try.prog 23 #[.slice (some ⟨g1, p1, none⟩) 1 cc1, .slice (some ⟨w1.heap.size, 0, none⟩) 1 1] (w1.alloc (.cells #[.int .u8 11] 5)) (Says (.bool true) w1)) := Lib.hid (equal_one 11 (by decide) g1 p1 cc1 w1 5 hin0)
           clear hr1 hin hin0)
        | (go_at_call 23; (with_reducible refine (HEQ.out).mono ?_); rintro e w2 ⟨rfl, hw2⟩)
        | (go_at_call 10; clear TA; (with_reducible refine (HAB.out _ (by repeat (first | assumption | exact Ex.refl _ | refine Ex.trans ?_ (by assumption)))).mono ?_); rintro e w3 ⟨a3, c3, rfl, hc3, hr3,hw3⟩)
        | (go_at_call 10; clear TB; (with_reducible refine (HBC.out _ (by repeat (first | assumption | exact Ex.refl _ | refine Ex.trans ?_ (by assumption)))).mono ?_); rintro e w4 ⟨a4, c4, rfl, hw4⟩))
      go_ret
      exact ⟨rfl, (by repeat (first | assumption | exact Ex.refl _ | refine Ex.trans ?_ (by assumption)))⟩
  · have HAB := Lib.hid fun w2 (hx : Ex w w2) => HM.no (ha.ex hx) (hb.ex hx) h1
    obtain ⟨E1, hE1⟩ : ∃ E1, mulE m n = E1 := ⟨_, rfl⟩
    rw [hE1] at HAB h1
    have e1 : (E1 != 0) = true := by simpa using h1
    have e1' : (E1 == 0) = false := by simpa using h1
    by_cases h2 : mulE n o = 0
    · obtain ⟨d4, d5, d6⟩ := mulE_zero.mp h2
      obtain ⟨t1, t2, t3, t4, t5⟩ := hb.ok d4
      obtain ⟨u1, u2, u3, u4, u5⟩ := hc.ok d5
      have hlc := hc.1
      have hck : lc = colsM n := by omega
      have HBC := Lib.hid fun w2 (hx : Ex w w2) => HM.ok (ca := cb) (cb := cc) t1 t2 u1 u2 u3 u4 ((show ReadsT w b lb lc (tbl n) by rw [hck]; exact t5).ex hx) (u5.ex hx)
      clear h1 h2 d4 d5 d6 t5 u5 ha hb hc hck hlc hE1
      go_enter Try.func5, Try.ntmps5
      go_wp2_with (first
        | (go_at_call 10; clear T0; (with_reducible refine (HL.out _).mono ?_); rintro e w1 ⟨a1, c1, rfl, hc1, hr1, hw1⟩
           obtain ⟨b1, o1, g1, p1, cc1, rfl, hcell, hcc1, hcc2, hin⟩ := hr1.out.at (r := 0) (by omega)
           rw [Nat.add_zero] at hcell
           have hin0 := hin 0 (by omega)
           rw [Nat.add_zero] at hin0
           have HEQ : Hid (Calls Try.prog 23 #[.slice (some ⟨g1, p1, none⟩) 1 cc1, .slice (some ⟨w1.heap.size, 0, none⟩) 1 1] (w1.alloc (.cells #[.int .u8 11] 5)) (Says (.bool true) w1)) := Lib.hid (equal_one 11 (by decide) g1 p1 cc1 w1 5 hin0)
           clear hr1 hin hin0)
        | (go_at_call 23; (with_reducible refine (HEQ.out).mono ?_); rintro e w2 ⟨rfl, hw2⟩)
        | (go_at_call 10; clear TA; (with_reducible refine (HAB.out _ (by repeat (first | assumption | exact Ex.refl _ | refine Ex.trans ?_ (by assumption)))).mono ?_); rintro e w3 ⟨a3, c3, rfl, hw3⟩)
        | (go_at_call 10; clear TB; (with_reducible refine (HBC.out _ (by repeat (first | assumption | exact Ex.refl _ | refine Ex.trans ?_ (by assumption)))).mono ?_); rintro e w4 ⟨a4, c4, rfl, hc4, hr4,hw4⟩))
      go_ret
      exact ⟨rfl, (by repeat (first | assumption | exact Ex.refl _ | refine Ex.trans ?_ (by assumption)))⟩
    · have HBC := Lib.hid fun w2 (hx : Ex w w2) => HM.no (hb.ex hx) (hc.ex hx) h2
      obtain ⟨E2, hE2⟩ : ∃ E2, mulE n o = E2 := ⟨_, rfl⟩
      rw [hE2] at HBC h2
      have e2 : (E2 != 0) = true := by simpa using h2
      have e3 : (E2 == 0) = false := by simpa using h2
      clear h1 h2 ha hb hc hE1 hE2
      go_enter Try.func5, Try.ntmps5
      go_wp2_with (first
        | (go_at_call 10; clear T0; (with_reducible refine (HL.out _).mono ?_); rintro e w1 ⟨a1, c1, rfl, hc1, hr1, hw1⟩
           obtain ⟨b1, o1, g1, p1, cc1, rfl, hcell, hcc1, hcc2, hin⟩ := hr1.out.at (r := 0) (by omega)
           rw [Nat.add_zero] at hcell
           have hin0 := hin 0 (by omega)
           rw [Nat.add_zero] at hin0
           have HEQ : Hid (Calls Try.prog 23 #[.slice (some ⟨g1, p1, none⟩) 1 cc1, .slice (some ⟨w1.heap.size, 0, none⟩) 1 1] (w1.alloc (.cells #[.int .u8 11] 5)) (Says (.bool true) w1)) := Lib.hid (equal_one 11 (by decide) g1 p1 cc1 w1 5 hin0)
           clear hr1 hin hin0)
        | (go_at_call 23; (with_reducible refine (HEQ.out).mono ?_); rintro e w2 ⟨rfl, hw2⟩)
        | (go_at_call 10; clear TA; (with_reducible refine (HAB.out _ (by repeat (first | assumption | exact Ex.refl _ | refine Ex.trans ?_ (by assumption)))).mono ?_); rintro e w3 ⟨a3, c3, rfl, hw3⟩)
        | (go_at_call 10; clear TB; (with_reducible refine (HBC.out _ (by repeat (first | assumption | exact Ex.refl _ | refine Ex.trans ?_ (by assumption)))).mono ?_); rintro e w4 ⟨a4, c4, rfl, hw4⟩))
      go_ret
      exact ⟨rfl, (by repeat (first | assumption | exact Ex.refl _ | refine Ex.trans ?_ (by assumption)))⟩

end Go.Proofs.Ytmmfclkkncbgfaa
