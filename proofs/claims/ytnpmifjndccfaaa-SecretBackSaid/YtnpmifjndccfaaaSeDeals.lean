/-
  wholekeep: deals.
-/
import Derived.Test.YtnpmifjndccfaaaSeJoin
namespace Go.Proofs.Ytnpmifjndccfaaa
open Go.RowKit
open Eu Pr Po Rs

theorem deal_lit (w : World) : Calls Try.prog 7 #[.int .i64 7, .int .i64 4, .slice (some ⟨w.heap.size, 0, none⟩) 1 1, .int .i64 3] (w.alloc (.cells #[.int .i64 2] 3))
    (Dealt [((1 : Int), (6 : Int)), (2, 1), (3, 3)] 3 (w.alloc (.cells #[.int .i64 2] 3))) := by
  have h1 := reads_new .i64 [2] #[.int .i64 2] rfl 3 w
  exact deal_ok 7 4 [2] 3 _ 1 _ h1 (by intro h; cases h) (by decide)

theorem join_th : IsTh 7 [((1 : Int), (6 : Int)), (3, 3)] 2 [4, 2] := by
  refine ⟨⟨by decide, by decide⟩, by decide, fun i hi => ?_⟩
  match i, hi with
  | 0, _ => decide
  | 1, _ => decide

theorem join_lit (b : Nat) (w : World) (hb : w.heap.size = b) : Calls Try.prog 8 #[.int .i64 7, .slice (some ⟨b, 0, none⟩) 2 2] (w.alloc (.cells #[.int .i64 1, .int .i64 6, .int .i64 3, .int .i64 3] 32))
    (Says (.tuple #[.int .i64 4, .int .i64 0]) (w.alloc (.cells #[.int .i64 1, .int .i64 6, .int .i64 3, .int .i64 3] 32))) := by
  subst hb
  have h1 := rowR_new 32 w w.heap.size (Nat.le_refl _) [((1 : Int), (6 : Int)), (3, 3)] #[.int .i64 1, .int .i64 6, .int .i64 3, .int .i64 3] rfl (by unfold maxLen; simp)
  obtain ⟨a, c, h2, _, h3, _⟩ := h1.reads
  simp only [Value.slice.injEq] at h2
  obtain ⟨rfl, _, rfl⟩ := h2
  exact join_ok 7 [((1 : Int), (6 : Int)), (3, 3)] [4, 2] _ _ _ (Nat.le_refl _) h3 (by decide) join_th

theorem deal3_eq (w : World) (a b : Option Addr) (ca cb : Nat) (h1 : ReadsR w a [((1 : Int), (6 : Int)), (2, 1), (3, 3)]) (h2 : ReadsR w b [((1 : Int), (6 : Int)), (2, 1), (3, 3)]) : Calls Try.prog 38 #[.slice a 3 ca, .slice b 3 cb] w (Says (.bool true) w) := points_equal [((1 : Int), (6 : Int)), (2, 1), (3, 3)] a b ca cb w (by simp) h1 h2

set_option maxRecDepth 100000 in
set_option maxHeartbeats 1000000 in
theorem deals_yes (w : World) : Calls Try.prog 19 #[] w (Says (.bool true) w) := by
  have HD := Lib.hid deal_lit
  have HJ := Lib.hid fun w2 => join_lit w2.heap.size w2 rfl
  have HE := Lib.hid deal3_eq
  go_enter Try.func19, Try.ntmps19
  go_wp2_with (first
    | (go_at_call 7; (with_reducible refine (HD.out _).mono ?_); rintro e w1 ⟨g1, rfl, hr1, hw1⟩
       have HX1 : Hid (Ex w w1) := Lib.hid (((Ex.refl w).alloc _).trans hw1)
       have HR1 := Lib.hid hr1.out
       clear hr1 hw1)
    | (go_at_call 8; (with_reducible refine (HJ.out _).mono ?_); rintro e w2 ⟨rfl, hw2⟩
       have HX2 : Hid (Ex w1 w2) := Lib.hid (((Ex.refl w1).alloc _).trans hw2)
       clear hw2)
    | (go_at_call 26; refine (good_zeros 2 (by omega) _ rfl _ _).mono ?_; rintro e w3 ⟨rfl, hw3⟩
       have HX3 : Hid (Ex w2 w3) := Lib.hid hw3
       have HX4 := Lib.hid ((Ex.refl w3).alloc (.cells #[.int .i64 1, .int .i64 6, .int .i64 2, .int .i64 1, .int .i64 3, .int .i64 3] 32))
       have HQ1 : Hid (ReadsR (w3.alloc (.cells #[.int .i64 1, .int .i64 6, .int .i64 2, .int .i64 1, .int .i64 3, .int .i64 3] 32)) (some ⟨g1, 0, none⟩) [((1 : Int), (6 : Int)), (2, 1), (3, 3)]) := Lib.hid (by
         obtain ⟨a, c, h2, _, h3, _⟩ := HR1.out.reads
         simp only [Value.slice.injEq] at h2
         obtain ⟨rfl, _, rfl⟩ := h2
         exact ((h3.ex HX2.out).ex HX3.out).ex HX4.out)
       have HQ2 : Hid (ReadsR (w3.alloc (.cells #[.int .i64 1, .int .i64 6, .int .i64 2, .int .i64 1, .int .i64 3, .int .i64 3] 32)) (some ⟨w3.heap.size, 0, none⟩) [((1 : Int), (6 : Int)), (2, 1), (3, 3)]) := Lib.hid (by
         obtain ⟨a, c, h2, _, h3, _⟩ := (rowR_new 32 w3 w3.heap.size (Nat.le_refl _) [((1 : Int), (6 : Int)), (2, 1), (3, 3)] #[.int .i64 1, .int .i64 6, .int .i64 2, .int .i64 1, .int .i64 3, .int .i64 3] rfl (by unfold maxLen; simp)).reads
         simp only [Value.slice.injEq] at h2
         obtain ⟨rfl, _, rfl⟩ := h2
         exact h3)
       clear hw3)
    | (go_at_call 38; (with_reducible refine (HE.out _ _ _ _ _ HQ1.out HQ2.out).mono ?_); rintro e w5 ⟨rfl, hw5⟩))
  go_ret
  exact ⟨rfl, HX1.out.trans (HX2.out.trans (HX3.out.trans (HX4.out.trans hw5)))⟩

end Go.Proofs.Ytnpmifjndccfaaa
