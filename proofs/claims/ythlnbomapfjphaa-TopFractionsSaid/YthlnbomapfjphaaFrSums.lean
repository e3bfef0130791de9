/-
  The walks over package frac: plus, and what is nearest.
-/
import Derived.Test.YthlnbomapfjphaaFrValue
import Derived.StillTailTactics
namespace Go.Proofs.Ythlnbomapfjphaa
open Go.RowKit
open Eu Fr

theorem Two.at {T : TypeId} {w : World} {x y : Int} {b : Nat} (h : b = w.heap.size) : Two T (w.alloc (.cells #[.int .i64 x, .int .i64 y] T)) b x y := by subst h; exact Two.new _ _ _ _

set_option maxHeartbeats 1000000 in
theorem plus_any (a b c d t : Int) (w : World) (h1 : -4000000000000000000 ≤ a ∧ a ≤ 4000000000000000000) (h2 : -4000000000000000000 ≤ b ∧ b ≤ 4000000000000000000) (h3 : -4000000000000000000 ≤ t * c ∧ t * c ≤ 4000000000000000000) (h4 : -4000000000000000000 ≤ t * d ∧ t * d ≤ 4000000000000000000) :
    Calls Try.prog 90 #[.agg #[.int .i64 a, .int .i64 b], .agg #[.int .i64 c, .int .i64 d], .int .i64 t] w (Says (.agg #[.int .i64 (a + t * c), .int .i64 (b + t * d)]) w) := by
  obtain ⟨x1, x2⟩ := h1
  obtain ⟨y1, y2⟩ := h2
  obtain ⟨z1, z2⟩ := h3
  obtain ⟨u1, u2⟩ := h4
  go_enter Try.func90, Try.ntmps90
  go_wp2
  (try simp only [Exit.inBlock, Exit.then])
  refine bodyPost_ret (res_two rfl _ _ _ _ _ _ rfl (Two.at (by simp)) Try.underlying75 (by kernel_rfl)) rfl ?_
  exact ⟨rfl, (((Ex.refl w).alloc _).alloc _).alloc _⟩

set_option maxHeartbeats 1000000 in
theorem near_out (p q m : Int) (w : World) (h : m < 1 ∨ 1000000 < m) :
    Calls Try.prog 47 #[.agg #[.int .i64 p, .int .i64 q], .int .i64 m] w (Says (.tuple #[.agg #[.int .i64 0, .int .i64 0], .agg #[.int .i64 0, .int .i64 0], .int .i64 1]) w) := by
  have HX := Lib.hid ((((Ex.refl w).alloc (.cells #[.int .i64 p, .int .i64 q] 75)).alloc (.cells #[.int .i64 0, .int .i64 0] 75)).alloc (.cells #[.int .i64 0, .int .i64 0] 75))
  rcases h with h | h
  all_goals
    go_enter Try.func47, Try.ntmps47
    go_wp2
    (try simp only [Exit.inBlock, Exit.then])
    refine bodyPost_ret (res_twos1 rfl _ _ _ _ _ _ _ _ _ rfl ((Two.at (by simp)).ex ((Ex.refl _).alloc _)) rfl (Two.at (by simp)) Try.underlying75 (by kernel_rfl) _ rfl) rfl ?_
    exact ⟨rfl, HX.out⟩

set_option maxHeartbeats 1000000 in
theorem near_bad (p q m : Int) (w : World) (h1 : 1 ≤ m) (h2 : m ≤ 1000000) (h : ¬ OkFr p q) :
    Calls Try.prog 47 #[.agg #[.int .i64 p, .int .i64 q], .int .i64 m] w (Says (.tuple #[.agg #[.int .i64 0, .int .i64 0], .agg #[.int .i64 0, .int .i64 0], .int .i64 1]) w) := by
  have HX := Lib.hid ((((Ex.refl w).alloc (.cells #[.int .i64 p, .int .i64 q] 75)).alloc (.cells #[.int .i64 0, .int .i64 0] 75)).alloc (.cells #[.int .i64 0, .int .i64 0] 75))
  have H := Lib.hid fun w => frOf_no p q w h
  have HA : Hid (Two 75 (((w.alloc (.cells #[.int .i64 p, .int .i64 q] 75)).alloc (.cells #[.int .i64 0, .int .i64 0] 75)).alloc (.cells #[.int .i64 0, .int .i64 0] 75)) (w.heap.size + 1) 0 0) := Lib.hid ((Two.at (by simp)).ex ((Ex.refl _).alloc _))
  have HB : Hid (Two 75 (((w.alloc (.cells #[.int .i64 p, .int .i64 q] 75)).alloc (.cells #[.int .i64 0, .int .i64 0] 75)).alloc (.cells #[.int .i64 0, .int .i64 0] 75)) (w.heap.size + 1 + 1) 0 0) := Lib.hid (Two.at (by simp))
  clear h
  go_enter Try.func47, Try.ntmps47
  go_wp2_with (
    (go_at_call 45; (with_reducible refine (H.out _).mono ?_); rintro e w2 ⟨rfl, hw2⟩
     have HA2 := Lib.hid (HA.out.ex hw2)
     have HB2 := Lib.hid (HB.out.ex hw2)
     have a0 := HA2.out.c0
     have a1 := HA2.out.c1
     have af0 := HA2.out.free 0
     have af1 := HA2.out.free 1
     have b0 := HB2.out.c0
     have b1 := HB2.out.c1
     have bf0 := HB2.out.free 0
     have bf1 := HB2.out.free 1))
  (try simp only [Exit.inBlock, Exit.then])
  refine bodyPost_ret (res_twos1 rfl _ _ _ _ _ _ _ _ _ rfl ((HA2.out.set).off2 (by omega)) rfl ((HB2.out.off2 (by omega)).set) Try.underlying75 (by kernel_rfl) _ rfl) rfl ?_
  exact ⟨rfl, ((HX.out.trans hw2).set2 (by omega) _ _).set2 (by omega) _ _⟩

/-- What Near answers. -/
def NearSays (P Q m : Int) (w : World) (e : Ending) (w2 : World) : Prop :=
  ∃ a b c d, IsLow P Q m a b ∧ IsHigh P Q m c d ∧ b ≤ 1000000 ∧ d ≤ 1000000 ∧ 0 ≤ a ∧ a ≤ 1000000 ∧ 0 ≤ c ∧ c ≤ 1000000 ∧ Says (.tuple #[.agg #[.int .i64 a, .int .i64 b], .agg #[.int .i64 c, .int .i64 d], .int .i64 0]) w e w2

end Go.Proofs.Ythlnbomapfjphaa
