/-
  Names, walked.
-/
import Derived.Test.YtgnpchmglkabnaaEqual
namespace Go.Proofs.Ytgnpchmglkabnaa
open Go.RowKit

/-- The numbers of package api, in the law's order. -/
def apiNumbers : List Int := [0, 1, 2, 3, 4, 5, 6, 7, 8, 9, 10, 11, 12, 1000000000, 1000000, 1000000, 6, 1000, 60, 60, 30, 40, 997, 12, 12, 12, 6, 200, 16, 20, 10, 64, 16, 60, 60, 10, 3, 8, 1000000, 8, 60, 4096, 1, 2, 3, 4, 5, 6, 7, 8]

theorem two_new (xs : List Int) (va vb : Array Value) (ha : va = (xs.map (Value.int .i64)).toArray) (hb : vb = (xs.map (Value.int .i64)).toArray) (T U : TypeId) (w : World) (n : Nat) (hn : n = xs.length) (hl : n ≤ 1000) (b2 : Nat) (hb2 : b2 = w.heap.size + 1) :
    Calls Try.prog 9 #[.slice (some ⟨w.heap.size, 0, none⟩) n n, .slice (some ⟨b2, 0, none⟩) n n] ((w.alloc (.cells va T)).alloc (.cells vb U)) (Says (.bool true) w) := by
  subst hn
  have h1 := (reads_new .i64 xs va ha T w).ex ((Ex.refl (w.alloc (.cells va T))).alloc (.cells vb U))
  have h2 := reads_new .i64 xs vb hb U (w.alloc (.cells va T))
  rw [World.size_alloc, ← hb2] at h2
  exact (ints_equal xs xs _ _ _ _ _ (by unfold maxLen; omega) (by unfold maxLen; omega) h1 h2 true (by simp)).mono fun _ _ ⟨he, hx⟩ => ⟨he, (((Ex.refl w).alloc _).alloc _).trans hx⟩

set_option maxRecDepth 100000 in
set_option maxHeartbeats 1000000 in
theorem names_walk (w : World) : Calls Try.prog 3 #[] w (Says (.bool true) w) := by
  go_enter Try.func3, Try.ntmps3
  go_wp2_with (
    (go_at_call 9; (refine (two_new apiNumbers _ _ rfl rfl _ _ _ _ rfl (by decide) _ (by simp)).mono ?_); rintro e w2 ⟨rfl, hw2⟩))
  go_ret
  exact ⟨rfl, (by repeat (first | assumption | exact Ex.refl _ | refine Ex.trans ?_ (by assumption)))⟩

end Go.Proofs.Ytgnpchmglkabnaa
