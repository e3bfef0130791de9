/-
  PolyValues, walked.
-/
import Derived.Test.YtfdhhiibhkepaaaPoTool
import Derived.Test.YtfdhhiibhkepaaaPoAt
namespace Go.Proofs.Ytfdhhiibhkepaaa
open Go.RowKit
open Pr Po

theorem atL {p : Int} (hp : Prm p) (p9 : p ≤ 997) {F : List Int} {L : Nat} (hF : Po.Can p F) (hL : F.length = L) (hm : L ≤ 40) (x : Int) :
    ∃ u, ev F x % p = u ∧ 0 ≤ u ∧ u < p ∧ ∀ (w : World) (a : Option Addr) (ca : Nat), Reads w .i64 a F → Calls Try.prog 29 #[.int .i64 p, .slice a L ca, .int .i64 x] w (Says (.tuple #[.int .i64 u, .int .i64 0]) w) := by
  have p2 := hp.1
  subst hL
  exact ⟨_, rfl, Int.emod_nonneg _ (by omega), Int.emod_lt_of_pos _ (by omega), fun w a ca hr => pat_ok p F x a ca w hr (polyE_zero.mpr ⟨hp, p9, hm, hF⟩)⟩

theorem at_lit (w : World) : Calls Try.prog 29 #[.int .i64 7, .slice (some ⟨w.heap.size, 0, none⟩) 3 3, .int .i64 2] (w.alloc (.cells #[.int .i64 1, .int .i64 2, .int .i64 3] 3)) (Says (.tuple #[.int .i64 3, .int .i64 0]) (w.alloc (.cells #[.int .i64 1, .int .i64 2, .int .i64 3] 3))) := by
  have h1 := reads_new .i64 [1, 2, 3] #[.int .i64 1, .int .i64 2, .int .i64 3] rfl 3 w
  have := pat_ok 7 [1, 2, 3] 2 _ 3 _ h1 (polyE_zero.mpr ⟨(pb_iff 7).mp (by decide), by omega, by decide, ⟨by decide, by decide⟩⟩)
  rw [show ev [1, 2, 3] 2 % 7 = 3 by decide] at this
  exact this

theorem ev_red {p : Int} (f : List Int) (x : Int) : ev (red p f) x % p = ev f x % p :=
  Int.emod_eq_emod_iff_emod_sub_eq_zero.mpr (Int.emod_eq_zero_of_dvd (ev_cg (cg_red p f) x))

end Go.Proofs.Ytfdhhiibhkepaaa
