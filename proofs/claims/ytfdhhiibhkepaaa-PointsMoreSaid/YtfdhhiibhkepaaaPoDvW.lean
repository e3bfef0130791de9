/-
  Package poly: divide, Div.
-/
import Derived.Test.YtfdhhiibhkepaaaPoMul
import Derived.Test.YtfdhhiibhkepaaaRsWalks
import Derived.Test.YtfdhhiibhkepaaaBiMod
import Derived.StillTailTactics
namespace Go.Proofs.Ytfdhhiibhkepaaa
open Go.RowKit
open Pr Po

theorem inv_dvd {p x a : Int} (hp : 2 ≤ p) (h : x * a % p = 1 % p) : p ∣ x * a - 1 := by
  have h1 := Int.mul_ediv_add_emod (x * a) p
  have h2 : (1 : Int) % p = 1 := Int.emod_eq_of_lt (by omega) (by omega)
  exact ⟨x * a / p, by omega⟩

theorem inv_last (p : Int) (g : List Int) (w : World) (hp : Prm p) (hp9 : p ≤ 997) (hg : Po.Can p g) (h0 : g ≠ []) :
    Calls Try.prog 47 #[.int .i64 (nth g (g.length - 1)), .int .i64 p] w (fun e w2 => ∃ v : Int, 1 ≤ v ∧ v < p ∧ Hid (p ∣ v * nth g (g.length - 1) - 1) ∧ Says (.tuple #[.int .i64 v, .int .i64 0]) w e w2) := by
  have p2 := hp.1
  refine (inverse_ok _ p w (by omega) (by omega) (Bi.prm_G hp (can_last hp hg h0))).mono ?_
  rintro e w2 ⟨x, x0, x1, hx, hs⟩
  have hd := inv_dvd p2 hx.out
  refine ⟨x, ?_, x1, Lib.hid hd, hs⟩
  refine Decidable.byContradiction fun hc => ?_
  have : x = 0 := by omega
  subst this
  obtain ⟨k, hk⟩ := hd
  have h1 : p ∣ 1 := ⟨-k, by rw [Int.mul_neg]; omega⟩
  have := Int.le_of_dvd (by omega) h1
  omega

/-- Two rows of one's own, apart. -/
def Rows2 (q r : List Int) (w : World) (e : Ending) (w2 : World) : Prop :=
  ∃ v u, e = .returned (.tuple #[v, u, .int .i64 0]) ∧ Hid (Row 3 .i64 w2 w.heap.size v q) ∧ Hid (Row 3 .i64 w2 w.heap.size u r) ∧ Hid (v.ownBlock = none ∨ u.ownBlock = none ∨ u.ownBlock ≠ v.ownBlock) ∧ Ex w w2


end Go.Proofs.Ytfdhhiibhkepaaa
