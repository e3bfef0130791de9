/-
  Bytes in a block of their own, that may be stored into.
-/
import Derived.Test.YthlnbomapfjphaaVecF
import Derived.Test.YthlnbomapfjphaaGtb
import Derived.Test.YthlnbomapfjphaaGso
namespace Go.Proofs.Ythlnbomapfjphaa
open Go.RowKit
open Gf

/-- Bytes in block g, that may be stored into. -/
def RowB (w : World) (g C : Nat) (F : Nat → E) : Prop := (∀ k, k < C → w.cell? ⟨g, k, none⟩ = some (.int .u8 (((F k).v : Nat) : Int))) ∧ ∀ k, w.frozen? ⟨g, k, none⟩ = false
def updF (F : Nat → E) (j : Nat) (x : E) : Nat → E := fun k => if k = j then x else F k
theorem RowB.set {w : World} {g C : Nat} {F : Nat → E} (h : RowB w g C F) {j : Nat} (hj : j < C) (x : E) : RowB (w.setCell ⟨g, j, none⟩ (.int .u8 ((x.v : Nat) : Int))) g C (updF F j x) := by
  refine ⟨fun k hk => ?_, fun k => by rw [World.frozen?_setCell]; exact h.2 k⟩
  unfold updF
  by_cases e : k = j
  · subst e
    rw [World.cell?_setCell_same _ _ _ (h.1 k hk), if_pos rfl]
  · rw [World.cell?_setCell_other _ _ _ _ (addr_ne (.inr fun e2 => e e2.symm)), if_neg e]
    exact h.1 k hk
theorem RowB.ex {w w2 : World} {g C : Nat} {F : Nat → E} (h : RowB w g C F) (hC : 1 ≤ C) (hx : Ex w w2) : RowB w2 g C F :=
  ⟨fun k hk => hx.cell (h.1 k hk), fun k => (Below.frozen (p := ⟨g, k, none⟩) hx (World.block_lt_of_cell? w ⟨g, 0, none⟩ (h.1 0 (by omega)))).trans (h.2 k)⟩
theorem RowB.congr {w : World} {g C : Nat} {F H : Nat → E} (h : RowB w g C F) (he : ∀ k, k < C → F k = H k) : RowB w g C H := ⟨fun k hk => by rw [← he k hk]; exact h.1 k hk, h.2⟩
theorem Row.rowB {e : TypeId} {w : World} {base : Nat} {v : Value} {F : Nat → E} {C : Nat} (h : Row e .u8 w base v (bl F C)) (hC : 1 ≤ C) : ∃ g c, v = .slice (some ⟨g, 0, none⟩) C c ∧ base ≤ g ∧ g < w.heap.size ∧ C ≤ c ∧ c ≤ maxLen ∧ RowB w g C F := by
  have hl := bl_length F C
  rcases h.form with ⟨_, h2⟩ | ⟨g, c, h1, h2, h3, h4, h5, h6, h7⟩
  · rw [h2] at hl; simp at hl; omega
  · rw [hl] at h1 h4 h6
    exact ⟨g, c, h1, h2, h3, h4, h5, fun k hk => by rw [h6 k hk, bl_nth hk], h7⟩

end Go.Proofs.Ythlnbomapfjphaa
