/-
  Rows of integers told by a function of the place.
-/
import Derived.Test.YtfdhhiibhkepaaaMake
namespace Go.Proofs.Ytfdhhiibhkepaaa
open Go.RowKit

def fl (L : Nat) (F : Nat → Int) : List Int := (List.range L).map F

theorem fl_length (L : Nat) (F : Nat → Int) : (fl L F).length = L := by simp [fl]
theorem fl_nth {L : Nat} {F : Nat → Int} {t : Nat} (h : t < L) : nth (fl L F) t = F t := by
  rw [nth_eq (by rw [fl_length]; exact h)]
  simp [fl]
theorem fl_congr {L : Nat} {F H : Nat → Int} (h : ∀ t, t < L → F t = H t) : fl L F = fl L H := by
  unfold fl
  apply List.map_congr_left
  intro t ht
  exact h t (List.mem_range.mp ht)
theorem fl_zero (L : Nat) : List.replicate L (0 : Int) = fl L fun _ => 0 := by
  unfold fl
  rw [List.map_const', List.length_range]

/-- F, but x at j. -/
def upd (F : Nat → Int) (j : Nat) (x : Int) : Nat → Int := fun t => if t = j then x else F t
theorem upd_at (F : Nat → Int) (j : Nat) (x : Int) : upd F j x j = x := by simp [upd]
theorem upd_ne {F : Nat → Int} {j t : Nat} {x : Int} (h : t ≠ j) : upd F j x t = F t := by simp [upd, h]

theorem fl_set (L : Nat) (F : Nat → Int) (j : Nat) (x : Int) : (fl L F).set j x = fl L (upd F j x) := by
  apply List.ext_getElem
  · simp [fl]
  · intro t h1 h2
    simp [fl, List.getElem_set, upd, eq_comm]

theorem fl_of (xs : List Int) : fl xs.length (nth xs) = xs := by
  apply List.ext_getElem
  · simp [fl]
  · intro t h1 h2
    simp [fl, nth_eq h2]

theorem Row.flset {e : TypeId} {k : IntKind} {w : World} {base g L cap : Nat} {F : Nat → Int} (h : Row e k w base (.slice (some ⟨g, 0, none⟩) L cap) (fl L F)) (j : Nat) (x : Int) :
    Row e k (w.setCell ⟨g, j, none⟩ (.int k x)) base (.slice (some ⟨g, 0, none⟩) L cap) (fl L (upd F j x)) ∧ w.grownBy (w.setCell ⟨g, j, none⟩ (.int k x)) (some g) := by
  have := h.set (fl_length L F).symm j x
  rw [fl_set] at this
  exact this

theorem Row.flat {e : TypeId} {k : IntKind} {w : World} {base g L cap : Nat} {F : Nat → Int} (h : Row e k w base (.slice (some ⟨g, 0, none⟩) L cap) (fl L F)) :
    base ≤ g ∧ g < w.heap.size ∧ (∀ i, i < L → w.cell? ⟨g, i, none⟩ = some (.int k (F i))) ∧ ∀ i, w.frozen? ⟨g, i, none⟩ = false := by
  have hlen := fl_length L F
  have f := h.form
  rw [hlen] at f
  rcases f with ⟨f1, _⟩ | ⟨g2, cap2, f1, f2, f3, _, _, hc, hf⟩
  · simp at f1
  simp only [Value.slice.injEq, Option.some.injEq, Addr.mk.injEq, and_true, true_and] at f1
  obtain ⟨rfl, rfl⟩ := f1
  refine ⟨f2, f3, fun i hi => ?_, hf⟩
  have := hc i hi
  rwa [fl_nth hi] at this

end Go.Proofs.Ytfdhhiibhkepaaa
