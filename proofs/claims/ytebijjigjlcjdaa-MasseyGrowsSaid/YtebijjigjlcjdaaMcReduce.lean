/-
  reduce of package matrix: the rows are cloned, then column by column.
-/
import Derived.Test.YtebijjigjlcjdaaMcLead
import Derived.Laws.Rows
import Derived.Test.YtebijjigjlcjdaaChecked
namespace Go.Proofs.Ytebijjigjlcjdaa
open Go.RowKit
open Gf

/-- The block b of w holds three values. -/
def Three (T : TypeId) (w : World) (b : Nat) (x y z : Value) : Prop := w.heap[b]? = some (.cells #[x, y, z] T (0, 0))

theorem Three.at {T : TypeId} {w : World} {x y z : Value} {b : Nat} (h : b = w.heap.size) : Three T (w.alloc (.cells #[x, y, z] T)) b x y z := by subst h; exact heap_alloc_new _ _
theorem Three.lt {T : TypeId} {w : World} {b : Nat} {x y z : Value} (h : Three T w b x y z) : b < w.heap.size := (Array.getElem?_eq_some_iff.1 h).1
theorem Three.ex {T : TypeId} {w w2 : World} {b : Nat} {x y z : Value} (h : Three T w b x y z) (hx : Ex w w2) : Three T w2 b x y z := by
  unfold Three at *
  rw [hx.block b (Array.getElem?_eq_some_iff.1 h).1]
  exact h
theorem Three.c0 {T : TypeId} {w : World} {b : Nat} {x y z : Value} (h : Three T w b x y z) : w.cell? ⟨b, 0, none⟩ = some x := by unfold Three at h; simp [World.cell?, h]
theorem Three.c1 {T : TypeId} {w : World} {b : Nat} {x y z : Value} (h : Three T w b x y z) : w.cell? ⟨b, 1, none⟩ = some y := by unfold Three at h; simp [World.cell?, h]
theorem Three.c2 {T : TypeId} {w : World} {b : Nat} {x y z : Value} (h : Three T w b x y z) : w.cell? ⟨b, 2, none⟩ = some z := by unfold Three at h; simp [World.cell?, h]
theorem Three.free {T : TypeId} {w : World} {b : Nat} {x y z : Value} (h : Three T w b x y z) (i : Nat) : w.frozen? ⟨b, i, none⟩ = false := by unfold Three at h; simp [World.frozen?, h]
theorem Three.off {T : TypeId} {w : World} {b c i : Nat} {x y z u : Value} (h : Three T w b x y z) (hc : c ≠ b) : Three T (w.setCell ⟨c, i, none⟩ u) b x y z := by
  unfold Three at *
  unfold World.setCell
  simp only [Array.getElem?_modify]
  rw [if_neg hc, h]
theorem Three.set {T : TypeId} {w : World} {b : Nat} {x y z r s t : Value} (h : Three T w b x y z) : Three T (((w.setCell ⟨b, 0, none⟩ r).setCell ⟨b, 1, none⟩ s).setCell ⟨b, 2, none⟩ t) b r s t := by
  have s0 : Three T (w.setCell ⟨b, 0, none⟩ r) b r y z := by
    unfold Three at *
    unfold World.setCell
    simp only [Array.getElem?_modify, if_true, h]
    simp
  have s1 : Three T ((w.setCell ⟨b, 0, none⟩ r).setCell ⟨b, 1, none⟩ s) b r s z := by
    unfold Three at *
    unfold World.setCell at s0 ⊢
    simp only [Array.getElem?_modify, if_true, h] at s0 ⊢
    simp
  unfold Three at *
  unfold World.setCell at s1 ⊢
  simp only [Array.getElem?_modify, if_true, h] at s1 ⊢
  simp

theorem Grid.readsT {w : World} {base G R C : Nat} {gs cs : Nat → Nat} {M : Nat → Nat → E} (h : Grid w base G R C gs cs M) : ReadsT w (some ⟨G, 0, none⟩) R C M :=
  ⟨G, 0, rfl, fun r hr => ⟨gs r, 0, cs r, by rw [Nat.zero_add]; exact h.outer r hr, (h.cap r hr).1, (h.cap r hr).2, fun k hk => by rw [Nat.zero_add]; exact h.inner r hr k hk⟩⟩

theorem Grid.off {w w2 : World} {base G R C g : Nat} {gs cs : Nat → Nat} {M : Nat → Nat → E} (h : Grid w base G R C gs cs M) (hR : 1 ≤ R) (hC : 1 ≤ C) (hm : Mo1 g w w2) (hg : g < base) : Grid w2 base G R C gs cs M := by
  have h1 : G ≠ g := by have := h.leG; omega
  have h2 : ∀ r, r < R → gs r ≠ g := fun r hr => by have := h.le r hr; omega
  exact ⟨fun r hr => hm.cell (h.outer r hr) h1, fun r => (hm.frozen (a := ⟨G, r, none⟩) (World.block_lt_of_cell? w ⟨G, 0, none⟩ (h.outer 0 (by omega))) h1).trans (h.outerFree r), fun r hr k hk => hm.cell (h.inner r hr k hk) (h2 r hr), fun r hr k => (hm.frozen (a := ⟨gs r, k, none⟩) (World.block_lt_of_cell? w ⟨gs r, 0, none⟩ (h.inner r hr 0 (by omega))) (h2 r hr)).trans (h.free r hr k), h.apart, h.far, h.le, h.leG, h.cap⟩

end Go.Proofs.Ytebijjigjlcjdaa
