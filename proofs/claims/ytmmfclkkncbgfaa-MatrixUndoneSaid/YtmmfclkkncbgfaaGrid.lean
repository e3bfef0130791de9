/-
  A table of bytes that may be stored into: a store to an entry, two rows changing places.
-/
import Derived.Test.YtmmfclkkncbgfaaTabOwn
namespace Go.Proofs.Ytmmfclkkncbgfaa
open Go.RowKit
open Gf

/-- M, but x at (r, k). -/
def updM (M : Nat → Nat → E) (r k : Nat) (x : E) : Nat → Nat → E := fun i j => if i = r ∧ j = k then x else M i j
theorem updM_at (M : Nat → Nat → E) (r k : Nat) (x : E) : updM M r k x r k = x := by simp [updM]
theorem updM_ne {M : Nat → Nat → E} {r k i j : Nat} {x : E} (h : ¬ (i = r ∧ j = k)) : updM M r k x i j = M i j := by simp [updM, h]

theorem Grid.ex {w w2 : World} {base G R C : Nat} {gs cs : Nat → Nat} {M : Nat → Nat → E} (h : Grid w base G R C gs cs M) (hR : 1 ≤ R) (hC : 1 ≤ C) (hx : Ex w w2) : Grid w2 base G R C gs cs M where
  outer r hr := hx.cell (h.outer r hr)
  outerFree r := (Below.frozen (p := ⟨G, r, none⟩) hx (World.block_lt_of_cell? w ⟨G, 0, none⟩ (h.outer 0 (by omega)))).trans (h.outerFree r)
  inner r hr k hk := hx.cell (h.inner r hr k hk)
  free r hr k := (Below.frozen (p := ⟨gs r, k, none⟩) hx (World.block_lt_of_cell? w ⟨gs r, 0, none⟩ (h.inner r hr 0 (by omega)))).trans (h.free r hr k)
  apart := h.apart
  far := h.far
  le := h.le
  leG := h.leG
  cap := h.cap
theorem Grid.congr {w : World} {base G R C : Nat} {gs cs : Nat → Nat} {M N : Nat → Nat → E} (h : Grid w base G R C gs cs M) (he : ∀ r, r < R → ∀ k, k < C → M r k = N r k) : Grid w base G R C gs cs N where
  outer := h.outer
  outerFree := h.outerFree
  inner r hr k hk := by rw [← he r hr k hk]; exact h.inner r hr k hk
  free := h.free
  apart := h.apart
  far := h.far
  le := h.le
  leG := h.leG
  cap := h.cap

theorem addr_ne {b c i j : Nat} (h : b ≠ c ∨ i ≠ j) : (⟨b, i, none⟩ : Addr) ≠ ⟨c, j, none⟩ := fun e => by
  simp only [Addr.mk.injEq, and_true] at e
  omega

/-- A store to an entry. -/
theorem Grid.set {w : World} {base G R C : Nat} {gs cs : Nat → Nat} {M : Nat → Nat → E} (h : Grid w base G R C gs cs M) {r k : Nat} (hr : r < R) (hk : k < C) (x : E) : Grid (w.setCell ⟨gs r, k, none⟩ (.int .u8 ((x.v : Nat) : Int))) base G R C gs cs (updM M r k x) where
  outer i hi := by rw [World.cell?_setCell_other _ _ _ _ (addr_ne (.inl (h.far r hr)))]; exact h.outer i hi
  outerFree i := by rw [World.frozen?_setCell]; exact h.outerFree i
  inner i hi j hj := by
    by_cases e : i = r ∧ j = k
    · obtain ⟨rfl, rfl⟩ := e
      rw [World.cell?_setCell_same _ _ _ (h.inner i hi j hj), updM_at]
    · rw [World.cell?_setCell_other _ _ _ _ (addr_ne ?_), updM_ne e]
      · exact h.inner i hi j hj
      · by_cases e2 : i = r
        · exact .inr fun e3 => e ⟨e2, e3.symm⟩
        · exact .inl fun e3 => h.apart r i hr hi (Ne.symm e2) e3
  free i hi j := by rw [World.frozen?_setCell]; exact h.free i hi j
  apart := h.apart
  far := h.far
  le := h.le
  leG := h.leG
  cap := h.cap
theorem Grid.set_ex {w0 w : World} {G R C : Nat} {gs cs : Nat → Nat} {M : Nat → Nat → E} (h : Grid w w0.heap.size G R C gs cs M) (hx : Ex w0 w) {r k : Nat} (hr : r < R) (u : Value) : Ex w0 (w.setCell ⟨gs r, k, none⟩ u) := hx.setCell (p := ⟨gs r, k, none⟩) (h.le r hr) u

/-- F, but those at r and s changed. -/
def swp (F : Nat → Nat) (r s : Nat) : Nat → Nat := fun i => if i = r then F s else if i = s then F r else F i
/-- The place that comes to place i. -/
def sw (r s i : Nat) : Nat := if i = r then s else if i = s then r else i
theorem swp_sw (F : Nat → Nat) (r s i : Nat) : swp F r s i = F (sw r s i) := by
  unfold swp sw
  split
  · rfl
  · split <;> rfl
theorem sw_lt {r s i R : Nat} (hr : r < R) (hs : s < R) (hi : i < R) : sw r s i < R := by unfold sw; split; · exact hs
                                                                                          · split; · exact hr
                                                                                            · exact hi
theorem sw_sw (r s i : Nat) : sw r s (sw r s i) = i := by unfold sw; split <;> split <;> (try split) <;> omega

/-- Rows r and s change places. -/
theorem Grid.swap {w : World} {base G R C : Nat} {gs cs : Nat → Nat} {M : Nat → Nat → E} (h : Grid w base G R C gs cs M) {r s : Nat} (hr : r < R) (hs : s < R) :
    Grid ((w.setCell ⟨G, r, none⟩ (.slice (some ⟨gs s, 0, none⟩) C (cs s))).setCell ⟨G, s, none⟩ (.slice (some ⟨gs r, 0, none⟩) C (cs r))) base G R C (swp gs r s) (swp cs r s) (fun i j => M (sw r s i) j) where
  outer i hi := by
    have hc : (w.setCell ⟨G, r, none⟩ (.slice (some ⟨gs s, 0, none⟩) C (cs s))).cell? ⟨G, s, none⟩ = some (if s = r then .slice (some ⟨gs s, 0, none⟩) C (cs s) else .slice (some ⟨gs s, 0, none⟩) C (cs s)) := by
      by_cases e : s = r
      · subst e
        rw [World.cell?_setCell_same _ _ _ (h.outer s hs), if_pos rfl]
      · rw [World.cell?_setCell_other _ _ _ _ (addr_ne (.inr fun e2 => e e2.symm)), h.outer s hs, if_neg e]
    by_cases e : i = s
    · subst e
      rw [World.cell?_setCell_same _ _ _ hc]
      unfold swp
      by_cases e2 : i = r
      · simp [e2]
      · simp [e2]
    · rw [World.cell?_setCell_other _ _ _ _ (addr_ne (.inr fun e2 => e e2.symm))]
      unfold swp
      by_cases e2 : i = r
      · subst e2
        rw [World.cell?_setCell_same _ _ _ (h.outer i hi)]
        simp
      · rw [World.cell?_setCell_other _ _ _ _ (addr_ne (.inr fun e3 => e2 e3.symm)), h.outer i hi]
        simp [e, e2]
  outerFree i := by rw [World.frozen?_setCell, World.frozen?_setCell]; exact h.outerFree i
  inner i hi j hj := by
    have hi2 := sw_lt hr hs hi
    rw [swp_sw, World.cell?_setCell_other _ _ _ _ (addr_ne (.inl (h.far _ hi2).symm)), World.cell?_setCell_other _ _ _ _ (addr_ne (.inl (h.far _ hi2).symm))]
    exact h.inner _ hi2 j hj
  free i hi j := by
    rw [swp_sw, World.frozen?_setCell, World.frozen?_setCell]
    exact h.free _ (sw_lt hr hs hi) j
  apart i j hi hj hne := by
    rw [swp_sw, swp_sw]
    refine h.apart _ _ (sw_lt hr hs hi) (sw_lt hr hs hj) fun e => hne ?_
    have := congrArg (sw r s) e
    rwa [sw_sw, sw_sw] at this
  far i hi := by rw [swp_sw]; exact h.far _ (sw_lt hr hs hi)
  le i hi := by rw [swp_sw]; exact h.le _ (sw_lt hr hs hi)
  leG := h.leG
  cap i hi := by rw [swp_sw]; exact h.cap _ (sw_lt hr hs hi)

end Go.Proofs.Ytmmfclkkncbgfaa
