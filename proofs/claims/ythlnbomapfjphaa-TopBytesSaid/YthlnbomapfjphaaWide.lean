/-
  Tables of bytes whose rows are stored one by one into a made slice; slices.Clone at bytes.
-/
import Derived.Test.YthlnbomapfjphaaMatD
import Derived.Test.YthlnbomapfjphaaMixT
import Derived.Test.YthlnbomapfjphaaGro
import Derived.Test.YthlnbomapfjphaaCloneB
namespace Go.Proofs.Ythlnbomapfjphaa
open Go.RowKit
open Gf

/-- A slice of L rows in block g, of which the first i are made: rows of C bytes. -/
def OwnP (e : TypeId) (w : World) (base g L C i : Nat) (M : Nat → Nat → E) : Prop :=
  ∃ (us : List Value) (gs : Nat → Nat), us.length = L ∧ RowV e w base (.slice (some ⟨g, 0, none⟩) L L) us ∧ (∀ r s, r < s → s < i → gs r ≠ gs s) ∧
    ∀ r, r < i → base ≤ gs r ∧ gs r < w.heap.size ∧ gs r ≠ g ∧ (∀ k, w.frozen? ⟨gs r, k, none⟩ = false) ∧ (∀ k, k < C → w.cell? ⟨gs r, k, none⟩ = some (.int .u8 (((M r k).v : Nat) : Int))) ∧ ∃ c, nthV us r = .slice (some ⟨gs r, 0, none⟩) C c ∧ C ≤ c ∧ c ≤ maxLen

theorem OwnP.start {e : TypeId} {w : World} {base g L : Nat} {us : List Value} (hl : us.length = L) (h : RowV e w base (.slice (some ⟨g, 0, none⟩) L L) us) (C : Nat) (M : Nat → Nat → E) : OwnP e w base g L C 0 M :=
  ⟨us, fun _ => 0, hl, h, fun _ _ _ hr => absurd hr (Nat.not_lt_zero _), fun _ hr => absurd hr (Nat.not_lt_zero _)⟩
theorem OwnP.ex {e : TypeId} {w w2 : World} {base g L C i : Nat} {M : Nat → Nat → E} (h : OwnP e w base g L C i M) (hx : Ex w w2) : OwnP e w2 base g L C i M := by
  obtain ⟨us, gs, h1, h2, h3, h4⟩ := h
  refine ⟨us, gs, h1, h2.ex hx, h3, fun r hr => ?_⟩
  obtain ⟨k1, k2, k3, k4, k5, k6⟩ := h4 r hr
  exact ⟨k1, Nat.lt_of_lt_of_le k2 hx.size, k3, fun k => (Below.frozen hx k2).trans (k4 k), fun k hk => hx.cell (k5 k hk), k6⟩
/-- A cell of the slice: it is there, and may be stored into. -/
theorem OwnP.cell {e : TypeId} {w : World} {base g L C i : Nat} {M : Nat → Nat → E} (h : OwnP e w base g L C i M) {r : Nat} (hr : r < L) : (∃ u, w.cell? ⟨g, r, none⟩ = some u) ∧ w.frozen? ⟨g, r, none⟩ = false ∧ base ≤ g ∧ g < w.heap.size := by
  obtain ⟨us, gs, h1, h2, _⟩ := h
  rcases h2.form with ⟨h3, _⟩ | ⟨g2, cap2, h3, g3, g4, _, _, hc, hf⟩
  · cases h3
  · simp only [Value.slice.injEq, Option.some.injEq, Addr.mk.injEq, and_true] at h3
    obtain ⟨rfl, _⟩ := h3
    exact ⟨⟨_, hc r (by omega)⟩, hf r, g3, g4⟩

/-- One row more is stored. -/
theorem OwnP.set {e eu : TypeId} {w0 w : World} {base g L C i : Nat} {M : Nat → Nat → E} {F : Nat → E} {row : Value} (h : OwnP e w0 base g L C i M) (hx : Ex w0 w) (hrow : Row eu .u8 w w0.heap.size row (bl F C)) (hC : 1 ≤ C) (hi : i < L) (hb : base ≤ w0.heap.size) :
    OwnP e (w.setCell ⟨g, i, none⟩ row) base g L C (i + 1) (fun r k => if r = i then F k else M r k) := by
  have hbl := bl_length F C
  rcases hrow.form with ⟨_, hn⟩ | ⟨b, c, rfl, g1, g2, g3, g4, g5, g6⟩
  · rw [hn] at hbl; simp at hbl; omega
  rw [hbl] at g3 g5 ⊢
  have hgw := (h.cell hi).2.2.2
  have hpx := h.ex hx
  obtain ⟨us, gs, h1, h2, h3, h4⟩ := h
  have hbg : b ≠ g := by omega
  refine ⟨us.set i (.slice (some ⟨b, 0, none⟩) C c), fun r => if r = i then b else gs r, by simp [h1], ((h2.ex hx).set h1.symm i _).1, fun r s hrs hs => ?_, fun r hr => ?_⟩
  · dsimp only
    by_cases hsi : s = i
    · rw [if_pos hsi, if_neg (by omega)]
      have := (h4 r (by omega)).2.1
      omega
    · rw [if_neg (by omega), if_neg hsi]
      exact h3 r s hrs (by omega)
  · dsimp only
    rw [nthV_set (by omega), World.size_setCell]
    by_cases hri : r = i
    · simp only [if_pos hri]
      refine ⟨by omega, g2, hbg, fun k => by rw [World.frozen?_setCell]; exact g6 k, fun k hk => ?_, c, rfl, g3, g4⟩
      rw [World.cell?_setCell_other _ _ _ _ (fun e2 => by simp only [Addr.mk.injEq] at e2; exact hbg e2.1.symm)]
      have := g5 k hk
      rw [bl_nth hk] at this
      exact this
    · simp only [if_neg hri]
      obtain ⟨k1, k2, k3, k4, k5, k6⟩ := h4 r (by omega)
      refine ⟨k1, Nat.lt_of_lt_of_le k2 hx.size, k3, fun k => by rw [World.frozen?_setCell]; exact (Below.frozen hx k2).trans (k4 k), fun k hk => ?_, k6⟩
      rw [World.cell?_setCell_other _ _ _ _ (fun e2 => by simp only [Addr.mk.injEq] at e2; exact k3 e2.1.symm)]
      exact hx.cell (k5 k hk)
theorem OwnP.congr {e : TypeId} {w : World} {base g L C i : Nat} {M N : Nat → Nat → E} (h : OwnP e w base g L C i M) (he : ∀ r, r < i → ∀ k, k < C → M r k = N r k) : OwnP e w base g L C i N := by
  obtain ⟨us, gs, h1, h2, h3, h4⟩ := h
  refine ⟨us, gs, h1, h2, h3, fun r hr => ?_⟩
  obtain ⟨k1, k2, k3, k4, k5, k6⟩ := h4 r hr
  exact ⟨k1, k2, k3, k4, fun k hk => by rw [← he r hr k hk]; exact k5 k hk, k6⟩
/-- All are made. -/
theorem OwnP.own {e : TypeId} {w : World} {base g L C : Nat} {M : Nat → Nat → E} (h : OwnP e w base g L C L M) : OwnT e w base (.slice (some ⟨g, 0, none⟩) L L) C L M := by
  obtain ⟨us, gs, h1, h2, h3, h4⟩ := h
  refine ⟨us, gs, h1, h2, h3, fun r hr => ?_⟩
  obtain ⟨k1, k2, k3, k4⟩ := h4 r hr
  exact ⟨k1, k2, fun e2 => k3 (Option.some.inj e2).symm, k4⟩

end Go.Proofs.Ythlnbomapfjphaa
