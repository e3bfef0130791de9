/-
  What a walk is told of a slice of numbers that came in, with the form's own reach.
-/
import Derived.Test.YtfdhhiibhkepaaaLib
import Derived.ProofKit
import Derived.SizedLaws
namespace Go.Proofs.Ytfdhhiibhkepaaa
open Go.RowKit Go.ChangeShapes Go.WideShapes

/-- The slice (a, len, cap) of numbers of B bytes each reads as z. -/
def IsInts (k : IntKind) (B : Nat) (w : World) (a : Option Addr) (len cap : Nat) (z : List Int) : Prop :=
  z.length = len ∧ len ≤ cap ∧ cap * B ≤ 140737488351232 ∧ Reads w k a z ∧ (a = none → cap = 0) ∧ ∀ n ∈ z, (Lit.int k n).wf = true

theorem ints_of {H : Type} {enc : TypeId × Value → H} {P : Program} {W : World} {t e : TypeId} {k : IntKind} {B : Nat} {a : Option Addr} {len cap : Nat} {d : DataW H} {ps : List MemPlace}
    (ht : P.underlying t = some (.slice e)) (he : P.underlying e = some (.int k)) (hc : P.cellsOf e = 1) (h : DataW.Trod enc P W 0 (fun _ => true) true t (.slice a len cap) d ps)
    (hsz : ∀ elems spare, d = .slice elems spare → (elems.length + spare.length) * B ≤ reachBytes) : ∃ z, IsInts k B W a len cap z := by
  obtain ⟨fuel, hf⟩ := h
  rcases open_ints ht he hc hf with ⟨hcs, _⟩ | ⟨x, l, c, zs, hcs, _, hl, hm, hz, hx, hcell, hwz⟩
  · simp [Value.cells] at hcs
    obtain ⟨rfl, rfl, rfl⟩ := hcs
    exact ⟨[], rfl, Nat.le_refl _, by omega, .inl rfl, fun _ => rfl, fun r h => by cases h⟩
  · simp [Value.cells] at hcs
    obtain ⟨rfl, rfl, rfl⟩ := hcs
    simp only [if_true] at hz
    simp only [Prod.mk.injEq] at hx
    have hs := hsz _ _ hx.1
    have e1 : (lits k (zs.take len) : List (DataW H)).length + (lits k (zs.drop len) : List (DataW H)).length = cap := by simp [lits]; omega
    rw [e1] at hs
    simp only [reachBytes] at hs
    refine ⟨zs.take len, by simp; omega, hl, by omega, ?_, (by intro h; cases h), fun n hn => hwz n (List.mem_of_mem_take hn)⟩
    by_cases h0 : len = 0
    · subst h0; exact .inl (by simp)
    · have hx0 := hcell 0 (by omega)
      have hsp : x.spot = none := by
        have e0 : x.add 0 = x := rfl
        rw [e0] at hx0
        unfold World.cell? at hx0
        split at hx0
        · split at hx0
          · cases hx0
          · rename_i hh
            simpa using hh
        · cases hx0
      obtain ⟨b, off, sp⟩ := x
      simp only at hsp
      subst hsp
      refine .inr ⟨b, off, rfl, fun i hi => ?_⟩
      have hi2 : i < len ∧ i < zs.length := by simp at hi; omega
      have h1 := hcell i hi2.2
      have e2 : (⟨b, off, none⟩ : Addr).add i = ⟨b, off + i, none⟩ := by unfold Addr.add; split <;> simp_all
      rw [e2] at h1
      rw [h1, nth_eq hi]
      simp [hi2.2]

end Go.Proofs.Ytfdhhiibhkepaaa
