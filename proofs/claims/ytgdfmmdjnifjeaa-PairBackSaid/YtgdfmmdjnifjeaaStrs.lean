/-
  A slice of strings that came in: what a walk is told of it.
-/
import Derived.Test.YtgdfmmdjnifjeaaGro
import Derived.ProofKit
import Derived.SizedLaws
import Derived.SliceStrings
namespace Go.Proofs.Ytgdfmmdjnifjeaa
open Go.RowKit Go.ChangeShapes Go.WideShapes

/-- String i; the empty one behind the end. -/
def nthS (ss : List ByteArray) (i : Nat) : ByteArray := ss.getD i ByteArray.empty
theorem nthS_eq {ss : List ByteArray} {i : Nat} (h : i < ss.length) : nthS ss i = ss[i] := by
  unfold nthS; rw [List.getD_eq_getElem?_getD, List.getElem?_eq_getElem h]; rfl
theorem nthS_mem {ss : List ByteArray} {i : Nat} (h : i < ss.length) : nthS ss i ∈ ss := by rw [nthS_eq h]; exact List.getElem_mem h

/-- The slice at a reads as ss, in the world w. -/
def ReadsS (w : World) (a : Option Addr) (ss : List ByteArray) : Prop :=
  ss = [] ∨ ∃ b off, a = some ⟨b, off, none⟩ ∧ ∀ i, i < ss.length → w.cell? ⟨b, off + i, none⟩ = some (.string (nthS ss i))

theorem ReadsS.ex {w w2 : World} {a : Option Addr} {ss : List ByteArray} (h : ReadsS w a ss) (hx : Ex w w2) : ReadsS w2 a ss := by
  rcases h with h | ⟨b, off, h1, h2⟩
  · exact .inl h
  · exact .inr ⟨b, off, h1, fun i hi => hx.cell (h2 i hi)⟩

theorem ReadsS.take {w : World} {a : Option Addr} {ss : List ByteArray} (h : ReadsS w a ss) (n : Nat) : ReadsS w a (ss.take n) := by
  rcases h with h | ⟨b, off, h1, h2⟩
  · exact .inl (by rw [h]; simp)
  · refine .inr ⟨b, off, h1, fun i hi => ?_⟩
    have hi2 : i < n ∧ i < ss.length := by rw [List.length_take] at hi; omega
    have e : nthS (ss.take n) i = nthS ss i := by rw [nthS_eq hi, nthS_eq hi2.2]; simp
    rw [e]
    exact h2 i hi2.2

/-- What a walk is told of a slice of strings that came in. -/
def IsStrs (w : World) (a : Option Addr) (len cap : Nat) (ss : List ByteArray) : Prop :=
  ss.length = len ∧ len ≤ cap ∧ cap * 16 ≤ 140737488351232 ∧ ReadsS w a ss ∧ (a = none → cap = 0) ∧ ∀ s ∈ ss, s.size ≤ maxLen

theorem strs_of {H : Type} {enc : TypeId × Value → H} {P : Program} {W : World} {t e : TypeId} {a : Option Addr} {len cap : Nat} {d : DataW H} {ps : List MemPlace}
    (ht : P.underlying t = some (.slice e)) (he : P.underlying e = some .string) (hc : P.cellsOf e = 1) (h : DataW.Trod enc P W 0 (fun _ => true) true t (.slice a len cap) d ps)
    (hsz : ∀ elems spare, d = .slice elems spare → (elems.length + spare.length) * 16 ≤ reachBytes) : ∃ ss, IsStrs W a len cap ss := by
  obtain ⟨fuel, hf⟩ := h
  rcases ChangeShapes.open_strings ht he hc hf with ⟨hcs, _⟩ | ⟨x, l, c, ss, hcs, _, hl, hm, hz, hx, hcell, hws⟩
  · simp [Value.cells] at hcs
    obtain ⟨rfl, rfl, rfl⟩ := hcs
    exact ⟨[], rfl, Nat.le_refl _, by omega, .inl rfl, fun _ => rfl, fun r h => by cases h⟩
  · simp [Value.cells] at hcs
    obtain ⟨rfl, rfl, rfl⟩ := hcs
    simp only [if_true] at hz
    simp only [Prod.mk.injEq] at hx
    have hs := hsz _ _ hx.1
    have e1 : (ChangeShapes.strs (ss.take len) : List (DataW H)).length + (ChangeShapes.strs (ss.drop len) : List (DataW H)).length = cap := by simp [ChangeShapes.strs]; omega
    rw [e1] at hs
    simp only [reachBytes] at hs
    refine ⟨ss.take len, by simp; omega, hl, by omega, ?_, (by intro h; cases h), fun n hn => hws n (List.mem_of_mem_take hn)⟩
    by_cases h0 : len = 0
    · subst h0; exact .inl (by simp)
    · have hx0 := hcell 0 (by omega)
      have hsp : x.spot = none := by
        have e0 : x.add 0 = x := rfl
        rw [e0] at hx0
        unfold World.cell? at hx0
        split at hx0
        · split at hx0
          · cases hx0
          · rename_i hh
            simpa using hh
        · cases hx0
      obtain ⟨b, off, sp⟩ := x
      simp only at hsp
      subst hsp
      refine .inr ⟨b, off, rfl, fun i hi => ?_⟩
      have hi2 : i < len ∧ i < ss.length := by simp at hi; omega
      have h1 := hcell i hi2.2
      have e2 : (⟨b, off, none⟩ : Addr).add i = ⟨b, off + i, none⟩ := by unfold Addr.add; split <;> simp_all
      rw [e2] at h1
      rw [h1, nthS_eq hi]
      simp [hi2.2]

end Go.Proofs.Ytgdfmmdjnifjeaa
