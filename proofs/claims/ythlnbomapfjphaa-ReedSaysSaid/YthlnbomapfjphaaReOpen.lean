/-
  A slice of cells that came in, opened.
-/
import Derived.Test.YthlnbomapfjphaaReSays
import Derived.Test.YthlnbomapfjphaaGro
namespace Go.Proofs.Ythlnbomapfjphaa
open Go.RowKit

/-- A value's Bool. -/
def boolOf : Value → Bool
  | .bool b => b
  | _ => false

theorem cels_of {H : Type} {enc : TypeId × Value → H} {P : Program} {W : World} {t e : TypeId} {f0 f1 : Field} {a : Option Addr} {len cap : Nat} {d : DataW H} {ps : List MemPlace}
    (ht : P.underlying t = some (.slice e)) (he : P.underlying e = some (.struct #[f0, f1])) (ce : P.cellsOf e = 2) (o0 : f0.offset = 0) (o1 : f1.offset = 1) (c0 : P.cellsOf f0.type = 1) (c1 : P.cellsOf f1.type = 1)
    (i0 : P.underlying f0.type = some .bool) (i1 : P.underlying f1.type = some (.int .u8)) (h : DataW.Trod enc P W 0 (fun _ => true) true t (.slice a len cap) d ps)
    (hsz : ∀ elems spare, d = .slice elems spare → (elems.length + spare.length) * 2 ≤ reachBytes) : ∃ Hs Bs, IsCels W a len cap Hs Bs := by
  obtain ⟨fuel, hf⟩ := h
  rcases Deep.open_slice_pairs ht he ce o0 o1 c0 c1 hf with ⟨hc, _⟩ | ⟨x, l, c, m, n, V0, V1, D0, D1, P0, P1, hc, _, hl, hm, hmm, hx, hall⟩
  · simp [Value.cells] at hc
    obtain ⟨rfl, rfl, rfl⟩ := hc
    exact ⟨fun _ => false, fun _ => 0, Nat.le_refl _, by omega, .inl rfl, fun _ => rfl, fun _ => by show 0 < 256; omega⟩
  · simp [Value.cells] at hc
    obtain ⟨rfl, rfl, rfl⟩ := hc
    simp only [if_true] at hmm
    subst hmm
    simp only [Prod.mk.injEq] at hx
    have hs := hsz _ _ hx.1
    simp only [List.length_map, List.length_range, reachBytes] at hs
    have hv : ∀ i, i < m → V0 i = .bool (boolOf (V0 i)) ∧ V1 i = .int .u8 (numOf (V1 i)) ∧ 0 ≤ numOf (V1 i) ∧ numOf (V1 i) ≤ 255 := fun i hi => by
      obtain ⟨N, h1, _⟩ := DataW.trod_bool i0 (hall i hi).2.2.1
      obtain ⟨K, k1, _, k3⟩ := DataW.trod_int i1 (hall i hi).2.2.2
      simp only [List.cons.injEq, and_true] at h1 k1
      rw [h1, k1]
      exact ⟨rfl, rfl, wf_u8 k3⟩
    refine ⟨fun i => boolOf (V0 i), fun i => (numOf (V1 i)).toNat % 256, hl, by omega, ?_, (by intro h; cases h), fun i => Nat.mod_lt _ (by omega)⟩
    by_cases h0 : len = 0
    · exact .inl h0
    · have hx0 := (hall 0 (by omega)).1
      have hsp : x.spot = none := by
        have e0 : x.add (0 * 2) = x := rfl
        rw [e0] at hx0
        unfold World.cell? at hx0
        split at hx0
        · split at hx0
          · cases hx0
          · rename_i hh
            simpa using hh
        · cases hx0
      obtain ⟨b, off, sp⟩ := x
      simp only at hsp
      subst hsp
      refine .inr ⟨b, off, rfl, fun i hi => ?_⟩
      have hc := hall i (by omega)
      rw [add_none, add_none] at hc
      have hvi := hv i (by omega)
      refine ⟨hc.1.trans (congrArg some hvi.1), ?_⟩
      rw [← Nat.add_assoc] at hc
      refine hc.2.1.trans (congrArg some (hvi.2.1.trans ?_))
      have h2 := hvi.2.2
      show Value.int .u8 (numOf (V1 i)) = Value.int .u8 (((numOf (V1 i)).toNat % 256 : Nat) : Int)
      rw [show (((numOf (V1 i)).toNat % 256 : Nat) : Int) = numOf (V1 i) by omega]

end Go.Proofs.Ythlnbomapfjphaa
