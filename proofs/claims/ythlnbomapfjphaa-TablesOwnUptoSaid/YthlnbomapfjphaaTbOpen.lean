/-
  What the bound of an Upto statement gives: of numbers and of rows that came in, few.
-/
import Derived.Test.YthlnbomapfjphaaMats
import Derived.Test.YthlnbomapfjphaaRows
namespace Go.Proofs.Ythlnbomapfjphaa
open Go.RowKit Go.ChangeShapes Go.WideShapes

theorem bulk_one {H : Type} (d : DataW H) : 1 ≤ Rows.uptoBulk d := by
  cases d with
  | lit l => cases l <;> simp [Rows.uptoBulk]
  | _ => simp [Rows.uptoBulk]
theorem bulk_len {H : Type} (l : List (DataW H)) : l.length ≤ Rows.uptoBulkAll l := by
  induction l with
  | nil => simp [Rows.uptoBulkAll]
  | cons x r ih => have := bulk_one x; simp only [Rows.uptoBulkAll, List.length_cons]; omega
theorem bulk_part {H : Type} {d : DataW H} {l : List (DataW H)} (h : d ∈ l) : Rows.uptoBulk d ≤ Rows.uptoBulkAll l := by
  induction l with
  | nil => cases h
  | cons x r ih =>
    simp only [Rows.uptoBulkAll]
    rcases List.mem_cons.1 h with e | e
    · subst e; omega
    · have := ih e; omega
theorem bulk_slice {H : Type} (elems spare : List (DataW H)) : elems.length + spare.length ≤ Rows.uptoBulk (.slice elems spare) := by
  have h1 := bulk_len elems
  have h2 := bulk_len spare
  simp only [Rows.uptoBulk]
  omega

theorem ints_small {H : Type} {enc : TypeId × Value → H} {P : Program} {W : World} {t e : TypeId} {k : IntKind} {B : Nat} {a : Option Addr} {len cap : Nat} {d : DataW H} {ps : List MemPlace}
    (ht : P.underlying t = some (.slice e)) (he : P.underlying e = some (.int k)) (hc : P.cellsOf e = 1) (h : DataW.Trod enc P W 0 (fun _ => true) true t (.slice a len cap) d ps) (hB : B ≤ 8)
    (hb : Rows.uptoBulk d ≤ 1048576) : ∃ z, IsInts k B W a len cap z ∧ len ≤ 1048576 := by
  obtain ⟨z, hz⟩ := ints_of (B := B) ht he hc h (fun elems spare hd => by
    subst hd
    have h1 := bulk_slice elems spare
    have h2 : (elems.length + spare.length) * B ≤ 1048576 * 8 := Nat.mul_le_mul (by omega) hB
    simp only [reachBytes]
    omega)
  refine ⟨z, hz, ?_⟩
  obtain ⟨fuel, hf⟩ := h
  rcases open_ints ht he hc hf with ⟨hcs, _⟩ | ⟨x, l, c, zs, hcs, _, hl, hm, hz2, hx, _, _⟩
  · simp [Value.cells] at hcs
    obtain ⟨rfl, rfl, rfl⟩ := hcs
    omega
  · simp [Value.cells] at hcs
    obtain ⟨rfl, rfl, rfl⟩ := hcs
    simp only [if_true] at hz2
    simp only [Prod.mk.injEq] at hx
    have hd := hx.1
    subst hd
    have h1 := bulk_slice (lits k (zs.take len) : List (DataW H)) (lits k (zs.drop len))
    have e1 : (lits k (zs.take len) : List (DataW H)).length + (lits k (zs.drop len) : List (DataW H)).length = cap := by simp [lits]; omega
    omega

theorem mats_small {H : Type} {enc : TypeId × Value → H} {P : Program} {W : World} {t e q : TypeId} {k : IntKind} {a : Option Addr} {len cap : Nat} {d : DataW H} {ps : List MemPlace}
    (ht : P.underlying t = some (.slice e)) (he : P.underlying e = some (.slice q)) (hq : P.underlying q = some (.int k)) (ce : P.cellsOf e = 1) (cq : P.cellsOf q = 1) (h : DataW.Trod enc P W 0 (fun _ => true) true t (.slice a len cap) d ps)
    (hb : Rows.uptoBulk d ≤ 1048576) : ∃ m, IsMat k W a len cap m ∧ len ≤ 1048576 ∧ ∀ r ∈ m, r.length ≤ 1048576 := by
  obtain ⟨m, hm⟩ := mats_of ht he hq ce cq h (fun elems spare hd => by
    subst hd
    have := bulk_slice elems spare
    simp only [reachBytes]
    omega)
  refine ⟨m, hm, ?_⟩
  obtain ⟨fuel, hf⟩ := h
  have h1 := hm.1
  rcases Deep.open_int_rows ht he hq ce cq hf with ⟨hcs, _⟩ | ⟨x, l, c, A, L, C, Z, hcs, _, hl, hmm, hx, hall⟩
  · simp [Value.cells] at hcs
    obtain ⟨rfl, rfl, rfl⟩ := hcs
    have : m = [] := List.length_eq_zero_iff.mp h1
    subst this
    exact ⟨by omega, fun r hr => by cases hr⟩
  · simp [Value.cells] at hcs
    obtain ⟨rfl, rfl, rfl⟩ := hcs
    simp only [Prod.mk.injEq] at hx
    have hd := hx.1
    subst hd
    have hlen := bulk_slice ((List.range len).map fun r => Deep.intRow (H := H) k (A r) (L r) (Z r)) ((List.range (cap - len)).map fun j => Deep.intRow k (A (len + j)) (L (len + j)) (Z (len + j)))
    rw [List.length_map, List.length_range] at hlen
    refine ⟨by omega, fun r hr => ?_⟩
    obtain ⟨i, hi, rfl⟩ := List.getElem_of_mem hr
    rcases hm.2.2.2.1 with h0 | ⟨b, off, e1, hc⟩
    · rw [h0] at hi; cases hi
    obtain ⟨ar, c2, k1, _⟩ := hc i hi
    simp only [Option.some.injEq] at e1
    subst e1
    obtain ⟨g1, g2, g3, g4, _, g6, _⟩ := hall i (by omega)
    have e2 : (⟨b, off, none⟩ : Addr).add i = ⟨b, off + i, none⟩ := by unfold Addr.add; split <;> simp_all
    rw [e2, k1] at g1
    simp only [Option.some.injEq, Value.slice.injEq] at g1
    rw [← rowM_eq hi, g1.2.1]
    have hp : Deep.intRow (H := H) k (A i) (L i) (Z i) ∈ (List.range len).map fun r => Deep.intRow (H := H) k (A r) (L r) (Z r) := List.mem_map.mpr ⟨i, List.mem_range.mpr (by omega), rfl⟩
    have h3 := bulk_part hp
    have h4 : L i ≤ Rows.uptoBulk (Deep.intRow (H := H) k (A i) (L i) (Z i)) := by
      cases hA : A i with
      | none => have := g6 hA; omega
      | some x2 =>
        have h5 := bulk_slice (H := H) (lits k ((Z i).take (L i))) (lits k ((Z i).drop (L i)))
        have h6 : (lits (H := H) k ((Z i).take (L i))).length = L i := by
          unfold lits
          rw [List.length_map, List.length_take]
          omega
        show L i ≤ Rows.uptoBulk (.slice (lits (H := H) k ((Z i).take (L i))) (lits k ((Z i).drop (L i))))
        omega
    simp only [Rows.uptoBulk] at hb
    omega

end Go.Proofs.Ythlnbomapfjphaa
