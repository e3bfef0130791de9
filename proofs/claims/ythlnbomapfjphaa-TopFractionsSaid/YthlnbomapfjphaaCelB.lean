/-
  Cells (structs of a Bool and a byte) in a block of their own, that may be stored into; make of such a slice.
-/
import Derived.Test.YthlnbomapfjphaaCels
import Derived.Test.YthlnbomapfjphaaGso
namespace Go.Proofs.Ythlnbomapfjphaa
open Go.RowKit

/-- Cells in block g, that may be stored into. -/
def CelB (w : World) (g n : Nat) (H : Nat → Bool) (B : Nat → Nat) : Prop := (∀ i, i < n → w.cell? ⟨g, i * 2, none⟩ = some (.bool (H i)) ∧ w.cell? ⟨g, i * 2 + 1, none⟩ = some (.int .u8 (B i : Int))) ∧ ∀ j, w.frozen? ⟨g, j, none⟩ = false
theorem CelB.set {w : World} {g n : Nat} {H : Nat → Bool} {B : Nat → Nat} (h : CelB w g n H B) {i : Nat} (hi : i < n) (b : Bool) (x : Nat) :
    CelB ((w.setCell ⟨g, i * 2, none⟩ (.bool b)).setCell ⟨g, i * 2 + 1, none⟩ (.int .u8 (x : Int))) g n (fun j => if j = i then b else H j) (fun j => if j = i then x else B j) := by
  have h0 := h.1 i hi
  have hmid : (w.setCell ⟨g, i * 2, none⟩ (.bool b)).cell? ⟨g, i * 2 + 1, none⟩ = some (.int .u8 (B i : Int)) := by
    rw [World.cell?_setCell_other _ _ _ _ (addr_ne' (.inr (by omega)))]; exact h0.2
  refine ⟨fun j hj => ?_, fun j => by rw [World.frozen?_setCell, World.frozen?_setCell]; exact h.2 j⟩
  by_cases e : j = i
  · subst e
    refine ⟨?_, ?_⟩
    · rw [World.cell?_setCell_other _ _ _ _ (addr_ne' (.inr (by omega))), World.cell?_setCell_same _ _ _ h0.1]
      show _ = some (Value.bool (if j = j then b else H j))
      rw [if_pos rfl]
    · rw [World.cell?_setCell_same _ _ _ hmid]
      show _ = some (Value.int .u8 ((if j = j then x else B j : Nat) : Int))
      rw [if_pos rfl]
  · have hj2 := h.1 j hj
    refine ⟨?_, ?_⟩
    · rw [World.cell?_setCell_other _ _ _ _ (addr_ne' (.inr (by omega))), World.cell?_setCell_other _ _ _ _ (addr_ne' (.inr (by omega))), hj2.1]
      show _ = some (Value.bool (if j = i then b else H j))
      rw [if_neg e]
    · rw [World.cell?_setCell_other _ _ _ _ (addr_ne' (.inr (by omega))), World.cell?_setCell_other _ _ _ _ (addr_ne' (.inr (by omega))), hj2.2]
      show _ = some (Value.int .u8 ((if j = i then x else B j : Nat) : Int))
      rw [if_neg e]
theorem CelB.reads {w : World} {g n : Nat} {H : Nat → Bool} {B : Nat → Nat} (h : CelB w g n H B) : ReadsC w (some ⟨g, 0, none⟩) n H B :=
  .inr ⟨g, 0, rfl, fun i hi => by rw [Nat.zero_add]; exact h.1 i hi⟩
theorem CelB.ex {w w2 : World} {g n : Nat} {H : Nat → Bool} {B : Nat → Nat} (h : CelB w g n H B) (hn : 1 ≤ n) (hx : Ex w w2) : CelB w2 g n H B :=
  ⟨fun i hi => ⟨hx.cell (h.1 i hi).1, hx.cell (h.1 i hi).2⟩, fun j => (Below.frozen (p := ⟨g, j, none⟩) hx (World.block_lt_of_cell? w ⟨g, 0 * 2, none⟩ (h.1 0 (by omega)).1)).trans (h.2 j)⟩
theorem CelB.congr {w : World} {g n : Nat} {H H2 : Nat → Bool} {B B2 : Nat → Nat} (h : CelB w g n H B) (h1 : ∀ i, i < n → H i = H2 i) (h2 : ∀ i, i < n → B i = B2 i) : CelB w g n H2 B2 :=
  ⟨fun i hi => by rw [← h1 i hi, ← h2 i hi]; exact h.1 i hi, h.2⟩
theorem made_cells {n i : Nat} (hi : i < n) : (madeCells #[.bool false, .int .u8 0] (n * 2)).toList[i * 2]? = some (.bool false) ∧ (madeCells #[.bool false, .int .u8 0] (n * 2)).toList[i * 2 + 1]? = some (.int .u8 0) := by
  unfold madeCells
  refine ⟨?_, ?_⟩
  · rw [List.getElem?_eq_getElem (by simp; omega)]
    simp only [Array.toList_map, List.getElem_map, List.size_toArray, List.length_cons, List.length_nil, Array.toList_range, List.getElem_range]
    rw [show i * 2 % (0 + 1 + 1) = 0 by omega]
    rfl
  · rw [List.getElem?_eq_getElem (by simp; omega)]
    simp only [Array.toList_map, List.getElem_map, List.size_toArray, List.length_cons, List.length_nil, Array.toList_range, List.getElem_range]
    rw [show (i * 2 + 1) % (0 + 1 + 1) = 1 by omega]
    rfl

section
variable {P : Program} {w : World} {ops : Array Oper} {rest : List Oper} {o : Oper} {a : Act} {Q : Exit → Act → World → Prop}
/-- make([]api.Cell, n). -/
theorem wpList_make_cels (hg : o.guard = none) (l c : Operand) (t : TypeId) (hop : o.op = Op.makeSlice t l c)
    (e : TypeId) (bytes : Nat) (ht : P.underlying t = some (.slice e)) (hinfo : (P.info? e).map (fun i => (i.zero, i.size, i.bytes)) = some (some (.agg #[.bool false, .int .u8 0]), 2, bytes))
    (kl kc : IntKind) (n : Nat) (hl : a.eval l = .int kl (n : Int)) (hc : a.eval c = .int kc (n : Int)) (b2 : bytes * n ≤ 281474976710656) (b3 : n ≤ maxLen)
    (h : ∀ w', CelB w' w.heap.size n (fun _ => false) (fun _ => 0) → w.grownBy w' none → wpList P ops Q rest (a.put o.dst (.slice (some ⟨w.heap.size, 0, none⟩) n n)) w') : wpList P ops Q (o :: rest) a w := by
  obtain ⟨i, hi, hz, hsz, hby⟩ := info_parts hinfo
  refine wpList_make_full w hg l c t hop w.heap.size e i _ 2 ht hi hz hsz kl kc n n n hl hc rfl rfl (by rw [hby]; exact b2) b3 (Nat.le_refl _) ?_
  intro w' h1 h2
  refine h w' ⟨fun i hi => ?_, fun j => World.ownsRow.frozenAt h1 j⟩ h2
  have hm := made_cells hi
  exact ⟨(World.ownsRow.cellAt h1 (i * 2) (by omega)).trans hm.1, (World.ownsRow.cellAt h1 (i * 2 + 1) (by omega)).trans hm.2⟩
end

end Go.Proofs.Ythlnbomapfjphaa
