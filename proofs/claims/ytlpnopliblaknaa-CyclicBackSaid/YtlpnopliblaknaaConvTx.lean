/-
  A text as a row of bytes that may be stored into, and back.
-/
import Derived.Test.YtlpnopliblaknaaTx
import Derived.Test.YtlpnopliblaknaaGso
import Derived.Laws.IdiomStrings
import Derived.Lib.ConvBytes
namespace Go.Proofs.Ytlpnopliblaknaa
open Go.RowKit

/-- One bit's byte, as a number. -/
def bv (b : Bool) : Int := if b = true then 49 else 48
theorem bc_nat (b : Bool) : ((bc b).toNat : Int) = bv b := by cases b <;> rfl
theorem bv_two (b : Bool) : 48 ≤ bv b ∧ bv b ≤ 49 := by cases b <;> decide
theorem bv_turn (b : Bool) : bits .xor .u8 (bv b) 1 = bv (!b) := by cases b <;> decide +kernel

/-- The bits F, L of them, as bytes in block g, that may be stored into. -/
def RowT (w : World) (g L : Nat) (F : Nat → Bool) : Prop := ∀ j, j < L → w.cell? ⟨g, j, none⟩ = some (.int .u8 (bv (F j))) ∧ w.frozen? ⟨g, j, none⟩ = false
theorem RowT.set {w : World} {g L : Nat} {F : Nat → Bool} (h : RowT w g L F) {i : Nat} (hi : i < L) (b : Bool) : RowT (w.setCell ⟨g, i, none⟩ (.int .u8 (bv b))) g L (fun j => if j = i then b else F j) := by
  intro j hj
  rw [World.frozen?_setCell]
  refine ⟨?_, (h j hj).2⟩
  dsimp only
  by_cases e : j = i
  · subst e
    rw [World.cell?_setCell_same _ _ _ (h j hj).1, if_pos rfl]
  · rw [World.cell?_setCell_other _ _ _ _ (addr_ne' (.inr fun e2 => e e2.symm)), if_neg e]
    exact (h j hj).1

theorem ex_bytes (w : World) (e : TypeId) (s : ByteArray) : Ex w (Lib.bytesWorld w e s) := by
  refine ⟨?_, ?_, ?_, ?_, fun k hk => Lib.bytesWorld_at_old w e s k hk⟩
  · unfold Lib.bytesWorld World.freeze; rfl
  · unfold Lib.bytesWorld World.freeze; rfl
  · unfold Lib.bytesWorld World.freeze; rfl
  · rw [Lib.bytesWorld_size]; omega

theorem conv_tx (l : List Bool) (w : World) : ∃ w1 cap, (convert 9 22 (.string (tx l))).run Try.prog w = .ok (.slice (some ⟨w.heap.size, 0, none⟩) l.length cap) w1 ∧ Hid (Ex w w1) ∧ Hid (RowT w1 w.heap.size l.length (fun j => l.getD j false)) ∧ l.length ≤ cap := by
  have h := Lib.run_convert_string_bytes (P := Try.prog) w 9 22 5 (tx l) Try.underlying9 Try.underlying22 Try.underlying5
  rw [tx_size] at h
  refine ⟨_, _, h, Lib.hid (ex_bytes w _ _), Lib.hid fun j hj => ⟨?_, ?_⟩, ?_⟩
  · dsimp only
    rw [Lib.bytesWorld_cell w _ _ j (by rw [tx_size]; exact hj), tx_data]
    rw [List.getD_eq_getElem?_getD, List.getElem?_map, List.getElem?_eq_getElem hj, List.getD_eq_getElem?_getD, List.getElem?_eq_getElem hj]
    show some (Value.int .u8 ((bc l[j]).toNat : Int)) = _
    rw [bc_nat]
    rfl
  · unfold World.frozen?
    rw [Lib.bytesWorld_at_new]
    have hle : (tx l).size ≤ (Lib.bytesCells w 5 (tx l)).size := by
      unfold Lib.bytesCells
      rw [Array.size_append, Array.size_map]
      exact Nat.le_add_right _ _
    rw [tx_size] at hle
    simp
    omega
  · exact grownCap_ge w l.length 0 5

theorem conv_back {F : Nat → Bool} {g L cap : Nat} {w : World} (h : RowT w g L F) : (convert 22 9 (.slice (some ⟨g, 0, none⟩) L cap)).run Try.prog w = .ok (.string (tx ((List.range L).map F))) w := by
  have hl : (((List.range L).map F).map bc).length = L := by simp
  have := run_convert_bytes_back (P := Try.prog) w 22 9 5 ⟨g, 0, none⟩ cap (((List.range L).map F).map bc) Try.underlying22 Try.underlying5 Try.underlying9 fun j hj => by
    rw [hl] at hj
    have h1 := (h j hj).1
    rw [show (⟨g, 0, none⟩ : Addr).add j = ⟨g, j, none⟩ by simp [Addr.add]; exact fun e => e.symm, h1]
    simp only [List.getElem_map, List.getElem_range]
    rw [bc_nat]
  rw [hl] at this
  exact this

end Go.Proofs.Ytlpnopliblaknaa
