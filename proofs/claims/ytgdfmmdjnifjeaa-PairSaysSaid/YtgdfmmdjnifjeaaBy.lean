/-
  Texts of any bytes: byte by byte as elements of the field; as rows that may be stored into, and back.
-/
import Derived.Test.YtgdfmmdjnifjeaaGrb
import Derived.Laws.IdiomStrings
import Derived.Laws.BytesArg
import Derived.Lib.ConvBytes
namespace Go.Proofs.Ytgdfmmdjnifjeaa
open Go.RowKit
open Gf

/-- The bytes of a row, as a text's. -/
def byl (F : Nat → E) (L : Nat) : List UInt8 := (List.range L).map fun j => UInt8.ofNat (F j).v
theorem byl_length (F : Nat → E) (L : Nat) : (byl F L).length = L := by simp [byl]
theorem byl_get {F : Nat → E} {L j : Nat} (h : j < (byl F L).length) : (byl F L)[j] = UInt8.ofNat (F j).v := by
  simp only [byl, List.getElem_map, List.getElem_range]
/-- The text. -/
def byt (F : Nat → E) (L : Nat) : ByteArray := ⟨(byl F L).toArray⟩
theorem byt_size (F : Nat → E) (L : Nat) : (byt F L).size = L := by
  show (byl F L).toArray.size = L
  rw [List.size_toArray, byl_length]
theorem byte_nat (x : E) : ((UInt8.ofNat x.v).toNat : Int) = ((x.v : Nat) : Int) := by
  have := x.lt
  rw [UInt8.toNat_ofNat']
  congr 1
  exact Nat.mod_eq_of_lt this

namespace By
/-- Byte j of a text. -/
def be (s : ByteArray) (j : Nat) : E := ⟨(s.data.toList.getD j 0).toNat, (s.data.toList.getD j 0).toNat_lt⟩
theorem size_list (s : ByteArray) : s.data.toList.length = s.size := by
  show s.data.toList.length = s.data.size
  simp
theorem be_get (s : ByteArray) (i : Nat) (h : i < s.size) : (s[i]'h).toNat = (be s i).v := by
  show _ = (s.data.toList.getD i 0).toNat
  rw [List.getD_eq_getElem?_getD, List.getElem?_eq_getElem (by rw [size_list]; exact h)]
  rfl
theorem be_byt {F : Nat → E} {L j : Nat} (h : j < L) : be (byt F L) j = F j := by
  apply E.ext
  show ((byl F L).toArray.toList.getD j 0).toNat = _
  rw [List.toList_toArray, List.getD_eq_getElem?_getD, List.getElem?_eq_getElem (by rw [byl_length]; exact h)]
  show ((byl F L)[j]'(by rw [byl_length]; exact h)).toNat = _
  rw [byl_get]
  have := byte_nat (F j)
  omega
theorem byt_congr {F H : Nat → E} {L : Nat} (h : ∀ j, j < L → F j = H j) : byt F L = byt H L := by
  unfold byt byl
  congr 2
  exact List.map_congr_left fun j hj => by rw [h j (List.mem_range.mp hj)]
/-- A text is the text of its bytes. -/
theorem byt_be (s : ByteArray) : byt (be s) s.size = s := by
  have h : byl (be s) s.size = s.data.toList := by
    apply List.ext_getElem
    · rw [byl_length, size_list]
    · intro j h1 h2
      rw [byl_get]
      show UInt8.ofNat (s.data.toList.getD j 0).toNat = _
      rw [List.getD_eq_getElem?_getD, List.getElem?_eq_getElem h2]
      exact UInt8.ofNat_toNat
  unfold byt
  rw [h]
theorem ext {s t : ByteArray} (hs : s.size = t.size) (h : ∀ j, j < s.size → be s j = be t j) : s = t := by
  rw [← byt_be s, ← byt_be t, ← hs]
  exact byt_congr h
/-- Two texts, compared as the code does. -/
theorem eql (s t : ByteArray) : (s.toList == t.toList) = decide (s = t) := by
  by_cases h : s = t
  · subst h; simp
  · rw [decide_eq_false h, beq_eq_false_iff_ne]
    intro e
    refine h ?_
    rw [ByteArray.toList_eq, ByteArray.toList_eq] at e
    cases s; cases t
    simp at e
    rw [e]
end By

theorem conv_row {F : Nat → E} {g o L cap : Nat} {w : World} (h : ∀ j, j < L → w.cell? ⟨g, o + j, none⟩ = some (.int .u8 (((F j).v : Nat) : Int))) : (convert 38 9 (.slice (some ⟨g, o, none⟩) L cap)).run Try.prog w = .ok (.string (byt F L)) w := by
  have hl := byl_length F L
  have := run_convert_bytes_back (P := Try.prog) w 38 9 5 ⟨g, o, none⟩ cap (byl F L) Try.underlying38 Try.underlying5 Try.underlying9 fun j hj => by
    rw [hl] at hj
    have h1 := h j hj
    have e : (⟨g, o, none⟩ : Addr).add j = ⟨g, o + j, none⟩ := by unfold Addr.add; split <;> simp_all
    rw [e, h1]
    rw [byl_get, byte_nat]
  rw [hl] at this
  exact this

/-- A row of bytes as a text, nil or not. -/
theorem conv_rd {F : Nat → E} {n : Nat} {a : Option Addr} {w : World} (h : Reads w .u8 a (bl F n)) (cap : Nat) : (convert 38 9 (.slice a n cap)).run Try.prog w = .ok (.string (byt F n)) w := by
  rcases h with h | ⟨g, o, rfl, hc⟩
  · have hn : n = 0 := by
      have := congrArg List.length h
      rw [bl_length] at this
      exact this
    subst hn
    cases a with
    | none => exact run_convert_bytes_nil w _ _ Try.underlying38 Try.underlying5 0 cap _ Try.underlying9
    | some p =>
      exact run_convert_bytes_back (P := Try.prog) w 38 9 5 p cap [] Try.underlying38 Try.underlying5 Try.underlying9 fun j hj => by cases hj
  · exact conv_row fun j hj => by rw [hc j (by rw [bl_length]; exact hj), bl_nth hj]

/-- A text's byte, as the code asks for it. -/
theorem str_at (s : ByteArray) (i : Nat) (h : i < s.size) (w : World) : (Instr.index 9 (.string s) (.int .i64 (i : Int))).run Try.prog w = .ok (.int .u8 (((By.be s i).v : Nat) : Int)) w := by
  have hi : (0 : Int) ≤ (i : Int) ∧ (i : Int) < (s.size : Int) := ⟨by omega, by omega⟩
  have := run_index_string (P := Try.prog) (w := w) 9 s .i64 (i : Int) Try.underlying9
  rw [dif_pos hi] at this
  exact this.trans (congrArg (fun n : Nat => Result.ok (Value.int .u8 (n : Int)) w) (By.be_get s i h))

theorem ex_bytes' (w : World) (e : TypeId) (s : ByteArray) : Ex w (Lib.bytesWorld w e s) := by
  refine ⟨?_, ?_, ?_, ?_, fun k hk => Lib.bytesWorld_at_old w e s k hk⟩
  · unfold Lib.bytesWorld World.freeze; rfl
  · unfold Lib.bytesWorld World.freeze; rfl
  · unfold Lib.bytesWorld World.freeze; rfl
  · rw [Lib.bytesWorld_size]; omega

/-- A text as bytes of one's own. -/
theorem conv_to (s : ByteArray) (w : World) : ∃ w1 cap, (convert 9 38 (.string s)).run Try.prog w = .ok (.slice (some ⟨w.heap.size, 0, none⟩) s.size cap) w1 ∧ Hid (Ex w w1) ∧ Hid (∀ j, j < s.size → w1.cell? ⟨w.heap.size, j, none⟩ = some (.int .u8 (((By.be s j).v : Nat) : Int)) ∧ w1.frozen? ⟨w.heap.size, j, none⟩ = false) ∧ s.size ≤ cap := by
  have h := Lib.run_convert_string_bytes (P := Try.prog) w 9 38 5 s Try.underlying9 Try.underlying38 Try.underlying5
  refine ⟨_, _, h, Lib.hid (ex_bytes' w _ _), Lib.hid fun j hj => ⟨?_, ?_⟩, ?_⟩
  · rw [Lib.bytesWorld_cell w _ _ j hj]
    rfl
  · unfold World.frozen?
    rw [Lib.bytesWorld_at_new]
    have hle : s.size ≤ (Lib.bytesCells w 5 s).size := by
      unfold Lib.bytesCells
      rw [Array.size_append, Array.size_map]
      exact Nat.le_add_right _ _
    simp
    omega
  · exact grownCap_ge w s.size 0 5

/-- Bytes in a block, that may be stored into. -/
def OwnB (w : World) (g n : Nat) (F : Nat → E) : Prop := ∀ j, j < n → w.cell? ⟨g, j, none⟩ = some (.int .u8 (((F j).v : Nat) : Int)) ∧ w.frozen? ⟨g, j, none⟩ = false
theorem OwnB.set {w : World} {g n : Nat} {F : Nat → E} (h : OwnB w g n F) {i : Nat} (hi : i < n) (b : E) : OwnB (w.setCell ⟨g, i, none⟩ (.int .u8 ((b.v : Nat) : Int))) g n (updF F i b) := by
  intro j hj
  rw [World.frozen?_setCell]
  refine ⟨?_, (h j hj).2⟩
  unfold updF
  by_cases e : j = i
  · subst e
    rw [World.cell?_setCell_same _ _ _ (h j hj).1, if_pos rfl]
  · rw [World.cell?_setCell_other _ _ _ _ (addr_ne' (.inr fun e2 => e e2.symm)), if_neg e]
    exact (h j hj).1
theorem OwnB.ex {w w2 : World} {g n : Nat} {F : Nat → E} (h : OwnB w g n F) (hx : Ex w w2) : OwnB w2 g n F := by
  intro j hj
  refine ⟨hx.cell (h j hj).1, ?_⟩
  have hb : g < w.heap.size := World.block_lt_of_cell? w ⟨g, j, none⟩ (h j hj).1
  have h2 := (h j hj).2
  unfold World.frozen? at h2 ⊢
  rw [hx.block g hb]
  exact h2
theorem OwnB.congr {w : World} {g n : Nat} {F H : Nat → E} (h : OwnB w g n F) (he : ∀ j, j < n → F j = H j) : OwnB w g n H := fun j hj => by rw [← he j hj]; exact h j hj
theorem OwnB.back {w : World} {g n : Nat} {F : Nat → E} (h : OwnB w g n F) (cap : Nat) : (convert 38 9 (.slice (some ⟨g, 0, none⟩) n cap)).run Try.prog w = .ok (.string (byt F n)) w :=
  conv_row (o := 0) fun j hj => by rw [Nat.zero_add]; exact (h j hj).1

end Go.Proofs.Ytgdfmmdjnifjeaa
