/-
  Texts of 0 and 1 as rows of bits; strings.HasPrefix, Contains and Count at them.
-/
import Derived.Test.YthlnbomapfjphaaGro
import Derived.Lib.Bytealg
import Derived.Lib.ConvBytes
import Derived.Laws.Strings3
import Derived.Laws.Strings2
import Derived.Laws.Concat
import Derived.Laws.Runes
import Derived.Laws.Externs
namespace Go.Proofs.Ythlnbomapfjphaa
open Go.RowKit

/-- One bit's byte; a row of bits as a text. -/
def bc (b : Bool) : UInt8 := if b = true then 49 else 48
def tx (l : List Bool) : ByteArray := ByteArray.mk (l.map bc).toArray
theorem tx_size (l : List Bool) : (tx l).size = l.length := by
  show (l.map bc).toArray.size = _
  simp
theorem tx_append (l k : List Bool) : tx l ++ tx k = tx (l ++ k) := by
  unfold tx
  rw [ByteArray.mk_append_mk, List.map_append]
theorem tx_extract (l : List Bool) (a b : Nat) : (tx l).extract a b = tx ((l.drop a).take (b - a)) := by
  unfold tx
  rw [ByteArray.extract_mk, List.map_take, List.map_drop]
theorem tx_data (l : List Bool) : (tx l).data.toList = l.map bc := by
  show (l.map bc).toArray.toList = _
  simp
theorem tx_toList (l : List Bool) : (tx l).toList = l.map bc := by rw [ByteArray.toList_eq, tx_data]
theorem bc_inj {a b : Bool} (h : bc a = bc b) : a = b := by revert h; cases a <;> cases b <;> decide
theorem map_bc_inj : ∀ {l k : List Bool}, l.map bc = k.map bc → l = k := by
  intro l
  induction l with
  | nil => intro k h; cases k with
    | nil => rfl
    | cons b k => cases h
  | cons a l ih => intro k h; cases k with
    | nil => cases h
    | cons b k =>
      rw [List.map_cons, List.map_cons, List.cons.injEq] at h
      rw [bc_inj h.1, ih h.2]
theorem tx_inj {l k : List Bool} (h : tx l = tx k) : l = k := by
  have : (tx l).data.toList = (tx k).data.toList := by rw [h]
  rw [tx_data, tx_data] at this
  exact map_bc_inj this
/-- Two texts compared. -/
theorem tx_eql (l k : List Bool) : ((tx l).toList == (tx k).toList) = decide (l = k) := by
  rw [tx_toList, tx_toList]
  by_cases h : l = k
  · subst h; simp
  · rw [decide_eq_false h, beq_eq_false_iff_ne]
    exact fun e => h (map_bc_inj e)
theorem tx_at {l : List Bool} {i : Nat} (h : i < l.length) (h2 : i < (tx l).size) : (((tx l)[i]'h2).toNat : Int) = if l[i] = true then 49 else 48 := by
  have e : (tx l)[i]'h2 = bc l[i] := by
    show (l.map bc).toArray[i]'(by simpa using h) = _
    rw [List.getElem_toArray, List.getElem_map]
  rw [e]
  cases l[i] <;> rfl
theorem bits_get {l : List Bool} {i : Nat} (h : i < l.length) : l.getD i false = l[i] := by rw [List.getD_eq_getElem?_getD, List.getElem?_eq_getElem h]; rfl
theorem tx_get {l : List Bool} {i : Nat} (h : i < l.length) (h2 : i < (tx l).size) : (((tx l)[i]'h2).toNat : Int) = if l.getD i false = true then 49 else 48 := by rw [bits_get h, tx_at h]
theorem count_bc : ∀ l : List Bool, (l.map bc).count 49 = l.count true := by
  intro l
  induction l with
  | nil => rfl
  | cons b l ih =>
    rw [List.map_cons, List.count_cons, List.count_cons, ih]
    cases b <;> rfl
theorem tx_count (l : List Bool) : Lib.countByte (tx l).data.toList 49 = l.count true := by
  rw [tx_data]
  exact count_bc l
theorem indexByte_bc : ∀ l : List Bool, (0 ≤ Lib.indexByte (l.map bc) 49) ↔ true ∈ l := by
  intro l
  induction l with
  | nil => exact ⟨fun h => absurd h (by decide), fun h => (by cases h)⟩
  | cons b l ih =>
    rw [List.map_cons, Lib.indexByte]
    cases b with
    | true => exact ⟨fun _ => List.mem_cons_self, fun _ => by show (0 : Int) ≤ 0; omega⟩
    | false =>
      have e : (bc false == 49) = false := by decide
      rw [e]
      simp only [Bool.false_eq_true, if_false]
      have hge := Lib.indexByte_ge (l.map bc) 49
      by_cases h : (Lib.indexByte (l.map bc) 49 == -1) = true
      · rw [if_pos h]
        have h2 : Lib.indexByte (l.map bc) 49 = -1 := by simpa using h
        rw [h2] at ih
        constructor
        · intro h3; exact absurd h3 (by decide)
        · intro h3
          rcases List.mem_cons.mp h3 with h4 | h4
          · cases h4
          · exact absurd (ih.mpr h4) (by decide)
      · rw [if_neg h]
        have h2 : Lib.indexByte (l.map bc) 49 ≠ -1 := by simpa using h
        have h3 : 0 ≤ Lib.indexByte (l.map bc) 49 := by omega
        exact ⟨fun _ => List.mem_cons_of_mem _ (ih.mp h3), fun _ => by omega⟩
theorem enc_0 : Utf8.encode 48 = tx [false] := by decide +kernel
theorem enc_1 : Utf8.encode 49 = tx [true] := by decide +kernel



theorem run_ibs (s : ByteArray) (c : Int) (w : World) : (callFunc 135 #[.string s, .int .u8 c]).run Try.prog w = .ok (.value (.int .i64 (Lib.indexByte s.data.toList c.toNat.toUInt8))) w := by
  rw [run_callFunc_extern Try.func135 (by kernel_rfl) (by kernel_rfl) (by kernel_rfl) (show _ = some Extern.BytealgIndexByte.indexByte by kernel_rfl), Lib.run_indexByteString]
  rfl


theorem one_tx : (ByteArray.mk #[49] : ByteArray) = tx [true] := by decide +kernel


set_option maxRecDepth 100000 in
set_option maxHeartbeats 1000000 in
theorem sIndex_tx (l : List Bool) (w : World) (hl : l.length ≤ 1000) : Calls Try.prog 123 #[.string (tx l), .string (ByteArray.mk #[49])] w (Says (.int .i64 (Lib.indexByte (l.map bc) 49)) w) := by
  have hr := run_ibs (tx l) 49 w
  rw [show (49 : Int).toNat.toUInt8 = 49 by decide, tx_data] at hr
  have h1 := tx_size l
  have HB : Hid (Calls Try.prog 130 #[.string (tx l), .int .u8 49] w (Says (.int .i64 (Lib.indexByte (l.map bc) 49)) w)) := Lib.hid (by
    go_enter Try.func130, Try.ntmps130
    go_wp2
    go_ret
    exact .same)
  clear hr
  by_cases h0 : l = [true]
  · subst h0
    have g0 : ([49] == (tx [true]).toList) = true := by rw [tx_toList]; decide
    have e : Lib.indexByte ([true].map bc) 49 = 0 := by decide
    rw [e]
    clear HB e
    go_enter Try.func123, Try.ntmps123
    go_wp2
    go_ret
    exact .same
  · have g0 : ([49] == (tx l).toList) = false := by
      rw [tx_toList, beq_eq_false_iff_ne]
      exact fun e => h0 (map_bc_inj (k := [true]) e.symm)
    have h49 : (ByteArray.mk #[49])[0].toNat = 49 := rfl
    go_enter Try.func123, Try.ntmps123
    go_wp2_with (go_at_call 130; (with_reducible refine (HB.out).mono ?_); rintro e w2 ⟨rfl, hw2⟩)
    go_ret
    exact ⟨rfl, hw2⟩

theorem contains_tx (l : List Bool) (w : World) (hl : l.length ≤ 1000) (r : Bool) (hr : decide (true ∈ l) = r) : Calls Try.prog 51 #[.string (tx l), .string (ByteArray.mk #[49])] w (Says (.bool r) w) := by
  have HS : Hid (Calls Try.prog 98 #[.string (tx l), .string (ByteArray.mk #[49])] w (Says (.int .i64 (Lib.indexByte (l.map bc) 49)) w)) := Lib.hid (by
    have HI := Lib.hid (sIndex_tx l w hl)
    go_enter Try.func98, Try.ntmps98
    go_wp2_with (go_at_call 123; (with_reducible refine (HI.out).mono ?_); rintro e w2 ⟨rfl, hw2⟩)
    go_ret
    exact ⟨rfl, hw2⟩)
  have g1 : decide (0 ≤ Lib.indexByte (l.map bc) 49) = r := by rw [← hr]; exact decide_eq_decide.mpr (indexByte_bc l)
  clear hr
  go_enter Try.func51, Try.ntmps51
  go_wp2_with (go_at_call 98; (with_reducible refine (HS.out).mono ?_); rintro e w2 ⟨rfl, hw2⟩)
  go_ret
  exact ⟨rfl, hw2⟩

end Go.Proofs.Ythlnbomapfjphaa
