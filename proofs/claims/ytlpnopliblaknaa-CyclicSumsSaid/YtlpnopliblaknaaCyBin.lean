/-
  Texts of any bytes: which are 0 and 1 alone; wholeref.Binary and ByErr.
-/
import Derived.Test.YtlpnopliblaknaaCyT
namespace Go.Proofs.Ytlpnopliblaknaa
open Go.RowKit
open Ln Cy

/-- A text's byte. -/
def bat (s : ByteArray) (j : Nat) : Nat := (s.data.toList.getD j 0).toNat
theorem bat_lt (s : ByteArray) (j : Nat) : bat s j ≤ 255 := by
  unfold bat
  have := (s.data.toList.getD j 0).toNat_lt
  omega
theorem size_list (s : ByteArray) : s.data.toList.length = s.size := by
  show s.data.toList.length = s.data.size
  simp
theorem bat_get (s : ByteArray) (i : Nat) (h : i < s.size) : (s[i]'h).toNat = bat s i := by
  unfold bat
  rw [List.getD_eq_getElem?_getD, List.getElem?_eq_getElem (by rw [size_list]; exact h)]
  rfl
/-- Nothing but 0 and 1. -/
def isBin (s : ByteArray) : Bool := s.data.toList.all fun c => c == 48 || c == 49
def unb (s : ByteArray) : List Bool := s.data.toList.map (· == 49)
theorem bin_un {s : ByteArray} (h : isBin s = true) : s = tx (unb s) := by
  unfold tx unb
  have e : (s.data.toList.map (· == 49)).map bc = s.data.toList := by
    rw [List.map_map]
    have h2 := List.all_eq_true.mp h
    refine (List.map_congr_left (g := id) fun c hc => ?_).trans (List.map_id _)
    have := h2 c hc
    simp only [Bool.or_eq_true, beq_iff_eq] at this
    rcases this with rfl | rfl <;> decide
  rw [e]
theorem bin_tx (l : List Bool) : isBin (tx l) = true := by
  unfold isBin
  rw [tx_data, List.all_eq_true]
  intro c hc
  obtain ⟨b, _, rfl⟩ := List.mem_map.mp hc
  cases b <;> decide
theorem bin_iff (s : ByteArray) : isBin s = true ↔ ∀ j, j < s.size → bat s j = 48 ∨ bat s j = 49 := by
  unfold isBin
  rw [List.all_eq_true]
  constructor
  · intro h j hj
    have hj2 : j < s.data.toList.length := by rw [size_list]; exact hj
    have := h _ (List.getElem_mem hj2)
    unfold bat
    rw [List.getD_eq_getElem?_getD, List.getElem?_eq_getElem hj2]
    simp only [Bool.or_eq_true, beq_iff_eq] at this
    rcases this with e | e
    · left; show (s.data.toList[j]).toNat = 48; rw [e]; rfl
    · right; show (s.data.toList[j]).toNat = 49; rw [e]; rfl
  · intro h c hc
    obtain ⟨j, hj, rfl⟩ := List.getElem_of_mem hc
    have := h j (by rw [← size_list]; exact hj)
    unfold bat at this
    rw [List.getD_eq_getElem?_getD, List.getElem?_eq_getElem hj] at this
    have e1 : (some s.data.toList[j]).getD 0 = s.data.toList[j] := rfl
    rw [e1] at this
    simp only [Bool.or_eq_true, beq_iff_eq]
    rcases this with e | e
    · left; exact UInt8.toNat_inj.mp e
    · right; exact UInt8.toNat_inj.mp e
/-- What is wrong with what is divided by. -/
def byE (s : ByteArray) : Int := if s.size < 2 ∨ 17 < s.size then 1 else if isBin s = true ∧ bat s 0 ≠ 48 ∧ bat s (s.size - 1) ≠ 48 then 0 else 3
theorem bat_tx {l : List Bool} {j : Nat} (h : j < l.length) : bat (tx l) j = if l.getD j false = true then 49 else 48 := by
  have h2 : j < (tx l).size := by rw [tx_size]; exact h
  have := tx_get h h2
  rw [← bat_get _ _ h2]
  by_cases e : l.getD j false = true
  · rw [if_pos e] at this ⊢; omega
  · rw [if_neg e] at this ⊢; omega
theorem byE_zero {s : ByteArray} (h : byE s = 0) : ∃ B, s = tx B ∧ IsBy B := by
  unfold byE at h
  by_cases h1 : s.size < 2 ∨ 17 < s.size
  · rw [if_pos h1] at h; cases h
  · rw [if_neg h1] at h
    by_cases h2 : isBin s = true ∧ bat s 0 ≠ 48 ∧ bat s (s.size - 1) ≠ 48
    · obtain ⟨h3, h4, h5⟩ := h2
      have e := bin_un h3
      obtain ⟨B, hB⟩ : ∃ B, unb s = B := ⟨_, rfl⟩
      rw [hB] at e
      refine ⟨B, e, ?_⟩
      have hsz : s.size = B.length := by rw [e, tx_size]
      have hb : ∀ j, j < B.length → bat s j ≠ 48 → B[j]? = some true := by
        intro j hj hne
        rw [e, bat_tx hj] at hne
        by_cases e2 : B.getD j false = true
        · rw [List.getD_eq_getElem?_getD, List.getElem?_eq_getElem hj] at e2
          rw [List.getElem?_eq_getElem hj]
          exact congrArg some e2
        · rw [if_neg e2] at hne; exact absurd rfl hne
      refine ⟨by omega, by omega, ?_, ?_⟩
      · rw [List.head?_eq_getElem?]; exact hb 0 (by omega) h4
      · rw [List.getLast?_eq_getElem?]; exact hb _ (by omega) (by rw [← hsz]; exact h5)
    · rw [if_neg h2] at h; cases h

theorem byE_tx {b : List Bool} (h : IsBy b) : byE (tx b) = 0 := by
  have hlo := h.lo
  have hhi := h.hi
  unfold byE
  rw [tx_size, if_neg (by omega), if_pos]
  refine ⟨bin_tx b, ?_, ?_⟩
  · rw [bat_tx (by omega)]
    have := h.head
    rw [List.head?_eq_getElem?] at this
    rw [if_pos (by rw [List.getD_eq_getElem?_getD, this]; rfl)]
    decide
  · rw [bat_tx (by omega)]
    have := h.last
    rw [List.getLast?_eq_getElem?] at this
    rw [if_pos (by rw [List.getD_eq_getElem?_getD, this]; rfl)]
    decide




end Go.Proofs.Ytlpnopliblaknaa
