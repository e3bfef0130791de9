/-
  Texts of any bytes: which are 0 and 1 alone; wholeref.Binary and ByErr.
-/
import Derived.Test.YtlpnopliblaknaaDoorCyT
namespace Go.Proofs.YtlpnopliblaknaaDoor
open Go.RowKit
open Ln Cy

/-- A text's byte. -/
def bat (s : ByteArray) (j : Nat) : Nat := (s.data.toList.getD j 0).toNat
theorem bat_lt (s : ByteArray) (j : Nat) : bat s j ≤ 255 := by
  unfold bat
  have := (s.data.toList.getD j 0).toNat_lt
  omega
theorem size_list (s : ByteArray) : s.data.toList.length = s.size := by
  show s.data.toList.length = s.data.size
  simp
theorem bat_get (s : ByteArray) (i : Nat) (h : i < s.size) : (s[i]'h).toNat = bat s i := by
  unfold bat
  rw [List.getD_eq_getElem?_getD, List.getElem?_eq_getElem (by rw [size_list]; exact h)]
  rfl
/-- Nothing but 0 and 1. -/
def isBin (s : ByteArray) : Bool := s.data.toList.all fun c => c == 48 || c == 49
def unb (s : ByteArray) : List Bool := s.data.toList.map (· == 49)
theorem bin_un {s : ByteArray} (h : isBin s = true) : s = tx (unb s) := by
  unfold tx unb
  have e : (s.data.toList.map (· == 49)).map bc = s.data.toList := by
    rw [List.map_map]
    have h2 := List.all_eq_true.mp h
    refine (List.map_congr_left (g := id) fun c hc => ?_).trans (List.map_id _)
    have := h2 c hc
    simp only [Bool.or_eq_true, beq_iff_eq] at this
    rcases this with rfl | rfl <;> decide
  rw [e]
theorem bin_tx (l : List Bool) : isBin (tx l) = true := by
  unfold isBin
  rw [tx_data, List.all_eq_true]
  intro c hc
  obtain ⟨b, _, rfl⟩ := List.mem_map.mp hc
  cases b <;> decide
theorem bin_iff (s : ByteArray) : isBin s = true ↔ ∀ j, j < s.size → bat s j = 48 ∨ bat s j = 49 := by
  unfold isBin
  rw [List.all_eq_true]
  constructor
  · intro h j hj
    have hj2 : j < s.data.toList.length := by rw [size_list]; exact hj
    have := h _ (List.getElem_mem hj2)
    unfold bat
    rw [List.getD_eq_getElem?_getD, List.getElem?_eq_getElem hj2]
    simp only [Bool.or_eq_true, beq_iff_eq] at this
    rcases this with e | e
    · left; show (s.data.toList[j]).toNat = 48; rw [e]; rfl
    · right; show (s.data.toList[j]).toNat = 49; rw [e]; rfl
  · intro h c hc
    obtain ⟨j, hj, rfl⟩ := List.getElem_of_mem hc
    have := h j (by rw [← size_list]; exact hj)
    unfold bat at this
    rw [List.getD_eq_getElem?_getD, List.getElem?_eq_getElem hj] at this
    have e1 : (some s.data.toList[j]).getD 0 = s.data.toList[j] := rfl
    rw [e1] at this
    simp only [Bool.or_eq_true, beq_iff_eq]
    rcases this with e | e
    · left; exact UInt8.toNat_inj.mp e
    · right; exact UInt8.toNat_inj.mp e
/-- What is wrong with what is divided by. -/
def byE (s : ByteArray) : Int := if s.size < 2 ∨ 17 < s.size then 1 else if isBin s = true ∧ bat s 0 ≠ 48 ∧ bat s (s.size - 1) ≠ 48 then 0 else 3
theorem bat_tx {l : List Bool} {j : Nat} (h : j < l.length) : bat (tx l) j = if l.getD j false = true then 49 else 48 := by
  have h2 : j < (tx l).size := by rw [tx_size]; exact h
  have := tx_get h h2
  rw [← bat_get _ _ h2]
  by_cases e : l.getD j false = true
  · rw [if_pos e] at this ⊢; omega
  · rw [if_neg e] at this ⊢; omega
theorem byE_zero {s : ByteArray} (h : byE s = 0) : ∃ B, s = tx B ∧ IsBy B := by
  unfold byE at h
  by_cases h1 : s.size < 2 ∨ 17 < s.size
  · rw [if_pos h1] at h; cases h
  · rw [if_neg h1] at h
    by_cases h2 : isBin s = true ∧ bat s 0 ≠ 48 ∧ bat s (s.size - 1) ≠ 48
    · obtain ⟨h3, h4, h5⟩ := h2
      have e := bin_un h3
      obtain ⟨B, hB⟩ : ∃ B, unb s = B := ⟨_, rfl⟩
      rw [hB] at e
      refine ⟨B, e, ?_⟩
      have hsz : s.size = B.length := by rw [e, tx_size]
      have hb : ∀ j, j < B.length → bat s j ≠ 48 → B[j]? = some true := by
        intro j hj hne
        rw [e, bat_tx hj] at hne
        by_cases e2 : B.getD j false = true
        · rw [List.getD_eq_getElem?_getD, List.getElem?_eq_getElem hj] at e2
          rw [List.getElem?_eq_getElem hj]
          exact congrArg some e2
        · rw [if_neg e2] at hne; exact absurd rfl hne
      refine ⟨by omega, by omega, ?_, ?_⟩
      · rw [List.head?_eq_getElem?]; exact hb 0 (by omega) h4
      · rw [List.getLast?_eq_getElem?]; exact hb _ (by omega) (by rw [← hsz]; exact h5)
    · rw [if_neg h2] at h; cases h

theorem byE_tx {b : List Bool} (h : IsBy b) : byE (tx b) = 0 := by
  have hlo := h.lo
  have hhi := h.hi
  unfold byE
  rw [tx_size, if_neg (by omega), if_pos]
  refine ⟨bin_tx b, ?_, ?_⟩
  · rw [bat_tx (by omega)]
    have := h.head
    rw [List.head?_eq_getElem?] at this
    rw [if_pos (by rw [List.getD_eq_getElem?_getD, this]; rfl)]
    decide
  · rw [bat_tx (by omega)]
    have := h.last
    rw [List.getLast?_eq_getElem?] at this
    rw [if_pos (by rw [List.getD_eq_getElem?_getD, this]; rfl)]
    decide

theorem conv_any (s : ByteArray) (w : World) : ∃ w1 cap, (convert 9 27 (.string s)).run Tryd.prog w = .ok (.slice (some ⟨w.heap.size, 0, none⟩) s.size cap) w1 ∧ Hid (Ex w w1) ∧ Hid (∀ j, j < s.size → w1.cell? ⟨w.heap.size, j, none⟩ = some (.int .u8 (bat s j : Int))) ∧ s.size ≤ cap := by
  have h := Lib.run_convert_string_bytes (P := Tryd.prog) w 9 27 5 s Tryd.underlying9 Tryd.underlying27 Tryd.underlying5
  exact ⟨_, _, h, Lib.hid (ex_bytes w _ _), Lib.hid fun j hj => Lib.bytesWorld_cell w _ _ j hj, grownCap_ge w s.size 0 5⟩

set_option maxRecDepth 100000 in
set_option maxHeartbeats 1000000 in
theorem binary_any (s : ByteArray) (w : World) (hs : s.size ≤ 216) : Calls Tryd.prog 8 #[.string s] w (Says (.bool (isBin s)) w) := by
  obtain ⟨w1, cap, hcv, hx1, hrow, hcap⟩ := conv_any s w
  have hi := bin_iff s
  have HBAD : Hid (∀ i, i < s.size → bat s i ≠ 48 → bat s i ≠ 49 → isBin s = false) := Lib.hid fun i h h1 h2 => by
    cases e : isBin s with
    | false => rfl
    | true => have := hi.mp e i h; omega
  have HALL : Hid ((∀ j, j < s.size → bat s j = 48 ∨ bat s j = 49) → isBin s = true) := Lib.hid hi.mpr
  have HLT := Lib.hid (bat_lt s)
  obtain ⟨F, hF⟩ : ∃ F, bat s = F := ⟨_, rfl⟩
  obtain ⟨r, hr⟩ : ∃ r, isBin s = r := ⟨_, rfl⟩
  obtain ⟨L, hL⟩ : ∃ L, s.size = L := ⟨_, rfl⟩
  obtain ⟨g, hg⟩ : ∃ g, w.heap.size = g := ⟨_, rfl⟩
  rw [hF] at HBAD HALL HLT hrow
  rw [hr] at HBAD HALL ⊢
  rw [hL] at hs hcv hcap hrow HBAD HALL
  rw [hg] at hcv hrow
  clear hi hF hr hL hg
  go_enter Tryd.func8, Tryd.ntmps8
  go_wp2
  go_loopg [8] L (fun k v8 wr => ∃ i : Nat, i ≤ L ∧ v8 = .int .i64 (i : Int) ∧ Hid (∀ j, j < i → F j = 48 ∨ F j = 49) ∧ Hid (k = L - i) ∧ Ex w1 wr)
  case atStart => exact ⟨0, by omega, rfl, Lib.hid fun j hj => by omega, Lib.hid rfl, Ex.refl _⟩
  case round =>
    obtain ⟨i, hi, rfl, hA, hk, hx⟩ := hrel
    by_cases hlt : i < L
    · have hc := hx.cell (hrow.out i hlt)
      have hb := HBAD.out i hlt
      have hl := HLT.out i
      obtain ⟨X, hX⟩ : ∃ X, F i = X := ⟨_, rfl⟩
      rw [hX] at hc hb hl
      by_cases h1 : X = 48
      · subst h1
        have HN : Hid (∀ j, j < i + 1 → F j = 48 ∨ F j = 49) := Lib.hid fun j hj => by
          by_cases e : j = i
          · subst e; exact .inl hX
          · exact hA.out j (by omega)
        clear hX hb
        go_wp2
        go_roundg (L - (i + 1))
        case measure => have := hk.out; omega
        case rel => exact ⟨i + 1, by omega, by go_num, HN, Lib.hid rfl, hx⟩
      · by_cases h2 : X = 49
        · subst h2
          have HN : Hid (∀ j, j < i + 1 → F j = 48 ∨ F j = 49) := Lib.hid fun j hj => by
            by_cases e : j = i
            · subst e; exact .inr hX
            · exact hA.out j (by omega)
          clear hX hb
          go_wp2
          go_roundg (L - (i + 1))
          case measure => have := hk.out; omega
          case rel => exact ⟨i + 1, by omega, by go_num, HN, Lib.hid rfl, hx⟩
        · have e := hb h1 h2
          subst e
          have g1 : ((X : Int) != 48) = true := bne_iff_ne.mpr (by omega)
          have g2 : ((X : Int) != 49) = true := bne_iff_ne.mpr (by omega)
          clear hX hb
          go_wp2
          go_ret
          exact ⟨rfl, hx1.out.trans hx⟩
    · have e : i = L := by omega
      subst e
      have e2 := HALL.out hA.out
      subst e2
      go_wp2
      go_ret
      exact ⟨rfl, hx1.out.trans hx⟩

set_option maxRecDepth 100000 in
set_option maxHeartbeats 1000000 in
theorem byErr_any (s : ByteArray) (w : World) (hsz : s.size ≤ maxLen) : Calls Tryd.prog 6 #[.string s] w (Says (.int .i64 (byE s)) w) := by
  have hm : maxLen = 9223372036854775807 := rfl
  unfold byE
  obtain ⟨L, hL⟩ : ∃ L, s.size = L := ⟨_, rfl⟩
  rw [hL] at hsz ⊢
  by_cases h1 : L < 2 ∨ 17 < L
  · rw [if_pos h1]
    by_cases h2 : L < 2
    · go_enter Tryd.func6, Tryd.ntmps6
      go_wp2
      go_ret
      exact .same
    · have h3 : 17 < L := by omega
      go_enter Tryd.func6, Tryd.ntmps6
      go_wp2
      go_ret
      exact .same
  · rw [if_neg h1]
    have HBI := Lib.hid (binary_any s w (by omega))
    have h0 := bat_get s 0 (by omega)
    obtain ⟨M, rfl⟩ : ∃ M, L = M + 1 := ⟨L - 1, by omega⟩
    rw [Nat.add_sub_cancel]
    have hl := bat_get s M (by omega)
    have hX9 := bat_lt s 0
    have hY9 := bat_lt s M
    obtain ⟨X, hX⟩ : ∃ X, bat s 0 = X := ⟨_, rfl⟩
    obtain ⟨Y, hY⟩ : ∃ Y, bat s M = Y := ⟨_, rfl⟩
    obtain ⟨r, hr⟩ : ∃ r, isBin s = r := ⟨_, rfl⟩
    rw [hX] at h0 hX9 ⊢
    rw [hY] at hl hY9 ⊢
    rw [hr] at HBI ⊢
    clear hX hY hr
    have hM : ((M : Int) + 1 - 1).toNat = M := by omega
    cases r with
    | false =>
      rw [if_neg (by simp)]
      clear h0 hl
      go_enter Tryd.func6, Tryd.ntmps6
      go_wp2_with (go_at_call 8; (with_reducible refine (HBI.out).mono ?_); rintro e w1 ⟨rfl, hw1⟩)
      go_ret
      exact ⟨rfl, hw1⟩
    | true =>
      by_cases e1 : X = 48
      · subst e1
        rw [if_neg (by simp)]
        go_enter Tryd.func6, Tryd.ntmps6
        go_wp2_with (go_at_call 8; (with_reducible refine (HBI.out).mono ?_); rintro e w1 ⟨rfl, hw1⟩)
        go_ret
        exact ⟨rfl, hw1⟩
      · have g1 : ((X : Int) == 48) = false := beq_eq_false_iff_ne.mpr (by omega)
        by_cases e2 : Y = 48
        · subst e2
          rw [if_neg (by simp)]
          go_enter Tryd.func6, Tryd.ntmps6
          go_wp2_with (go_at_call 8; (with_reducible refine (HBI.out).mono ?_); rintro e w1 ⟨rfl, hw1⟩)
          go_ret
          exact ⟨rfl, hw1⟩
        · have g2 : ((Y : Int) == 48) = false := beq_eq_false_iff_ne.mpr (by omega)
          rw [if_pos ⟨rfl, e1, e2⟩]
          go_enter Tryd.func6, Tryd.ntmps6
          go_wp2_with (go_at_call 8; (with_reducible refine (HBI.out).mono ?_); rintro e w1 ⟨rfl, hw1⟩)
          go_ret
          exact ⟨rfl, hw1⟩

end Go.Proofs.YtlpnopliblaknaaDoor
