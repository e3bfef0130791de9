/-
  Check of package matrix, and of square ones.
-/
import Derived.Test.YtmmfclkkncbgfaaRowOps
import Derived.Test.YtmmfclkkncbgfaaWide
namespace Go.Proofs.Ytmmfclkkncbgfaa
open Go.RowKit
open Gf

/-- A table, as a list of rows. -/
def tm (A : Nat → Nat → E) (R C : Nat) : List (List Int) := (List.range R).map fun r => bl (A r) C
theorem tm_length (A : Nat → Nat → E) (R C : Nat) : (tm A R C).length = R := by simp [tm]
theorem tm_row (A : Nat → Nat → E) {R C r : Nat} (h : r < R) : rowM (tm A R C) r = bl (A r) C := by
  rw [rowM_eq (by rw [tm_length]; exact h)]; simp [tm]
theorem tm_ok (A : Nat → Nat → E) {R C : Nat} (h1 : 1 ≤ R) (h2 : R ≤ 12) (h3 : 1 ≤ C) (h4 : C ≤ 12) : tabE (tm A R C) = 0 := by
  refine tabE_zero.mpr ⟨by rw [tm_length]; exact h1, by rw [tm_length]; exact h2, by rw [tm_row A (by omega), bl_length]; exact h3, by rw [tm_row A (by omega), bl_length]; exact h4, fun r hr => ?_⟩
  rw [tm_length] at hr
  rw [tm_row A hr, tm_row A (by omega), bl_length, bl_length]
theorem ReadsT.list {w : World} {a : Option Addr} {R C : Nat} {A : Nat → Nat → E} (h : ReadsT w a R C A) : ReadsM .u8 w a (tm A R C) := by
  obtain ⟨b, off, h1, h2⟩ := h
  refine .inr ⟨b, off, h1, fun r hr => ?_⟩
  rw [tm_length] at hr
  obtain ⟨br, orr, c, g1, g2, g3, g4⟩ := h2 r hr
  rw [tm_row A hr, bl_length]
  exact ⟨_, c, g1, .inr ⟨br, orr, rfl, fun j hj => by rw [bl_length] at hj; rw [bl_nth hj]; exact g4 j hj⟩, g2, g3, fun h => by cases h⟩
theorem tm_short (A : Nat → Nat → E) (R : Nat) {C : Nat} (h : C ≤ 12) : ∀ r ∈ tm A R C, r.length ≤ maxLen := fun r hr => by
  obtain ⟨i, _, rfl⟩ := List.mem_map.mp hr
  rw [bl_length]; unfold maxLen; omega

theorem isSide_any (n : Nat) (w : World) (hn : n ≤ 9223372036854775807) (b : Bool) (hb : b = decide (1 ≤ n ∧ n ≤ 12)) : Calls Try.prog 34 #[.int .i64 (n : Int)] w (Says (.bool b) w) := by
  by_cases h1 : 1 ≤ n
  · by_cases h2 : n ≤ 12
    · have : b = true := by rw [hb]; exact decide_eq_true ⟨h1, h2⟩
      subst this
      have z : decide ((n : Int) ≤ 12) = true := decide_eq_true (by omega)
      clear hb
      go_enter Try.func34, Try.ntmps34
      go_wp2
      go_ret
      exact .same
    · have : b = false := by rw [hb]; exact decide_eq_false (fun h => h2 h.2)
      subst this
      have z : decide ((n : Int) ≤ 12) = false := decide_eq_false (by omega)
      clear hb
      go_enter Try.func34, Try.ntmps34
      go_wp2
      go_ret
      exact .same
  · have : b = false := by rw [hb]; exact decide_eq_false (fun h => h1 h.1)
    subst this
    clear hb
    go_enter Try.func34, Try.ntmps34
    go_wp2
    go_ret
    exact .same

set_option maxRecDepth 100000 in
set_option maxHeartbeats 1000000 in
theorem mcheck_any (m : List (List Int)) (a : Option Addr) (len cap : Nat) (w : World) (hm : m.length = len) (hl : len ≤ maxLen) (hr : ReadsM .u8 w a m) (hrow : ∀ r ∈ m, r.length ≤ maxLen) :
    Calls Try.prog 14 #[.slice a len cap] w (Says (.int .i64 (tabE m)) w) := by
  unfold maxLen at hl
  by_cases h1 : len = 0 ∨ 12 < len
  · have e : tabE m = 2 := by unfold tabE; rw [if_pos (by rw [hm]; omega)]
    rw [e]
    have HS := Lib.hid fun w => isSide_any len w hl false (decide_eq_false (by omega)).symm
    clear hr hrow e hm
    go_enter Try.func14, Try.ntmps14
    go_wp2_with (go_at_call 34; (with_reducible refine (HS.out _).mono ?_); rintro e w1 ⟨rfl, hw1⟩)
    go_ret
    exact ⟨rfl, hw1⟩
  rcases hr with h0 | ⟨b, off, rfl, hc⟩
  · rw [h0] at hm; exact absurd hm.symm (fun h => h1 (.inl h))
  obtain ⟨a0, c0, k1, _, k3, k4, _⟩ := hc 0 (by omega)
  rw [Nat.add_zero] at k1
  obtain ⟨L0, hL0⟩ : ∃ L, (rowM m 0).length = L := ⟨_, rfl⟩
  have hL0m : L0 ≤ maxLen := by rw [← hL0]; exact hrow _ (rowM_mem (by omega))
  rw [hL0] at k1 k3
  unfold maxLen at k4 hL0m
  have HS := Lib.hid fun w => isSide_any len w hl true (decide_eq_true (by omega)).symm
  by_cases h3 : L0 = 0 ∨ 12 < L0
  · have e : tabE m = 2 := by unfold tabE; rw [if_pos (by rw [hL0]; omega)]
    rw [e]
    have HS2 := Lib.hid fun w => isSide_any L0 w hL0m false (decide_eq_false (by omega)).symm
    clear e hm hL0 hrow hc
    go_enter Try.func14, Try.ntmps14
    go_wp2_with (first
      | (go_at_call 34; (with_reducible refine (HS.out _).mono ?_); rintro e w1 ⟨rfl, hw1⟩; have q1 := hw1.cell k1; clear HS)
      | (go_at_call 34; (with_reducible refine (HS2.out _).mono ?_); rintro e w2 ⟨rfl, hw2⟩))
    go_ret
    exact ⟨rfl, hw1.trans hw2⟩
  · have e : tabE m = if anyP (fun r => (rowM m r).length != L0) len then 3 else 0 := by
      unfold tabE; rw [if_neg (by rw [hL0, hm]; omega), hL0, hm]
    have HE := Lib.hid e
    have HC : Hid (∀ r, r < len → ∃ (ar : Option Addr) (c : Nat), w.cell? ⟨b, off + r, none⟩ = some (.slice ar (rowM m r).length c) ∧ (rowM m r).length ≤ c ∧ c ≤ maxLen) := Lib.hid fun r hr => by
      obtain ⟨ar, c, g1, _, g3, g4, _⟩ := hc r (by omega)
      exact ⟨ar, c, g1, g3, g4⟩
    have HS2 := Lib.hid fun w => isSide_any L0 w hL0m true (decide_eq_true (by omega)).symm
    clear e hm hL0 hrow hc
    go_enter Try.func14, Try.ntmps14
    go_wp2_with (first
      | (go_at_call 34; (with_reducible refine (HS.out _).mono ?_); rintro e w1 ⟨rfl, hw1⟩; have q1 := hw1.cell k1; clear HS)
      | (go_at_call 34; (with_reducible refine (HS2.out _).mono ?_); rintro e w2 ⟨rfl, hw2⟩))
    have HX2 := Lib.hid (hw1.trans hw2)
    clear q1 hw1 hw2
    go_loopg [19] len (fun k v19 wr => ∃ i : Nat, i ≤ len ∧ v19 = .int .i64 (i : Int) ∧ Hid (∀ r, r < i → (rowM m r).length = L0) ∧ Hid (k = len - i) ∧ Ex w wr)
    case atStart => exact ⟨0, by omega, rfl, Lib.hid fun r hr => by omega, Lib.hid rfl, HX2.out⟩
    case round =>
      obtain ⟨i, hi, rfl, hz, hk, hx⟩ := hrel
      by_cases hlt : i < len
      · obtain ⟨ar, c, g1, g3, g4⟩ := HC.out i hlt
        obtain ⟨L, hL⟩ : ∃ L, (rowM m i).length = L := ⟨_, rfl⟩
        rw [hL] at g1 g3
        unfold maxLen at g4
        have q1 := hx.cell g1
        have q0 := hx.cell k1
        by_cases e : L = L0
        · subst e
          have HL := Lib.hid hL
          clear hL g1
          go_wp2
          go_roundg (len - (i + 1))
          case measure => have := hk.out; omega
          case rel => exact ⟨i + 1, by omega, by go_num, Lib.hid fun r hr => by
            by_cases e : r = i
            · rw [e]; exact HL.out
            · exact hz.out r (by omega), Lib.hid rfl, hx⟩
        · have HT : Hid (tabE m = 3) := Lib.hid (by rw [HE.out, anyP_yes hlt (by simpa [hL] using e)]; rfl)
          have q2 : ((L : Int) != (L0 : Int)) = true := by simp; omega
          clear hL g1
          go_wp2
          go_ret
          exact ⟨by rw [HT.out]; rfl, hx⟩
      · have e : i = len := by omega
        subst e
        have HT : Hid (tabE m = 0) := Lib.hid (by rw [HE.out, anyP_no fun j hj => by simpa using hz.out j hj]; rfl)
        go_wp2
        go_ret
        exact ⟨by rw [HT.out]; rfl, hx⟩

theorem mcheck_ok {A : Nat → Nat → E} {R C : Nat} {a : Option Addr} {w : World} (h1 : 1 ≤ R) (h2 : R ≤ 12) (h3 : 1 ≤ C) (h4 : C ≤ 12) (ha : ReadsT w a R C A) (cap : Nat) :
    Calls Try.prog 14 #[.slice a R cap] w (Says (.int .i64 0) w) := by
  have := mcheck_any (tm A R C) a R cap w (tm_length A R C) (by unfold maxLen; omega) ha.list (tm_short A R h4)
  rwa [tm_ok A h1 h2 h3 h4] at this
theorem checkC : CheckC := ⟨fun h => mcheck_any _ _ _ _ _ h.1 (by have := h.2.1; have := h.2.2.1; unfold maxLen; omega) h.2.2.2.1 fun r hr => (h.2.2.2.2.2 r hr).2⟩

set_option maxHeartbeats 1000000 in
theorem msquare_any (m : List (List Int)) (a : Option Addr) (len cap : Nat) (w : World) (hm : m.length = len) (hl : len ≤ maxLen) (hr : ReadsM .u8 w a m) (hrow : ∀ r ∈ m, r.length ≤ maxLen) :
    Calls Try.prog 31 #[.slice a len cap] w (Says (.int .i64 (detE m)) w) := by
  have HC := Lib.hid (mcheck_any m a len cap w hm hl hr hrow)
  by_cases h0 : tabE m = 0
  · obtain ⟨e1, e2, e3, e4, _⟩ := tabE_zero.mp h0
    have he : detE m = if len ≠ colsM m then 3 else 0 := by unfold detE; rw [if_neg (by simpa using h0), hm]
    rw [he]
    have e3 : 1 ≤ colsM m := e3
    have e4 : colsM m ≤ 12 := e4
    rw [h0] at HC
    rw [hm] at e1 e2
    rcases hr with h | ⟨b, off, rfl, hc⟩
    · rw [h] at hm; simp at hm; omega
    obtain ⟨a0, c0, k1, _, k3, k4, _⟩ := hc 0 (by omega)
    rw [Nat.add_zero] at k1
    have k1 : w.cell? ⟨b, off, none⟩ = some (.slice a0 (colsM m) c0) := k1
    have k3 : colsM m ≤ c0 := k3
    unfold maxLen at k4
    obtain ⟨L, hL⟩ : ∃ L, colsM m = L := ⟨_, rfl⟩
    rw [hL] at k1 k3 e3 e4 ⊢
    clear hc hL h0 he hrow hm
    by_cases hne : len = L
    · rw [if_neg (by simpa using hne)]
      subst hne
      go_enter Try.func31, Try.ntmps31
      go_wp2_with (go_at_call 14; (with_reducible refine (HC.out).mono ?_); rintro e w1 ⟨rfl, hw1⟩; have q1 := hw1.cell k1)
      go_ret
      exact ⟨rfl, hw1⟩
    · rw [if_pos hne]
      have q2 : ((len : Int) != (L : Int)) = true := by simp; omega
      go_enter Try.func31, Try.ntmps31
      go_wp2_with (go_at_call 14; (with_reducible refine (HC.out).mono ?_); rintro e w1 ⟨rfl, hw1⟩; have q1 := hw1.cell k1)
      go_ret
      exact ⟨rfl, hw1⟩
  · have he : detE m = tabE m := by unfold detE; rw [if_pos h0]
    rw [he]
    obtain ⟨t, ht⟩ : ∃ t, tabE m = t := ⟨_, rfl⟩
    rw [ht] at HC h0 ⊢
    have h1 : (t != 0) = true := by simpa using h0
    clear ht he hr hrow
    go_enter Try.func31, Try.ntmps31
    go_wp2_with (go_at_call 14; (with_reducible refine (HC.out).mono ?_); rintro e w1 ⟨rfl, hw1⟩)
    go_ret
    exact ⟨rfl, hw1⟩
theorem msquare_ok {A : Nat → Nat → E} {n : Nat} {a : Option Addr} {w : World} (h1 : 1 ≤ n) (h2 : n ≤ 12) (ha : ReadsT w a n n A) (cap : Nat) :
    Calls Try.prog 31 #[.slice a n cap] w (Says (.int .i64 0) w) := by
  have := msquare_any (tm A n n) a n cap w (tm_length A n n) (by unfold maxLen; omega) ha.list (tm_short A n h2)
  rwa [detE_zero.mpr ⟨tm_ok A h1 h2 h1 h2, by unfold colsM; rw [tm_length, tm_row A (by omega), bl_length]⟩] at this

end Go.Proofs.Ytmmfclkkncbgfaa
