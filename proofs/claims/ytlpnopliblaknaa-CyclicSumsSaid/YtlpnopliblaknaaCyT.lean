/-
  wholekeep.byOf, turn, cyclics.
-/
import Derived.Test.YtlpnopliblaknaaCyD
import Derived.Test.YtlpnopliblaknaaConvTx
namespace Go.Proofs.Ytlpnopliblaknaa
open Go.RowKit
open Ln Cy

theorem cat_tx (l k : List Bool) : tx l ++ tx k = tx (l ++ k) := tx_append l k
/-- What is divided by, of any numbers. -/
def byl (z : List Int) : List Bool := true :: fb z 15 ++ [true]
theorem byl_by (z : List Int) : IsBy (byl z) where
  lo := by unfold byl; simp
  hi := by unfold byl; simp [fb_length]; omega
  head := rfl
  last := by unfold byl; rw [List.getLast?_append]; rfl

set_option maxHeartbeats 1000000 in
theorem byOf_any {z : List Int} {a : Option Addr} {la ca : Nat} {w : World} (h : IsInts .u8 1 w a la ca z) : Calls Try.prog 9 #[.slice a la ca] w (Says (.string (tx (byl z))) w) := by
  have hb : Calls Try.prog 8 #[.slice a la ca, .int .i64 15] w (Says (.string (tx (fb z 15))) w) := bitsOf_any 15 h (by omega)
  have HB := Lib.hid hb
  obtain ⟨s, hs⟩ : ∃ s, tx (fb z 15) = s := ⟨_, rfl⟩
  have hsz : s.size ≤ 15 := by rw [← hs, tx_size, fb_length]; omega
  have HS : Hid (ByteArray.mk #[49] ++ s ++ ByteArray.mk #[49] = tx (byl z)) := Lib.hid (by rw [one_tx, ← hs, tx_append, tx_append]; rfl)
  have h1 : (ByteArray.mk #[49]).size = 1 := rfl
  rw [hs] at HB
  clear h hb hs
  go_enter Try.func9, Try.ntmps9
  go_wp2_with (go_at_call 8; (with_reducible refine (HB.out).mono ?_); rintro e w2 ⟨rfl, hw2⟩)
  go_ret
  exact ⟨by rw [← HS.out]; rfl, hw2⟩

theorem put_1011 : [true, true, false, true] ++ chk [true, false, true, true] [true, true, false, true] = [true, true, false, true, false, false, true] := by decide +kernel
theorem by_1011 : IsBy [true, false, true, true] := ⟨by decide, by decide, rfl, rfl⟩
theorem cyclics_yes (HP : CyPutC) (w : World) : Calls Try.prog 7 #[] w (Says (.bool true) w) := by
  have H1 : Hid (∀ w, Calls Try.prog 10 #[.string (ByteArray.mk #[49, 49, 48, 49]), .string (ByteArray.mk #[49, 48, 49, 49])] w (Says (.tuple #[.string (ByteArray.mk #[49, 49, 48, 49, 48, 48, 49]), .int .i64 0]) w)) := Lib.hid fun w => by
    have := HP.ok (l := [true, true, false, true]) (b := [true, false, true, true]) (w := w) (by decide) by_1011
    rw [put_1011] at this
    exact this
  go_enter Try.func7, Try.ntmps7
  go_wp2_with (go_at_call 10; (with_reducible refine (H1.out _).mono ?_); rintro e w1 ⟨rfl, hw1⟩)
  go_ret
  exact ⟨by simp, hw1⟩

/-- Bits turned, where another row has a 1, from a place on; the first i of that. -/
def tnF (l b : List Bool) (A i : Nat) (j : Nat) : Bool := l.getD j false ^^ (decide (A ≤ j ∧ j < A + i) && b.getD (j - A) false)
def tn (l b : List Bool) (A : Nat) : List Bool := (List.range l.length).map (tnF l b A b.length)
theorem tn_length (l b : List Bool) (A : Nat) : (tn l b A).length = l.length := by simp [tn]
theorem tnF_zero (l b : List Bool) (A j : Nat) : tnF l b A 0 j = l.getD j false := by
  unfold tnF
  rw [decide_eq_false (by omega), Bool.false_and, Bool.xor_false]
theorem tnF_step (l b : List Bool) (A i j : Nat) : tnF l b A (i + 1) j = if j = A + i then (tnF l b A i j ^^ b.getD i false) else tnF l b A i j := by
  unfold tnF
  by_cases e : j = A + i
  · subst e
    rw [if_pos rfl, decide_eq_true (by omega), decide_eq_false (by omega), show A + i - A = i by omega]
    simp
  · rw [if_neg e]
    congr 2
    exact decide_eq_decide.mpr (by omega)

set_option maxRecDepth 100000 in
set_option maxHeartbeats 1000000 in
theorem turn_any {l b : List Bool} {A : Nat} {w : World} (hl : l.length ≤ 216) (hA : A + b.length ≤ l.length) :
    Calls Try.prog 15 #[.string (tx l), .string (tx b), .int .i64 (A : Int)] w (Says (.string (tx (tn l b A))) w) := by
  obtain ⟨w1, cap, hcv, hx1, hrow, hcap⟩ := conv_tx l w
  have hrow0 : Hid (RowT w1 w.heap.size l.length (tnF l b A 0)) := Lib.hid (by rw [show tnF l b A 0 = fun j => l.getD j false from funext fun j => tnF_zero l b A j]; exact hrow.out)
  have HBK := Lib.hid fun F g L cap w (h : RowT w g L F) => conv_back (cap := cap) h
  have hbs := tx_size b
  have HGET : Hid (∀ k (h : k < b.length) (h2 : k < (tx b).size), ((tx b)[k]'h2).toNat = if b.getD k false = true then 49 else 48) := Lib.hid fun k h h2 => by
    have := tx_get h h2
    by_cases e : b.getD k false = true
    · rw [if_pos e] at this ⊢; omega
    · rw [if_neg e] at this ⊢; omega
  obtain ⟨B, hB⟩ : ∃ B, b.length = B := ⟨_, rfl⟩
  obtain ⟨L, hL⟩ : ∃ L, l.length = L := ⟨_, rfl⟩
  obtain ⟨g, hg⟩ : ∃ g, w.heap.size = g := ⟨_, rfl⟩
  have HTN : Hid (tn l b A = (List.range L).map (tnF l b A B)) := Lib.hid (by unfold tn; rw [hL, hB])
  rw [hB] at hbs hA HGET
  rw [hL] at hl hA hcv hcap hrow0
  rw [hg] at hcv hrow0
  have HG := Lib.hid hg
  clear hrow hB hL hg
  go_enter Try.func15, Try.ntmps15
  go_wp2
  go_loopg [13] B (fun k v13 wr => ∃ i : Nat, i ≤ B ∧ v13 = .int .i64 (i : Int) ∧ Hid (RowT wr g L (tnF l b A i)) ∧ Hid (k = B - i) ∧ Ex w wr)
  case atStart => exact ⟨0, by omega, rfl, hrow0, Lib.hid rfl, hx1.out⟩
  case round =>
    obtain ⟨i, hi, rfl, hR, hk, hx⟩ := hrel
    by_cases hlt : i < B
    · have hg2 := HGET.out i hlt (by rw [hbs]; exact hlt)
      have hst := tnF_step l b A i
      by_cases hb : b.getD i false = true
      · rw [if_pos hb] at hg2
        have hc := hR.out (A + i) (by omega)
        obtain ⟨q1, q2⟩ := hc
        have ht := bv_turn (tnF l b A i (A + i))
        obtain ⟨X, hX⟩ : ∃ X, bv (tnF l b A i (A + i)) = X := ⟨_, rfl⟩
        obtain ⟨Y, hY⟩ : ∃ Y, bv (!tnF l b A i (A + i)) = Y := ⟨_, rfl⟩
        have hX2 : 48 ≤ X ∧ X ≤ 49 := by rw [← hX]; exact bv_two _
        have hrs := hR.out.set (i := A + i) (by omega) (!tnF l b A i (A + i))
        rw [hY] at ht hrs
        rw [hX] at ht q1
        have HRS : Hid (RowT (wr.setCell ⟨g, A + i, none⟩ (.int .u8 Y)) g L (tnF l b A (i + 1))) := Lib.hid (by
          have e : tnF l b A (i + 1) = fun j => if j = A + i then !tnF l b A i (A + i) else tnF l b A i j := funext fun j => by
            rw [hst j]
            by_cases e : j = A + i
            · rw [if_pos e, if_pos e, e, hb, Bool.xor_true]
            · rw [if_neg e, if_neg e]
          rw [e]
          exact hrs)
        have HXS := Lib.hid (hx.setCell (p := ⟨g, A + i, none⟩) (by rw [HG.out]; exact Nat.le_refl _) (.int .u8 Y))
        clear hst hb hX hY hrs
        go_wp2
        go_roundg (B - (i + 1))
        case measure => have := hk.out; omega
        case rel => exact ⟨i + 1, by omega, by go_num, HRS, Lib.hid rfl, HXS.out⟩
      · rw [if_neg hb] at hg2
        have HRS : Hid (RowT wr g L (tnF l b A (i + 1))) := Lib.hid (by
          have e : tnF l b A (i + 1) = tnF l b A i := funext fun j => by
            rw [hst j]
            have hb2 : b.getD i false = false := by simpa using hb
            by_cases e : j = A + i
            · rw [if_pos e, hb2, Bool.xor_false]
            · rw [if_neg e]
          rw [e]
          exact hR.out)
        clear hst hb
        go_wp2
        go_roundg (B - (i + 1))
        case measure => have := hk.out; omega
        case rel => exact ⟨i + 1, by omega, by go_num, HRS, Lib.hid rfl, hx⟩
    · have e : i = B := by omega
      subst e
      have hbk := HBK.out _ _ _ cap _ hR.out
      rw [← HTN.out] at hbk
      go_wp2
      go_ret
      exact ⟨rfl, hx⟩

end Go.Proofs.Ytlpnopliblaknaa
