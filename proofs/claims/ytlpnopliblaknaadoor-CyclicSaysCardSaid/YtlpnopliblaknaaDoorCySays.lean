/-
  CyclicSays, by contracts.
-/
import Derived.Test.YtlpnopliblaknaaDoorCyRest
import Derived.Test.YtlpnopliblaknaaDoorCyRep
namespace Go.Proofs.YtlpnopliblaknaaDoor
open Go.RowKit
open Ln Cy

/-- What package cyclic answers at any texts. -/
structure CyAnyC : Prop where
  check : ∀ {y : ByteArray} {w : World}, y.size ≤ maxLen → Calls Tryd.prog 7 #[.string y] w (Says (.int .i64 (byE y)) w)
  putBy : ∀ {s y : ByteArray} {w : World}, s.size ≤ maxLen → y.size ≤ maxLen → byE y ≠ 0 → Calls Tryd.prog 4 #[.string s, .string y] w (Says (.tuple #[.string (ByteArray.mk #[]), .int .i64 (byE y)]) w)
  putNo : ∀ {s : ByteArray} {b : List Bool} {w : World}, s.size ≤ maxLen → IsBy b → (200 < s.size ∨ isBin s = false) → Calls Tryd.prog 4 #[.string s, .string (tx b)] w (Says (.tuple #[.string (ByteArray.mk #[]), .int .i64 (if 200 < s.size then 2 else 3)]) w)
  getBy : ∀ {s y : ByteArray} {w : World}, s.size ≤ maxLen → y.size ≤ maxLen → byE y ≠ 0 → Calls Tryd.prog 5 #[.string s, .string y] w (Says (.tuple #[.string (ByteArray.mk #[]), .int .i64 (byE y)]) w)
  getNo : ∀ {s : ByteArray} {b : List Bool} {w : World}, s.size ≤ maxLen → IsBy b → (216 < s.size ∨ isBin s = false) → Calls Tryd.prog 5 #[.string s, .string (tx b)] w (Says (.tuple #[.string (ByteArray.mk #[]), .int .i64 (if 216 < s.size then 2 else 3)]) w)
  getShort : ∀ {l b : List Bool} {w : World}, IsBy b → l.length < dg' b → Calls Tryd.prog 5 #[.string (tx l), .string (tx b)] w (Says (.tuple #[.string (ByteArray.mk #[]), .int .i64 7]) w)

set_option maxRecDepth 100000 in
set_option maxHeartbeats 2000000 in
theorem cySays_by (H : CyAnyC) (s y : ByteArray) (w : World) (hs : s.size ≤ maxLen) (hy : y.size ≤ maxLen) (hb : byE y ≠ 0) :
    Calls Tryd.prog 3 #[.string s, .string y] w (Says (.bool true) w) := by
  have HPU := Lib.hid fun w => H.putBy (s := s) (w := w) hs hy hb
  have HGE := Lib.hid fun w => H.getBy (s := s) (w := w) hs hy hb
  have HBE := Lib.hid fun w => byErr_any y w hy
  have HCH := Lib.hid fun w => H.check (w := w) hy
  obtain ⟨e, he⟩ : ∃ e, byE y = e := ⟨_, rfl⟩
  rw [he] at HPU HGE HBE HCH hb
  have g0 : (e != 0) = true := bne_iff_ne.mpr hb
  clear he H
  go_enter Tryd.func3, Tryd.ntmps3
  go_wp2_with (first
    | (go_at_call 4; (with_reducible refine (HPU.out _).mono ?_); rintro e w1 ⟨rfl, hw1⟩)
    | (go_at_call 5; (with_reducible refine (HGE.out _).mono ?_); rintro e w2 ⟨rfl, hw2⟩)
    | (go_at_call 6; (with_reducible refine (HBE.out _).mono ?_); rintro e w3 ⟨rfl, hw3⟩)
    | (go_at_call 7; (with_reducible refine (HCH.out _).mono ?_); rintro e w4 ⟨rfl, hw4⟩))
  go_ret
  exact ⟨rfl, (by repeat (first | assumption | exact Ex.refl _ | refine Ex.trans ?_ (by assumption)))⟩

set_option maxRecDepth 100000 in
set_option maxHeartbeats 2000000 in
theorem cySays_no (H : CyAnyC) (s : ByteArray) (b : List Bool) (w : World) (hs : s.size ≤ maxLen) (hb : IsBy b) (hn : 216 < s.size ∨ isBin s = false) :
    Calls Tryd.prog 3 #[.string s, .string (tx b)] w (Says (.bool true) w) := by
  have hy : (tx b).size ≤ maxLen := by rw [tx_size]; have := hb.hi; unfold maxLen; omega
  have hyb : byE (tx b) = 0 := byE_tx hb
  have hn2 : 200 < s.size ∨ isBin s = false := by rcases hn with h | h; exact .inl (by omega); exact .inr h
  have HPU := Lib.hid fun w => H.putNo (w := w) hs hb hn2
  have HGE := Lib.hid fun w => H.getNo (w := w) hs hb hn
  have HBE := Lib.hid fun w => byErr_any (tx b) w hy
  have HCH := Lib.hid fun w => H.check (w := w) hy
  rw [hyb] at HBE HCH
  have HBI0 : Hid (s.size ≤ 216 → ∀ w, Calls Tryd.prog 8 #[.string s] w (Says (.bool false) w)) := Lib.hid fun h w => by
    have := binary_any s w h
    rcases hn with h2 | h2
    · omega
    · rwa [h2] at this
  have hm : maxLen = 9223372036854775807 := rfl
  obtain ⟨Y, hY⟩ : ∃ Y, tx b = Y := ⟨_, rfl⟩
  obtain ⟨L, hL⟩ : ∃ L, s.size = L := ⟨_, rfl⟩
  rw [hY] at HPU HGE HBE HCH ⊢
  rw [hL] at HPU HGE HBI0 hs
  have hlet : 216 < L ∨ (200 < L ∧ L ≤ 216) ∨ L ≤ 200 := by omega
  clear H hn hn2 hyb hy hb hY
  rcases hlet with h1 | h1 | h1
  · rw [if_pos (by omega)] at HPU HGE
    clear HBI0
    go_enter Tryd.func3, Tryd.ntmps3
    go_wp2_with (first
      | (go_at_call 4; (with_reducible refine (HPU.out _).mono ?_); rintro e w1 ⟨rfl, hw1⟩)
      | (go_at_call 5; (with_reducible refine (HGE.out _).mono ?_); rintro e w2 ⟨rfl, hw2⟩)
      | (go_at_call 6; (with_reducible refine (HBE.out _).mono ?_); rintro e w3 ⟨rfl, hw3⟩)
      | (go_at_call 7; (with_reducible refine (HCH.out _).mono ?_); rintro e w4 ⟨rfl, hw4⟩))
    go_ret
    exact ⟨rfl, (by repeat (first | assumption | exact Ex.refl _ | refine Ex.trans ?_ (by assumption)))⟩
  · rw [if_pos (by omega)] at HPU
    rw [if_neg (by omega)] at HGE
    have HBI := Lib.hid (HBI0.out (by omega))
    clear HBI0
    go_enter Tryd.func3, Tryd.ntmps3
    go_wp2_with (first
      | (go_at_call 4; (with_reducible refine (HPU.out _).mono ?_); rintro e w1 ⟨rfl, hw1⟩)
      | (go_at_call 5; (with_reducible refine (HGE.out _).mono ?_); rintro e w2 ⟨rfl, hw2⟩)
      | (go_at_call 6; (with_reducible refine (HBE.out _).mono ?_); rintro e w3 ⟨rfl, hw3⟩)
      | (go_at_call 7; (with_reducible refine (HCH.out _).mono ?_); rintro e w4 ⟨rfl, hw4⟩)
      | (go_at_call 8; (with_reducible refine (HBI.out _).mono ?_); rintro e w5 ⟨rfl, hw5⟩))
    go_ret
    exact ⟨rfl, (by repeat (first | assumption | exact Ex.refl _ | refine Ex.trans ?_ (by assumption)))⟩
  · rw [if_neg (by omega)] at HPU HGE
    have HBI := Lib.hid (HBI0.out (by omega))
    clear HBI0
    go_enter Tryd.func3, Tryd.ntmps3
    go_wp2_with (first
      | (go_at_call 4; (with_reducible refine (HPU.out _).mono ?_); rintro e w1 ⟨rfl, hw1⟩)
      | (go_at_call 5; (with_reducible refine (HGE.out _).mono ?_); rintro e w2 ⟨rfl, hw2⟩)
      | (go_at_call 6; (with_reducible refine (HBE.out _).mono ?_); rintro e w3 ⟨rfl, hw3⟩)
      | (go_at_call 7; (with_reducible refine (HCH.out _).mono ?_); rintro e w4 ⟨rfl, hw4⟩)
      | (go_at_call 8; (with_reducible refine (HBI.out _).mono ?_); rintro e w5 ⟨rfl, hw5⟩)
      | (go_at_call 8; (with_reducible refine (HBI.out _).mono ?_); rintro e w6 ⟨rfl, hw6⟩))
    go_ret
    exact ⟨rfl, (by repeat (first | assumption | exact Ex.refl _ | refine Ex.trans ?_ (by assumption)))⟩

end Go.Proofs.YtlpnopliblaknaaDoor
