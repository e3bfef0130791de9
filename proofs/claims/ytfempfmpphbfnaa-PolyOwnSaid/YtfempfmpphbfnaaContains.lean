/-
  slices.Index and slices.Contains at ints that are not there.
-/
import Derived.Test.YtfempfmpphbfnaaLib
namespace Go.Proofs.Ytfempfmpphbfnaa
open Go.RowKit

set_option maxHeartbeats 1000000 in
theorem index_not (y : Int) (xs : List Int) (a : Option Addr) (cap : Nat) (w : World) (hl : xs.length ≤ maxLen) (hr : Reads w .i64 a xs) (hn : ∀ x ∈ xs, x ≠ y) :
    Calls Try.prog 52 #[.slice a xs.length cap, .int .i64 y] w (Says (.int .i64 (-1)) w) := by
  unfold maxLen at hl
  have HN : Hid (∀ i, i < xs.length → nth xs i ≠ y) := Lib.hid fun i hi => hn _ (nth_mem hi)
  have HR := Lib.hid fun w2 (hx : Ex w w2) => hr.ex hx
  have HL : Hid (∀ i, i < xs.length → xs ≠ []) := Lib.hid fun i hi h => by rw [h] at hi; simp at hi
  obtain ⟨L, hL⟩ : ∃ L, xs.length = L := ⟨_, rfl⟩
  have HLL := Lib.hid hL
  rw [hL] at HN HL hl ⊢
  clear hr hn hL
  go_enter Try.func52, Try.ntmps52
  go_wp2
  go_loopg [8] L (fun k v8 wr => ∃ i : Nat, i ≤ L ∧ v8 = .int .i64 i ∧ Hid (k = L - i) ∧ Ex w wr)
  case atStart => exact ⟨0, Nat.zero_le _, rfl, Lib.hid rfl, Ex.refl _⟩
  case round =>
    obtain ⟨i, hi, rfl, hk, hw⟩ := hrel
    by_cases hlt : i < L
    · rcases HR.out _ hw with h0 | ⟨g, o, rfl, hc⟩
      · exact absurd h0 (HL.out i hlt)
      have hci := hc i (by have := HLL.out; omega)
      have hne := HN.out i hlt
      obtain ⟨X, hX⟩ : ∃ X, nth xs i = X := ⟨_, rfl⟩
      rw [hX] at hci hne
      have hb : (y == X) = false := by
        rw [beq_eq_false_iff_ne]
        exact fun h => hne h.symm
      clear hc hX
      go_wp2
      go_roundg (L - (i + 1))
      case measure => have := hk.out; omega
      case rel => exact ⟨i + 1, by omega, by go_num, Lib.hid rfl, hw⟩
    · have e : i = L := by omega
      subst e
      go_wp2
      go_ret
      exact ⟨rfl, hw⟩

theorem contains_not (y : Int) (xs : List Int) (a : Option Addr) (cap : Nat) (w : World) (hl : xs.length ≤ maxLen) (hr : Reads w .i64 a xs) (hn : ∀ x ∈ xs, x ≠ y) :
    Calls Try.prog 35 #[.slice a xs.length cap, .int .i64 y] w (Says (.bool false) w) := by
  have HI := Lib.hid (index_not y xs a cap w hl hr hn)
  clear hr hn
  go_enter Try.func35, Try.ntmps35
  go_wp2_with (go_at_call 52; (with_reducible refine (HI.out).mono ?_); rintro e w2 ⟨rfl, hw2⟩)
  go_ret
  exact ⟨rfl, hw2⟩

end Go.Proofs.Ytfempfmpphbfnaa
