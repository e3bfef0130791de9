/-
  slices.Clone at bytes and at uint64: a row of one's own.
-/
import Derived.Test.YtebijjigjlcjdaaGro
namespace Go.Proofs.Ytebijjigjlcjdaa
open Go.RowKit

set_option maxHeartbeats 1000000 in
theorem clone_byts (xs : List Int) (a : Option Addr) (cap : Nat) (w : World) (hl : xs.length * 1 ≤ 140737488355328) (hr : Reads w .u8 a xs) (hnil : a = none → cap = 0) :
    Calls Try.prog 13 #[.slice a xs.length cap] w (fun e w2 => ∃ v, e = .returned v ∧ Hid (Row 5 .u8 w2 w.heap.size v xs) ∧ Ex w w2) := by
  have q22 : ∀ (w : World) (a : Option Addr) (n c n' c' : Nat), (binOp .eql 22 (.slice a n c) (.slice none n' c')).run Try.prog w = .ok (.bool a.isNone) w := fun w a n c n' c' => Lib.run_eql_slice_nil w _ _ a n c n' c' Try.underlying22
  cases a with
  | none =>
    obtain rfl : xs = [] := by
      rcases hr with rfl | ⟨b, off, h, _⟩
      · rfl
      · cases h
    go_enter Try.func13, Try.ntmps13
    go_wp2
    go_ret
    exact ⟨_, rfl, Lib.hid (Row.nil _ _ _ _), Ex.refl _⟩
  | some p =>
    have HR := Lib.hid (hr.ex ((Ex.refl w).alloc (.cells #[] 5)))
    have HX := Lib.hid ((Ex.refl w).alloc (.cells #[] 5))
    have HO : Hid (Row 5 .u8 (w.alloc (.cells #[] 5)) w.heap.size (.slice (some ⟨w.heap.size, 0, none⟩) 0 0) []) := Lib.hid (row_new 5 .u8 w w.heap.size (Nat.le_refl _) [] #[] rfl (by simp))
    clear hr hnil
    go_enter Try.func13, Try.ntmps13
    go_wp2_with (
      (at_builtin; refine wpList_append_ints rfl _ _ 22 rfl w.heap.size 5 .u8 1 Try.underlying22 (by kernel_rfl) _ [] rfl HO.out (some p) cap xs rfl (by intro h; cases h) HR.out (by simp; unfold maxLen; omega) (by simp; omega) HX.out.size ?_; intro v' w3 hown3 hgrow3 _))
    go_ret
    exact ⟨v', rfl, Lib.hid (by simpa using hown3), HO.out.grown HX.out hgrow3⟩

end Go.Proofs.Ytebijjigjlcjdaa
