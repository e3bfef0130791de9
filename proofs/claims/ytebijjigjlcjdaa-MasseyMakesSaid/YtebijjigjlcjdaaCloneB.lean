/-
  slices.Clone at bytes.
-/
import Derived.Test.YtebijjigjlcjdaaGrb
import Derived.Test.YtebijjigjlcjdaaGtb
import Derived.Test.YtebijjigjlcjdaaMixT
import Derived.Test.YtebijjigjlcjdaaGro
namespace Go.Proofs.Ytebijjigjlcjdaa
open Go.RowKit
open Gf

set_option maxHeartbeats 1000000 in
theorem clone_bytes (F : Nat → E) (C : Nat) (b off cap : Nat) (w : World) (hC : C ≤ 1000) (h1 : 1 ≤ C) (hr : ∀ k, k < C → w.cell? ⟨b, off + k, none⟩ = some (.int .u8 (((F k).v : Nat) : Int))) :
    Calls Try.prog 13 #[.slice (some ⟨b, off, none⟩) C cap] w (fun e w2 => ∃ v, e = .returned v ∧ Hid (Row 5 .u8 w2 w.heap.size v (bl F C)) ∧ Ex w w2) := by
  have q22 : ∀ (w : World) (a : Option Addr) (n c n' c' : Nat), (binOp .eql 22 (.slice a n c) (.slice none n' c')).run Try.prog w = .ok (.bool a.isNone) w := fun w a n c n' c' => Lib.run_eql_slice_nil w _ _ a n c n' c' Try.underlying22
  have hl := bl_length F C
  have hR : Reads w .u8 (some ⟨b, off, none⟩) (bl F C) := .inr ⟨b, off, rfl, fun i hi => by rw [hl] at hi; rw [bl_nth hi]; exact hr i hi⟩
  have HR := Lib.hid (hR.ex ((Ex.refl w).alloc (.cells #[] 5)))
  have HX := Lib.hid ((Ex.refl w).alloc (.cells #[] 5))
  have HO : Hid (Row 5 .u8 (w.alloc (.cells #[] 5)) w.heap.size (.slice (some ⟨w.heap.size, 0, none⟩) 0 0) []) := Lib.hid (row_new 5 .u8 w w.heap.size (Nat.le_refl _) [] #[] rfl (by simp))
  have HL := Lib.hid hl
  clear hr hR hl
  go_enter Try.func13, Try.ntmps13
  go_wp2_with (
    (at_builtin; refine wpList_append_ints rfl _ _ 22 rfl w.heap.size 5 .u8 1 Try.underlying22 info_u8 _ [] rfl HO.out (some ⟨b, off, none⟩) cap (bl F C) (by rw [HL.out]; rfl) (by intro h; cases h) HR.out (by rw [HL.out]; simp; unfold maxLen; omega) (by rw [HL.out]; simp; omega) HX.out.size ?_; intro v' w3 hown3 hgrow3 _))
  go_ret
  exact ⟨v', rfl, Lib.hid (by simpa using hown3), HO.out.grown HX.out hgrow3⟩

end Go.Proofs.Ytebijjigjlcjdaa
