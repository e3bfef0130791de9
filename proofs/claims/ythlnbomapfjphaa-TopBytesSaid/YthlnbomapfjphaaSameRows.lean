/-
  wholelaw, wholekeep: sameRows, of two tables that read alike.
-/
import Derived.Test.YthlnbomapfjphaaTabTurn
import Derived.Test.YthlnbomapfjphaaGro
namespace Go.Proofs.Ythlnbomapfjphaa
open Go.RowKit
open Gf

theorem sameBytes_any (F : Nat → E) (C : Nat) (hC : C ≤ 100) (b1 o1 b2 o2 c1 c2 : Nat) (w : World) (h1 : ∀ k, k < C → w.cell? ⟨b1, o1 + k, none⟩ = some (.int .u8 (((F k).v : Nat) : Int))) (h2 : ∀ k, k < C → w.cell? ⟨b2, o2 + k, none⟩ = some (.int .u8 (((F k).v : Nat) : Int))) :
    Calls Try.prog 15 #[.slice (some ⟨b1, o1, none⟩) C c1, .slice (some ⟨b2, o2, none⟩) C c2] w (Says (.bool true) w) := by
  have hl := bl_length F C
  have := bytes_equal (bl F C) (bl F C) (some ⟨b1, o1, none⟩) (some ⟨b2, o2, none⟩) c1 c2 w (by rw [hl]; unfold maxLen; omega) (by rw [hl]; unfold maxLen; omega)
    (.inr ⟨b1, o1, rfl, fun i hi => by rw [hl] at hi; rw [bl_nth hi]; exact h1 i hi⟩) (.inr ⟨b2, o2, rfl, fun i hi => by rw [hl] at hi; rw [bl_nth hi]; exact h2 i hi⟩) true (by simp)
  rw [hl] at this
  exact this
theorem entered_bytes : Entered Try.prog 15 := fun _ _ => by kernel_rfl

theorem same_any (F : Nat → E) (C : Nat) (hC : C ≤ 100) (b1 o1 b2 o2 c1 c2 : Nat) (w : World) (h1 : ∀ k, k < C → w.cell? ⟨b1, o1 + k, none⟩ = some (.int .u8 (((F k).v : Nat) : Int))) (h2 : ∀ k, k < C → w.cell? ⟨b2, o2 + k, none⟩ = some (.int .u8 (((F k).v : Nat) : Int))) :
    Calls Try.prog 19 #[.slice (some ⟨b1, o1, none⟩) C c1, .slice (some ⟨b2, o2, none⟩) C c2] w (Says (.bool true) w) := by
  have HS := Lib.hid (sameBytes_any F C hC b1 o1 b2 o2 c1 c2 w h1 h2)
  clear h1 h2
  go_enter Try.func19, Try.ntmps19
  go_wp2_with (go_at_call 15; (with_reducible refine (HS.out).mono ?_); rintro e w2 ⟨rfl, hw2⟩)
  go_ret
  exact ⟨rfl, hw2⟩
theorem entered_same : Entered Try.prog 19 := fun _ _ => by kernel_rfl




end Go.Proofs.Ythlnbomapfjphaa
