/-
  wholetop: works, good.
-/
import Derived.Test.YtjccpfpldbjcbaaGrb
import Derived.Test.YtjccpfpldbjcbaaGre
import Derived.Test.YtjccpfpldbjcbaaGnu
namespace Go.Proofs.Ytjccpfpldbjcbaa
open Go.RowKit
open Eu Gf

set_option maxHeartbeats 400000 in
theorem tbad_any (x : Int) (w : World) : Calls Try.prog 36 #[.int .i64 x] w (Says (.bool (x != 0)) w) := by
  go_enter Try.func36, Try.ntmps36
  go_wp2
  go_ret
  exact .same

theorem entered_tbad : Entered Try.prog 36 := fun _ _ => by kernel_rfl

set_option maxHeartbeats 400000 in
theorem tgood_any (xs : List Int) (a : Option Addr) (cap : Nat) (w : World) (hl : xs.length ≤ maxLen) (hr : Reads w .i64 a xs) :
    Calls Try.prog 19 #[.slice a xs.length cap] w (Says (.bool (okAll xs)) w) := by
  have HI := Lib.hid (errnos_contains 36 #[] (fun x => x != 0) xs a cap w hl hr entered_tbad (fun x _ w2 _ => tbad_any x w2))
  clear hr
  go_enter Try.func19, Try.ntmps19
  go_wp2_with ((go_at_call 35; refine (HI.out).mono ?_; rintro e w2 ⟨rfl, hw2⟩))
  go_ret
  exact ⟨rfl, hw2⟩

theorem tgood_zeros (n : Nat) (hn : n ≤ 1000) (vs : Array Value) (h : vs = (List.replicate n (Value.int .i64 0)).toArray) (T : TypeId) (w : World) :
    Calls Try.prog 19 #[.slice (some ⟨w.heap.size, 0, none⟩) n n] (w.alloc (.cells vs T)) (Says (.bool true) w) := by
  have hr := reads_new .i64 (List.replicate n 0) vs (by rw [h, List.map_replicate]) T w
  have := tgood_any (List.replicate n 0) _ n _ (by unfold maxLen; simp; omega) hr
  rw [List.length_replicate] at this
  have e : okAll (List.replicate n 0) = true := by simp [okAll]
  rw [e] at this
  exact this.mono fun _ _ ⟨he, hx⟩ => ⟨he, ((Ex.refl w).alloc _).trans hx⟩

theorem tgood_zeros_dr (n : Nat) (hn : n ≤ 1000) (vs : Array Value) (h : vs = (List.replicate n (Value.int .i64 0)).toArray) (T : TypeId) (w : World) :
    Calls Try.prog 19 #[.slice (some ⟨w.heap.size, 0, none⟩) n n] (w.alloc (.cells vs T)).drew (Says (.bool true) w) := by
  have hr := (reads_new .i64 (List.replicate n 0) vs (by rw [h, List.map_replicate]) T w).ex (Ex.refl _).drew
  have := tgood_any (List.replicate n 0) _ n _ (by unfold maxLen; simp; omega) hr
  rw [List.length_replicate] at this
  have e : okAll (List.replicate n 0) = true := by simp [okAll]
  rw [e] at this
  exact this.mono fun _ _ ⟨he, hx⟩ => ⟨he, (((Ex.refl w).alloc _).drew).trans hx⟩

set_option maxRecDepth 100000 in
set_option maxHeartbeats 1000000 in
theorem works_yes (HP : RePutC) (w : World) : Calls Try.prog 15 #[] w (Says (.bool true) w) := by
  have HG := Lib.hid fun w => gcd_ok 12 18 w (by omega) (by omega) (by omega) (by omega)
  rw [show G 12 18 = 6 by decide] at HG
  have H1 : Hid (∀ w, Calls Try.prog 12 #[.slice (some ⟨w.heap.size, 0, none⟩) 2 2, .int .i64 3] (w.alloc (.cells #[.int .u8 5, .int .u8 7] 5)) (Vec2 3 (cr 2 l57) w)) := Lib.hid fun w => by
    have := HP.ok (n := 3) (ca := 2) (by omega) (by omega) (by omega) (by omega) (by omega) (lit_57 w 5)
    exact this.mono fun e w2 ⟨a2, c2, h1, h2, h3, h4⟩ => ⟨a2, c2, h1, h2, h3, ((Ex.refl w).alloc _).trans h4⟩
  go_enter Try.func15, Try.ntmps15
  go_upto_region 3 with (first
    | (go_at_call 26; (with_reducible refine (HG.out _).mono ?_); rintro e w0 ⟨rfl, hw0⟩)
    | (go_at_call 12; (with_reducible refine (H1.out _).mono ?_); rintro e w1 ⟨a1, c1, rfl, hc1, hR1, hw1⟩))
  obtain ⟨g, o, rfl, hc⟩ := hR1.out
  have q2 := hc 2 (by omega)
  rw [cr_57.2.2, ] at q2
  clear hc hR1
  go_wp2
  go_ret
  exact ⟨rfl, hw0.trans hw1⟩

end Go.Proofs.Ytjccpfpldbjcbaa
