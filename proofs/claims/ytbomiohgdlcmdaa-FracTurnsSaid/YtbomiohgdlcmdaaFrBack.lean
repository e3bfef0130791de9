/-
  30 by 13; FracBack, walked.
-/
import Derived.Test.YtbomiohgdlcmdaaFrValue
import Derived.Test.YtbomiohgdlcmdaaFrSums
import Derived.Test.YtbomiohgdlcmdaaEqual
import Derived.Test.YtbomiohgdlcmdaaEuWalks
import Derived.Test.YtbomiohgdlcmdaaMixP
namespace Go.Proofs.Ytbomiohgdlcmdaa
open Go.RowKit
open Eu Fr

theorem cf_30 : cf 30 13 = [2, 3, 4] := by
  rw [cf_step (by decide), show (30 : Int) / 13 = 2 by decide, show (30 : Int) % 13 = 4 by decide, cf_step (by decide), show (13 : Int) / 4 = 3 by decide, show (13 : Int) % 4 = 1 by decide, cf_step (by decide), show (4 : Int) / 1 = 4 by decide, show (4 : Int) % 1 = 0 by decide, cf_none (by decide)]

theorem of_30 (w : World) : Calls Try.prog 9 #[.agg #[.int .i64 30, .int .i64 13]] w (fun e w2 => ∃ a cap, e = .returned (.tuple #[.slice a 3 cap, .int .i64 0]) ∧ Hid (Reads w2 .i64 a [2, 3, 4]) ∧ Ex w w2) := by
  refine (of_ok 30 13 w ⟨by decide, by decide, by decide, by decide⟩).mono ?_
  rintro e w2 ⟨v, rfl, hR, hx⟩
  have h := hR.out
  rw [cf_30] at h
  obtain ⟨a, cap, rfl, _, hr, _⟩ := h.reads
  exact ⟨a, cap, rfl, Lib.hid hr, hx⟩

theorem value_234 (w : World) (a : Option Addr) (hr : Reads w .i64 a [2, 3, 4]) : Calls Try.prog 10 #[.slice a 3 3] w (Says (.tuple #[.agg #[.int .i64 30, .int .i64 13], .int .i64 0]) w) := by
  have h := value_ok [2, 3, 4] a 3 w (by decide) hr (by decide) (fun i hi => by
    have h3 : i = 0 ∨ i = 1 ∨ i = 2 := by simp at hi; omega
    rcases h3 with rfl | rfl | rfl <;> exact ⟨by decide, by decide, by decide⟩)
  exact h

theorem value_lit (w : World) (T : TypeId) : Calls Try.prog 10 #[.slice (some ⟨w.heap.size, 0, none⟩) 3 3] (w.alloc (.cells #[.int .i64 2, .int .i64 3, .int .i64 4] T)) (Says (.tuple #[.agg #[.int .i64 30, .int .i64 13], .int .i64 0]) (w.alloc (.cells #[.int .i64 2, .int .i64 3, .int .i64 4] T))) :=
  value_234 _ _ (reads_new .i64 [2, 3, 4] _ rfl T w)

theorem equal_lit (w : World) (T : TypeId) (a : Option Addr) (ca : Nat) (h1 : Reads w .i64 a [2, 3, 4]) : Calls Try.prog 11 #[.slice a 3 ca, .slice (some ⟨w.heap.size, 0, none⟩) 3 3] (w.alloc (.cells #[.int .i64 2, .int .i64 3, .int .i64 4] T)) (Says (.bool true) (w.alloc (.cells #[.int .i64 2, .int .i64 3, .int .i64 4] T))) :=
  ints_equal [2, 3, 4] [2, 3, 4] a _ ca 3 _ (by decide) (by decide) (h1.ex ((Ex.refl w).alloc _)) (reads_new .i64 [2, 3, 4] _ rfl T w) true (by decide)

theorem good2 (w : World) (b : Nat) (T : TypeId) (h : b = w.heap.size) : Calls Try.prog 19 #[.slice (some ⟨b, 0, none⟩) 2 2] (w.alloc (.cells #[.int .i64 0, .int .i64 0] T)) (Says (.bool true) w) := by
  subst h; exact good_zeros 2 (by omega) _ rfl T w

theorem good3 (w : World) (b : Nat) (T : TypeId) (h : b = w.heap.size) : Calls Try.prog 19 #[.slice (some ⟨b, 0, none⟩) 3 3] (w.alloc (.cells #[.int .i64 0, .int .i64 0, .int .i64 0] T)) (Says (.bool true) w) := by
  subst h; exact good_zeros 3 (by omega) _ rfl T w

theorem good3_dr (w : World) (b : Nat) (T : TypeId) (h : b = w.heap.size) : Calls Try.prog 19 #[.slice (some ⟨b, 0, none⟩) 3 3] (w.alloc (.cells #[.int .i64 0, .int .i64 0, .int .i64 0] T)).drew (Says (.bool true) w) := by
  subst h; exact good_zeros_dr 3 (by omega) _ rfl T w

theorem good2_dr (w : World) (b : Nat) (T : TypeId) (h : b = w.heap.size) : Calls Try.prog 19 #[.slice (some ⟨b, 0, none⟩) 2 2] (w.alloc (.cells #[.int .i64 0, .int .i64 0] T)).drew (Says (.bool true) w) := by
  subst h; exact good_zeros_dr 2 (by omega) _ rfl T w

set_option maxHeartbeats 1000000 in
theorem fracs_yes (w : World) : Calls Try.prog 17 #[] w (Says (.bool true) w) := by
  have H1 := Lib.hid of_30
  have H2 := Lib.hid value_lit
  have H3 := Lib.hid equal_lit
  have H4 := Lib.hid good2
  go_enter Try.func17, Try.ntmps17
  go_wp2_with (first
    | (go_at_call 9; (with_reducible refine (H1.out _).mono ?_); rintro e w1 ⟨a1, k1, rfl, hr1, hw1⟩)
    | (go_at_call 10; (with_reducible refine (H2.out _ _).mono ?_); rintro e w2 ⟨rfl, hw2⟩; have HT := Lib.hid (Two.new 23 w2 30 13); have HR2 := Lib.hid ((hr1.out.ex ((Ex.refl w1).alloc _)).ex hw2))
    | (go_at_call 19; (with_reducible refine (H4.out _ _ _ (by simp)).mono ?_); rintro e w3 ⟨rfl, hw3⟩; have HT3 := Lib.hid (HT.out.ex hw3); have HR3 := Lib.hid ((HR2.out.ex ((Ex.refl w2).alloc (.cells #[.int .i64 30, .int .i64 13] 23))).ex hw3))
    | (go_at_call 11; (with_reducible refine (H3.out _ _ _ _ HR3.out).mono ?_); rintro e w4 ⟨rfl, hw4⟩; have HT4 := Lib.hid ((HT3.out.ex ((Ex.refl w3).alloc _)).ex hw4); have q0 := HT4.out.c0; have q1 := HT4.out.c1))
  go_ret
  exact ⟨by first | rfl | (simp; done) | (simp; omega), (((hw1.trans (((Ex.refl w1).alloc _).trans hw2)).trans (((Ex.refl w2).alloc _).trans hw3)).trans ((Ex.refl w3).alloc _)).trans hw4⟩

end Go.Proofs.Ytbomiohgdlcmdaa
