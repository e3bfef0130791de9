/-
  slices.Grow at nil and slices.Concat of two, at bytes.
-/
import Derived.Test.YthlnbomapfjphaaGro
import Derived.Test.YthlnbomapfjphaaWide
import Derived.Lib.AppendZerosOnto
import Derived.Laws.AppendOwnNone
import Derived.Lib.SliceRun
namespace Go.Proofs.Ythlnbomapfjphaa
open Go.RowKit

set_option maxHeartbeats 1000000 in
theorem grow_bytes (n : Nat) (w : World) (hn : n ≤ 4000000) :
    Calls Try.prog 128 #[.slice none 0 0, .int .i64 n] w (fun e w2 => ∃ v : Value, e = .returned v ∧ Row 5 .u8 w2 w.heap.size v [] ∧ Ex w w2) := by
  by_cases h0 : n = 0
  · subst h0
    go_enter Try.func128, Try.ntmps128
    go_wp2
    go_ret
    exact ⟨_, rfl, Row.nil _ _ _ _, Ex.refl _⟩
  · obtain ⟨i0, hi, hz0, hz1, hz2⟩ := info_parts info_u8
    have hrz : ∀ ty, (Builtin.append_ #[22, 3] ty #[.slice none 0 0, .int .i64 (n : Int)]).run Try.prog w =
        .ok (.slice (some ⟨w.heap.size, 0, none⟩) n (grownCap w n 0 5)) (w.drew.alloc (.cells ((#[] : Array Value) ++ Builtin.zeroCells (Value.int .u8 0).cells n ++ Builtin.zeroCells (Value.int .u8 0).cells (grownCap w n 0 5 - n)) 5)) := fun ty => by
      have h := Lib.run_append_grow_zeros w 22 3 ty 5 i0 _ .i64 .i64 Try.underlying22 Try.underlying3 hi hz0 none 0 0 [] (run_firstCells_none w.drew i0.size 0 0 0) n (by omega) (by omega) (by omega) (by omega)
        (by rw [hz2]; omega) (by rw [Nat.zero_add, nextslicecap_zero (by omega), hz2]; omega)
      rw [Nat.zero_add] at h
      exact h
    have hG := grownCap_ge w n 0 5
    have hG63 := grownCap_le_maxLen w n 0 5 (by unfold maxLen; omega)
    have HR : Hid (Row 5 .u8 (w.drew.alloc (.cells ((#[] : Array Value) ++ Builtin.zeroCells (Value.int .u8 0).cells n ++ Builtin.zeroCells (Value.int .u8 0).cells (grownCap w n 0 5 - n)) 5)) w.heap.size (.slice (some ⟨w.heap.size, 0, none⟩) 0 (grownCap w n 0 5)) []) := by
      refine World.ownsRow_made (w := w.drew) _ _ (Nat.le_refl _) hG63 ?_
      simp only [Array.size_append, size_zeroCells]
      show 0 + n * 1 + (grownCap w n 0 5 - n) * 1 = _
      omega
    have HX := Lib.hid (((Ex.refl w).drew).alloc (.cells ((#[] : Array Value) ++ Builtin.zeroCells (Value.int .u8 0).cells n ++ Builtin.zeroCells (Value.int .u8 0).cells (grownCap w n 0 5 - n)) 5))
    obtain ⟨G, hg⟩ : ∃ G, G = grownCap w n 0 5 := ⟨_, rfl⟩
    rw [← hg] at hrz hG hG63 HR HX
    obtain ⟨W, hW⟩ : ∃ W, W = w.drew.alloc (.cells ((#[] : Array Value) ++ Builtin.zeroCells (Value.int .u8 0).cells n ++ Builtin.zeroCells (Value.int .u8 0).cells (G - n)) 5) := ⟨_, rfl⟩
    rw [← hW] at hrz HR HX
    have HZ := Lib.hid hrz
    unfold maxLen at hG63
    clear hg hW hi hz0 hz1 hz2 hrz
    go_enter Try.func128, Try.ntmps128
    go_wp2_with (at_builtin; refine Lib.wpList_append_run _ rfl _ _ _ _ rfl _ _ rfl rfl _ _ (HZ.out _) ?_)
    go_ret
    exact ⟨_, rfl, HR.out, HX.out⟩

set_option maxHeartbeats 1000000 in
theorem concat_bytes (x y : List Int) (N M : Nat) (a1 a2 : Option Addr) (k1 k2 b : Nat) (w : World) (hN : x.length = N) (hM : y.length = M) (hx : N ≤ 1000000) (hy : M ≤ 1000000)
    (h1 : w.cell? ⟨b, 0, none⟩ = some (.slice a1 N k1)) (h2 : w.cell? ⟨b, 1, none⟩ = some (.slice a2 M k2)) (r1 : Reads w .u8 a1 x) (r2 : Reads w .u8 a2 y) (n1 : a1 = none → k1 = 0) (n2 : a2 = none → k2 = 0) :
    Calls Try.prog 107 #[.slice (some ⟨b, 0, none⟩) 2 2] w (fun e w2 => ∃ v : Value, e = .returned v ∧ Hid (Row 5 .u8 w2 w.heap.size v (x ++ y)) ∧ Ex w w2) := by
  subst hN
  subst hM
  have H1 := Lib.hid h1
  have H2 := Lib.hid h2
  have R1 := Lib.hid r1
  have R2 := Lib.hid r2
  have N1 := Lib.hid n1
  have N2 := Lib.hid n2
  clear r1 r2 n1 n2
  have HG := Lib.hid (grow_bytes (x.length + y.length) w (by omega))
  rw [Int.natCast_add] at HG
  go_enter Try.func107, Try.ntmps107
  go_wp2
  refine wp_loop_rounds 3 ?_
  rw [rounds_succ]
  go_wp2
  rw [rounds_succ]
  go_wp2
  rw [rounds_succ]
  go_wp2_with (go_at_call 128; refine (HG.out).mono ?_; rintro e w1 ⟨vg, rfl, hown1, hx1⟩)
  have g1 := hx1.cell h1
  have g2 := hx1.cell h2
  have HO1 := Lib.hid hown1
  have HX1 := Lib.hid hx1
  clear hown1 hx1 h1 h2
  refine wp_loop_rounds 3 ?_
  rw [rounds_succ]
  go_wp2_with (at_builtin; refine wpList_append_ints rfl _ _ 22 rfl w.heap.size 5 .u8 1 Try.underlying22 info_u8 _ [] rfl HO1.out a1 k1 x rfl N1.out (R1.out.ex HX1.out) (by simp; unfold maxLen; omega) (by simp; omega) HX1.out.size ?_; intro v2 w3 hown3 hgrow3 _)
  have HX3 := Lib.hid (Row.grown HO1.out HX1.out hgrow3)
  have HO3 : Hid (Row 5 .u8 w3 w.heap.size v2 x) := Lib.hid hown3
  have q2 := HX3.out.cell H2.out
  clear hgrow3 hown3 g1 g2
  rw [rounds_succ]
  go_wp2_with (at_builtin; refine wpList_append_ints rfl _ _ 22 rfl w.heap.size 5 .u8 1 Try.underlying22 info_u8 _ x rfl HO3.out a2 k2 y rfl N2.out (R2.out.ex HX3.out) (by unfold maxLen; omega) (by omega) HX3.out.size ?_; intro v4 w4 hown4 hgrow4 _)
  have HX4 := Lib.hid (Row.grown HO3.out HX3.out hgrow4)
  have HO4 := Lib.hid hown4
  clear hgrow4 hown4 q2
  rw [rounds_succ]
  go_wp2
  go_ret
  exact ⟨_, rfl, HO4, HX4.out⟩

/-- The two at hand as a literal. -/
theorem concat_bytes_at (x y c : List Int) (N M n : Nat) (a1 a2 : Option Addr) (k1 k2 : Nat) (w : World) (hc : x ++ y = c) (hn : w.heap.size = n) (hN : x.length = N) (hM : y.length = M) (hx : N ≤ 1000000) (hy : M ≤ 1000000)
    (r1 : Reads w .u8 a1 x) (r2 : Reads w .u8 a2 y) (n1 : a1 = none → k1 = 0) (n2 : a2 = none → k2 = 0) :
    Calls Try.prog 107 #[.slice (some ⟨n, 0, none⟩) 2 2] (w.alloc (.cells #[.slice a1 N k1, .slice a2 M k2] 22))
      (fun e w2 => ∃ v : Value, e = .returned v ∧ Hid (Row 5 .u8 w2 w.heap.size v c) ∧ Ex w w2) := by
  subst hc
  subst hn
  refine (concat_bytes x y N M a1 a2 k1 k2 w.heap.size _ hN hM hx hy (by simp) (by simp) (r1.ex ((Ex.refl w).alloc _)) (r2.ex ((Ex.refl w).alloc _)) n1 n2).mono ?_
  rintro e w2 ⟨v, rfl, hr, hx2⟩
  exact ⟨v, rfl, Lib.hid (hr.out.less (by rw [World.size_alloc]; omega)), ((Ex.refl w).alloc _).trans hx2⟩

end Go.Proofs.Ythlnbomapfjphaa
