/-
  slices.Equal, Grow, Concat at powers; PrimeOne, walked.
-/
import Derived.Test.YtcgcjecmlnohbaaPowers
import Derived.Lib.AppendZerosOnto
import Derived.Laws.AppendOwnNone
import Derived.Lib.SliceRun
namespace Go.Proofs.Ytcgcjecmlnohbaa
open Go.RowKit
open Pr

set_option maxHeartbeats 1000000 in
theorem powers_equal (xs : List (Int × Nat)) (a b : Option Addr) (ca cb : Nat) (w : World) (hl : xs.length ≤ 2000000) (hr : ReadsP w a ca xs) (hr2 : ReadsP w b cb xs) :
    Calls Try.prog 15 #[.slice a xs.length ca, .slice b xs.length cb] w (Says (.bool true) w) := by
  rcases hr with ⟨rfl, rfl, rfl⟩ | ⟨g, rfl, hc⟩
  · clear hr2
    go_enter Try.func15, Try.ntmps15
    go_wp2
    refine wp_loop_rounds 1 ?_
    rw [rounds_succ]
    go_wp2
    go_ret
    exact .same
  · rcases hr2 with ⟨rfl, rfl, rfl⟩ | ⟨g2, rfl, hd⟩
    · clear hc
      go_enter Try.func15, Try.ntmps15
      go_wp2
      refine wp_loop_rounds 1 ?_
      rw [rounds_succ]
      go_wp2
      go_ret
      exact .same
    · have HC := Lib.hid hc
      have HD := Lib.hid hd
      clear hc hd
      go_enter Try.func15, Try.ntmps15
      go_wp2
      go_loopg [13] xs.length (fun k v13 wr => ∃ i : Nat, i ≤ xs.length ∧ v13 = .int .i64 i ∧ Hid (k = xs.length - i) ∧ Ex w wr)
      case atStart => exact ⟨0, Nat.zero_le _, rfl, Lib.hid rfl, Ex.refl _⟩
      case round =>
        obtain ⟨i, hi, rfl, hk, hw⟩ := hrel
        by_cases hlt : i < xs.length
        · have i1 : (0 : Int) ≤ (i : Int) := by omega
          have i2 : (i : Int) < (xs.length : Int) := by omega
          go_wp2
          have hc0 : ∀ x : Wo wr, x.val.cell? ⟨g, i * 2, none⟩ = some (.int .i64 (nthP xs i).1) := fun x => x.ex.cell (hw.cell (HC.out i hlt).1)
          have hc1 : ∀ x : Wo wr, x.val.cell? ⟨g, i * 2 + 1, none⟩ = some (.int .i64 ((nthP xs i).2 : Nat)) := fun x => x.ex.cell (hw.cell (HC.out i hlt).2)
          have hd0 : ∀ x : Wo wr, x.val.cell? ⟨g2, i * 2, none⟩ = some (.int .i64 (nthP xs i).1) := fun x => x.ex.cell (hw.cell (HD.out i hlt).1)
          have hd1 : ∀ x : Wo wr, x.val.cell? ⟨g2, i * 2 + 1, none⟩ = some (.int .i64 ((nthP xs i).2 : Nat)) := fun x => x.ex.cell (hw.cell (HD.out i hlt).2)
          refine wp_region_wo (by kernel_rfl) (by kernel_rfl) ?_
          repeat (go_big_quiet_step (fail))
          refine wpQuiet_nil ?_
          rintro _ ⟨⟨w3, hw3⟩, rfl⟩
          clear hc0 hc1 hd0 hd1
          go_wp2
          go_roundg (xs.length - (i + 1))
          case measure => have := hk.out; omega
          case rel => exact ⟨i + 1, by omega, by go_num, Lib.hid rfl, hw.trans hw3⟩
        · have e : i = xs.length := by omega
          subst e
          go_wp2
          go_ret
          exact ⟨rfl, hw⟩

set_option maxHeartbeats 400000 in
theorem same_any (x : Int × Nat) (b : Nat) (q : Int) (w : World) (hc : w.cell? ⟨b, 0, none⟩ = some (.int .i64 q)) :
    Calls Try.prog 19 #[.agg #[.int .i64 x.1, .int .i64 (x.2 : Nat)], .pointer (some ⟨b, 0, none⟩)] w (Says (.bool (x.1 == q)) w) := by
  have hc2 := ((Ex.refl w).alloc (.cells #[.int .i64 x.1, .int .i64 (x.2 : Nat)] 32)).cell hc
  go_enter Try.func19, Try.ntmps19
  go_wp2
  go_ret
  exact ⟨rfl, (Ex.refl w).alloc _⟩

theorem entered_same : Entered Try.prog 19 := fun _ _ => by kernel_rfl

theorem wpList_append_reads {P : Program} {w : World} {ops : Array Oper} {rest : List Oper} {o : Oper} {a : Act} {Q : Exit → Act → World → Prop} (hgd : o.guard = none) (s x : Operand) (t : TypeId)
    (ho : o.op = .call { callee := .builtin .append, args := #[s, x], argTypes := #[t, t] })
    (base : Nat) (e : TypeId) (i : TypeInfo) (z : Value) (bytes : Nat) (ht : P.underlying t = some (.slice e)) (hi : P.info? e = some i) (hz : i.zero = some z)
    (hsize : i.size = 2) (hby : i.bytes = bytes) (hzs : z.cells.size = 2)
    (v : Value) (n : Nat) (xs : List Value) (hs : a.eval s = v) (hown : w.ownsRow base e 2 v n xs)
    (ad : Option Addr) (c : Nat) (l : List (Int × Nat)) (hx : a.eval x = .slice ad l.length c) (hr : ReadsP w ad c l)
    (h63 : n + l.length ≤ maxLen) (hbytes : (n + l.length) * bytes ≤ 140737488355328) (hbase : base ≤ w.heap.size)
    (h : ∀ v' w', w'.ownsRow base e 2 v' (n + l.length) (xs ++ pcs l) → w.grownBy w' v.ownBlock → wpList P ops Q rest (a.put o.dst v') w') : wpList P ops Q (o :: rest) a w := by
  rcases hr with ⟨rfl, rfl, rfl⟩ | ⟨g, rfl, hc⟩
  · refine wpList_append_own_none hgd s x t ho base e i 2 ht hi v n xs hs hown hx (h v w ?_ (World.grownBy.refl w _))
    simpa [pcs] using hown
  · exact wpList_append_own w hgd s x t ho base e i z 2 bytes ht hi hz hsize hby hzs (by decide) v n xs hs hown ⟨g, 0, none⟩ l.length c (pcs l) hx (pcs_length l) (ReadsP.cells hc) (pcs_one l) h63 hbytes hbase fun v' w' h1 h2 _ => h v' w' h1 h2

set_option maxHeartbeats 1000000 in
theorem grow_nil (n : Nat) (w : World) (hn : n ≤ 4000000) :
    Calls Try.prog 25 #[.slice none 0 0, .int .i64 n] w (fun e w2 => ∃ v : Value, e = .returned v ∧ w2.ownsRow w.heap.size 32 2 v 0 [] ∧ Ex w w2) := by
  by_cases h0 : n = 0
  · subst h0
    go_enter Try.func25, Try.ntmps25
    go_wp2
    go_ret
    exact ⟨_, rfl, World.ownsRow_nil _ _ _ _, Ex.refl _⟩
  · obtain ⟨i0, hi, hz0, hz1, hz2⟩ := info_parts info_power
    have hrz : ∀ ty, (Builtin.append_ #[27, 3] ty #[.slice none 0 0, .int .i64 (n : Int)]).run Try.prog w =
        .ok (.slice (some ⟨w.heap.size, 0, none⟩) n (grownCap w n 0 32)) (w.drew.alloc (.cells ((#[] : Array Value) ++ Builtin.zeroCells (Value.agg #[.int .i64 0, .int .i64 0]).cells n ++ Builtin.zeroCells (Value.agg #[.int .i64 0, .int .i64 0]).cells (grownCap w n 0 32 - n)) 32)) := fun ty => by
      have h := Lib.run_append_grow_zeros w 27 3 ty 32 i0 _ .i64 .i64 Try.underlying27 Try.underlying3 hi hz0 none 0 0 [] (run_firstCells_none w.drew i0.size 0 0 0) n (by omega) (by omega) (by omega) (by omega)
        (by rw [hz2]; omega) (by rw [Nat.zero_add, nextslicecap_zero (by omega), hz2]; omega)
      rw [Nat.zero_add] at h
      exact h
    have hG := grownCap_ge w n 0 32
    have hG63 := grownCap_le_maxLen w n 0 32 (by unfold maxLen; omega)
    have HR : Hid ((w.drew.alloc (.cells ((#[] : Array Value) ++ Builtin.zeroCells (Value.agg #[.int .i64 0, .int .i64 0]).cells n ++ Builtin.zeroCells (Value.agg #[.int .i64 0, .int .i64 0]).cells (grownCap w n 0 32 - n)) 32)).ownsRow w.heap.size 32 2 (.slice (some ⟨w.heap.size, 0, none⟩) 0 (grownCap w n 0 32)) 0 []) := by
      refine World.ownsRow_made (w := w.drew) _ _ (Nat.le_refl _) hG63 ?_
      simp only [Array.size_append, size_zeroCells]
      show 0 + n * 2 + (grownCap w n 0 32 - n) * 2 = _
      omega
    have HX := Lib.hid (((Ex.refl w).drew).alloc (.cells ((#[] : Array Value) ++ Builtin.zeroCells (Value.agg #[.int .i64 0, .int .i64 0]).cells n ++ Builtin.zeroCells (Value.agg #[.int .i64 0, .int .i64 0]).cells (grownCap w n 0 32 - n)) 32))
    obtain ⟨G, hg⟩ : ∃ G, G = grownCap w n 0 32 := ⟨_, rfl⟩
    rw [← hg] at hrz hG hG63 HR HX
    obtain ⟨W, hW⟩ : ∃ W, W = w.drew.alloc (.cells ((#[] : Array Value) ++ Builtin.zeroCells (Value.agg #[.int .i64 0, .int .i64 0]).cells n ++ Builtin.zeroCells (Value.agg #[.int .i64 0, .int .i64 0]).cells (G - n)) 32) := ⟨_, rfl⟩
    rw [← hW] at hrz HR HX
    have HZ := Lib.hid hrz
    unfold maxLen at hG63
    clear hg hW hi hz0 hz1 hz2 hrz
    go_enter Try.func25, Try.ntmps25
    go_wp2_with (at_builtin; refine Lib.wpList_append_run _ rfl _ _ _ _ rfl _ _ rfl rfl _ _ (HZ.out _) ?_)
    go_ret
    exact ⟨_, rfl, HR.out, HX.out⟩

set_option maxHeartbeats 1000000 in
theorem concat_two (x y : List (Int × Nat)) (a1 a2 : Option Addr) (k1 k2 b : Nat) (w : World) (hx : x.length ≤ 1000000) (hy : y.length ≤ 1000000)
    (h1 : w.cell? ⟨b, 0, none⟩ = some (.slice a1 x.length k1)) (h2 : w.cell? ⟨b, 1, none⟩ = some (.slice a2 y.length k2)) (r1 : ReadsP w a1 k1 x) (r2 : ReadsP w a2 k2 y) :
    Calls Try.prog 17 #[.slice (some ⟨b, 0, none⟩) 2 2] w (fun e w2 => ∃ v : Value, e = .returned v ∧ w2.ownsRow w.heap.size 32 2 v (x ++ y).length (pcs (x ++ y)) ∧ Ex w w2) := by
  have H1 := Lib.hid h1
  have H2 := Lib.hid h2
  have R1 := Lib.hid r1
  have R2 := Lib.hid r2
  clear r1 r2
  have HG := Lib.hid (grow_nil (x.length + y.length) w (by omega))
  rw [Int.natCast_add] at HG
  go_enter Try.func17, Try.ntmps17
  go_wp2
  refine wp_loop_rounds 3 ?_
  rw [rounds_succ]
  go_wp2
  rw [rounds_succ]
  go_wp2
  rw [rounds_succ]
  go_wp2_with (go_at_call 25; refine (HG.out).mono ?_; rintro e w1 ⟨vg, rfl, hown1, hx1⟩)
  have g1 := hx1.cell h1
  have g2 := hx1.cell h2
  obtain ⟨i0, hi, hz0, hz1, hz2⟩ := info_parts info_power
  have HI := Lib.hid hi
  have HZ0 := Lib.hid hz0
  have HZ1 := Lib.hid hz1
  have HZ2 := Lib.hid hz2
  have HO1 := Lib.hid hown1
  have HX1 := Lib.hid hx1
  clear hi hz0 hz1 hz2 hown1 hx1 h1 h2
  refine wp_loop_rounds 3 ?_
  rw [rounds_succ]
  go_wp2_with (at_builtin; refine wpList_append_reads rfl _ _ 27 rfl w.heap.size 32 i0 _ 16 Try.underlying27 HI.out HZ0.out HZ1.out HZ2.out rfl _ _ _ rfl HO1.out a1 k1 x rfl (R1.out.ex HX1.out) (by unfold maxLen; omega) (by omega) HX1.out.size ?_; intro v2 w3 hown3 hgrow3)
  have HX3 := Lib.hid (ex_append HX1.out HO1.out hgrow3)
  have HO3 := Lib.hid hown3
  have q2 := HX3.out.cell H2.out
  clear hgrow3 hown3 g1 g2
  rw [rounds_succ]
  go_wp2_with (at_builtin; refine wpList_append_reads rfl _ _ 27 rfl w.heap.size 32 i0 _ 16 Try.underlying27 HI.out HZ0.out HZ1.out HZ2.out rfl _ _ _ rfl HO3.out a2 k2 y rfl (R2.out.ex HX3.out) (by unfold maxLen; omega) (by omega) HX3.out.size ?_; intro v4 w4 hown4 hgrow4)
  have HX4 := Lib.hid (ex_append HX3.out HO3.out hgrow4)
  have HO4 := Lib.hid hown4
  clear hgrow4 hown4 q2
  rw [rounds_succ]
  go_wp2
  go_ret
  refine ⟨_, rfl, ?_, HX4.out⟩
  have h5 := HO4.out
  rw [Nat.zero_add, List.nil_append, ← pcs_append, ← List.length_append] at h5
  exact h5

end Go.Proofs.Ytcgcjecmlnohbaa
