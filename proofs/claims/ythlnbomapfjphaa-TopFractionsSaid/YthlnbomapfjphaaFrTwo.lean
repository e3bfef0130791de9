/-
  A variable of two ints in memory: what it holds, behind stores to it and to others.
-/
import Derived.Test.YthlnbomapfjphaaGnu
import Derived.Laws.Rows
import Derived.Test.YthlnbomapfjphaaChecked
namespace Go.Proofs.Ythlnbomapfjphaa
open Go.RowKit

/-- The block b of w holds the two ints x and y. -/
def Two (T : TypeId) (w : World) (b : Nat) (x y : Int) : Prop := w.heap[b]? = some (.cells #[.int .i64 x, .int .i64 y] T (0, 0))

theorem Two.new (T : TypeId) (w : World) (x y : Int) : Two T (w.alloc (.cells #[.int .i64 x, .int .i64 y] T)) w.heap.size x y := heap_alloc_new _ _
theorem Two.c0 {T : TypeId} {w : World} {b : Nat} {x y : Int} (h : Two T w b x y) : w.cell? ⟨b, 0, none⟩ = some (.int .i64 x) := cell_two0 h
theorem Two.c1 {T : TypeId} {w : World} {b : Nat} {x y : Int} (h : Two T w b x y) : w.cell? ⟨b, 1, none⟩ = some (.int .i64 y) := cell_two1 h
theorem Two.free {T : TypeId} {w : World} {b : Nat} {x y : Int} (h : Two T w b x y) (i : Nat) : w.frozen? ⟨b, i, none⟩ = false := free_two h i
theorem Two.lt {T : TypeId} {w : World} {b : Nat} {x y : Int} (h : Two T w b x y) : b < w.heap.size := (Array.getElem?_eq_some_iff.1 h).1
theorem Two.ex {T : TypeId} {w w2 : World} {b : Nat} {x y : Int} (h : Two T w b x y) (hx : Ex w w2) : Two T w2 b x y := by
  unfold Two at *
  rw [hx.block b (Array.getElem?_eq_some_iff.1 h).1]
  exact h

theorem Two.off {T : TypeId} {w : World} {b c i : Nat} {x y : Int} {u : Value} (h : Two T w b x y) (hc : c ≠ b) : Two T (w.setCell ⟨c, i, none⟩ u) b x y := by
  unfold Two at *
  unfold World.setCell
  simp only [Array.getElem?_modify]
  rw [if_neg hc, h]

theorem Two.s0 {T : TypeId} {w : World} {b : Nat} {x y u : Int} (h : Two T w b x y) : Two T (w.setCell ⟨b, 0, none⟩ (.int .i64 u)) b u y := by
  unfold Two at *
  unfold World.setCell
  simp only [Array.getElem?_modify, if_true, h]
  simp

theorem Two.s1 {T : TypeId} {w : World} {b : Nat} {x y v : Int} (h : Two T w b x y) : Two T (w.setCell ⟨b, 1, none⟩ (.int .i64 v)) b x v := by
  unfold Two at *
  unfold World.setCell
  simp only [Array.getElem?_modify, if_true, h]
  simp

theorem Two.set {T : TypeId} {w : World} {b : Nat} {x y u v : Int} (h : Two T w b x y) : Two T ((w.setCell ⟨b, 0, none⟩ (.int .i64 u)).setCell ⟨b, 1, none⟩ (.int .i64 v)) b u v := h.s0.s1
theorem Two.off2 {T : TypeId} {w : World} {b c : Nat} {x y : Int} {u v : Value} (h : Two T w b x y) (hc : c ≠ b) : Two T ((w.setCell ⟨c, 0, none⟩ u).setCell ⟨c, 1, none⟩ v) b x y := (h.off hc).off hc
theorem Ex.set2 {a b : World} (h : Ex a b) {c : Nat} (hc : a.heap.size ≤ c) (u v : Value) : Ex a ((b.setCell ⟨c, 0, none⟩ u).setCell ⟨c, 1, none⟩ v) := (h.setCell hc u).setCell hc v

theorem two_load {T ty : TypeId} {w : World} {b : Nat} {x y : Int} {fs : Array Field} (h : Two T w b x y) (hu : Try.prog.underlying ty = some (.struct fs))
    (hi : (Try.prog.info? ty).map (·.size) = some 2) : (loadVar ty ⟨b, 0, none⟩).run Try.prog w = .ok (.agg #[.int .i64 x, .int .i64 y]) w := run_loadVar_row w b T ty _ _ (.struct fs) h hu rfl hi

/-- At a return: one variable of two ints. -/
theorem res_two {fn : Func} {p : Tmp} {T ty : TypeId} (h : fn.results = #[.cell p ty]) (tmps : Array Value) (w : World) (b : Nat) (x y : Int) (fs : Array Field) (hp : tmps.getD p undef = .pointer (some ⟨b, 0, none⟩)) (hT : Two T w b x y)
    (hu : Try.prog.underlying ty = some (.struct fs)) (hi : (Try.prog.info? ty).map (·.size) = some 2) :
    (results fn tmps).run Try.prog w = .ok (.agg #[.int .i64 x, .int .i64 y]) w := by
  have hp' : tmps[p]?.getD undef = .pointer (some ⟨b, 0, none⟩) := by simpa using hp
  simp [results, h, hp', asAddr, two_load hT hu hi]

/-- .. and a temporary. -/
theorem res_two1 {fn : Func} {p u : Tmp} {T ty : TypeId} (h : fn.results = #[.cell p ty, .tmp u]) (tmps : Array Value) (w : World) (b : Nat) (x y : Int) (fs : Array Field) (hp : tmps.getD p undef = .pointer (some ⟨b, 0, none⟩)) (hT : Two T w b x y)
    (hu : Try.prog.underlying ty = some (.struct fs)) (hi : (Try.prog.info? ty).map (·.size) = some 2) (r : Value) (hr : tmps.getD u undef = r) :
    (results fn tmps).run Try.prog w = .ok (.tuple #[.agg #[.int .i64 x, .int .i64 y], r]) w := by
  have hp' : tmps[p]?.getD undef = .pointer (some ⟨b, 0, none⟩) := by simpa using hp
  have hr' : tmps[u]?.getD undef = r := by simpa using hr
  simp [results, h, hp', hr', asAddr, two_load hT hu hi, Result.andThen]

/-- Two such variables. -/
theorem res_twos {fn : Func} {p q : Tmp} {T ty : TypeId} (h : fn.results = #[.cell p ty, .cell q ty]) (tmps : Array Value) (w : World) (b c : Nat) (x y z t : Int) (fs : Array Field) (hp : tmps.getD p undef = .pointer (some ⟨b, 0, none⟩)) (hT : Two T w b x y)
    (hq : tmps.getD q undef = .pointer (some ⟨c, 0, none⟩)) (hS : Two T w c z t)
    (hu : Try.prog.underlying ty = some (.struct fs)) (hi : (Try.prog.info? ty).map (·.size) = some 2) :
    (results fn tmps).run Try.prog w = .ok (.tuple #[.agg #[.int .i64 x, .int .i64 y], .agg #[.int .i64 z, .int .i64 t]]) w := by
  have hp' : tmps[p]?.getD undef = .pointer (some ⟨b, 0, none⟩) := by simpa using hp
  have hq' : tmps[q]?.getD undef = .pointer (some ⟨c, 0, none⟩) := by simpa using hq
  simp [results, h, hp', hq', asAddr, two_load hT hu hi, two_load hS hu hi, Sem.run_bind, Result.andThen]

/-- .. and a temporary. -/
theorem res_twos1 {fn : Func} {p q u : Tmp} {T ty : TypeId} (h : fn.results = #[.cell p ty, .cell q ty, .tmp u]) (tmps : Array Value) (w : World) (b c : Nat) (x y z t : Int) (fs : Array Field) (hp : tmps.getD p undef = .pointer (some ⟨b, 0, none⟩)) (hT : Two T w b x y)
    (hq : tmps.getD q undef = .pointer (some ⟨c, 0, none⟩)) (hS : Two T w c z t)
    (hu : Try.prog.underlying ty = some (.struct fs)) (hi : (Try.prog.info? ty).map (·.size) = some 2) (r : Value) (hr : tmps.getD u undef = r) :
    (results fn tmps).run Try.prog w = .ok (.tuple #[.agg #[.int .i64 x, .int .i64 y], .agg #[.int .i64 z, .int .i64 t], r]) w := by
  have hp' : tmps[p]?.getD undef = .pointer (some ⟨b, 0, none⟩) := by simpa using hp
  have hq' : tmps[q]?.getD undef = .pointer (some ⟨c, 0, none⟩) := by simpa using hq
  have hr' : tmps[u]?.getD undef = r := by simpa using hr
  simp [results, h, hp', hq', hr', asAddr, two_load hT hu hi, two_load hS hu hi, Sem.run_bind, Result.andThen]

end Go.Proofs.Ythlnbomapfjphaa
