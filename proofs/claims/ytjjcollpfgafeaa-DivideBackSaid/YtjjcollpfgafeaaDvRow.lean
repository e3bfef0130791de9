/-
  Rows of integers of one's own, more: written out, made, cloned, sorted.
-/
import Derived.Test.YtjjcollpfgafeaaRows2
import Derived.Test.YtjjcollpfgafeaaDivs
import Derived.Test.YtjjcollpfgafeaaShelf
namespace Go.Proofs.Ytjjcollpfgafeaa
open Go.RowKit

theorem row_new (e : TypeId) (k : IntKind) (w : World) (base : Nat) (hb : base ≤ w.heap.size) (xs : List Int) (vs : Array Value) (h : vs = (xs.map (Value.int k)).toArray) (hl : xs.length ≤ maxLen) :
    Row e k (w.alloc (.cells vs e)) base (.slice (some ⟨w.heap.size, 0, none⟩) xs.length xs.length) xs := by
  subst h
  exact ⟨by simp, .inr ⟨w.heap.size, xs.length, _, rfl, hb, heap_alloc_new w _, Nat.le_refl _, hl, by simp, by simp [List.take_of_length_le]⟩⟩

section
variable {P : Program} {w : World} {ops : Array Oper} {rest : List Oper} {o : Oper} {a : Act} {Q : Exit → Act → World → Prop}

/-- make([]int, n): a row of n noughts. -/
theorem wpList_make_ints (hg : o.guard = none) (l c : Operand) (t : TypeId) (hop : o.op = Op.makeSlice t l c)
    (base : Nat) (e : TypeId) (k : IntKind) (bytes : Nat) (ht : P.underlying t = some (.slice e)) (hinfo : (P.info? e).map (fun i => (i.zero, i.size, i.bytes)) = some (some (.int k 0), 1, bytes))
    (kl kc : IntKind) (n : Nat) (hl : a.eval l = .int kl (n : Int)) (hc : a.eval c = .int kc (n : Int)) (b2 : bytes * n ≤ 281474976710656) (b3 : n ≤ maxLen) (b4 : base ≤ w.heap.size)
    (h : ∀ w', Row e k w' base (.slice (some ⟨w.heap.size, 0, none⟩) n n) (List.replicate n 0) → w.grownBy w' none → wpList P ops Q rest (a.put o.dst (.slice (some ⟨w.heap.size, 0, none⟩) n n)) w') : wpList P ops Q (o :: rest) a w := by
  obtain ⟨i, hi, hz, hsz, hby⟩ := info_parts hinfo
  refine wpList_make_full w hg l c t hop base e i _ 1 ht hi hz hsz kl kc n n n hl hc rfl rfl (by rw [hby]; exact b2) b3 b4 ?_
  intro w' h1 h2
  refine h w' ?_ h2
  unfold Row
  have e1 : (Value.int k 0).cells = #[.int k 0] := rfl
  rw [e1, Nat.mul_one, toList_madeCells_one] at h1
  simpa using h1
end

set_option maxHeartbeats 1000000 in
theorem clone_ints (xs : List Int) (a : Option Addr) (cap : Nat) (w : World) (hl : xs.length * 8 ≤ 140737488355328) (hr : Reads w .i64 a xs) (hnil : a = none → cap = 0) :
    Calls Try.prog 29 #[.slice a xs.length cap] w (fun e w2 => ∃ v, e = .returned v ∧ Hid (Row 3 .i64 w2 w.heap.size v xs) ∧ Ex w w2) := by
  have q22 : ∀ (w : World) (a : Option Addr) (n c n' c' : Nat), (binOp .eql 22 (.slice a n c) (.slice none n' c')).run Try.prog w = .ok (.bool a.isNone) w := fun w a n c n' c' => Lib.run_eql_slice_nil w _ _ a n c n' c' Try.underlying22
  cases a with
  | none =>
    obtain rfl : xs = [] := by
      rcases hr with rfl | ⟨b, off, h, _⟩
      · rfl
      · cases h
    go_enter Try.func29, Try.ntmps29
    go_wp2
    go_ret
    exact ⟨_, rfl, Lib.hid (Row.nil _ _ _ _), Ex.refl _⟩
  | some p =>
    have HR := Lib.hid (hr.ex ((Ex.refl w).alloc (.cells #[] 3)))
    have HX := Lib.hid ((Ex.refl w).alloc (.cells #[] 3))
    have HO : Hid (Row 3 .i64 (w.alloc (.cells #[] 3)) w.heap.size (.slice (some ⟨w.heap.size, 0, none⟩) 0 0) []) := Lib.hid (row_new 3 .i64 w w.heap.size (Nat.le_refl _) [] #[] rfl (by simp))
    clear hr hnil
    go_enter Try.func29, Try.ntmps29
    go_wp2_with (
      (at_builtin; refine wpList_append_ints rfl _ _ 22 rfl w.heap.size 3 .i64 8 Try.underlying22 info_int _ [] rfl HO.out (some p) cap xs rfl (by intro h; cases h) HR.out (by simp; unfold maxLen; omega) (by simp; omega) HX.out.size ?_; intro v' w3 hown3 hgrow3 _))
    go_ret
    exact ⟨v', rfl, Lib.hid (by simpa using hown3), HO.out.grown HX.out hgrow3⟩

section
open Go.Sort

theorem holds_ints {w : World} {g : Nat} {cur : Array Value} {e : TypeId} {ss : List Int} (hb : w.heap[g]? = some (.cells cur e (0, 0))) (ht : cur.toList.take ss.length = ss.map (Value.int .i64)) : Holds (Value.int .i64) w g 0 ss.toArray := by
  intro j hj
  have hj' : j < ss.length := by simpa using hj
  refine ⟨?_, by simp [World.frozen?, hb]⟩
  have h1 : (cur.toList.take ss.length)[j]? = (ss.map (Value.int .i64))[j]? := by rw [ht]
  rw [List.getElem?_take_of_lt hj'] at h1
  simp only [World.cell?, hb, Nat.zero_add]
  simp only [Option.isSome_none, Bool.false_eq_true, if_false]
  rw [← Array.getElem?_toList, h1]
  simp [hj']

theorem heap_ints {w : World} {g n : Nat} {os : Array Obj} {cur : Array Value} {e : TypeId} {fr : Nat × Nat} (d : Array Int) (hb : w.heap[g]? = some (.cells cur e fr)) :
    (grow (putRow (Value.int .i64) (Sort.ahead w n) g 0 d) os).heap[g]? = some (.cells (putCells (Value.int .i64) 0 d cur) e fr) := by
  have hg : g < w.heap.size := (Array.getElem?_eq_some_iff.1 hb).1
  rw [heap_grow_old _ _ (by simpa using hg)]
  simp [putRow, mapBlock, Sort.ahead, Array.getElem?_modify, hb, onCells]

theorem grownBy_ints {w : World} {g n : Nat} {os : Array Obj} (d : Array Int) : w.grownBy (grow (putRow (Value.int .i64) (Sort.ahead w n) g 0 d) os) (some g) := by
  refine ⟨rfl, rfl, rfl, by simp, fun k hk hne => ?_⟩
  rw [heap_grow_old _ _ (by simpa using hk)]
  have : g ≠ k := fun e => hne (by rw [e])
  simp [putRow, mapBlock, Sort.ahead, Array.getElem?_modify, this]

theorem take_ints (cur : Array Value) (ts : List Int) (h : ts.length ≤ cur.size) : (putCells (Value.int .i64) 0 ts.toArray cur).toList.take ts.length = ts.map (Value.int .i64) := by
  apply List.ext_getElem?
  intro j
  by_cases hj : j < ts.length
  · rw [List.getElem?_take_of_lt hj, Array.getElem?_toList]
    simp [putCells, hj, show j < cur.size by omega]
  · rw [List.getElem?_take_eq_none (by omega), List.getElem?_eq_none (by simp; omega)]

theorem ownsRow_ints {w : World} {base g cap n : Nat} {e : TypeId} {os : Array Obj} {cur : Array Value} {ss ts : List Int} (hl : ts.length = ss.length) (hbase : base ≤ g) (hb : w.heap[g]? = some (.cells cur e (0, 0)))
    (h1 : ss.length ≤ cap) (h2 : cap ≤ maxLen) (h3 : cur.size = cap * 1) :
    (grow (putRow (Value.int .i64) (Sort.ahead w n) g 0 ts.toArray) os).ownsRow base e 1 (.slice (some ⟨g, 0, none⟩) ss.length cap) ss.length (ts.map (Value.int .i64)) :=
  ⟨by simp [hl], .inr ⟨g, cap, _, rfl, hbase, heap_ints _ hb, h1, h2, by simp [putCells, h3], by rw [Nat.mul_one, ← hl]; exact take_ints cur ts (by omega)⟩⟩

theorem sort_row (e : TypeId) (base : Nat) (v : Value) (xs : List Int) (w : World) (hown : Row e .i64 w base v xs) (h0 : xs ≠ []) (hl : xs.length < 4611686018427387904) :
    Calls Try.prog 36 #[v] w (fun e2 w2 => e2 = .returned (.tuple #[]) ∧ Row e .i64 w2 base v (xs.mergeSort fun x y => decide (x ≤ y)) ∧ w.grownBy w2 v.ownBlock) := by
  rcases hown.2 with ⟨_, hn⟩ | ⟨g, cap, cur, rfl, hb, hgg, h1, h2, h3, h4⟩
  · exact absurd (List.length_eq_zero_iff.mp hn) h0
  · rw [Nat.mul_one] at h4
    refine (Try.slices_Sort_int g 0 cap xs w (holds_ints hgg h4) (Array.getElem?_eq_some_iff.1 hgg).1 hl).mono ?_
    rintro e2 w2 ⟨rfl, n, os, rfl⟩
    refine ⟨rfl, ?_, grownBy_ints _⟩
    have hlen : (xs.mergeSort fun x y => decide (x ≤ y)).length = xs.length := List.length_mergeSort _
    have := ownsRow_ints (n := n) (os := os) (ss := xs) hlen hb hgg h1 h2 h3
    unfold Row
    rw [hlen]
    exact this
end

end Go.Proofs.Ytjjcollpfgafeaa
