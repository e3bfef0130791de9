/-
  Rows of integers of one's own: written out, made.
-/
import Derived.Test.YtfdhhiibhkepaaaRows2
namespace Go.Proofs.Ytfdhhiibhkepaaa
open Go.RowKit

theorem info_int : (Try.prog.info? 3).map (fun i => (i.zero, i.size, i.bytes)) = some (some (.int .i64 0), 1, 8) := by kernel_rfl

theorem row_new (e : TypeId) (k : IntKind) (w : World) (base : Nat) (hb : base ≤ w.heap.size) (xs : List Int) (vs : Array Value) (h : vs = (xs.map (Value.int k)).toArray) (hl : xs.length ≤ maxLen) :
    Row e k (w.alloc (.cells vs e)) base (.slice (some ⟨w.heap.size, 0, none⟩) xs.length xs.length) xs := by
  subst h
  exact ⟨by simp, .inr ⟨w.heap.size, xs.length, _, rfl, hb, heap_alloc_new w _, Nat.le_refl _, hl, by simp, by simp [List.take_of_length_le]⟩⟩

section
variable {P : Program} {w : World} {ops : Array Oper} {rest : List Oper} {o : Oper} {a : Act} {Q : Exit → Act → World → Prop}

/-- make([]int, n): a row of n noughts. -/
theorem wpList_make_ints (hg : o.guard = none) (l c : Operand) (t : TypeId) (hop : o.op = Op.makeSlice t l c)
    (base : Nat) (e : TypeId) (k : IntKind) (bytes : Nat) (ht : P.underlying t = some (.slice e)) (hinfo : (P.info? e).map (fun i => (i.zero, i.size, i.bytes)) = some (some (.int k 0), 1, bytes))
    (kl kc : IntKind) (n : Nat) (hl : a.eval l = .int kl (n : Int)) (hc : a.eval c = .int kc (n : Int)) (b2 : bytes * n ≤ 281474976710656) (b3 : n ≤ maxLen) (b4 : base ≤ w.heap.size)
    (h : ∀ w', Row e k w' base (.slice (some ⟨w.heap.size, 0, none⟩) n n) (List.replicate n 0) → w.grownBy w' none → wpList P ops Q rest (a.put o.dst (.slice (some ⟨w.heap.size, 0, none⟩) n n)) w') : wpList P ops Q (o :: rest) a w := by
  obtain ⟨i, hi, hz, hsz, hby⟩ := info_parts hinfo
  refine wpList_make_full w hg l c t hop base e i _ 1 ht hi hz hsz kl kc n n n hl hc rfl rfl (by rw [hby]; exact b2) b3 b4 ?_
  intro w' h1 h2
  refine h w' ?_ h2
  unfold Row
  have e1 : (Value.int k 0).cells = #[.int k 0] := rfl
  rw [e1, Nat.mul_one, toList_madeCells_one] at h1
  simpa using h1
end

end Go.Proofs.Ytfdhhiibhkepaaa
