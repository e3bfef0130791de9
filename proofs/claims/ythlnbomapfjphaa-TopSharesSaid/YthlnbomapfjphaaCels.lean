/-
  Slices of cells (structs of a Bool and a byte) as memory holds them; rows of one's own, one appended; a variable of that kind.
-/
import Derived.Test.YthlnbomapfjphaaGpr
import Derived.Test.YthlnbomapfjphaaRowsI
namespace Go.Proofs.Ythlnbomapfjphaa
open Go.RowKit

/-- The cells of n structs. -/
def rcc (H : Nat → Bool) (B : Nat → Nat) (n : Nat) : List Value := (List.range n).flatMap fun i => [.bool (H i), .int .u8 (B i : Int)]
theorem rcc_succ (H : Nat → Bool) (B : Nat → Nat) (n : Nat) : rcc H B (n + 1) = rcc H B n ++ [.bool (H n), .int .u8 (B n : Int)] := by
  unfold rcc; rw [List.range_succ, List.flatMap_append]; simp
theorem rcc_length (H : Nat → Bool) (B : Nat → Nat) (n : Nat) : (rcc H B n).length = n * 2 := by
  induction n with
  | zero => rfl
  | succ n ih => rw [rcc_succ, List.length_append, ih]; simp; omega
theorem rcc_at (H : Nat → Bool) (B : Nat → Nat) (n i : Nat) (h : i < n) : (rcc H B n)[i * 2]? = some (.bool (H i)) ∧ (rcc H B n)[i * 2 + 1]? = some (.int .u8 (B i : Int)) := by
  induction n with
  | zero => omega
  | succ n ih =>
    rw [rcc_succ]
    by_cases hi : i < n
    · rw [List.getElem?_append_left (by rw [rcc_length]; omega), List.getElem?_append_left (by rw [rcc_length]; omega)]
      exact ih hi
    · have e : i = n := by omega
      subst e
      rw [List.getElem?_append_right (by rw [rcc_length]; omega), List.getElem?_append_right (by rw [rcc_length]; omega), rcc_length, Nat.sub_self, show i * 2 + 1 - i * 2 = 1 by omega]
      exact ⟨rfl, rfl⟩

/-- The slice at a reads as n cells, in the world w. -/
def ReadsC (w : World) (a : Option Addr) (n : Nat) (H : Nat → Bool) (B : Nat → Nat) : Prop :=
  n = 0 ∨ ∃ b off, a = some ⟨b, off, none⟩ ∧ ∀ i, i < n → w.cell? ⟨b, off + i * 2, none⟩ = some (.bool (H i)) ∧ w.cell? ⟨b, off + i * 2 + 1, none⟩ = some (.int .u8 (B i : Int))
theorem ReadsC.ex {w w2 : World} {a : Option Addr} {n : Nat} {H : Nat → Bool} {B : Nat → Nat} (h : ReadsC w a n H B) (hx : Ex w w2) : ReadsC w2 a n H B := by
  rcases h with h | ⟨b, off, h1, h2⟩
  · exact .inl h
  · exact .inr ⟨b, off, h1, fun i hi => ⟨hx.cell (h2 i hi).1, hx.cell (h2 i hi).2⟩⟩

/-- A row of cells of our own. -/
def RowC (e : TypeId) (w : World) (base : Nat) (v : Value) (n : Nat) (H : Nat → Bool) (B : Nat → Nat) : Prop := w.ownsRow base e 2 v n (rcc H B n)
theorem RowC.nil (e : TypeId) (w : World) (base : Nat) (H : Nat → Bool) (B : Nat → Nat) : RowC e w base (.slice none 0 0) 0 H B := World.ownsRow_nil _ _ _ _
theorem RowC.ex {e : TypeId} {w w2 : World} {base n : Nat} {v : Value} {H : Nat → Bool} {B : Nat → Nat} (h : RowC e w base v n H B) (hx : Ex w w2) : RowC e w2 base v n H B := owns_ex h hx
theorem RowC.grown {e : TypeId} {w a b : World} {v : Value} {n : Nat} {H : Nat → Bool} {B : Nat → Nat} (hr : RowC e a w.heap.size v n H B) (h : Ex w a) (hg : a.grownBy b v.ownBlock) : Ex w b := ex_append h hr hg
theorem RowC.reads {e : TypeId} {w : World} {base n : Nat} {v : Value} {H : Nat → Bool} {B : Nat → Nat} (h : RowC e w base v n H B) :
    ∃ a cap, v = .slice a n cap ∧ n ≤ cap ∧ cap ≤ 9223372036854775807 ∧ ReadsC w a n H B ∧ (a = none → cap = 0) := by
  have h0 := h
  rcases h.2 with ⟨rfl, hn⟩ | ⟨g, cap, cur, rfl, hb, hgg, h1, h2, _⟩
  · subst hn; exact ⟨none, 0, rfl, by omega, by omega, .inl rfl, fun _ => rfl⟩
  · refine ⟨_, cap, rfl, h1, by unfold maxLen at h2; omega, .inr ⟨g, 0, rfl, fun i hi => ?_⟩, fun h => by simp at h⟩
    have hp := rcc_at H B n i hi
    rw [Nat.zero_add]
    exact ⟨(World.ownsRow.cellAt h0 (i * 2) (by omega)).trans hp.1, (World.ownsRow.cellAt h0 (i * 2 + 1) (by omega)).trans hp.2⟩

section
variable {P : Program} {w : World} {ops : Array Oper} {rest : List Oper} {o : Oper} {a : Act} {Q : Exit → Act → World → Prop}
/-- append of one cell, which lies in the block b. -/
theorem wpList_append_cel (hgd : o.guard = none) (s x : Operand) (t : TypeId) (ho : o.op = .call { callee := .builtin .append, args := #[s, x], argTypes := #[t, t] })
    (base : Nat) (e : TypeId) (bytes : Nat) (ht : P.underlying t = some (.slice e)) (hinfo : (P.info? e).map (fun i => (i.zero, i.size, i.bytes)) = some (some (.agg #[.bool false, .int .u8 0]), 2, bytes))
    (v : Value) (n : Nat) (H : Nat → Bool) (B : Nat → Nat) (hs : a.eval s = v) (hown : RowC e w base v n H B) (b : Nat) (hx : a.eval x = .slice (some ⟨b, 0, none⟩) 1 1)
    (hb0 : w.cell? ⟨b, 0, none⟩ = some (.bool (H n))) (hb1 : w.cell? ⟨b, 1, none⟩ = some (.int .u8 (B n : Int)))
    (h63 : n + 1 ≤ maxLen) (hbytes : (n + 1) * bytes ≤ 140737488355328) (hbase : base ≤ w.heap.size)
    (h : ∀ v' w', RowC e w' base v' (n + 1) H B → w.grownBy w' v.ownBlock → wpList P ops Q rest (a.put o.dst v') w') : wpList P ops Q (o :: rest) a w := by
  obtain ⟨i, hi, hz, hsz, hby⟩ := info_parts hinfo
  refine wpList_append_own_at w hgd s x t ho base e i _ 2 bytes ht hi hz hsz hby rfl (by decide) v n (rcc H B n) hs hown ⟨b, 0, none⟩ 1 1 [.bool (H n), .int .u8 (B n : Int)] hx rfl ?_ (by intro u hu; simp at hu; rcases hu with rfl | rfl <;> rfl) h63 hbytes hbase ?_
  · intro j u hj
    match j, hj with
    | 0, hj => simp at hj; subst hj; exact hb0
    | 1, hj =>
      simp at hj; subst hj
      rw [add_none, Nat.zero_add]; exact hb1
  · intro v' w' h1 h2 _ h4
    refine h v' w' ?_ h2
    unfold RowC
    rw [rcc_succ]
    exact h1
end

/-- A variable of that kind, in the block b. -/
def Cel (T : TypeId) (w : World) (b : Nat) (h : Bool) (x : Int) : Prop := w.heap[b]? = some (.cells #[.bool h, .int .u8 x] T (0, 0))
theorem Cel.new (T : TypeId) (w : World) (h : Bool) (x : Int) : Cel T (w.alloc (.cells #[.bool h, .int .u8 x] T)) w.heap.size h x := heap_alloc_new _ _
theorem Cel.c0 {T : TypeId} {w : World} {b : Nat} {h : Bool} {x : Int} (k : Cel T w b h x) : w.cell? ⟨b, 0, none⟩ = some (.bool h) := cell_two0 k
theorem Cel.c1 {T : TypeId} {w : World} {b : Nat} {h : Bool} {x : Int} (k : Cel T w b h x) : w.cell? ⟨b, 1, none⟩ = some (.int .u8 x) := cell_two1 k
theorem Cel.free {T : TypeId} {w : World} {b : Nat} {h : Bool} {x : Int} (k : Cel T w b h x) (i : Nat) : w.frozen? ⟨b, i, none⟩ = false := free_two k i
theorem Cel.lt {T : TypeId} {w : World} {b : Nat} {h : Bool} {x : Int} (k : Cel T w b h x) : b < w.heap.size := (Array.getElem?_eq_some_iff.1 k).1
theorem Cel.ex {T : TypeId} {w w2 : World} {b : Nat} {h : Bool} {x : Int} (k : Cel T w b h x) (hx : Ex w w2) : Cel T w2 b h x := by
  unfold Cel at *
  rw [hx.block b (Array.getElem?_eq_some_iff.1 k).1]
  exact k
theorem Cel.s0 {T : TypeId} {w : World} {b : Nat} {h u : Bool} {x : Int} (k : Cel T w b h x) : Cel T (w.setCell ⟨b, 0, none⟩ (.bool u)) b u x := by
  unfold Cel at *
  unfold World.setCell
  simp only [Array.getElem?_modify, if_true, k]
  simp
theorem Cel.s1 {T : TypeId} {w : World} {b : Nat} {h : Bool} {x v : Int} (k : Cel T w b h x) : Cel T (w.setCell ⟨b, 1, none⟩ (.int .u8 v)) b h v := by
  unfold Cel at *
  unfold World.setCell
  simp only [Array.getElem?_modify, if_true, k]
  simp
theorem Cel.set {T : TypeId} {w : World} {b : Nat} {h u : Bool} {x v : Int} (k : Cel T w b h x) : Cel T ((w.setCell ⟨b, 0, none⟩ (.bool u)).setCell ⟨b, 1, none⟩ (.int .u8 v)) b u v := k.s0.s1

end Go.Proofs.Ythlnbomapfjphaa
