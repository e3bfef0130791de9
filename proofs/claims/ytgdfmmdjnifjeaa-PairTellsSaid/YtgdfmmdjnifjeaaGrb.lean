/-
  Several texts in one:
  - A row of the field's elements in memory.
  - Rows of bytes that may be written as far as they hold; spoil at bytes.
  - Bytes in a block of their own, that may be stored into.
  - What is answered beside an error: nothing, or a row.
  - Two rows of integers, apart from one another; one more at one of them, out of a block that is apart.
  - Slices of cells (structs of a Bool and a byte) as memory holds them; rows of one's own, one appended; a variable of that kind.
  - Cells (structs of a Bool and a byte) in a block of their own, that may be stored into; make of such a slice.
  - copy of numbers into a row of one's own from a place on.
-/
import Derived.Test.YtgdfmmdjnifjeaaGro
import Derived.Test.YtgdfmmdjnifjeaaGmx
import Derived.Test.YtgdfmmdjnifjeaaGso
import Derived.Test.YtgdfmmdjnifjeaaGtb
import Derived.Test.YtgdfmmdjnifjeaaGpr
import Derived.Laws.CopyOwn
namespace Go.Proofs.Ytgdfmmdjnifjeaa
open Go.RowKit
open Gf

/-- A row of bytes, in memory. -/
def ReadsF (w : World) (a : Option Addr) (n : Nat) (F : Nat → E) : Prop := ∃ b off, a = some ⟨b, off, none⟩ ∧ ∀ k, k < n → w.cell? ⟨b, off + k, none⟩ = some (.int .u8 (((F k).v : Nat) : Int))
theorem ReadsF.ex {w w2 : World} {a : Option Addr} {n : Nat} {F : Nat → E} (h : ReadsF w a n F) (hx : Ex w w2) : ReadsF w2 a n F := by
  obtain ⟨b, off, h1, h2⟩ := h
  exact ⟨b, off, h1, fun k hk => hx.cell (h2 k hk)⟩
/-- A row and no error. -/
def Vec2 (n : Nat) (F : Nat → E) (w : World) (e : Ending) (w2 : World) : Prop := ∃ a2 c2, e = .returned (.tuple #[.slice a2 n c2, .int .i64 0]) ∧ Hid (n ≤ c2 ∧ c2 ≤ 9223372036854775807) ∧ Hid (ReadsF w2 a2 n F) ∧ Ex w w2

end Go.Proofs.Ytgdfmmdjnifjeaa

namespace Go.Proofs.Ytgdfmmdjnifjeaa
open Go.RowKit

/-- A row, in memory from lo on and below hi, that may be written as far as it holds. -/
def Full (w : World) (lo hi : Nat) (v : Value) : Prop := ∃ g n c, v = .slice (some ⟨g, 0, none⟩) n c ∧ n ≤ c ∧ c ≤ 9223372036854775807 ∧ lo ≤ g ∧ g < hi ∧ ∀ j, j < c → Wr w g j
theorem Full.ys {w w2 : World} {lo hi : Nat} {v : Value} (h : Full w lo hi v) (k : Ys w w2) : Full w2 lo hi v := by
  obtain ⟨g, n, c, h1, h2, h3, h4, h5, h6⟩ := h
  exact ⟨g, n, c, h1, h2, h3, h4, h5, fun j hj => k g j (h6 j hj)⟩
theorem Full.less {w : World} {lo lo2 hi hi2 : Nat} {v : Value} (h : Full w lo hi v) (hb : lo2 ≤ lo) (hc : hi ≤ hi2) : Full w lo2 hi2 v := by
  obtain ⟨g, n, c, h1, h2, h3, h4, h5, h6⟩ := h
  exact ⟨g, n, c, h1, h2, h3, by omega, by omega, h6⟩
theorem Row.full {e : TypeId} {k : IntKind} {w : World} {base : Nat} {v : Value} {xs : List Int} (h : Row e k w base v xs) (hx : xs ≠ []) : Full w base w.heap.size v := by
  rcases h.2 with ⟨_, hn⟩ | ⟨g, cap, cur, rfl, hb, hgg, h1, h2, h3, _⟩
  · exact absurd (List.length_eq_zero_iff.mp hn) hx
  · unfold maxLen at h2
    refine ⟨g, xs.length, cap, rfl, h1, by omega, hb, (Array.getElem?_eq_some_iff.1 hgg).1, fun j hj => ⟨?_, World.ownsRow.frozenAt h j⟩⟩
    have hj2 : j < cur.size := by omega
    exact ⟨cur[j], by rw [cell_of_row w g j cur e (0, 0) hgg]; exact Array.getElem?_eq_getElem hj2⟩

/-- Such a row, or none. -/
def FullV (w : World) (lo hi : Nat) (v : Value) : Prop := v = .slice none 0 0 ∨ Full w lo hi v
theorem FullV.less {w : World} {lo lo2 hi hi2 : Nat} {v : Value} (h : FullV w lo hi v) (hb : lo2 ≤ lo) (hc : hi ≤ hi2) : FullV w lo2 hi2 v := h.imp id fun h => h.less hb hc
theorem FullV.ys {w w2 : World} {lo hi : Nat} {v : Value} (h : FullV w lo hi v) (k : Ys w w2) : FullV w2 lo hi v := h.imp id fun h => h.ys k
theorem owns_full {e : TypeId} {w : World} {base n : Nat} {v : Value} {xs : List Value} (h : w.ownsRow base e 1 v n xs) : FullV w base w.heap.size v := by
  rcases h.2 with ⟨h1, _⟩ | ⟨g, cap, cur, rfl, hb, hgg, h1, h2, h3, _⟩
  · exact .inl h1
  · unfold maxLen at h2
    refine .inr ⟨g, n, cap, rfl, h1, by omega, hb, (Array.getElem?_eq_some_iff.1 hgg).1, fun j hj => ⟨?_, World.ownsRow.frozenAt h j⟩⟩
    have hj2 : j < cur.size := by omega
    exact ⟨cur[j], by rw [cell_of_row w g j cur e (0, 0) hgg]; exact Array.getElem?_eq_getElem hj2⟩
theorem Row.fullV {e : TypeId} {k : IntKind} {w : World} {base : Nat} {v : Value} {xs : List Int} (h : Row e k w base v xs) : FullV w base w.heap.size v := owns_full h
theorem FullV.wr {w : World} {lo hi g n c : Nat} (h : FullV w lo hi (.slice (some ⟨g, 0, none⟩) n c)) : ∀ j, j < c → Wr w g j := by
  rcases h with h | ⟨g2, n2, c2, h1, _, _, _, _, h6⟩
  · cases h
  · simp only [Value.slice.injEq, Option.some.injEq, Addr.mk.injEq, and_true] at h1
    obtain ⟨rfl, _, rfl⟩ := h1
    exact h6

end Go.Proofs.Ytgdfmmdjnifjeaa

namespace Go.Proofs.Ytgdfmmdjnifjeaa
open Go.RowKit
open Gf

/-- Bytes in block g, that may be stored into. -/
def RowB (w : World) (g C : Nat) (F : Nat → E) : Prop := (∀ k, k < C → w.cell? ⟨g, k, none⟩ = some (.int .u8 (((F k).v : Nat) : Int))) ∧ ∀ k, w.frozen? ⟨g, k, none⟩ = false
def updF (F : Nat → E) (j : Nat) (x : E) : Nat → E := fun k => if k = j then x else F k
theorem RowB.set {w : World} {g C : Nat} {F : Nat → E} (h : RowB w g C F) {j : Nat} (hj : j < C) (x : E) : RowB (w.setCell ⟨g, j, none⟩ (.int .u8 ((x.v : Nat) : Int))) g C (updF F j x) := by
  refine ⟨fun k hk => ?_, fun k => by rw [World.frozen?_setCell]; exact h.2 k⟩
  unfold updF
  by_cases e : k = j
  · subst e
    rw [World.cell?_setCell_same _ _ _ (h.1 k hk), if_pos rfl]
  · rw [World.cell?_setCell_other _ _ _ _ (addr_ne (.inr fun e2 => e e2.symm)), if_neg e]
    exact h.1 k hk
theorem RowB.ex {w w2 : World} {g C : Nat} {F : Nat → E} (h : RowB w g C F) (hC : 1 ≤ C) (hx : Ex w w2) : RowB w2 g C F :=
  ⟨fun k hk => hx.cell (h.1 k hk), fun k => (Below.frozen (p := ⟨g, k, none⟩) hx (World.block_lt_of_cell? w ⟨g, 0, none⟩ (h.1 0 (by omega)))).trans (h.2 k)⟩
theorem RowB.congr {w : World} {g C : Nat} {F H : Nat → E} (h : RowB w g C F) (he : ∀ k, k < C → F k = H k) : RowB w g C H := ⟨fun k hk => by rw [← he k hk]; exact h.1 k hk, h.2⟩
theorem Row.rowB {e : TypeId} {w : World} {base : Nat} {v : Value} {F : Nat → E} {C : Nat} (h : Row e .u8 w base v (bl F C)) (hC : 1 ≤ C) : ∃ g c, v = .slice (some ⟨g, 0, none⟩) C c ∧ base ≤ g ∧ g < w.heap.size ∧ C ≤ c ∧ c ≤ maxLen ∧ RowB w g C F := by
  have hl := bl_length F C
  rcases h.form with ⟨_, h2⟩ | ⟨g, c, h1, h2, h3, h4, h5, h6, h7⟩
  · rw [h2] at hl; simp at hl; omega
  · rw [hl] at h1 h4 h6
    exact ⟨g, c, h1, h2, h3, h4, h5, fun k hk => by rw [h6 k hk, bl_nth hk], h7⟩

end Go.Proofs.Ytgdfmmdjnifjeaa

namespace Go.Proofs.Ytgdfmmdjnifjeaa
open Go.RowKit

/-- Nothing, and an error. -/
def Nil2 (er : Int) (w : World) (e : Ending) (w2 : World) : Prop := ∃ a2 c2, e = .returned (.tuple #[.slice a2 0 c2, .int .i64 er]) ∧ Ex w w2
/-- A row and no error. -/
def Vec3 (k : IntKind) (M : Nat) (xs : List Int) (w : World) (e : Ending) (w2 : World) : Prop := ∃ a2 c2, e = .returned (.tuple #[.slice a2 M c2, .int .i64 0]) ∧ Hid (M ≤ c2 ∧ c2 ≤ 9223372036854775807) ∧ Hid (Reads w2 k a2 xs) ∧ Ex w w2

theorem IsInts.ex {k : IntKind} {B : Nat} {w w2 : World} {a : Option Addr} {len cap : Nat} {z : List Int} (h : IsInts k B w a len cap z) (hx : Ex w w2) : IsInts k B w2 a len cap z := by
  obtain ⟨h1, h2, h3, h4, h5, h6⟩ := h
  exact ⟨h1, h2, h3, h4.ex hx, h5, h6⟩

/-- A row of one's own, as a contract hands it out. -/
theorem Row.hands {e : TypeId} {k : IntKind} {w : World} {base n : Nat} {v : Value} {xs : List Int} (h : Row e k w base v xs) (hn : xs.length = n) : ∃ a c, v = .slice a n c ∧ Hid (n ≤ c ∧ c ≤ 9223372036854775807) ∧ Hid (Reads w k a xs) := by
  subst hn
  rcases h.form with ⟨rfl, rfl⟩ | ⟨g, cap, rfl, _, _, h1, h2, hc, _⟩
  · exact ⟨none, 0, rfl, Lib.hid ⟨Nat.le_refl _, by omega⟩, Lib.hid (.inl rfl)⟩
  · unfold maxLen at h2
    exact ⟨_, cap, rfl, Lib.hid ⟨h1, by omega⟩, Lib.hid (.inr ⟨g, 0, rfl, fun i hi => by rw [Nat.zero_add]; exact hc i hi⟩)⟩

theorem box_one (w : World) (v : Value) (T : TypeId) : (w.alloc (.cells #[v] T)).cell? ⟨w.heap.size, 0, none⟩ = some v := by
  have := heap_alloc_new w (.cells #[v] T)
  unfold World.cell?
  simp only [this]
  simp

end Go.Proofs.Ytgdfmmdjnifjeaa

namespace Go.Proofs.Ytgdfmmdjnifjeaa
open Go.RowKit

/-- Two rows, apart. -/
structure Sti (e : TypeId) (k : IntKind) (w W : World) (v1 v2 : Value) (l1 l2 : List Int) : Prop where
  ex : Ex w W
  r1 : Row e k W w.heap.size v1 l1
  r2 : Row e k W w.heap.size v2 l2
  a12 : ApartB v1 v2

theorem Sti.swap {e : TypeId} {k : IntKind} {w W : World} {v1 v2 : Value} {l1 l2 : List Int} (h : Sti e k w W v1 v2 l1 l2) : Sti e k w W v2 v1 l2 l1 := ⟨h.ex, h.r2, h.r1, h.a12.symm⟩
theorem Sti.to {e : TypeId} {k : IntKind} {w W W2 : World} {v1 v2 : Value} {l1 l2 : List Int} (h : Sti e k w W v1 v2 l1 l2) (hx : Ex W W2) : Sti e k w W2 v1 v2 l1 l2 := ⟨h.ex.trans hx, h.r1.ex hx, h.r2.ex hx, h.a12⟩
theorem Sti.alloc {e : TypeId} {k : IntKind} {w W : World} {v1 v2 : Value} {l1 l2 : List Int} (h : Sti e k w W v1 v2 l1 l2) (o : Obj) : Sti e k w (W.alloc o) v1 v2 l1 l2 := h.to ((Ex.refl W).alloc o)
theorem Sti.drew {e : TypeId} {k : IntKind} {w W : World} {v1 v2 : Value} {l1 l2 : List Int} (h : Sti e k w W v1 v2 l1 l2) : Sti e k w W.drew v1 v2 l1 l2 := h.to (Ex.refl W).drew
theorem Sti.start (e : TypeId) (k : IntKind) (w : World) {W : World} (hx : Ex w W) : Sti e k w W (.slice none 0 0) (.slice none 0 0) [] [] := ⟨hx, Row.nil _ _ _ _, Row.nil _ _ _ _, .none rfl⟩

section
variable {P : Program} {W : World} {ops : Array Oper} {rest : List Oper} {o : Oper} {a : Act} {Q : Exit → Act → World → Prop}

/-- One more at the first, out of a block that has just been made. -/
theorem wpList_append_sti1 (hgd : o.guard = none) (s x : Operand) (t : TypeId) (ho : o.op = .call { callee := .builtin .append, args := #[s, x], argTypes := #[t, t] })
    (w : World) (e : TypeId) (k : IntKind) (bytes : Nat) (hb8 : bytes ≤ 8) (ht : P.underlying t = some (.slice e)) (hinfo : (P.info? e).map (fun i => (i.zero, i.size, i.bytes)) = some (some (.int k 0), 1, bytes))
    (v1 v2 : Value) (l1 l2 : List Int) (hs : a.eval s = v1) (d : Int) (hx : a.eval x = .slice (some ⟨W.heap.size, 0, none⟩) 1 1) (T : TypeId) (hst : Sti e k w W v1 v2 l1 l2)
    (hl : l1.length ≤ 1000000)
    (h : ∀ v' w', Sti e k w w' v' v2 (l1 ++ [d]) l2 → wpList P ops Q rest (a.put o.dst v') w') : wpList P ops Q (o :: rest) a (W.alloc (.cells #[.int k d] T)) := by
  have hst2 := hst.alloc (.cells #[.int k d] T)
  refine wpList_append_int hgd s x t ho w.heap.size e k bytes ht hinfo v1 l1 hs hst2.r1 d W.heap.size hx (by simp) (by unfold maxLen; omega) (Nat.le_trans (Nat.mul_le_mul_left _ hb8) (by omega)) hst2.ex.size fun v' w' hown hgrow hloc => ?_
  have hx' : Ex w w' := Row.grown hst2.r1 hst2.ex hgrow
  refine h v' w' ⟨hx', hown, Row.kept hst2.r2 hgrow (ne_row hst2.a12), fun j h1 h2 => ?_⟩
  rcases hloc with h3 | h3
  · rw [h3] at h1; exact hst2.a12 j h1 h2
  · rw [h3] at h1
    have h4 := (hst2.r2.lt j h2).2
    have := Option.some.inj h1
    omega

/-- The same, at the second. -/
theorem wpList_append_sti2 (hgd : o.guard = none) (s x : Operand) (t : TypeId) (ho : o.op = .call { callee := .builtin .append, args := #[s, x], argTypes := #[t, t] })
    (w : World) (e : TypeId) (k : IntKind) (bytes : Nat) (hb8 : bytes ≤ 8) (ht : P.underlying t = some (.slice e)) (hinfo : (P.info? e).map (fun i => (i.zero, i.size, i.bytes)) = some (some (.int k 0), 1, bytes))
    (v1 v2 : Value) (l1 l2 : List Int) (hs : a.eval s = v2) (d : Int) (hx : a.eval x = .slice (some ⟨W.heap.size, 0, none⟩) 1 1) (T : TypeId) (hst : Sti e k w W v1 v2 l1 l2)
    (hl : l2.length ≤ 1000000)
    (h : ∀ v' w', Sti e k w w' v1 v' l1 (l2 ++ [d]) → wpList P ops Q rest (a.put o.dst v') w') : wpList P ops Q (o :: rest) a (W.alloc (.cells #[.int k d] T)) :=
  wpList_append_sti1 hgd s x t ho w e k bytes hb8 ht hinfo v2 v1 l2 l1 hs d hx T hst.swap hl fun v' w' h1 => h v' w' h1.swap
end

end Go.Proofs.Ytgdfmmdjnifjeaa

namespace Go.Proofs.Ytgdfmmdjnifjeaa
open Go.RowKit

/-- The cells of n structs. -/
def rcc (H : Nat → Bool) (B : Nat → Nat) (n : Nat) : List Value := (List.range n).flatMap fun i => [.bool (H i), .int .u8 (B i : Int)]
theorem rcc_succ (H : Nat → Bool) (B : Nat → Nat) (n : Nat) : rcc H B (n + 1) = rcc H B n ++ [.bool (H n), .int .u8 (B n : Int)] := by
  unfold rcc; rw [List.range_succ, List.flatMap_append]; simp
theorem rcc_length (H : Nat → Bool) (B : Nat → Nat) (n : Nat) : (rcc H B n).length = n * 2 := by
  induction n with
  | zero => rfl
  | succ n ih => rw [rcc_succ, List.length_append, ih]; simp; omega
theorem rcc_at (H : Nat → Bool) (B : Nat → Nat) (n i : Nat) (h : i < n) : (rcc H B n)[i * 2]? = some (.bool (H i)) ∧ (rcc H B n)[i * 2 + 1]? = some (.int .u8 (B i : Int)) := by
  induction n with
  | zero => omega
  | succ n ih =>
    rw [rcc_succ]
    by_cases hi : i < n
    · rw [List.getElem?_append_left (by rw [rcc_length]; omega), List.getElem?_append_left (by rw [rcc_length]; omega)]
      exact ih hi
    · have e : i = n := by omega
      subst e
      rw [List.getElem?_append_right (by rw [rcc_length]; omega), List.getElem?_append_right (by rw [rcc_length]; omega), rcc_length, Nat.sub_self, show i * 2 + 1 - i * 2 = 1 by omega]
      exact ⟨rfl, rfl⟩

/-- The slice at a reads as n cells, in the world w. -/
def ReadsC (w : World) (a : Option Addr) (n : Nat) (H : Nat → Bool) (B : Nat → Nat) : Prop :=
  n = 0 ∨ ∃ b off, a = some ⟨b, off, none⟩ ∧ ∀ i, i < n → w.cell? ⟨b, off + i * 2, none⟩ = some (.bool (H i)) ∧ w.cell? ⟨b, off + i * 2 + 1, none⟩ = some (.int .u8 (B i : Int))
theorem ReadsC.ex {w w2 : World} {a : Option Addr} {n : Nat} {H : Nat → Bool} {B : Nat → Nat} (h : ReadsC w a n H B) (hx : Ex w w2) : ReadsC w2 a n H B := by
  rcases h with h | ⟨b, off, h1, h2⟩
  · exact .inl h
  · exact .inr ⟨b, off, h1, fun i hi => ⟨hx.cell (h2 i hi).1, hx.cell (h2 i hi).2⟩⟩

/-- A row of cells of our own. -/
def RowC (e : TypeId) (w : World) (base : Nat) (v : Value) (n : Nat) (H : Nat → Bool) (B : Nat → Nat) : Prop := w.ownsRow base e 2 v n (rcc H B n)
theorem RowC.nil (e : TypeId) (w : World) (base : Nat) (H : Nat → Bool) (B : Nat → Nat) : RowC e w base (.slice none 0 0) 0 H B := World.ownsRow_nil _ _ _ _
theorem RowC.ex {e : TypeId} {w w2 : World} {base n : Nat} {v : Value} {H : Nat → Bool} {B : Nat → Nat} (h : RowC e w base v n H B) (hx : Ex w w2) : RowC e w2 base v n H B := owns_ex h hx
theorem RowC.grown {e : TypeId} {w a b : World} {v : Value} {n : Nat} {H : Nat → Bool} {B : Nat → Nat} (hr : RowC e a w.heap.size v n H B) (h : Ex w a) (hg : a.grownBy b v.ownBlock) : Ex w b := ex_append h hr hg
theorem RowC.reads {e : TypeId} {w : World} {base n : Nat} {v : Value} {H : Nat → Bool} {B : Nat → Nat} (h : RowC e w base v n H B) :
    ∃ a cap, v = .slice a n cap ∧ n ≤ cap ∧ cap ≤ 9223372036854775807 ∧ ReadsC w a n H B ∧ (a = none → cap = 0) := by
  have h0 := h
  rcases h.2 with ⟨rfl, hn⟩ | ⟨g, cap, cur, rfl, hb, hgg, h1, h2, _⟩
  · subst hn; exact ⟨none, 0, rfl, by omega, by omega, .inl rfl, fun _ => rfl⟩
  · refine ⟨_, cap, rfl, h1, by unfold maxLen at h2; omega, .inr ⟨g, 0, rfl, fun i hi => ?_⟩, fun h => by simp at h⟩
    have hp := rcc_at H B n i hi
    rw [Nat.zero_add]
    exact ⟨(World.ownsRow.cellAt h0 (i * 2) (by omega)).trans hp.1, (World.ownsRow.cellAt h0 (i * 2 + 1) (by omega)).trans hp.2⟩

section
variable {P : Program} {w : World} {ops : Array Oper} {rest : List Oper} {o : Oper} {a : Act} {Q : Exit → Act → World → Prop}
/-- append of one cell, which lies in the block b. -/
theorem wpList_append_cel (hgd : o.guard = none) (s x : Operand) (t : TypeId) (ho : o.op = .call { callee := .builtin .append, args := #[s, x], argTypes := #[t, t] })
    (base : Nat) (e : TypeId) (bytes : Nat) (ht : P.underlying t = some (.slice e)) (hinfo : (P.info? e).map (fun i => (i.zero, i.size, i.bytes)) = some (some (.agg #[.bool false, .int .u8 0]), 2, bytes))
    (v : Value) (n : Nat) (H : Nat → Bool) (B : Nat → Nat) (hs : a.eval s = v) (hown : RowC e w base v n H B) (b : Nat) (hx : a.eval x = .slice (some ⟨b, 0, none⟩) 1 1)
    (hb0 : w.cell? ⟨b, 0, none⟩ = some (.bool (H n))) (hb1 : w.cell? ⟨b, 1, none⟩ = some (.int .u8 (B n : Int)))
    (h63 : n + 1 ≤ maxLen) (hbytes : (n + 1) * bytes ≤ 140737488355328) (hbase : base ≤ w.heap.size)
    (h : ∀ v' w', RowC e w' base v' (n + 1) H B → w.grownBy w' v.ownBlock → wpList P ops Q rest (a.put o.dst v') w') : wpList P ops Q (o :: rest) a w := by
  obtain ⟨i, hi, hz, hsz, hby⟩ := info_parts hinfo
  refine wpList_append_own_at w hgd s x t ho base e i _ 2 bytes ht hi hz hsz hby rfl (by decide) v n (rcc H B n) hs hown ⟨b, 0, none⟩ 1 1 [.bool (H n), .int .u8 (B n : Int)] hx rfl ?_ (by intro u hu; simp at hu; rcases hu with rfl | rfl <;> rfl) h63 hbytes hbase ?_
  · intro j u hj
    match j, hj with
    | 0, hj => simp at hj; subst hj; exact hb0
    | 1, hj =>
      simp at hj; subst hj
      rw [add_none, Nat.zero_add]; exact hb1
  · intro v' w' h1 h2 _ h4
    refine h v' w' ?_ h2
    unfold RowC
    rw [rcc_succ]
    exact h1
end

/-- A variable of that kind, in the block b. -/
def Cel (T : TypeId) (w : World) (b : Nat) (h : Bool) (x : Int) : Prop := w.heap[b]? = some (.cells #[.bool h, .int .u8 x] T (0, 0))
theorem Cel.new (T : TypeId) (w : World) (h : Bool) (x : Int) : Cel T (w.alloc (.cells #[.bool h, .int .u8 x] T)) w.heap.size h x := heap_alloc_new _ _
theorem Cel.c0 {T : TypeId} {w : World} {b : Nat} {h : Bool} {x : Int} (k : Cel T w b h x) : w.cell? ⟨b, 0, none⟩ = some (.bool h) := cell_two0 k
theorem Cel.c1 {T : TypeId} {w : World} {b : Nat} {h : Bool} {x : Int} (k : Cel T w b h x) : w.cell? ⟨b, 1, none⟩ = some (.int .u8 x) := cell_two1 k
theorem Cel.free {T : TypeId} {w : World} {b : Nat} {h : Bool} {x : Int} (k : Cel T w b h x) (i : Nat) : w.frozen? ⟨b, i, none⟩ = false := free_two k i
theorem Cel.lt {T : TypeId} {w : World} {b : Nat} {h : Bool} {x : Int} (k : Cel T w b h x) : b < w.heap.size := (Array.getElem?_eq_some_iff.1 k).1
theorem Cel.ex {T : TypeId} {w w2 : World} {b : Nat} {h : Bool} {x : Int} (k : Cel T w b h x) (hx : Ex w w2) : Cel T w2 b h x := by
  unfold Cel at *
  rw [hx.block b (Array.getElem?_eq_some_iff.1 k).1]
  exact k
theorem Cel.s0 {T : TypeId} {w : World} {b : Nat} {h u : Bool} {x : Int} (k : Cel T w b h x) : Cel T (w.setCell ⟨b, 0, none⟩ (.bool u)) b u x := by
  unfold Cel at *
  unfold World.setCell
  simp only [Array.getElem?_modify, if_true, k]
  simp
theorem Cel.s1 {T : TypeId} {w : World} {b : Nat} {h : Bool} {x v : Int} (k : Cel T w b h x) : Cel T (w.setCell ⟨b, 1, none⟩ (.int .u8 v)) b h v := by
  unfold Cel at *
  unfold World.setCell
  simp only [Array.getElem?_modify, if_true, k]
  simp
theorem Cel.set {T : TypeId} {w : World} {b : Nat} {h u : Bool} {x v : Int} (k : Cel T w b h x) : Cel T ((w.setCell ⟨b, 0, none⟩ (.bool u)).setCell ⟨b, 1, none⟩ (.int .u8 v)) b u v := k.s0.s1

end Go.Proofs.Ytgdfmmdjnifjeaa

namespace Go.Proofs.Ytgdfmmdjnifjeaa
open Go.RowKit

/-- Cells in block g, that may be stored into. -/
def CelB (w : World) (g n : Nat) (H : Nat → Bool) (B : Nat → Nat) : Prop := (∀ i, i < n → w.cell? ⟨g, i * 2, none⟩ = some (.bool (H i)) ∧ w.cell? ⟨g, i * 2 + 1, none⟩ = some (.int .u8 (B i : Int))) ∧ ∀ j, w.frozen? ⟨g, j, none⟩ = false
theorem CelB.set {w : World} {g n : Nat} {H : Nat → Bool} {B : Nat → Nat} (h : CelB w g n H B) {i : Nat} (hi : i < n) (b : Bool) (x : Nat) :
    CelB ((w.setCell ⟨g, i * 2, none⟩ (.bool b)).setCell ⟨g, i * 2 + 1, none⟩ (.int .u8 (x : Int))) g n (fun j => if j = i then b else H j) (fun j => if j = i then x else B j) := by
  have h0 := h.1 i hi
  have hmid : (w.setCell ⟨g, i * 2, none⟩ (.bool b)).cell? ⟨g, i * 2 + 1, none⟩ = some (.int .u8 (B i : Int)) := by
    rw [World.cell?_setCell_other _ _ _ _ (addr_ne' (.inr (by omega)))]; exact h0.2
  refine ⟨fun j hj => ?_, fun j => by rw [World.frozen?_setCell, World.frozen?_setCell]; exact h.2 j⟩
  by_cases e : j = i
  · subst e
    refine ⟨?_, ?_⟩
    · rw [World.cell?_setCell_other _ _ _ _ (addr_ne' (.inr (by omega))), World.cell?_setCell_same _ _ _ h0.1]
      show _ = some (Value.bool (if j = j then b else H j))
      rw [if_pos rfl]
    · rw [World.cell?_setCell_same _ _ _ hmid]
      show _ = some (Value.int .u8 ((if j = j then x else B j : Nat) : Int))
      rw [if_pos rfl]
  · have hj2 := h.1 j hj
    refine ⟨?_, ?_⟩
    · rw [World.cell?_setCell_other _ _ _ _ (addr_ne' (.inr (by omega))), World.cell?_setCell_other _ _ _ _ (addr_ne' (.inr (by omega))), hj2.1]
      show _ = some (Value.bool (if j = i then b else H j))
      rw [if_neg e]
    · rw [World.cell?_setCell_other _ _ _ _ (addr_ne' (.inr (by omega))), World.cell?_setCell_other _ _ _ _ (addr_ne' (.inr (by omega))), hj2.2]
      show _ = some (Value.int .u8 ((if j = i then x else B j : Nat) : Int))
      rw [if_neg e]
theorem CelB.reads {w : World} {g n : Nat} {H : Nat → Bool} {B : Nat → Nat} (h : CelB w g n H B) : ReadsC w (some ⟨g, 0, none⟩) n H B :=
  .inr ⟨g, 0, rfl, fun i hi => by rw [Nat.zero_add]; exact h.1 i hi⟩
theorem CelB.ex {w w2 : World} {g n : Nat} {H : Nat → Bool} {B : Nat → Nat} (h : CelB w g n H B) (hn : 1 ≤ n) (hx : Ex w w2) : CelB w2 g n H B :=
  ⟨fun i hi => ⟨hx.cell (h.1 i hi).1, hx.cell (h.1 i hi).2⟩, fun j => (Below.frozen (p := ⟨g, j, none⟩) hx (World.block_lt_of_cell? w ⟨g, 0 * 2, none⟩ (h.1 0 (by omega)).1)).trans (h.2 j)⟩
theorem CelB.congr {w : World} {g n : Nat} {H H2 : Nat → Bool} {B B2 : Nat → Nat} (h : CelB w g n H B) (h1 : ∀ i, i < n → H i = H2 i) (h2 : ∀ i, i < n → B i = B2 i) : CelB w g n H2 B2 :=
  ⟨fun i hi => by rw [← h1 i hi, ← h2 i hi]; exact h.1 i hi, h.2⟩
theorem made_cells {n i : Nat} (hi : i < n) : (madeCells #[.bool false, .int .u8 0] (n * 2)).toList[i * 2]? = some (.bool false) ∧ (madeCells #[.bool false, .int .u8 0] (n * 2)).toList[i * 2 + 1]? = some (.int .u8 0) := by
  unfold madeCells
  refine ⟨?_, ?_⟩
  · rw [List.getElem?_eq_getElem (by simp; omega)]
    simp only [Array.toList_map, List.getElem_map, List.size_toArray, List.length_cons, List.length_nil, Array.toList_range, List.getElem_range]
    rw [show i * 2 % (0 + 1 + 1) = 0 by omega]
    rfl
  · rw [List.getElem?_eq_getElem (by simp; omega)]
    simp only [Array.toList_map, List.getElem_map, List.size_toArray, List.length_cons, List.length_nil, Array.toList_range, List.getElem_range]
    rw [show (i * 2 + 1) % (0 + 1 + 1) = 1 by omega]
    rfl

section
variable {P : Program} {w : World} {ops : Array Oper} {rest : List Oper} {o : Oper} {a : Act} {Q : Exit → Act → World → Prop}
/-- make([]api.Cell, n). -/
theorem wpList_make_cels (hg : o.guard = none) (l c : Operand) (t : TypeId) (hop : o.op = Op.makeSlice t l c)
    (e : TypeId) (bytes : Nat) (ht : P.underlying t = some (.slice e)) (hinfo : (P.info? e).map (fun i => (i.zero, i.size, i.bytes)) = some (some (.agg #[.bool false, .int .u8 0]), 2, bytes))
    (kl kc : IntKind) (n : Nat) (hl : a.eval l = .int kl (n : Int)) (hc : a.eval c = .int kc (n : Int)) (b2 : bytes * n ≤ 281474976710656) (b3 : n ≤ maxLen)
    (h : ∀ w', CelB w' w.heap.size n (fun _ => false) (fun _ => 0) → w.grownBy w' none → wpList P ops Q rest (a.put o.dst (.slice (some ⟨w.heap.size, 0, none⟩) n n)) w') : wpList P ops Q (o :: rest) a w := by
  obtain ⟨i, hi, hz, hsz, hby⟩ := info_parts hinfo
  refine wpList_make_full w hg l c t hop w.heap.size e i _ 2 ht hi hz hsz kl kc n n n hl hc rfl rfl (by rw [hby]; exact b2) b3 (Nat.le_refl _) ?_
  intro w' h1 h2
  refine h w' ⟨fun i hi => ?_, fun j => World.ownsRow.frozenAt h1 j⟩ h2
  have hm := made_cells hi
  exact ⟨(World.ownsRow.cellAt h1 (i * 2) (by omega)).trans hm.1, (World.ownsRow.cellAt h1 (i * 2 + 1) (by omega)).trans hm.2⟩
end

end Go.Proofs.Ytgdfmmdjnifjeaa

namespace Go.Proofs.Ytgdfmmdjnifjeaa
open Go.RowKit

section
variable {P : Program} {w : World} {ops : Array Oper} {rest : List Oper} {o : Oper} {a : Act} {Q : Exit → Act → World → Prop}
/-- copy of cells from somewhere into a row of one's own, from a place on to its end at most. -/
theorem wpList_copy_at (hgd : o.guard = none) (d s : Operand) (dT sT : TypeId) (ho : o.op = .call { callee := .builtin .copy, args := #[d, s], argTypes := #[dT, sT] })
    (base : Nat) (e : TypeId) (k : IntKind) (hu : P.underlying dT = some (.slice e)) (hsz : (P.info? e).map (·.size) = some 1)
    (g L cap off : Nat) (F : Nat → Int) (dLen dCap : Nat) (hd : a.eval d = .slice (some ⟨g, off, none⟩) dLen dCap) (hdl : off + dLen = L)
    (gs os sLen sCap : Nat) (hs : a.eval s = .slice (some ⟨gs, os, none⟩) sLen sCap) (c : Nat) (hc0 : c = Nat.min sLen dLen) (S : Nat → Int) (hsrc : ∀ j, j < c → w.cell? ⟨gs, os + j, none⟩ = some (.int k (S j)))
    (hrow : Row e k w base (.slice (some ⟨g, 0, none⟩) L cap) (fl L F))
    (h : ∀ w', Row e k w' base (.slice (some ⟨g, 0, none⟩) L cap) (fl L fun t => if off ≤ t ∧ t < off + c then S (t - off) else F t) → w.grownBy w' (some g) → wpList P ops Q rest (a.put o.dst (.int .i64 c)) w') : wpList P ops Q (o :: rest) a w := by
  rcases hrow.2 with ⟨h1, _⟩ | ⟨g2, cap2, cur, h1, hb, hg, hc, hx, hcs, ht⟩
  · simp at h1
  simp only [fl_length, Value.slice.injEq, Option.some.injEq, Addr.mk.injEq, and_true, true_and] at h1
  obtain ⟨rfl, rfl⟩ := h1
  rw [fl_length] at hc ht
  rw [Nat.mul_one] at ht hcs
  have hcl : c ≤ dLen := by rw [hc0]; exact Nat.min_le_right _ _
  have hlen : ((fl c S).map (Value.int k)).length = c := by rw [List.length_map, fl_length]
  have hgi : (goInt ((fl c S).map (Value.int k)).length : Value) = .int .i64 c := by rw [hlen]; rfl
  have hsz2 : cur.toList.length = cap := by simp [hcs]
  refine wpList_copy_own hgd d s dT sT ho e hu hsz g off dLen dCap ⟨gs, os, none⟩ sLen sCap hd hs cur e hg ((fl c S).map (Value.int k)) (by rw [hlen]; exact hc0) ?_ (by rw [hlen]; omega) (ints_one k _) ?_
  · intro j v hj
    have hjl : j < c := by
      have := (List.getElem?_eq_some_iff.mp hj).1
      rwa [hlen] at this
    rw [List.getElem?_map, List.getElem?_eq_getElem (by rw [fl_length]; exact hjl)] at hj
    simp [fl] at hj
    subst hj
    have e2 : (⟨gs, os, none⟩ : Addr).add j = ⟨gs, os + j, none⟩ := by unfold Addr.add; split <;> simp_all
    rw [e2]
    exact hsrc j hjl
  · rw [hgi, hlen]
    refine h _ ?_ ⟨rfl, rfl, rfl, by simp [World.setRow], fun j hj hne => setRow_other w g j _ (fun e2 => hne (by rw [e2]))⟩
    refine ⟨by simp, .inr ⟨g, cap, _, by rw [fl_length], hb, setRow_heap w g _ _ e _ hg, by rw [fl_length]; exact hc, hx, ?_, ?_⟩⟩
    · simp [fl_length]; omega
    · rw [fl_length, Nat.mul_one]
      apply List.ext_getElem?
      intro j
      by_cases hj : j < L
      · rw [List.getElem?_take_of_lt hj]
        have hm : ((fl L fun t => if off ≤ t ∧ t < off + c then S (t - off) else F t).map (Value.int k))[j]? = some (Value.int k (if off ≤ j ∧ j < off + c then S (j - off) else F j)) := by
          rw [List.getElem?_map, List.getElem?_eq_getElem (by rw [fl_length]; exact hj)]
          simp [fl]
        rw [hm]
        have h4 : cur.toList[j]? = some (Value.int k (F j)) := by
          have h5 : (cur.toList.take L)[j]? = some (Value.int k (F j)) := by
            rw [ht, List.getElem?_map, List.getElem?_eq_getElem (by rw [fl_length]; exact hj)]
            simp [fl]
          rwa [List.getElem?_take_of_lt hj] at h5
        have hto : (cur.toList.take off).length = off := by rw [List.length_take]; omega
        by_cases h6 : j < off
        · rw [if_neg (by omega), List.getElem?_append_left (by rw [hto]; exact h6), List.getElem?_take_of_lt h6, h4]
        · rw [List.getElem?_append_right (by rw [hto]; omega), hto]
          by_cases h7 : j < off + c
          · rw [if_pos ⟨by omega, h7⟩, List.getElem?_append_left (by rw [hlen]; omega), List.getElem?_map, List.getElem?_eq_getElem (by rw [fl_length]; omega)]
            simp [fl]
          · rw [if_neg (by omega), List.getElem?_append_right (by rw [hlen]; omega), hlen, List.getElem?_drop, show off + c + (j - off - c) = j by omega, h4]
      · rw [List.getElem?_eq_none (by rw [List.length_take]; omega), List.getElem?_eq_none (by rw [List.length_map, fl_length]; omega)]
end

end Go.Proofs.Ytgdfmmdjnifjeaa
