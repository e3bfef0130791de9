/-
  Two rows of integers, apart from one another; one more at one of them, out of a block that is apart.
-/
import Derived.Test.YthlnbomapfjphaaGpr
namespace Go.Proofs.Ythlnbomapfjphaa
open Go.RowKit

/-- Two rows, apart. -/
structure Sti (e : TypeId) (k : IntKind) (w W : World) (v1 v2 : Value) (l1 l2 : List Int) : Prop where
  ex : Ex w W
  r1 : Row e k W w.heap.size v1 l1
  r2 : Row e k W w.heap.size v2 l2
  a12 : ApartB v1 v2

theorem Sti.swap {e : TypeId} {k : IntKind} {w W : World} {v1 v2 : Value} {l1 l2 : List Int} (h : Sti e k w W v1 v2 l1 l2) : Sti e k w W v2 v1 l2 l1 := ⟨h.ex, h.r2, h.r1, h.a12.symm⟩
theorem Sti.to {e : TypeId} {k : IntKind} {w W W2 : World} {v1 v2 : Value} {l1 l2 : List Int} (h : Sti e k w W v1 v2 l1 l2) (hx : Ex W W2) : Sti e k w W2 v1 v2 l1 l2 := ⟨h.ex.trans hx, h.r1.ex hx, h.r2.ex hx, h.a12⟩
theorem Sti.alloc {e : TypeId} {k : IntKind} {w W : World} {v1 v2 : Value} {l1 l2 : List Int} (h : Sti e k w W v1 v2 l1 l2) (o : Obj) : Sti e k w (W.alloc o) v1 v2 l1 l2 := h.to ((Ex.refl W).alloc o)
theorem Sti.drew {e : TypeId} {k : IntKind} {w W : World} {v1 v2 : Value} {l1 l2 : List Int} (h : Sti e k w W v1 v2 l1 l2) : Sti e k w W.drew v1 v2 l1 l2 := h.to (Ex.refl W).drew
theorem Sti.start (e : TypeId) (k : IntKind) (w : World) {W : World} (hx : Ex w W) : Sti e k w W (.slice none 0 0) (.slice none 0 0) [] [] := ⟨hx, Row.nil _ _ _ _, Row.nil _ _ _ _, .none rfl⟩

section
variable {P : Program} {W : World} {ops : Array Oper} {rest : List Oper} {o : Oper} {a : Act} {Q : Exit → Act → World → Prop}

/-- One more at the first, out of a block that has just been made. -/
theorem wpList_append_sti1 (hgd : o.guard = none) (s x : Operand) (t : TypeId) (ho : o.op = .call { callee := .builtin .append, args := #[s, x], argTypes := #[t, t] })
    (w : World) (e : TypeId) (k : IntKind) (bytes : Nat) (hb8 : bytes ≤ 8) (ht : P.underlying t = some (.slice e)) (hinfo : (P.info? e).map (fun i => (i.zero, i.size, i.bytes)) = some (some (.int k 0), 1, bytes))
    (v1 v2 : Value) (l1 l2 : List Int) (hs : a.eval s = v1) (d : Int) (hx : a.eval x = .slice (some ⟨W.heap.size, 0, none⟩) 1 1) (T : TypeId) (hst : Sti e k w W v1 v2 l1 l2)
    (hl : l1.length ≤ 1000000)
    (h : ∀ v' w', Sti e k w w' v' v2 (l1 ++ [d]) l2 → wpList P ops Q rest (a.put o.dst v') w') : wpList P ops Q (o :: rest) a (W.alloc (.cells #[.int k d] T)) := by
  have hst2 := hst.alloc (.cells #[.int k d] T)
  refine wpList_append_int hgd s x t ho w.heap.size e k bytes ht hinfo v1 l1 hs hst2.r1 d W.heap.size hx (by simp) (by unfold maxLen; omega) (Nat.le_trans (Nat.mul_le_mul_left _ hb8) (by omega)) hst2.ex.size fun v' w' hown hgrow hloc => ?_
  have hx' : Ex w w' := Row.grown hst2.r1 hst2.ex hgrow
  refine h v' w' ⟨hx', hown, Row.kept hst2.r2 hgrow (ne_row hst2.a12), fun j h1 h2 => ?_⟩
  rcases hloc with h3 | h3
  · rw [h3] at h1; exact hst2.a12 j h1 h2
  · rw [h3] at h1
    have h4 := (hst2.r2.lt j h2).2
    have := Option.some.inj h1
    omega

/-- The same, at the second. -/
theorem wpList_append_sti2 (hgd : o.guard = none) (s x : Operand) (t : TypeId) (ho : o.op = .call { callee := .builtin .append, args := #[s, x], argTypes := #[t, t] })
    (w : World) (e : TypeId) (k : IntKind) (bytes : Nat) (hb8 : bytes ≤ 8) (ht : P.underlying t = some (.slice e)) (hinfo : (P.info? e).map (fun i => (i.zero, i.size, i.bytes)) = some (some (.int k 0), 1, bytes))
    (v1 v2 : Value) (l1 l2 : List Int) (hs : a.eval s = v2) (d : Int) (hx : a.eval x = .slice (some ⟨W.heap.size, 0, none⟩) 1 1) (T : TypeId) (hst : Sti e k w W v1 v2 l1 l2)
    (hl : l2.length ≤ 1000000)
    (h : ∀ v' w', Sti e k w w' v1 v' l1 (l2 ++ [d]) → wpList P ops Q rest (a.put o.dst v') w') : wpList P ops Q (o :: rest) a (W.alloc (.cells #[.int k d] T)) :=
  wpList_append_sti1 hgd s x t ho w e k bytes hb8 ht hinfo v2 v1 l2 l1 hs d hx T hst.swap hl fun v' w' h1 => h v' w' h1.swap
end

end Go.Proofs.Ythlnbomapfjphaa
