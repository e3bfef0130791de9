/-
  Two rows of one's own apart, under two appends; what they read as.
-/
import Derived.Test.YthlnbomapfjphaaRowsI
namespace Go.Proofs.Ythlnbomapfjphaa
open Go.RowKit

theorem Row.reads2 {e : TypeId} {k : IntKind} {w : World} {base : Nat} {v : Value} {xs : List Int} (h : Row e k w base v xs) :
    ∃ a cap, v = .slice a xs.length cap ∧ xs.length ≤ cap ∧ cap ≤ 9223372036854775807 ∧ Reads w k a xs := by
  rcases h.form with ⟨rfl, rfl⟩ | ⟨g, cap, rfl, _, _, h1, h2, hc, _⟩
  · exact ⟨none, 0, rfl, by simp, by omega, .inl rfl⟩
  · exact ⟨_, cap, rfl, by omega, by unfold maxLen at h2; omega, .inr ⟨g, 0, rfl, fun i hi => by rw [Nat.zero_add]; exact hc i hi⟩⟩

section
variable {P : Program} {W : World} {ops : Array Oper} {rest : List Oper} {o : Oper} {a : Act} {Q : Exit → Act → World → Prop}

/-- One more at the first, out of a block that has just been made. -/
theorem wpList_append_stb1 (hgd : o.guard = none) (s x : Operand) (t : TypeId) (ho : o.op = .call { callee := .builtin .append, args := #[s, x], argTypes := #[t, t] })
    (w : World) (e : TypeId) (k : IntKind) (bytes : Nat) (ht : P.underlying t = some (.slice e)) (hinfo : (P.info? e).map (fun i => (i.zero, i.size, i.bytes)) = some (some (.int k 0), 1, bytes))
    (v1 v2 : Value) (l1 l2 : List Int) (hs : a.eval s = v1) (d : Int) (hx : a.eval x = .slice (some ⟨W.heap.size, 0, none⟩) 1 1) (T : TypeId) (hst : Sti e k w W v1 v2 l1 l2)
    (hl : (l1.length + 1) * bytes ≤ 140737488355328) (hm : l1.length < 140737488355328)
    (h : ∀ v' w', Sti e k w w' v' v2 (l1 ++ [d]) l2 → wpList P ops Q rest (a.put o.dst v') w') : wpList P ops Q (o :: rest) a (W.alloc (.cells #[.int k d] T)) := by
  have hst2 := hst.alloc (.cells #[.int k d] T)
  refine wpList_append_int hgd s x t ho w.heap.size e k bytes ht hinfo v1 l1 hs hst2.r1 d W.heap.size hx (by simp) (by unfold maxLen; omega) hl hst2.ex.size fun v' w' hown hgrow hloc => ?_
  have hx' : Ex w w' := Row.grown hst2.r1 hst2.ex hgrow
  refine h v' w' ⟨hx', hown, Row.kept hst2.r2 hgrow (ne_row hst2.a12), fun j h1 h2 => ?_⟩
  rcases hloc with h3 | h3
  · rw [h3] at h1; exact hst2.a12 j h1 h2
  · rw [h3] at h1
    have h4 := (hst2.r2.lt j h2).2
    have := Option.some.inj h1
    omega

/-- The same, at the second. -/
theorem wpList_append_stb2 (hgd : o.guard = none) (s x : Operand) (t : TypeId) (ho : o.op = .call { callee := .builtin .append, args := #[s, x], argTypes := #[t, t] })
    (w : World) (e : TypeId) (k : IntKind) (bytes : Nat) (ht : P.underlying t = some (.slice e)) (hinfo : (P.info? e).map (fun i => (i.zero, i.size, i.bytes)) = some (some (.int k 0), 1, bytes))
    (v1 v2 : Value) (l1 l2 : List Int) (hs : a.eval s = v2) (d : Int) (hx : a.eval x = .slice (some ⟨W.heap.size, 0, none⟩) 1 1) (T : TypeId) (hst : Sti e k w W v1 v2 l1 l2)
    (hl : (l2.length + 1) * bytes ≤ 140737488355328) (hm : l2.length < 140737488355328)
    (h : ∀ v' w', Sti e k w w' v1 v' l1 (l2 ++ [d]) → wpList P ops Q rest (a.put o.dst v') w') : wpList P ops Q (o :: rest) a (W.alloc (.cells #[.int k d] T)) :=
  wpList_append_stb1 hgd s x t ho w e k bytes ht hinfo v2 v1 l2 l1 hs d hx T hst.swap hl hm fun v' w' h1 => h v' w' h1.swap
end

end Go.Proofs.Ythlnbomapfjphaa
