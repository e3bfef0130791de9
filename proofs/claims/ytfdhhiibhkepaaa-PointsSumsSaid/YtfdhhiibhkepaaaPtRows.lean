/-
  Three rows of structs of two ints, apart from one another; one more at one of them, out of a block that is apart.
-/
import Derived.Test.YtfdhhiibhkepaaaPairs
import Derived.Test.YtfdhhiibhkepaaaMixP
namespace Go.Proofs.Ytfdhhiibhkepaaa
open Go.RowKit

/-- Two rows lie in no one block. -/
def ApartB (u v : Value) : Prop := ∀ b, u.ownBlock = some b → v.ownBlock ≠ some b
theorem ApartB.symm {u v : Value} (h : ApartB u v) : ApartB v u := fun b h1 h2 => h b h2 h1
theorem ApartB.none {u v : Value} (h : u.ownBlock = none) : ApartB u v := fun b h1 => by rw [h] at h1; cases h1

/-- Three rows, apart. -/
structure St3 (e : TypeId) (w W : World) (v1 v2 v3 : Value) (l1 l2 l3 : List (Int × Int)) : Prop where
  ex : Ex w W
  r1 : RowR e W w.heap.size v1 l1
  r2 : RowR e W w.heap.size v2 l2
  r3 : RowR e W w.heap.size v3 l3
  a12 : ApartB v1 v2
  a13 : ApartB v1 v3
  a23 : ApartB v2 v3

theorem St3.swap {e : TypeId} {w W : World} {v1 v2 v3 : Value} {l1 l2 l3 : List (Int × Int)} (h : St3 e w W v1 v2 v3 l1 l2 l3) : St3 e w W v2 v1 v3 l2 l1 l3 := ⟨h.ex, h.r2, h.r1, h.r3, h.a12.symm, h.a23, h.a13⟩
theorem St3.turn {e : TypeId} {w W : World} {v1 v2 v3 : Value} {l1 l2 l3 : List (Int × Int)} (h : St3 e w W v1 v2 v3 l1 l2 l3) : St3 e w W v3 v2 v1 l3 l2 l1 := ⟨h.ex, h.r3, h.r2, h.r1, h.a23.symm, h.a13.symm, h.a12.symm⟩
theorem St3.to {e : TypeId} {w W W2 : World} {v1 v2 v3 : Value} {l1 l2 l3 : List (Int × Int)} (h : St3 e w W v1 v2 v3 l1 l2 l3) (hx : Ex W W2) : St3 e w W2 v1 v2 v3 l1 l2 l3 := ⟨h.ex.trans hx, h.r1.ex hx, h.r2.ex hx, h.r3.ex hx, h.a12, h.a13, h.a23⟩
theorem St3.alloc {e : TypeId} {w W : World} {v1 v2 v3 : Value} {l1 l2 l3 : List (Int × Int)} (h : St3 e w W v1 v2 v3 l1 l2 l3) (o : Obj) : St3 e w (W.alloc o) v1 v2 v3 l1 l2 l3 := h.to ((Ex.refl W).alloc o)
theorem St3.drew {e : TypeId} {w W : World} {v1 v2 v3 : Value} {l1 l2 l3 : List (Int × Int)} (h : St3 e w W v1 v2 v3 l1 l2 l3) : St3 e w W.drew v1 v2 v3 l1 l2 l3 := h.to (Ex.refl W).drew
theorem St3.start (e : TypeId) (w : World) {W : World} (hx : Ex w W) : St3 e w W (.slice none 0 0) (.slice none 0 0) (.slice none 0 0) [] [] [] := ⟨hx, RowR.nil _ _ _, RowR.nil _ _ _, RowR.nil _ _ _, .none rfl, .none rfl, .none rfl⟩

theorem RowR.lt {e : TypeId} {w : World} {base : Nat} {v : Value} {l : List (Int × Int)} (h : RowR e w base v l) : ∀ b, v.ownBlock = some b → base ≤ b ∧ b < w.heap.size := World.ownsRow.lt h

/-- A block that holds a struct of two ints, apart from the three rows. -/
structure Bx3 (W : World) (b : Nat) (x y : Int) (v1 v2 v3 : Value) : Prop where
  lt : b < W.heap.size
  c0 : W.cell? ⟨b, 0, none⟩ = some (.int .i64 x)
  c1 : W.cell? ⟨b, 1, none⟩ = some (.int .i64 y)
  n1 : v1.ownBlock ≠ some b
  n2 : v2.ownBlock ≠ some b
  n3 : v3.ownBlock ≠ some b

theorem Bx3.swap {W : World} {b : Nat} {x y : Int} {v1 v2 v3 : Value} (h : Bx3 W b x y v1 v2 v3) : Bx3 W b x y v2 v1 v3 := ⟨h.lt, h.c0, h.c1, h.n2, h.n1, h.n3⟩
theorem Bx3.turn {W : World} {b : Nat} {x y : Int} {v1 v2 v3 : Value} (h : Bx3 W b x y v1 v2 v3) : Bx3 W b x y v3 v2 v1 := ⟨h.lt, h.c0, h.c1, h.n3, h.n2, h.n1⟩
theorem Bx3.alloc {W : World} {b : Nat} {x y : Int} {v1 v2 v3 : Value} (h : Bx3 W b x y v1 v2 v3) (o : Obj) : Bx3 (W.alloc o) b x y v1 v2 v3 :=
  ⟨by rw [World.size_alloc]; have := h.lt; omega, ((Ex.refl W).alloc o).cell h.c0, ((Ex.refl W).alloc o).cell h.c1, h.n1, h.n2, h.n3⟩
/-- The three rows' blocks are there. -/
def Low3 (W : World) (v1 v2 v3 : Value) : Prop := ∀ b, v1.ownBlock = some b ∨ v2.ownBlock = some b ∨ v3.ownBlock = some b → b < W.heap.size
theorem St3.low {e : TypeId} {w W : World} {v1 v2 v3 : Value} {l1 l2 l3 : List (Int × Int)} (h : St3 e w W v1 v2 v3 l1 l2 l3) : Low3 W v1 v2 v3 := fun b hb => by
  rcases hb with hb | hb | hb
  · exact (h.r1.lt _ hb).2
  · exact (h.r2.lt _ hb).2
  · exact (h.r3.lt _ hb).2
theorem Low3.alloc {W : World} {v1 v2 v3 : Value} (h : Low3 W v1 v2 v3) (o : Obj) : Low3 (W.alloc o) v1 v2 v3 := fun b hb => by
  have := h b hb
  rw [World.size_alloc]
  omega
theorem Bx3.new {t : TypeId} {W : World} {b : Nat} {x y : Int} {v1 v2 v3 : Value} (hb : b = W.heap.size) (h : Low3 W v1 v2 v3) : Bx3 (W.alloc (.cells #[.int .i64 x, .int .i64 y] t)) b x y v1 v2 v3 := by
  subst hb
  refine ⟨by rw [World.size_alloc]; omega, by simp, by simp, fun e => ?_, fun e => ?_, fun e => ?_⟩
  · have := h _ (.inl e); omega
  · have := h _ (.inr (.inl e)); omega
  · have := h _ (.inr (.inr e)); omega

theorem ne_row {u v : Value} (h : ApartB u v) : v.ownBlock = none ∨ v.ownBlock ≠ u.ownBlock := by
  cases hv : v.ownBlock with
  | none => exact .inl rfl
  | some b => exact .inr fun e => h b e.symm hv

section
variable {P : Program} {W : World} {ops : Array Oper} {rest : List Oper} {o : Oper} {a : Act} {Q : Exit → Act → World → Prop}

theorem wpList_append_st1 (hgd : o.guard = none) (s x : Operand) (t : TypeId) (ho : o.op = .call { callee := .builtin .append, args := #[s, x], argTypes := #[t, t] })
    (w : World) (e : TypeId) (ht : P.underlying t = some (.slice e)) (hinfo : (P.info? e).map (fun i => (i.zero, i.size, i.bytes)) = some (some (.agg #[.int .i64 0, .int .i64 0]), 2, 16))
    (v1 v2 v3 : Value) (l1 l2 l3 : List (Int × Int)) (hs : a.eval s = v1) (d1 d2 : Int) (b : Nat) (hx : a.eval x = .slice (some ⟨b, 0, none⟩) 1 1) (hst : St3 e w W v1 v2 v3 l1 l2 l3) (hb : Bx3 W b d1 d2 v1 v2 v3)
    (hl : l1.length ≤ 1000)
    (h : ∀ v' w', St3 e w w' v' v2 v3 (l1 ++ [(d1, d2)]) l2 l3 → (∀ b x y, Bx3 W b x y v1 v2 v3 → Bx3 w' b x y v' v2 v3) → wpList P ops Q rest (a.put o.dst v') w') : wpList P ops Q (o :: rest) a W := by
  refine wpList_append_pair hgd s x t ho w.heap.size e ht hinfo v1 l1 hs hst.r1 (d1, d2) b hx hb.c0 hb.c1 (by unfold maxLen; omega) (by omega) hst.ex.size fun v' w' hown hgrow hloc => ?_
  have hx' : Ex w w' := RowR.grown hst.r1 hst.ex hgrow
  have hfar : ∀ j, j < W.heap.size → v1.ownBlock ≠ some j → v'.ownBlock ≠ some j := fun j hj h1 => by
    rcases hloc with h2 | h2
    · rw [h2]; exact h1
    · rw [h2]; intro e; have := Option.some.inj e; omega
  refine h v' w' ⟨hx', hown, World.ownsRow.kept hst.r2 hgrow (ne_row hst.a12), World.ownsRow.kept hst.r3 hgrow (ne_row hst.a13), fun j h1 h2 => ?_, fun j h1 h2 => ?_, hst.a23⟩ fun b2 x2 y2 hb2 => ?_
  · exact hfar j (hst.r2.lt j h2).2 (fun e => hst.a12 j e h2) h1
  · exact hfar j (hst.r3.lt j h2).2 (fun e => hst.a13 j e h2) h1
  · exact ⟨Nat.lt_of_lt_of_le hb2.lt hgrow.size, hgrow.cell hb2.c0 (Ne.symm hb2.n1), hgrow.cell hb2.c1 (Ne.symm hb2.n1), hfar b2 hb2.lt hb2.n1, hb2.n2, hb2.n3⟩

theorem wpList_append_st2 (hgd : o.guard = none) (s x : Operand) (t : TypeId) (ho : o.op = .call { callee := .builtin .append, args := #[s, x], argTypes := #[t, t] })
    (w : World) (e : TypeId) (ht : P.underlying t = some (.slice e)) (hinfo : (P.info? e).map (fun i => (i.zero, i.size, i.bytes)) = some (some (.agg #[.int .i64 0, .int .i64 0]), 2, 16))
    (v1 v2 v3 : Value) (l1 l2 l3 : List (Int × Int)) (hs : a.eval s = v2) (d1 d2 : Int) (b : Nat) (hx : a.eval x = .slice (some ⟨b, 0, none⟩) 1 1) (hst : St3 e w W v1 v2 v3 l1 l2 l3) (hb : Bx3 W b d1 d2 v1 v2 v3)
    (hl : l2.length ≤ 1000)
    (h : ∀ v' w', St3 e w w' v1 v' v3 l1 (l2 ++ [(d1, d2)]) l3 → (∀ b x y, Bx3 W b x y v1 v2 v3 → Bx3 w' b x y v1 v' v3) → wpList P ops Q rest (a.put o.dst v') w') : wpList P ops Q (o :: rest) a W :=
  wpList_append_st1 hgd s x t ho w e ht hinfo v2 v1 v3 l2 l1 l3 hs d1 d2 b hx hst.swap hb.swap hl fun v' w' h1 h2 => h v' w' h1.swap fun b x y hb => (h2 b x y hb.swap).swap

theorem wpList_append_st3 (hgd : o.guard = none) (s x : Operand) (t : TypeId) (ho : o.op = .call { callee := .builtin .append, args := #[s, x], argTypes := #[t, t] })
    (w : World) (e : TypeId) (ht : P.underlying t = some (.slice e)) (hinfo : (P.info? e).map (fun i => (i.zero, i.size, i.bytes)) = some (some (.agg #[.int .i64 0, .int .i64 0]), 2, 16))
    (v1 v2 v3 : Value) (l1 l2 l3 : List (Int × Int)) (hs : a.eval s = v3) (d1 d2 : Int) (b : Nat) (hx : a.eval x = .slice (some ⟨b, 0, none⟩) 1 1) (hst : St3 e w W v1 v2 v3 l1 l2 l3) (hb : Bx3 W b d1 d2 v1 v2 v3)
    (hl : l3.length ≤ 1000)
    (h : ∀ v' w', St3 e w w' v1 v2 v' l1 l2 (l3 ++ [(d1, d2)]) → (∀ b x y, Bx3 W b x y v1 v2 v3 → Bx3 w' b x y v1 v2 v') → wpList P ops Q rest (a.put o.dst v') w') : wpList P ops Q (o :: rest) a W :=
  wpList_append_st1 hgd s x t ho w e ht hinfo v3 v2 v1 l3 l2 l1 hs d1 d2 b hx hst.turn hb.turn hl fun v' w' h1 h2 => h v' w' h1.turn fun b x y hb => (h2 b x y hb.turn).turn
end

end Go.Proofs.Ytfdhhiibhkepaaa
