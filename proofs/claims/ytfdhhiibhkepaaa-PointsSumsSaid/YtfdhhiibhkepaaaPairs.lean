/-
  Rows of structs of two ints of one's own, more: written out, one appended; and whether two such slices are alike.
-/
import Derived.Test.YtfdhhiibhkepaaaRests
namespace Go.Proofs.Ytfdhhiibhkepaaa
open Go.RowKit
open Ch

theorem rcs_append2 (l k : List (Int × Int)) : rcs (l ++ k) = rcs l ++ rcs k := by simp [rcs]

theorem rowR_new (e : TypeId) (w : World) (base : Nat) (hb : base ≤ w.heap.size) (xs : List (Int × Int)) (vs : Array Value) (h : vs = (rcs xs).toArray) (hl : xs.length ≤ maxLen) :
    RowR e (w.alloc (.cells vs e)) base (.slice (some ⟨w.heap.size, 0, none⟩) xs.length xs.length) xs := by
  subst h
  exact ⟨by rw [rcs_length], .inr ⟨w.heap.size, xs.length, _, rfl, hb, heap_alloc_new w _, Nat.le_refl _, hl, by simp [rcs_length], by simp [List.take_of_length_le, rcs_length]⟩⟩

theorem add0 (b i : Nat) : (⟨b, 0, none⟩ : Addr).add i = ⟨b, i, none⟩ := by rw [add_none, Nat.zero_add]

section
variable {P : Program} {w : World} {ops : Array Oper} {rest : List Oper} {o : Oper} {a : Act} {Q : Exit → Act → World → Prop}

/-- append of one struct of two ints, which lies in the block b. -/
theorem wpList_append_pair (hgd : o.guard = none) (s x : Operand) (t : TypeId) (ho : o.op = .call { callee := .builtin .append, args := #[s, x], argTypes := #[t, t] })
    (base : Nat) (e : TypeId) (ht : P.underlying t = some (.slice e)) (hinfo : (P.info? e).map (fun i => (i.zero, i.size, i.bytes)) = some (some (.agg #[.int .i64 0, .int .i64 0]), 2, 16))
    (v : Value) (xs : List (Int × Int)) (hs : a.eval s = v) (hown : RowR e w base v xs) (d : Int × Int) (b : Nat) (hx : a.eval x = .slice (some ⟨b, 0, none⟩) 1 1)
    (hb0 : w.cell? ⟨b, 0, none⟩ = some (.int .i64 d.1)) (hb1 : w.cell? ⟨b, 1, none⟩ = some (.int .i64 d.2))
    (h63 : xs.length + 1 ≤ maxLen) (hbytes : (xs.length + 1) * 16 ≤ 140737488355328) (hbase : base ≤ w.heap.size)
    (h : ∀ v' w', RowR e w' base v' (xs ++ [d]) → w.grownBy w' v.ownBlock → (v'.ownBlock = v.ownBlock ∨ v'.ownBlock = some w.heap.size) → wpList P ops Q rest (a.put o.dst v') w') : wpList P ops Q (o :: rest) a w := by
  obtain ⟨i, hi, hz, hsz, hby⟩ := info_parts hinfo
  refine wpList_append_own_at w hgd s x t ho base e i _ 2 16 ht hi hz hsz hby rfl (by decide) v xs.length (rcs xs) hs hown ⟨b, 0, none⟩ 1 1 [.int .i64 d.1, .int .i64 d.2] hx rfl ?_ (by intro u hu; simp at hu; rcases hu with rfl | rfl <;> rfl) h63 hbytes hbase ?_
  · intro j u hj
    match j, hj with
    | 0, hj => simp at hj; subst hj; exact hb0
    | 1, hj => simp at hj; subst hj; rw [add0]; exact hb1
  · intro v' w' h1 h2 _ h4
    refine h v' w' ?_ h2 h4
    unfold RowR
    rw [rcs_append2, List.length_append]
    exact h1
end

/-- Are they alike? Element for element, as far as the first. -/
def alikeR : List (Int × Int) → List (Int × Int) → Bool
  | [], [] => true
  | x :: l, y :: k => (x.1 == y.1 && x.2 == y.2) && alikeR l k
  | _, _ => false

theorem alikeR_iff : ∀ (l k : List (Int × Int)), alikeR l k = true ↔ l = k := by
  intro l
  induction l with
  | nil => intro k; cases k <;> simp [alikeR]
  | cons x l ih =>
    intro k
    cases k with
    | nil => simp [alikeR]
    | cons y k =>
      simp only [alikeR, Bool.and_eq_true, beq_iff_eq, ih, List.cons.injEq]
      constructor
      · rintro ⟨⟨h1, h2⟩, rfl⟩; exact ⟨Prod.ext h1 h2, rfl⟩
      · rintro ⟨rfl, rfl⟩; exact ⟨⟨rfl, rfl⟩, rfl⟩

end Go.Proofs.Ytfdhhiibhkepaaa
