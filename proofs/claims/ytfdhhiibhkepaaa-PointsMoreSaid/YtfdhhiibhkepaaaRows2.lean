/-
  Rows of integers that a function has made itself: append of one, append of a row, reading, storing.
-/
import Derived.Test.YtfdhhiibhkepaaaLib
import Derived.Laws.OwnMore
import Derived.Laws.AppendOwnNone
import Derived.Maps.AppendAt
import Derived.OwnWalk
namespace Go.Proofs.Ytfdhhiibhkepaaa
open Go.RowKit

/-- The slice v is a row of our own, in memory from base on: it holds xs. -/
def Row (e : TypeId) (k : IntKind) (w : World) (base : Nat) (v : Value) (xs : List Int) : Prop := w.ownsRow base e 1 v xs.length (xs.map (Value.int k))

theorem Row.nil (e : TypeId) (k : IntKind) (w : World) (base : Nat) : Row e k w base (.slice none 0 0) [] := World.ownsRow_nil _ _ _ _

theorem Row.ex {e : TypeId} {k : IntKind} {w w2 : World} {base : Nat} {v : Value} {xs : List Int} (h : Row e k w base v xs) (hx : Ex w w2) : Row e k w2 base v xs := by
  refine ⟨h.1, ?_⟩
  rcases h.2 with hn | ⟨g, cap, cur, rfl, hb, hgg, rest⟩
  · exact .inl hn
  · refine .inr ⟨g, cap, cur, rfl, hb, ?_, rest⟩
    rw [hx.block g (Array.getElem?_eq_some_iff.1 hgg).1]
    exact hgg

theorem Row.kept {e : TypeId} {k : IntKind} {w w2 : World} {base : Nat} {v : Value} {xs : List Int} {row : Option Nat} (h : Row e k w base v xs) (hg : w.grownBy w2 row) (hne : v.ownBlock = none ∨ v.ownBlock ≠ row) : Row e k w2 base v xs :=
  World.ownsRow.kept h hg hne

theorem Row.lt {e : TypeId} {k : IntKind} {w : World} {base : Nat} {v : Value} {xs : List Int} (h : Row e k w base v xs) : ∀ b, v.ownBlock = some b → base ≤ b ∧ b < w.heap.size := World.ownsRow.lt h

theorem Row.less {e : TypeId} {k : IntKind} {w : World} {base base2 : Nat} {v : Value} {xs : List Int} (h : Row e k w base v xs) (hb : base2 ≤ base) : Row e k w base2 v xs := by
  refine ⟨h.1, ?_⟩
  rcases h.2 with hn | ⟨g, cap, cur, h1, h2, rest⟩
  · exact .inl hn
  · exact .inr ⟨g, cap, cur, h1, by omega, rest⟩

/-- What an append or a store to the row leaves has grown out of what was before. -/
theorem ex_grown {w a b : World} {row : Option Nat} (h : Ex w a) (hg : a.grownBy b row) (hr : ∀ k, row = some k → w.heap.size ≤ k) : Ex w b := Below.grown h hg h.size hr

theorem Row.grown {e : TypeId} {k : IntKind} {w a b : World} {v : Value} {xs : List Int} (hr : Row e k a w.heap.size v xs) (h : Ex w a) (hg : a.grownBy b v.ownBlock) : Ex w b := ex_grown h hg fun j hj => (hr.lt j hj).1

theorem Row.form {e : TypeId} {k : IntKind} {w : World} {base : Nat} {v : Value} {xs : List Int} (h : Row e k w base v xs) :
    (v = .slice none 0 0 ∧ xs = []) ∨ ∃ g cap, v = .slice (some ⟨g, 0, none⟩) xs.length cap ∧ base ≤ g ∧ g < w.heap.size ∧ xs.length ≤ cap ∧ cap ≤ maxLen ∧
      (∀ i, i < xs.length → w.cell? ⟨g, i, none⟩ = some (.int k (nth xs i))) ∧ ∀ i, w.frozen? ⟨g, i, none⟩ = false := by
  rcases h.2 with ⟨rfl, hn⟩ | ⟨g, cap, cur, rfl, hb, hgg, h1, h2, _⟩
  · exact .inl ⟨rfl, List.length_eq_zero_iff.mp hn⟩
  · refine .inr ⟨g, cap, rfl, hb, (Array.getElem?_eq_some_iff.1 hgg).1, h1, h2, fun i hi => ?_, fun i => World.ownsRow.frozenAt h i⟩
    have := World.ownsRow.cellAt h i (by omega)
    rw [this, List.getElem?_map, List.getElem?_eq_getElem hi, nth_eq hi]
    rfl

theorem Row.reads {e : TypeId} {k : IntKind} {w : World} {base : Nat} {v : Value} {xs : List Int} (h : Row e k w base v xs) :
    ∃ a cap, v = .slice a xs.length cap ∧ xs.length ≤ maxLen ∧ Reads w k a xs ∧ (a = none → cap = 0) := by
  rcases h.form with ⟨rfl, rfl⟩ | ⟨g, cap, rfl, _, _, h1, h2, hc, _⟩
  · exact ⟨none, 0, rfl, by simp, .inl rfl, fun _ => rfl⟩
  · exact ⟨_, cap, rfl, by omega, .inr ⟨g, 0, rfl, fun i hi => by rw [Nat.zero_add]; exact hc i hi⟩, fun h => by simp at h⟩

theorem Row.read {e : TypeId} {k : IntKind} {w : World} {base n cap : Nat} {a : Option Addr} {xs : List Int} (h : Row e k w base (.slice a n cap) xs) : Reads w k a xs := by
  obtain ⟨a2, cap2, h1, _, h2, _⟩ := h.reads
  simp only [Value.slice.injEq] at h1
  rw [h1.1]; exact h2

theorem Row.set {e : TypeId} {k : IntKind} {w : World} {base g n cap : Nat} {xs : List Int} (h : Row e k w base (.slice (some ⟨g, 0, none⟩) n cap) xs) (hn : n = xs.length) (j : Nat) (x : Int) :
    Row e k (w.setCell ⟨g, j, none⟩ (.int k x)) base (.slice (some ⟨g, 0, none⟩) n cap) (xs.set j x) ∧ w.grownBy (w.setCell ⟨g, j, none⟩ (.int k x)) (some g) := by
  subst hn
  have := World.ownsRow.stored h j (.int k x)
  refine ⟨?_, this.2⟩
  unfold Row
  rw [List.length_set, List.map_set]
  exact this.1

theorem ints_one (k : IntKind) (xs : List Int) : ∀ u ∈ xs.map (Value.int k), u.oneCell' = true := by
  intro u hu
  simp only [List.mem_map] at hu
  obtain ⟨x, _, rfl⟩ := hu
  rfl

section
variable {P : Program} {w : World} {ops : Array Oper} {rest : List Oper} {o : Oper} {a : Act} {Q : Exit → Act → World → Prop}

/-- append of one integer, which lies in the block b. -/
theorem wpList_append_int (hgd : o.guard = none) (s x : Operand) (t : TypeId) (ho : o.op = .call { callee := .builtin .append, args := #[s, x], argTypes := #[t, t] })
    (base : Nat) (e : TypeId) (k : IntKind) (bytes : Nat) (ht : P.underlying t = some (.slice e)) (hinfo : (P.info? e).map (fun i => (i.zero, i.size, i.bytes)) = some (some (.int k 0), 1, bytes))
    (v : Value) (xs : List Int) (hs : a.eval s = v) (hown : Row e k w base v xs) (d : Int) (b : Nat) (hx : a.eval x = .slice (some ⟨b, 0, none⟩) 1 1) (hb : w.cell? ⟨b, 0, none⟩ = some (.int k d))
    (h63 : xs.length + 1 ≤ maxLen) (hbytes : (xs.length + 1) * bytes ≤ 140737488355328) (hbase : base ≤ w.heap.size)
    (h : ∀ v' w', Row e k w' base v' (xs ++ [d]) → w.grownBy w' v.ownBlock → (v'.ownBlock = v.ownBlock ∨ v'.ownBlock = some w.heap.size) → wpList P ops Q rest (a.put o.dst v') w') : wpList P ops Q (o :: rest) a w := by
  obtain ⟨i, hi, hz, hsz, hby⟩ := info_parts hinfo
  refine wpList_append_own_at w hgd s x t ho base e i _ 1 bytes ht hi hz hsz hby rfl (by decide) v xs.length (xs.map (Value.int k)) hs hown ⟨b, 0, none⟩ 1 1 [.int k d] hx rfl ?_ (by intro u hu; simp at hu; subst hu; rfl) h63 hbytes hbase ?_
  · intro j u hj
    match j, hj with
    | 0, hj => simp at hj; subst hj; exact hb
  · intro v' w' h1 h2 _ h4
    refine h v' w' ?_ h2 h4
    unfold Row
    simpa using h1

/-- append of a row of integers, nil or not. -/
theorem wpList_append_ints (hgd : o.guard = none) (s x : Operand) (t : TypeId) (ho : o.op = .call { callee := .builtin .append, args := #[s, x], argTypes := #[t, t] })
    (base : Nat) (e : TypeId) (k : IntKind) (bytes : Nat) (ht : P.underlying t = some (.slice e)) (hinfo : (P.info? e).map (fun i => (i.zero, i.size, i.bytes)) = some (some (.int k 0), 1, bytes))
    (v : Value) (xs : List Int) (hs : a.eval s = v) (hown : Row e k w base v xs) (ad : Option Addr) (c : Nat) (ys : List Int) (hx : a.eval x = .slice ad ys.length c) (hnil : ad = none → c = 0) (hr : Reads w k ad ys)
    (h63 : xs.length + ys.length ≤ maxLen) (hbytes : (xs.length + ys.length) * bytes ≤ 140737488355328) (hbase : base ≤ w.heap.size)
    (h : ∀ v' w', Row e k w' base v' (xs ++ ys) → w.grownBy w' v.ownBlock → (v'.ownBlock = v.ownBlock ∨ v'.ownBlock = some w.heap.size) → wpList P ops Q rest (a.put o.dst v') w') : wpList P ops Q (o :: rest) a w := by
  obtain ⟨i, hi, hz, hsz, hby⟩ := info_parts hinfo
  have go : ∀ (p : Addr), ad = some p → (∀ j u, (ys.map (Value.int k))[j]? = some u → w.cell? (p.add j) = some u) → wpList P ops Q (o :: rest) a w := fun p hp hc => by
    subst hp
    refine wpList_append_own_at w hgd s x t ho base e i _ 1 bytes ht hi hz hsz hby rfl (by decide) v xs.length (xs.map (Value.int k)) hs hown p ys.length c (ys.map (Value.int k)) hx (by simp) hc (ints_one k ys) h63 hbytes hbase ?_
    intro v' w' h1 h2 _ h4
    refine h v' w' ?_ h2 h4
    unfold Row
    simpa using h1
  rcases hr with rfl | ⟨b, off, rfl, hc⟩
  · cases ad with
    | none =>
      obtain rfl := hnil rfl
      refine wpList_append_own_none hgd s x t ho base e i 1 ht hi v xs.length (xs.map (Value.int k)) hs hown hx (h v w ?_ ⟨rfl, rfl, rfl, Nat.le_refl _, fun _ _ _ => rfl⟩ (.inl rfl))
      simpa using hown
    | some p => exact go p rfl (fun j u hj => by simp at hj)
  · refine go ⟨b, off, none⟩ rfl fun j u hj => ?_
    have hl : j < ys.length := by
      have := (List.getElem?_eq_some_iff.mp hj).1
      simpa using this
    rw [List.getElem?_map, List.getElem?_eq_getElem hl] at hj
    simp at hj
    subst hj
    have e2 : (⟨b, off, none⟩ : Addr).add j = ⟨b, off + j, none⟩ := by unfold Addr.add; split <;> simp_all
    rw [e2, hc j hl, nth_eq hl]
end

end Go.Proofs.Ytfdhhiibhkepaaa
