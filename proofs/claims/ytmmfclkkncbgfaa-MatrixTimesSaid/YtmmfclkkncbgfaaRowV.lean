/-
  Rows of one's own whose elements are values of one cell each (strings, slices, pointers, Bools): written out, made, one more, a store; rows of rows.
-/
import Derived.Test.YtmmfclkkncbgfaaGpr
import Derived.Test.YtmmfclkkncbgfaaMats
namespace Go.Proofs.Ytmmfclkkncbgfaa
open Go.RowKit

/-- The slice v is a row of our own, in memory from base on: it holds us. -/
def RowV (e : TypeId) (w : World) (base : Nat) (v : Value) (us : List Value) : Prop := w.ownsRow base e 1 v us.length us

theorem RowV.nil (e : TypeId) (w : World) (base : Nat) : RowV e w base (.slice none 0 0) [] := World.ownsRow_nil _ _ _ _
theorem RowV.ex {e : TypeId} {w w2 : World} {base : Nat} {v : Value} {us : List Value} (h : RowV e w base v us) (hx : Ex w w2) : RowV e w2 base v us := owns_ex h hx
theorem RowV.kept {e : TypeId} {w w2 : World} {base : Nat} {v : Value} {us : List Value} {row : Option Nat} (h : RowV e w base v us) (hg : w.grownBy w2 row) (hne : v.ownBlock = none ∨ v.ownBlock ≠ row) : RowV e w2 base v us := World.ownsRow.kept h hg hne
theorem RowV.lt {e : TypeId} {w : World} {base : Nat} {v : Value} {us : List Value} (h : RowV e w base v us) : ∀ b, v.ownBlock = some b → base ≤ b ∧ b < w.heap.size := World.ownsRow.lt h
theorem RowV.less {e : TypeId} {w : World} {base base2 : Nat} {v : Value} {us : List Value} (h : RowV e w base v us) (hb : base2 ≤ base) : RowV e w base2 v us := by
  refine ⟨h.1, ?_⟩
  rcases h.2 with hn | ⟨g, cap, cur, h1, h2, rest⟩
  · exact .inl hn
  · exact .inr ⟨g, cap, cur, h1, by omega, rest⟩
theorem RowV.grown {e : TypeId} {w a b : World} {v : Value} {us : List Value} (hr : RowV e a w.heap.size v us) (h : Ex w a) (hg : a.grownBy b v.ownBlock) : Ex w b := ex_grown h hg fun j hj => (hr.lt j hj).1

/-- Element i; not there behind the end. -/
def nthV (us : List Value) (i : Nat) : Value := us.getD i undef
theorem nthV_eq {us : List Value} {i : Nat} (h : i < us.length) : nthV us i = us[i] := by
  unfold nthV; rw [List.getD_eq_getElem?_getD, List.getElem?_eq_getElem h]; rfl

theorem RowV.form {e : TypeId} {w : World} {base : Nat} {v : Value} {us : List Value} (h : RowV e w base v us) :
    (v = .slice none 0 0 ∧ us = []) ∨ ∃ g cap, v = .slice (some ⟨g, 0, none⟩) us.length cap ∧ base ≤ g ∧ g < w.heap.size ∧ us.length ≤ cap ∧ cap ≤ maxLen ∧
      (∀ i, i < us.length → w.cell? ⟨g, i, none⟩ = some (nthV us i)) ∧ ∀ i, w.frozen? ⟨g, i, none⟩ = false := by
  have h0 := h
  rcases h.2 with ⟨rfl, hn⟩ | ⟨g, cap, cur, rfl, hb, hgg, h1, h2, _⟩
  · exact .inl ⟨rfl, List.length_eq_zero_iff.mp hn⟩
  · refine .inr ⟨g, cap, rfl, hb, (Array.getElem?_eq_some_iff.1 hgg).1, h1, h2, fun i hi => ?_, fun i => World.ownsRow.frozenAt h i⟩
    rw [World.ownsRow.cellAt h0 i (by omega), List.getElem?_eq_getElem hi, nthV_eq hi]

theorem RowV.set {e : TypeId} {w : World} {base g n cap : Nat} {us : List Value} (h : RowV e w base (.slice (some ⟨g, 0, none⟩) n cap) us) (hn : n = us.length) (j : Nat) (u : Value) :
    RowV e (w.setCell ⟨g, j, none⟩ u) base (.slice (some ⟨g, 0, none⟩) n cap) (us.set j u) ∧ w.grownBy (w.setCell ⟨g, j, none⟩ u) (some g) := by
  subst hn
  have s1 := World.ownsRow.stored h j u
  refine ⟨?_, s1.2⟩
  unfold RowV
  rw [List.length_set]
  exact s1.1

theorem rowV_new (e : TypeId) (w : World) (base : Nat) (hb : base ≤ w.heap.size) (us : List Value) (hl : us.length ≤ maxLen) :
    RowV e (w.alloc (.cells us.toArray e)) base (.slice (some ⟨w.heap.size, 0, none⟩) us.length us.length) us :=
  ⟨by simp, .inr ⟨w.heap.size, us.length, _, rfl, hb, heap_alloc_new w _, Nat.le_refl _, hl, by simp, by simp⟩⟩

section
variable {P : Program} {w : World} {ops : Array Oper} {rest : List Oper} {o : Oper} {a : Act} {Q : Exit → Act → World → Prop}

/-- append of one value of one cell, which lies in the block b. -/
theorem wpList_append_value (hgd : o.guard = none) (s x : Operand) (t : TypeId) (ho : o.op = .call { callee := .builtin .append, args := #[s, x], argTypes := #[t, t] })
    (base : Nat) (e : TypeId) (z : Value) (bytes : Nat) (ht : P.underlying t = some (.slice e)) (hinfo : (P.info? e).map (fun i => (i.zero, i.size, i.bytes)) = some (some z, 1, bytes)) (hz1 : z.cells.size = 1)
    (v : Value) (us : List Value) (hs : a.eval s = v) (hown : RowV e w base v us) (d : Value) (hd1 : d.oneCell' = true) (b : Nat) (hx : a.eval x = .slice (some ⟨b, 0, none⟩) 1 1) (hb : w.cell? ⟨b, 0, none⟩ = some d)
    (h63 : us.length + 1 ≤ maxLen) (hbytes : (us.length + 1) * bytes ≤ 140737488355328) (hbase : base ≤ w.heap.size)
    (h : ∀ v' w', RowV e w' base v' (us ++ [d]) → w.grownBy w' v.ownBlock → (v'.ownBlock = v.ownBlock ∨ v'.ownBlock = some w.heap.size) → wpList P ops Q rest (a.put o.dst v') w') : wpList P ops Q (o :: rest) a w := by
  obtain ⟨i, hi, hz, hsz, hby⟩ := info_parts hinfo
  refine wpList_append_own_at w hgd s x t ho base e i _ 1 bytes ht hi hz hsz hby hz1 (by decide) v us.length us hs hown ⟨b, 0, none⟩ 1 1 [d] hx rfl ?_ (by intro u hu; simp at hu; subst hu; exact hd1) h63 hbytes hbase ?_
  · intro j u hj
    match j, hj with
    | 0, hj => simp at hj; subst hj; exact hb
  · intro v' w' h1 h2 _ h4
    refine h v' w' ?_ h2 h4
    unfold RowV
    simpa using h1

/-- make([]T, n), T of one cell. -/
theorem wpList_make_values (hg : o.guard = none) (l c : Operand) (t : TypeId) (hop : o.op = Op.makeSlice t l c)
    (base : Nat) (e : TypeId) (z : Value) (hzc : z.cells = #[z]) (bytes : Nat) (ht : P.underlying t = some (.slice e)) (hinfo : (P.info? e).map (fun i => (i.zero, i.size, i.bytes)) = some (some z, 1, bytes))
    (kl kc : IntKind) (n : Nat) (hl : a.eval l = .int kl (n : Int)) (hc : a.eval c = .int kc (n : Int)) (b2 : bytes * n ≤ 281474976710656) (b3 : n ≤ maxLen) (b4 : base ≤ w.heap.size)
    (h : ∀ w', RowV e w' base (.slice (some ⟨w.heap.size, 0, none⟩) n n) (List.replicate n z) → w.grownBy w' none → wpList P ops Q rest (a.put o.dst (.slice (some ⟨w.heap.size, 0, none⟩) n n)) w') : wpList P ops Q (o :: rest) a w := by
  obtain ⟨i, hi, hz, hsz, hby⟩ := info_parts hinfo
  refine wpList_make_full w hg l c t hop base e i _ 1 ht hi hz hsz kl kc n n n hl hc rfl rfl (by rw [hby]; exact b2) b3 b4 ?_
  intro w' h1 h2
  refine h w' ?_ h2
  unfold RowV
  rw [hzc, Nat.mul_one, toList_madeCells_one] at h1
  simpa using h1
end

/-- The values us are slices that read as the rows m. -/
def Slcs (k : IntKind) (w : World) (us : List Value) (m : List (List Int)) : Prop :=
  us.length = m.length ∧ ∀ r, r < m.length → ∃ (ar : Option Addr) (c : Nat), nthV us r = .slice ar (rowM m r).length c ∧ Reads w k ar (rowM m r) ∧ (rowM m r).length ≤ c ∧ c ≤ maxLen ∧ (ar = none → c = 0)

theorem Slcs.nil (k : IntKind) (w : World) : Slcs k w [] [] := ⟨rfl, fun _ hr => absurd hr (Nat.not_lt_zero _)⟩
theorem Slcs.ex {k : IntKind} {w w2 : World} {us : List Value} {m : List (List Int)} (h : Slcs k w us m) (hx : Ex w w2) : Slcs k w2 us m :=
  ⟨h.1, fun r hr => by
    obtain ⟨ar, c, k1, k2, k3, k4, k5⟩ := h.2 r hr
    exact ⟨ar, c, k1, k2.ex hx, k3, k4, k5⟩⟩

theorem nthV_snoc {us : List Value} {d : Value} {r : Nat} : nthV (us ++ [d]) r = if r < us.length then nthV us r else if r = us.length then d else undef := by
  by_cases h : r < us.length
  · rw [if_pos h, nthV_eq (by simp; omega), nthV_eq h, List.getElem_append_left h]
  · rw [if_neg h]
    by_cases h2 : r = us.length
    · subst h2; rw [if_pos rfl, nthV_eq (by simp)]; simp
    · rw [if_neg h2]; unfold nthV; rw [List.getD_eq_getElem?_getD, List.getElem?_eq_none (by simp; omega)]; rfl
theorem rowM_snoc {m : List (List Int)} {d : List Int} {r : Nat} : rowM (m ++ [d]) r = if r < m.length then rowM m r else if r = m.length then d else [] := by
  by_cases h : r < m.length
  · rw [if_pos h, rowM_eq (by simp; omega), rowM_eq h, List.getElem_append_left h]
  · rw [if_neg h]
    by_cases h2 : r = m.length
    · subst h2; rw [if_pos rfl, rowM_eq (by simp)]; simp
    · rw [if_neg h2, rowM_over (by simp; omega)]

theorem Slcs.snoc {k : IntKind} {w : World} {us : List Value} {m : List (List Int)} (h : Slcs k w us m) {ar : Option Addr} {c n : Nat} {row : List Int} (hn : row.length = n) (hr : Reads w k ar row) (h1 : n ≤ c) (h2 : c ≤ maxLen) (h3 : ar = none → c = 0) :
    Slcs k w (us ++ [.slice ar n c]) (m ++ [row]) := by
  subst hn
  refine ⟨by simp [h.1], fun r hr2 => ?_⟩
  rw [nthV_snoc, rowM_snoc, h.1]
  by_cases hlt : r < m.length
  · rw [if_pos hlt, if_pos hlt]; exact h.2 r hlt
  · have e : r = m.length := by simp at hr2; omega
    rw [if_neg hlt, if_neg hlt, if_pos e, if_pos e]
    exact ⟨ar, c, rfl, hr, h1, h2, h3⟩

theorem nthV_set {us : List Value} {j r : Nat} {u : Value} (h : r < us.length) : nthV (us.set j u) r = if r = j then u else nthV us r := by
  rw [nthV_eq (by simpa using h), List.getElem_set, nthV_eq h]
  by_cases e : j = r
  · simp [e]
  · rw [if_neg e, if_neg (Ne.symm e)]
theorem rowM_set {m : List (List Int)} {j r : Nat} {d : List Int} (h : r < m.length) : rowM (m.set j d) r = if r = j then d else rowM m r := by
  rw [rowM_eq (by simpa using h), List.getElem_set, rowM_eq h]
  by_cases e : j = r
  · simp [e]
  · rw [if_neg e, if_neg (Ne.symm e)]

theorem Slcs.set {k : IntKind} {w : World} {us : List Value} {m : List (List Int)} (h : Slcs k w us m) (j : Nat) {ar : Option Addr} {c n : Nat} {row : List Int} (hn : row.length = n) (hr : Reads w k ar row) (h1 : n ≤ c) (h2 : c ≤ maxLen) (h3 : ar = none → c = 0) :
    Slcs k w (us.set j (.slice ar n c)) (m.set j row) := by
  subst hn
  refine ⟨by simp [h.1], fun r hr2 => ?_⟩
  have hlt : r < m.length := by simpa using hr2
  rw [nthV_set (by rw [h.1]; exact hlt), rowM_set hlt]
  by_cases e : r = j
  · rw [if_pos e, if_pos e]; exact ⟨ar, c, rfl, hr, h1, h2, h3⟩
  · rw [if_neg e, if_neg e]; exact h.2 r hlt

/-- A row of slices that one owns, read as a table. -/
theorem RowV.table {e : TypeId} {k : IntKind} {w : World} {base : Nat} {v : Value} {us : List Value} {m : List (List Int)} (h : RowV e w base v us) (hs : Slcs k w us m) :
    ∃ a cap, v = .slice a m.length cap ∧ m.length ≤ cap ∧ cap ≤ maxLen ∧ ReadsM k w a m ∧ (a = none → cap = 0) := by
  rcases h.form with ⟨rfl, rfl⟩ | ⟨g, cap, rfl, _, _, h1, h2, hc, _⟩
  · have : m = [] := List.length_eq_zero_iff.mp hs.1.symm
    subst this
    exact ⟨none, 0, rfl, Nat.le_refl _, by unfold maxLen; omega, .inl rfl, fun _ => rfl⟩
  · rw [hs.1] at h1 ⊢
    refine ⟨_, cap, rfl, h1, h2, .inr ⟨g, 0, rfl, fun r hr => ?_⟩, fun h => by cases h⟩
    obtain ⟨ar, c, k1, k2⟩ := hs.2 r hr
    refine ⟨ar, c, ?_, k2⟩
    rw [Nat.zero_add, hc r (by rw [hs.1]; exact hr), k1]

end Go.Proofs.Ytmmfclkkncbgfaa
