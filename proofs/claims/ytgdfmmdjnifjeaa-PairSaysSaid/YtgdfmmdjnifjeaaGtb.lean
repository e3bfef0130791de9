/-
  Several texts in one:
  - Elements of one cell each (bytes, slices, strings), read by their place: IndexFunc and ContainsFunc at any such type; tables of bytes as functions.
  - wholeref: TableErr; tables of bytes as functions.
  - Rows of one's own whose elements are values of one cell each (strings, slices, pointers, Bools): written out, made, one more, a store; rows of rows.
  - Tables of bytes that a function makes itself: a row more; what has been made reads as a table.
  - A table of bytes that may be stored into: a store to an entry, two rows changing places.
-/
import Derived.Test.YtgdfmmdjnifjeaaMats
import Derived.Test.YtgdfmmdjnifjeaaGro
import Derived.Test.YtgdfmmdjnifjeaaAnyP
import Derived.Test.YtgdfmmdjnifjeaaGmx
import Derived.Test.YtgdfmmdjnifjeaaGfw
import Derived.Test.YtgdfmmdjnifjeaaGpr
import Derived.Deep.AppendLies
namespace Go.Proofs.Ytgdfmmdjnifjeaa
open Go.RowKit
open Gf

end Go.Proofs.Ytgdfmmdjnifjeaa

namespace Go.Proofs.Ytgdfmmdjnifjeaa
open Go.RowKit
open Gf

/-- A number as an element of the field. -/
def eo (x : Int) : E := ⟨x.toNat % 256, Nat.mod_lt _ (by decide)⟩
theorem eo_v {x : Int} (h0 : 0 ≤ x) (h1 : x ≤ 255) : (((eo x).v : Nat) : Int) = x := by
  show ((x.toNat % 256 : Nat) : Int) = x
  omega
/-- The entries. -/
def tbl (m : List (List Int)) (r k : Nat) : E := eo (nth (rowM m r) k)

/-- The slice at a reads as R rows of C bytes. -/
def ReadsT (w : World) (a : Option Addr) (R C : Nat) (M : Nat → Nat → E) : Prop :=
  ∃ b off, a = some ⟨b, off, none⟩ ∧ ∀ r, r < R → ∃ br orr c, w.cell? ⟨b, off + r, none⟩ = some (.slice (some ⟨br, orr, none⟩) C c) ∧ C ≤ c ∧ c ≤ maxLen ∧ ∀ k, k < C → w.cell? ⟨br, orr + k, none⟩ = some (.int .u8 (((M r k).v : Nat) : Int))
theorem ReadsT.ex {w w2 : World} {a : Option Addr} {R C : Nat} {M : Nat → Nat → E} (h : ReadsT w a R C M) (hx : Ex w w2) : ReadsT w2 a R C M := by
  obtain ⟨b, off, h1, h2⟩ := h
  refine ⟨b, off, h1, fun r hr => ?_⟩
  obtain ⟨br, orr, c, k1, k2, k3, k4⟩ := h2 r hr
  exact ⟨br, orr, c, hx.cell k1, k2, k3, fun k hk => hx.cell (k4 k hk)⟩
theorem ReadsT.congr {w : World} {a : Option Addr} {R C : Nat} {M N : Nat → Nat → E} (h : ReadsT w a R C M) (he : ∀ r, r < R → ∀ k, k < C → M r k = N r k) : ReadsT w a R C N := by
  obtain ⟨b, off, h1, h2⟩ := h
  refine ⟨b, off, h1, fun r hr => ?_⟩
  obtain ⟨br, orr, c, k1, k2, k3, k4⟩ := h2 r hr
  exact ⟨br, orr, c, k1, k2, k3, fun k hk => by rw [← he r hr k hk]; exact k4 k hk⟩

/-- The error of a table. -/
def tabE (m : List (List Int)) : Int :=
  if m.length = 0 ∨ 12 < m.length ∨ (rowM m 0).length = 0 ∨ 12 < (rowM m 0).length then 2
  else if anyP (fun r => (rowM m r).length != (rowM m 0).length) m.length then 3 else 0
theorem tabE_zero {m : List (List Int)} : tabE m = 0 ↔ 1 ≤ m.length ∧ m.length ≤ 12 ∧ 1 ≤ (rowM m 0).length ∧ (rowM m 0).length ≤ 12 ∧ ∀ r, r < m.length → (rowM m r).length = (rowM m 0).length := by
  unfold tabE
  by_cases h : m.length = 0 ∨ 12 < m.length ∨ (rowM m 0).length = 0 ∨ 12 < (rowM m 0).length
  · rw [if_pos h]
    constructor
    · intro h; cases h
    · intro h2; omega
  · rw [if_neg h]
    constructor
    · intro h2
      by_cases h3 : anyP (fun r => (rowM m r).length != (rowM m 0).length) m.length = true
      · rw [if_pos h3] at h2; cases h2
      · refine ⟨by omega, by omega, by omega, by omega, fun r hr => ?_⟩
        exact Decidable.byContradiction fun hc => h3 (anyP_yes hr (by simpa using hc))
    · rintro ⟨_, _, _, _, h4⟩
      rw [if_neg]
      intro h3
      obtain ⟨k, hk, h5⟩ := anyP_iff.mp h3
      simp [h4 k hk] at h5
theorem tabE_is (m : List (List Int)) : tabE m = 0 ∨ tabE m = 2 ∨ tabE m = 3 := by
  unfold tabE
  split
  · exact .inr (.inl rfl)
  · split
    · exact .inr (.inr rfl)
    · exact .inl rfl

/-- A table that came in, with no error. -/
theorem IsMat.tab {w : World} {a : Option Addr} {len cap : Nat} {m : List (List Int)} (h : IsMat .u8 w a len cap m) (h0 : tabE m = 0) : ReadsT w a len (rowM m 0).length (tbl m) := by
  obtain ⟨h1, h2, h3, h4, h5, h6⟩ := h
  obtain ⟨e1, e2, e3, e4, e5⟩ := tabE_zero.mp h0
  rcases h4 with h4 | ⟨b, off, g1, g2⟩
  · rw [h4] at e1; simp at e1
  · refine ⟨b, off, g1, fun r hr => ?_⟩
    obtain ⟨ar, c, k1, k2, k3, k4, k5⟩ := g2 r (by omega)
    have hl := e5 r (by omega)
    rcases k2 with k2 | ⟨br, orr, k6, k7⟩
    · rw [k2] at hl; simp at hl; omega
    · subst k6
      rw [hl] at k1 k3 k7
      refine ⟨br, orr, c, k1, k3, k4, fun k hk => ?_⟩
      have hb := (h6 _ (rowM_mem (by omega : r < m.length))).1 _ (nth_mem (xs := rowM m r) (i := k) (by omega))
      have hb2 := wf_u8 hb
      unfold tbl
      rw [eo_v hb2.1 hb2.2]
      exact k7 k hk

theorem int_bne (x y : Nat) : ((x : Int) != (y : Int)) = (x != y) := by
  rw [Bool.eq_iff_iff]
  simp
  omega
theorem cell_fresh1 (w : World) (x : Value) (t : TypeId) : (w.alloc (.cells #[x] t)).cell? ⟨w.heap.size, 0, none⟩ = some x := by simp

end Go.Proofs.Ytgdfmmdjnifjeaa

namespace Go.Proofs.Ytgdfmmdjnifjeaa
open Go.RowKit

/-- The slice v is a row of our own, in memory from base on: it holds us. -/
def RowV (e : TypeId) (w : World) (base : Nat) (v : Value) (us : List Value) : Prop := w.ownsRow base e 1 v us.length us

theorem RowV.nil (e : TypeId) (w : World) (base : Nat) : RowV e w base (.slice none 0 0) [] := World.ownsRow_nil _ _ _ _
theorem RowV.ex {e : TypeId} {w w2 : World} {base : Nat} {v : Value} {us : List Value} (h : RowV e w base v us) (hx : Ex w w2) : RowV e w2 base v us := owns_ex h hx
theorem RowV.kept {e : TypeId} {w w2 : World} {base : Nat} {v : Value} {us : List Value} {row : Option Nat} (h : RowV e w base v us) (hg : w.grownBy w2 row) (hne : v.ownBlock = none ∨ v.ownBlock ≠ row) : RowV e w2 base v us := World.ownsRow.kept h hg hne
theorem RowV.lt {e : TypeId} {w : World} {base : Nat} {v : Value} {us : List Value} (h : RowV e w base v us) : ∀ b, v.ownBlock = some b → base ≤ b ∧ b < w.heap.size := World.ownsRow.lt h
theorem RowV.less {e : TypeId} {w : World} {base base2 : Nat} {v : Value} {us : List Value} (h : RowV e w base v us) (hb : base2 ≤ base) : RowV e w base2 v us := by
  refine ⟨h.1, ?_⟩
  rcases h.2 with hn | ⟨g, cap, cur, h1, h2, rest⟩
  · exact .inl hn
  · exact .inr ⟨g, cap, cur, h1, by omega, rest⟩
theorem RowV.grown {e : TypeId} {w a b : World} {v : Value} {us : List Value} (hr : RowV e a w.heap.size v us) (h : Ex w a) (hg : a.grownBy b v.ownBlock) : Ex w b := ex_grown h hg fun j hj => (hr.lt j hj).1

/-- Element i; not there behind the end. -/
def nthV (us : List Value) (i : Nat) : Value := us.getD i undef
theorem nthV_eq {us : List Value} {i : Nat} (h : i < us.length) : nthV us i = us[i] := by
  unfold nthV; rw [List.getD_eq_getElem?_getD, List.getElem?_eq_getElem h]; rfl

theorem RowV.form {e : TypeId} {w : World} {base : Nat} {v : Value} {us : List Value} (h : RowV e w base v us) :
    (v = .slice none 0 0 ∧ us = []) ∨ ∃ g cap, v = .slice (some ⟨g, 0, none⟩) us.length cap ∧ base ≤ g ∧ g < w.heap.size ∧ us.length ≤ cap ∧ cap ≤ maxLen ∧
      (∀ i, i < us.length → w.cell? ⟨g, i, none⟩ = some (nthV us i)) ∧ ∀ i, w.frozen? ⟨g, i, none⟩ = false := by
  have h0 := h
  rcases h.2 with ⟨rfl, hn⟩ | ⟨g, cap, cur, rfl, hb, hgg, h1, h2, _⟩
  · exact .inl ⟨rfl, List.length_eq_zero_iff.mp hn⟩
  · refine .inr ⟨g, cap, rfl, hb, (Array.getElem?_eq_some_iff.1 hgg).1, h1, h2, fun i hi => ?_, fun i => World.ownsRow.frozenAt h i⟩
    rw [World.ownsRow.cellAt h0 i (by omega), List.getElem?_eq_getElem hi, nthV_eq hi]

theorem RowV.set {e : TypeId} {w : World} {base g n cap : Nat} {us : List Value} (h : RowV e w base (.slice (some ⟨g, 0, none⟩) n cap) us) (hn : n = us.length) (j : Nat) (u : Value) :
    RowV e (w.setCell ⟨g, j, none⟩ u) base (.slice (some ⟨g, 0, none⟩) n cap) (us.set j u) ∧ w.grownBy (w.setCell ⟨g, j, none⟩ u) (some g) := by
  subst hn
  have s1 := World.ownsRow.stored h j u
  refine ⟨?_, s1.2⟩
  unfold RowV
  rw [List.length_set]
  exact s1.1

theorem rowV_new (e : TypeId) (w : World) (base : Nat) (hb : base ≤ w.heap.size) (us : List Value) (hl : us.length ≤ maxLen) :
    RowV e (w.alloc (.cells us.toArray e)) base (.slice (some ⟨w.heap.size, 0, none⟩) us.length us.length) us :=
  ⟨by simp, .inr ⟨w.heap.size, us.length, _, rfl, hb, heap_alloc_new w _, Nat.le_refl _, hl, by simp, by simp⟩⟩

section
variable {P : Program} {w : World} {ops : Array Oper} {rest : List Oper} {o : Oper} {a : Act} {Q : Exit → Act → World → Prop}

/-- append of one value of one cell, which lies in the block b. -/
theorem wpList_append_value (hgd : o.guard = none) (s x : Operand) (t : TypeId) (ho : o.op = .call { callee := .builtin .append, args := #[s, x], argTypes := #[t, t] })
    (base : Nat) (e : TypeId) (z : Value) (bytes : Nat) (ht : P.underlying t = some (.slice e)) (hinfo : (P.info? e).map (fun i => (i.zero, i.size, i.bytes)) = some (some z, 1, bytes)) (hz1 : z.cells.size = 1)
    (v : Value) (us : List Value) (hs : a.eval s = v) (hown : RowV e w base v us) (d : Value) (hd1 : d.oneCell' = true) (b : Nat) (hx : a.eval x = .slice (some ⟨b, 0, none⟩) 1 1) (hb : w.cell? ⟨b, 0, none⟩ = some d)
    (h63 : us.length + 1 ≤ maxLen) (hbytes : (us.length + 1) * bytes ≤ 140737488355328) (hbase : base ≤ w.heap.size)
    (h : ∀ v' w', RowV e w' base v' (us ++ [d]) → w.grownBy w' v.ownBlock → (v'.ownBlock = v.ownBlock ∨ v'.ownBlock = some w.heap.size) → wpList P ops Q rest (a.put o.dst v') w') : wpList P ops Q (o :: rest) a w := by
  obtain ⟨i, hi, hz, hsz, hby⟩ := info_parts hinfo
  refine wpList_append_own_at w hgd s x t ho base e i _ 1 bytes ht hi hz hsz hby hz1 (by decide) v us.length us hs hown ⟨b, 0, none⟩ 1 1 [d] hx rfl ?_ (by intro u hu; simp at hu; subst hu; exact hd1) h63 hbytes hbase ?_
  · intro j u hj
    match j, hj with
    | 0, hj => simp at hj; subst hj; exact hb
  · intro v' w' h1 h2 _ h4
    refine h v' w' ?_ h2 h4
    unfold RowV
    simpa using h1

/-- make([]T, n), T of one cell. -/
theorem wpList_make_values (hg : o.guard = none) (l c : Operand) (t : TypeId) (hop : o.op = Op.makeSlice t l c)
    (base : Nat) (e : TypeId) (z : Value) (hzc : z.cells = #[z]) (bytes : Nat) (ht : P.underlying t = some (.slice e)) (hinfo : (P.info? e).map (fun i => (i.zero, i.size, i.bytes)) = some (some z, 1, bytes))
    (kl kc : IntKind) (n : Nat) (hl : a.eval l = .int kl (n : Int)) (hc : a.eval c = .int kc (n : Int)) (b2 : bytes * n ≤ 281474976710656) (b3 : n ≤ maxLen) (b4 : base ≤ w.heap.size)
    (h : ∀ w', RowV e w' base (.slice (some ⟨w.heap.size, 0, none⟩) n n) (List.replicate n z) → w.grownBy w' none → wpList P ops Q rest (a.put o.dst (.slice (some ⟨w.heap.size, 0, none⟩) n n)) w') : wpList P ops Q (o :: rest) a w := by
  obtain ⟨i, hi, hz, hsz, hby⟩ := info_parts hinfo
  refine wpList_make_full w hg l c t hop base e i _ 1 ht hi hz hsz kl kc n n n hl hc rfl rfl (by rw [hby]; exact b2) b3 b4 ?_
  intro w' h1 h2
  refine h w' ?_ h2
  unfold RowV
  rw [hzc, Nat.mul_one, toList_madeCells_one] at h1
  simpa using h1
end

/-- The values us are slices that read as the rows m. -/
def Slcs (k : IntKind) (w : World) (us : List Value) (m : List (List Int)) : Prop :=
  us.length = m.length ∧ ∀ r, r < m.length → ∃ (ar : Option Addr) (c : Nat), nthV us r = .slice ar (rowM m r).length c ∧ Reads w k ar (rowM m r) ∧ (rowM m r).length ≤ c ∧ c ≤ maxLen ∧ (ar = none → c = 0)

theorem Slcs.nil (k : IntKind) (w : World) : Slcs k w [] [] := ⟨rfl, fun _ hr => absurd hr (Nat.not_lt_zero _)⟩
theorem Slcs.ex {k : IntKind} {w w2 : World} {us : List Value} {m : List (List Int)} (h : Slcs k w us m) (hx : Ex w w2) : Slcs k w2 us m :=
  ⟨h.1, fun r hr => by
    obtain ⟨ar, c, k1, k2, k3, k4, k5⟩ := h.2 r hr
    exact ⟨ar, c, k1, k2.ex hx, k3, k4, k5⟩⟩

theorem nthV_snoc {us : List Value} {d : Value} {r : Nat} : nthV (us ++ [d]) r = if r < us.length then nthV us r else if r = us.length then d else undef := by
  by_cases h : r < us.length
  · rw [if_pos h, nthV_eq (by simp; omega), nthV_eq h, List.getElem_append_left h]
  · rw [if_neg h]
    by_cases h2 : r = us.length
    · subst h2; rw [if_pos rfl, nthV_eq (by simp)]; simp
    · rw [if_neg h2]; unfold nthV; rw [List.getD_eq_getElem?_getD, List.getElem?_eq_none (by simp; omega)]; rfl
theorem rowM_snoc {m : List (List Int)} {d : List Int} {r : Nat} : rowM (m ++ [d]) r = if r < m.length then rowM m r else if r = m.length then d else [] := by
  by_cases h : r < m.length
  · rw [if_pos h, rowM_eq (by simp; omega), rowM_eq h, List.getElem_append_left h]
  · rw [if_neg h]
    by_cases h2 : r = m.length
    · subst h2; rw [if_pos rfl, rowM_eq (by simp)]; simp
    · rw [if_neg h2, rowM_over (by simp; omega)]

theorem Slcs.snoc {k : IntKind} {w : World} {us : List Value} {m : List (List Int)} (h : Slcs k w us m) {ar : Option Addr} {c n : Nat} {row : List Int} (hn : row.length = n) (hr : Reads w k ar row) (h1 : n ≤ c) (h2 : c ≤ maxLen) (h3 : ar = none → c = 0) :
    Slcs k w (us ++ [.slice ar n c]) (m ++ [row]) := by
  subst hn
  refine ⟨by simp [h.1], fun r hr2 => ?_⟩
  rw [nthV_snoc, rowM_snoc, h.1]
  by_cases hlt : r < m.length
  · rw [if_pos hlt, if_pos hlt]; exact h.2 r hlt
  · have e : r = m.length := by simp at hr2; omega
    rw [if_neg hlt, if_neg hlt, if_pos e, if_pos e]
    exact ⟨ar, c, rfl, hr, h1, h2, h3⟩

theorem nthV_set {us : List Value} {j r : Nat} {u : Value} (h : r < us.length) : nthV (us.set j u) r = if r = j then u else nthV us r := by
  rw [nthV_eq (by simpa using h), List.getElem_set, nthV_eq h]
  by_cases e : j = r
  · simp [e]
  · rw [if_neg e, if_neg (Ne.symm e)]
theorem rowM_set {m : List (List Int)} {j r : Nat} {d : List Int} (h : r < m.length) : rowM (m.set j d) r = if r = j then d else rowM m r := by
  rw [rowM_eq (by simpa using h), List.getElem_set, rowM_eq h]
  by_cases e : j = r
  · simp [e]
  · rw [if_neg e, if_neg (Ne.symm e)]

theorem Slcs.set {k : IntKind} {w : World} {us : List Value} {m : List (List Int)} (h : Slcs k w us m) (j : Nat) {ar : Option Addr} {c n : Nat} {row : List Int} (hn : row.length = n) (hr : Reads w k ar row) (h1 : n ≤ c) (h2 : c ≤ maxLen) (h3 : ar = none → c = 0) :
    Slcs k w (us.set j (.slice ar n c)) (m.set j row) := by
  subst hn
  refine ⟨by simp [h.1], fun r hr2 => ?_⟩
  have hlt : r < m.length := by simpa using hr2
  rw [nthV_set (by rw [h.1]; exact hlt), rowM_set hlt]
  by_cases e : r = j
  · rw [if_pos e, if_pos e]; exact ⟨ar, c, rfl, hr, h1, h2, h3⟩
  · rw [if_neg e, if_neg e]; exact h.2 r hlt

/-- A row of slices that one owns, read as a table. -/
theorem RowV.table {e : TypeId} {k : IntKind} {w : World} {base : Nat} {v : Value} {us : List Value} {m : List (List Int)} (h : RowV e w base v us) (hs : Slcs k w us m) :
    ∃ a cap, v = .slice a m.length cap ∧ m.length ≤ cap ∧ cap ≤ maxLen ∧ ReadsM k w a m ∧ (a = none → cap = 0) := by
  rcases h.form with ⟨rfl, rfl⟩ | ⟨g, cap, rfl, _, _, h1, h2, hc, _⟩
  · have : m = [] := List.length_eq_zero_iff.mp hs.1.symm
    subst this
    exact ⟨none, 0, rfl, Nat.le_refl _, by unfold maxLen; omega, .inl rfl, fun _ => rfl⟩
  · rw [hs.1] at h1 ⊢
    refine ⟨_, cap, rfl, h1, h2, .inr ⟨g, 0, rfl, fun r hr => ?_⟩, fun h => by cases h⟩
    obtain ⟨ar, c, k1, k2⟩ := hs.2 r hr
    refine ⟨ar, c, ?_, k2⟩
    rw [Nat.zero_add, hc r (by rw [hs.1]; exact hr), k1]

end Go.Proofs.Ytgdfmmdjnifjeaa

namespace Go.Proofs.Ytgdfmmdjnifjeaa
open Go.RowKit
open Gf

/-- v is a table of our own: i rows of C bytes, each in a block of its own. -/
def OwnT (e : TypeId) (w : World) (base : Nat) (v : Value) (C i : Nat) (M : Nat → Nat → E) : Prop :=
  ∃ (us : List Value) (gs : Nat → Nat), us.length = i ∧ RowV e w base v us ∧ (∀ r s, r < s → s < i → gs r ≠ gs s) ∧
    ∀ r, r < i → base ≤ gs r ∧ gs r < w.heap.size ∧ v.ownBlock ≠ some (gs r) ∧ (∀ k, w.frozen? ⟨gs r, k, none⟩ = false) ∧ (∀ k, k < C → w.cell? ⟨gs r, k, none⟩ = some (.int .u8 (((M r k).v : Nat) : Int))) ∧ ∃ c, nthV us r = .slice (some ⟨gs r, 0, none⟩) C c ∧ C ≤ c ∧ c ≤ maxLen

theorem OwnT.nil (e : TypeId) (w : World) (base C : Nat) (M : Nat → Nat → E) : OwnT e w base (.slice none 0 0) C 0 M := ⟨[], fun _ => 0, rfl, RowV.nil _ _ _, fun _ _ _ hr => absurd hr (Nat.not_lt_zero _), fun _ hr => absurd hr (Nat.not_lt_zero _)⟩
theorem OwnT.ex {e : TypeId} {w w2 : World} {base : Nat} {v : Value} {C i : Nat} {M : Nat → Nat → E} (h : OwnT e w base v C i M) (hx : Ex w w2) : OwnT e w2 base v C i M := by
  obtain ⟨us, gs, h1, h2, h3, h4⟩ := h
  refine ⟨us, gs, h1, h2.ex hx, h3, fun r hr => ?_⟩
  obtain ⟨k1, k2, k3, k4, k5, k6⟩ := h4 r hr
  exact ⟨k1, Nat.lt_of_lt_of_le k2 hx.size, k3, fun k => (Below.frozen hx k2).trans (k4 k), fun k hk => hx.cell (k5 k hk), k6⟩
theorem OwnT.congr {e : TypeId} {w : World} {base : Nat} {v : Value} {C i : Nat} {M N : Nat → Nat → E} (h : OwnT e w base v C i M) (he : ∀ r, r < i → ∀ k, k < C → M r k = N r k) : OwnT e w base v C i N := by
  obtain ⟨us, gs, h1, h2, h3, h4⟩ := h
  refine ⟨us, gs, h1, h2, h3, fun r hr => ?_⟩
  obtain ⟨k1, k2, k3, k4, k5, k6⟩ := h4 r hr
  exact ⟨k1, k2, k3, k4, fun k hk => by rw [← he r hr k hk]; exact k5 k hk, k6⟩
theorem OwnT.less {e : TypeId} {w : World} {base base2 : Nat} {v : Value} {C i : Nat} {M : Nat → Nat → E} (h : OwnT e w base v C i M) (hb : base2 ≤ base) : OwnT e w base2 v C i M := by
  obtain ⟨us, gs, h1, h2, h3, h4⟩ := h
  refine ⟨us, gs, h1, h2.less hb, h3, fun r hr => ?_⟩
  obtain ⟨k1, k2⟩ := h4 r hr
  exact ⟨Nat.le_trans hb k1, k2⟩
theorem OwnT.lt {e : TypeId} {w : World} {base : Nat} {v : Value} {C i : Nat} {M : Nat → Nat → E} (h : OwnT e w base v C i M) : ∀ b, v.ownBlock = some b → base ≤ b ∧ b < w.heap.size := by
  obtain ⟨us, _, _, h2, _⟩ := h
  exact h2.lt
theorem OwnT.grown {e : TypeId} {w a b : World} {v : Value} {C i : Nat} {M : Nat → Nat → E} (hr : OwnT e a w.heap.size v C i M) (h : Ex w a) (hg : a.grownBy b v.ownBlock) : Ex w b := ex_grown h hg fun j hj => (hr.lt j hj).1

/-- What came of the table reads so. -/
theorem OwnT.reads {e : TypeId} {w : World} {base : Nat} {v : Value} {C i : Nat} {M : Nat → Nat → E} (h : OwnT e w base v C i M) (hi : 1 ≤ i) : ∃ a cap, v = .slice a i cap ∧ i ≤ cap ∧ cap ≤ maxLen ∧ ReadsT w a i C M := by
  obtain ⟨us, gs, h1, h2, h3, h4⟩ := h
  rcases h2.form with ⟨_, hn⟩ | ⟨g, cap, rfl, _, _, c1, c2, hc, _⟩
  · rw [hn] at h1; simp at h1; omega
  · rw [h1] at c1 ⊢
    refine ⟨_, cap, rfl, c1, c2, g, 0, rfl, fun r hr => ?_⟩
    obtain ⟨_, _, _, _, k5, c, k6, k7, k8⟩ := h4 r hr
    refine ⟨gs r, 0, c, ?_, k7, k8, fun k hk => by rw [Nat.zero_add]; exact k5 k hk⟩
    rw [Nat.zero_add, hc r (by omega), k6]

/-- R rows of C bytes that may be stored into: the outer cells in block G, row r in block gs r. -/
structure Grid (w : World) (base G R C : Nat) (gs cs : Nat → Nat) (M : Nat → Nat → E) : Prop where
  outer : ∀ r, r < R → w.cell? ⟨G, r, none⟩ = some (.slice (some ⟨gs r, 0, none⟩) C (cs r))
  outerFree : ∀ r, w.frozen? ⟨G, r, none⟩ = false
  inner : ∀ r, r < R → ∀ k, k < C → w.cell? ⟨gs r, k, none⟩ = some (.int .u8 (((M r k).v : Nat) : Int))
  free : ∀ r, r < R → ∀ k, w.frozen? ⟨gs r, k, none⟩ = false
  apart : ∀ r s, r < R → s < R → r ≠ s → gs r ≠ gs s
  far : ∀ r, r < R → gs r ≠ G
  le : ∀ r, r < R → base ≤ gs r
  leG : base ≤ G
  cap : ∀ r, r < R → C ≤ cs r ∧ cs r ≤ maxLen

theorem OwnT.grid {e : TypeId} {w : World} {base : Nat} {v : Value} {C i : Nat} {M : Nat → Nat → E} (h : OwnT e w base v C i M) (hi : 1 ≤ i) : ∃ G cap gs cs, v = .slice (some ⟨G, 0, none⟩) i cap ∧ i ≤ cap ∧ cap ≤ maxLen ∧ Grid w base G i C gs cs M := by
  obtain ⟨us, gs, h1, h2, h3, h4⟩ := h
  rcases h2.form with ⟨_, hn⟩ | ⟨g, cap, rfl, g1, g2, c1, c2, hc, hf⟩
  · rw [hn] at h1; simp at h1; omega
  · rw [h1] at c1 ⊢
    refine ⟨g, cap, gs, fun r => match nthV us r with | .slice _ _ c => c | _ => 0, rfl, c1, c2, ?_⟩
    have hn : ∀ r, r < i → gs r ≠ g := fun r hr e => (h4 r hr).2.2.1 (by rw [e]; rfl)
    refine ⟨fun r hr => ?_, hf, fun r hr => (h4 r hr).2.2.2.2.1, fun r hr => (h4 r hr).2.2.2.1, fun r s hr hs hne => ?_, hn, fun r hr => (h4 r hr).1, g1, fun r hr => ?_⟩
    · obtain ⟨_, _, _, _, _, c, k6, _⟩ := h4 r hr
      rw [hc r (by omega), k6]
    · rcases Nat.lt_or_gt_of_ne hne with h | h
      · exact h3 r s h hs
      · exact (h3 s r h hr).symm
    · obtain ⟨_, _, _, _, _, c, k6, k7, k8⟩ := h4 r hr
      simp only [k6]
      exact ⟨k7, k8⟩

/-- A row of bytes, as far as j. -/
def bl (F : Nat → E) (j : Nat) : List Int := (List.range j).map fun k => (((F k).v : Nat) : Int)
theorem bl_length (F : Nat → E) (j : Nat) : (bl F j).length = j := by simp [bl]
theorem bl_snoc (F : Nat → E) (j : Nat) : bl F j ++ [(((F j).v : Nat) : Int)] = bl F (j + 1) := by unfold bl; rw [List.range_succ, List.map_append]; rfl
theorem bl_nth {F : Nat → E} {j k : Nat} (h : k < j) : nth (bl F j) k = (((F k).v : Nat) : Int) := by
  rw [nth_eq (by rw [bl_length]; exact h)]
  simp [bl]

section
variable {P : Program} {w : World} {ops : Array Oper} {rest : List Oper} {o : Oper} {a : Act} {Q : Exit → Act → World → Prop}

/-- append of one row that is ready, made since the world w0, and which lies in a block of its own. -/
theorem wpList_append_row (hgd : o.guard = none) (s x : Operand) (t : TypeId) (ho : o.op = .call { callee := .builtin .append, args := #[s, x], argTypes := #[t, t] })
    (base : Nat) (e : TypeId) (ht : P.underlying t = some (.slice e)) (hinfo : (P.info? e).map (fun i => (i.zero, i.size, i.bytes)) = some (some (.slice none 0 0), 1, 24))
    (v : Value) {C i : Nat} {M : Nat → Nat → E} (hs : a.eval s = v) {w0 : World} (hown : OwnT e w0 base v C i M) (hx0 : Ex w0 w) {eu : TypeId} {row : Value} {F : Nat → E} (hrow : Row eu .u8 w w0.heap.size row (bl F C)) (hC : 1 ≤ C) (hb2 : base ≤ w0.heap.size)
    (b : Nat) (hx : a.eval x = .slice (some ⟨b, 0, none⟩) 1 1) (hb : w.cell? ⟨b, 0, none⟩ = some row) (hi : i ≤ 1000)
    (h : ∀ v' w', OwnT e w' base v' C (i + 1) (fun r k => if r = i then F k else M r k) → w.grownBy w' v.ownBlock → wpList P ops Q rest (a.put o.dst v') w') : wpList P ops Q (o :: rest) a w := by
  have hbl := bl_length F C
  rcases hrow.form with ⟨_, hn⟩ | ⟨g, c, rfl, g1, g2, g3, g4, g5, g6⟩
  · rw [hn] at hbl; simp at hbl; omega
  rw [hbl] at g3 g5 hb
  have hlt0 := hown.lt
  obtain ⟨us, gs, h1, h2, h3, h4⟩ := hown
  have hsz0 : w0.heap.size ≤ w.heap.size := hx0.size
  refine wpList_append_value hgd s x t ho base e (.slice none 0 0) 24 ht hinfo rfl v us hs (h2.ex hx0) _ rfl b hx hb (by unfold maxLen; omega) (by omega) (by omega) ?_
  intro v' w' k1 k2 k3
  have hne : ∀ j, j < w.heap.size → v.ownBlock ≠ some j → v'.ownBlock ≠ some j := fun j hj hn => by
    rcases k3 with k3 | k3
    · rw [k3]; exact hn
    · rw [k3]; intro h; have := Option.some.inj h; omega
  have hsz : w.heap.size ≤ w'.heap.size := k2.size
  have hvg : v.ownBlock ≠ some g := fun h => by have := (hlt0 g h).2; omega
  refine h v' w' ⟨us ++ [.slice (some ⟨g, 0, none⟩) C c], fun r => if r = i then g else gs r, by simp [h1], k1, fun r s hrs hs => ?_, fun r hr => ?_⟩ k2
  · by_cases hsi : s = i
    · have h5 := (h4 r (by omega)).2.1
      show (if r = i then g else gs r) ≠ if s = i then g else gs s
      rw [if_pos hsi, if_neg (by omega)]
      omega
    · show (if r = i then g else gs r) ≠ if s = i then g else gs s
      rw [if_neg (by omega), if_neg hsi]
      exact h3 r s hrs (by omega)
  rw [nthV_snoc, h1]
  by_cases hlt : r < i
  · obtain ⟨m1, m2, m3, m4, m5, cr, m6, m7, m8⟩ := h4 r hlt
    rw [if_pos hlt]
    dsimp only
    have hfar : some (gs r) ≠ v.ownBlock := Ne.symm m3
    rw [show (if r = i then g else gs r) = gs r from if_neg (by omega)]
    refine ⟨m1, by omega, hne _ (by omega) m3, fun k => ?_, fun k hk => ?_, cr, m6, m7, m8⟩
    · rw [k2.frozen_far ⟨gs r, k, none⟩ (by show gs r < _; omega) hfar]
      exact (Below.frozen hx0 m2).trans (m4 k)
    · show w'.cell? _ = some (.int .u8 (((if r = i then F k else M r k).v : Nat) : Int))
      rw [if_neg (by omega)]
      exact k2.cell (hx0.cell (m5 k hk)) hfar
  · have er : r = i := by omega
    rw [if_neg hlt, if_pos er]
    dsimp only
    have hfar : some g ≠ v.ownBlock := Ne.symm hvg
    rw [show (if r = i then g else gs r) = g from if_pos er]
    refine ⟨by omega, by omega, hne _ g2 hvg, fun k => ?_, fun k hk => ?_, c, rfl, g3, g4⟩
    · rw [k2.frozen_far ⟨g, k, none⟩ g2 hfar]
      exact g6 k
    · show w'.cell? _ = some (.int .u8 (((if r = i then F k else M r k).v : Nat) : Int))
      rw [if_pos er]
      have := g5 k hk
      rw [bl_nth hk] at this
      exact k2.cell this hfar
end

theorem info_u8 : (Try.prog.info? 5).map (fun i => (i.zero, i.size, i.bytes)) = some (some (.int .u8 0), 1, 1) := by kernel_rfl

theorem info_bytes : (Try.prog.info? 38).map (fun i => (i.zero, i.size, i.bytes)) = some (some (.slice none 0 0), 1, 24) := by kernel_rfl

end Go.Proofs.Ytgdfmmdjnifjeaa

namespace Go.Proofs.Ytgdfmmdjnifjeaa
open Go.RowKit
open Gf

/-- M, but x at (r, k). -/
def updM (M : Nat → Nat → E) (r k : Nat) (x : E) : Nat → Nat → E := fun i j => if i = r ∧ j = k then x else M i j
theorem updM_at (M : Nat → Nat → E) (r k : Nat) (x : E) : updM M r k x r k = x := by simp [updM]
theorem updM_ne {M : Nat → Nat → E} {r k i j : Nat} {x : E} (h : ¬ (i = r ∧ j = k)) : updM M r k x i j = M i j := by simp [updM, h]

theorem Grid.ex {w w2 : World} {base G R C : Nat} {gs cs : Nat → Nat} {M : Nat → Nat → E} (h : Grid w base G R C gs cs M) (hR : 1 ≤ R) (hC : 1 ≤ C) (hx : Ex w w2) : Grid w2 base G R C gs cs M where
  outer r hr := hx.cell (h.outer r hr)
  outerFree r := (Below.frozen (p := ⟨G, r, none⟩) hx (World.block_lt_of_cell? w ⟨G, 0, none⟩ (h.outer 0 (by omega)))).trans (h.outerFree r)
  inner r hr k hk := hx.cell (h.inner r hr k hk)
  free r hr k := (Below.frozen (p := ⟨gs r, k, none⟩) hx (World.block_lt_of_cell? w ⟨gs r, 0, none⟩ (h.inner r hr 0 (by omega)))).trans (h.free r hr k)
  apart := h.apart
  far := h.far
  le := h.le
  leG := h.leG
  cap := h.cap
theorem Grid.congr {w : World} {base G R C : Nat} {gs cs : Nat → Nat} {M N : Nat → Nat → E} (h : Grid w base G R C gs cs M) (he : ∀ r, r < R → ∀ k, k < C → M r k = N r k) : Grid w base G R C gs cs N where
  outer := h.outer
  outerFree := h.outerFree
  inner r hr k hk := by rw [← he r hr k hk]; exact h.inner r hr k hk
  free := h.free
  apart := h.apart
  far := h.far
  le := h.le
  leG := h.leG
  cap := h.cap

theorem addr_ne {b c i j : Nat} (h : b ≠ c ∨ i ≠ j) : (⟨b, i, none⟩ : Addr) ≠ ⟨c, j, none⟩ := fun e => by
  simp only [Addr.mk.injEq, and_true] at e
  omega

/-- A store to an entry. -/
theorem Grid.set {w : World} {base G R C : Nat} {gs cs : Nat → Nat} {M : Nat → Nat → E} (h : Grid w base G R C gs cs M) {r k : Nat} (hr : r < R) (hk : k < C) (x : E) : Grid (w.setCell ⟨gs r, k, none⟩ (.int .u8 ((x.v : Nat) : Int))) base G R C gs cs (updM M r k x) where
  outer i hi := by rw [World.cell?_setCell_other _ _ _ _ (addr_ne (.inl (h.far r hr)))]; exact h.outer i hi
  outerFree i := by rw [World.frozen?_setCell]; exact h.outerFree i
  inner i hi j hj := by
    by_cases e : i = r ∧ j = k
    · obtain ⟨rfl, rfl⟩ := e
      rw [World.cell?_setCell_same _ _ _ (h.inner i hi j hj), updM_at]
    · rw [World.cell?_setCell_other _ _ _ _ (addr_ne ?_), updM_ne e]
      · exact h.inner i hi j hj
      · by_cases e2 : i = r
        · exact .inr fun e3 => e ⟨e2, e3.symm⟩
        · exact .inl fun e3 => h.apart r i hr hi (Ne.symm e2) e3
  free i hi j := by rw [World.frozen?_setCell]; exact h.free i hi j
  apart := h.apart
  far := h.far
  le := h.le
  leG := h.leG
  cap := h.cap
theorem Grid.set_ex {w0 w : World} {G R C : Nat} {gs cs : Nat → Nat} {M : Nat → Nat → E} (h : Grid w w0.heap.size G R C gs cs M) (hx : Ex w0 w) {r k : Nat} (hr : r < R) (u : Value) : Ex w0 (w.setCell ⟨gs r, k, none⟩ u) := hx.setCell (p := ⟨gs r, k, none⟩) (h.le r hr) u

/-- F, but those at r and s changed. -/
def swp (F : Nat → Nat) (r s : Nat) : Nat → Nat := fun i => if i = r then F s else if i = s then F r else F i
/-- The place that comes to place i. -/
def sw (r s i : Nat) : Nat := if i = r then s else if i = s then r else i
theorem swp_sw (F : Nat → Nat) (r s i : Nat) : swp F r s i = F (sw r s i) := by
  unfold swp sw
  split
  · rfl
  · split <;> rfl
theorem sw_lt {r s i R : Nat} (hr : r < R) (hs : s < R) (hi : i < R) : sw r s i < R := by unfold sw; split; · exact hs
                                                                                          · split; · exact hr
                                                                                            · exact hi
theorem sw_sw (r s i : Nat) : sw r s (sw r s i) = i := by unfold sw; split <;> split <;> (try split) <;> omega

/-- Rows r and s change places. -/
theorem Grid.swap {w : World} {base G R C : Nat} {gs cs : Nat → Nat} {M : Nat → Nat → E} (h : Grid w base G R C gs cs M) {r s : Nat} (hr : r < R) (hs : s < R) :
    Grid ((w.setCell ⟨G, r, none⟩ (.slice (some ⟨gs s, 0, none⟩) C (cs s))).setCell ⟨G, s, none⟩ (.slice (some ⟨gs r, 0, none⟩) C (cs r))) base G R C (swp gs r s) (swp cs r s) (fun i j => M (sw r s i) j) where
  outer i hi := by
    have hc : (w.setCell ⟨G, r, none⟩ (.slice (some ⟨gs s, 0, none⟩) C (cs s))).cell? ⟨G, s, none⟩ = some (if s = r then .slice (some ⟨gs s, 0, none⟩) C (cs s) else .slice (some ⟨gs s, 0, none⟩) C (cs s)) := by
      by_cases e : s = r
      · subst e
        rw [World.cell?_setCell_same _ _ _ (h.outer s hs), if_pos rfl]
      · rw [World.cell?_setCell_other _ _ _ _ (addr_ne (.inr fun e2 => e e2.symm)), h.outer s hs, if_neg e]
    by_cases e : i = s
    · subst e
      rw [World.cell?_setCell_same _ _ _ hc]
      unfold swp
      by_cases e2 : i = r
      · simp [e2]
      · simp [e2]
    · rw [World.cell?_setCell_other _ _ _ _ (addr_ne (.inr fun e2 => e e2.symm))]
      unfold swp
      by_cases e2 : i = r
      · subst e2
        rw [World.cell?_setCell_same _ _ _ (h.outer i hi)]
        simp
      · rw [World.cell?_setCell_other _ _ _ _ (addr_ne (.inr fun e3 => e2 e3.symm)), h.outer i hi]
        simp [e, e2]
  outerFree i := by rw [World.frozen?_setCell, World.frozen?_setCell]; exact h.outerFree i
  inner i hi j hj := by
    have hi2 := sw_lt hr hs hi
    rw [swp_sw, World.cell?_setCell_other _ _ _ _ (addr_ne (.inl (h.far _ hi2).symm)), World.cell?_setCell_other _ _ _ _ (addr_ne (.inl (h.far _ hi2).symm))]
    exact h.inner _ hi2 j hj
  free i hi j := by
    rw [swp_sw, World.frozen?_setCell, World.frozen?_setCell]
    exact h.free _ (sw_lt hr hs hi) j
  apart i j hi hj hne := by
    rw [swp_sw, swp_sw]
    refine h.apart _ _ (sw_lt hr hs hi) (sw_lt hr hs hj) fun e => hne ?_
    have := congrArg (sw r s) e
    rwa [sw_sw, sw_sw] at this
  far i hi := by rw [swp_sw]; exact h.far _ (sw_lt hr hs hi)
  le i hi := by rw [swp_sw]; exact h.le _ (sw_lt hr hs hi)
  leG := h.leG
  cap i hi := by rw [swp_sw]; exact h.cap _ (sw_lt hr hs hi)

end Go.Proofs.Ytgdfmmdjnifjeaa
