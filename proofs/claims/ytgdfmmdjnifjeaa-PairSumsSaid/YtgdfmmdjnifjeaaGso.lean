/-
  Several texts in one:
  - Only one block may have turned; a row of numbers in a block, that may be stored into; two places changing.
  - Sorting in place, step by step: rows as functions of the place. No Go in sight.
  - What the library's sort leans on, at no type: bits.Len of small numbers, the next power of two, the random row.
  - slices.Compact, as a list: what stands behind another is left away where it is the same. No Go in sight; what clear leaves.
-/
import Derived.Test.YtgdfmmdjnifjeaaGro
import Derived.Deep.AppendLies
import Derived.Lib.Tables
import Derived.Lib.BitFns
import Derived.Deep.CutRange
import Derived.Deep.DeepCutAuto
import Derived.RegionTactic
import Derived.BigRegion
import Derived.Laws.IdiomCopy
import Derived.Lib.SliceRun
namespace Go.Proofs.Ytgdfmmdjnifjeaa
open Go.RowKit

/-- There is a cell, and it may be stored into. -/
def Wr (w : World) (g j : Nat) : Prop := (∃ y, w.cell? ⟨g, j, none⟩ = some y) ∧ w.frozen? ⟨g, j, none⟩ = false
/-- What may be stored into still may. -/
def Ys (w w2 : World) : Prop := ∀ g j, Wr w g j → Wr w2 g j
theorem Ys.refl (w : World) : Ys w w := fun _ _ h => h
theorem Ys.trans {a b c : World} (h : Ys a b) (k : Ys b c) : Ys a c := fun g j x => k g j (h g j x)
theorem Ys.ex {w w2 : World} (h : Ex w w2) : Ys w w2 := fun g j ⟨⟨y, hy⟩, hf⟩ =>
  ⟨⟨y, h.cell hy⟩, (Below.frozen (p := ⟨g, j, none⟩) h (World.block_lt_of_cell? w ⟨g, j, none⟩ hy)).trans hf⟩
theorem Ys.set (w : World) (g j : Nat) (u : Value) : Ys w (w.setCell ⟨g, j, none⟩ u) := fun h i ⟨⟨y, hy⟩, hf⟩ => by
  refine ⟨?_, by rw [World.frozen?_setCell]; exact hf⟩
  by_cases e : h = g ∧ i = j
  · obtain ⟨rfl, rfl⟩ := e
    exact ⟨u, World.cell?_setCell_same _ _ _ hy⟩
  · refine ⟨y, ?_⟩
    rw [World.cell?_setCell_other _ _ _ _ (by intro e2; simp only [Addr.mk.injEq, and_true] at e2; exact e ⟨e2.1.symm, e2.2.symm⟩)]
    exact hy

/-- Only block g may have turned; and what may be stored into still may. -/
def Mo1 (g : Nat) (w w2 : World) : Prop := w.grownBy w2 (some g) ∧ Ys w w2
theorem Mo1.refl (g : Nat) (w : World) : Mo1 g w w := ⟨World.grownBy.refl w _, Ys.refl w⟩
theorem Mo1.of {g : Nat} {w w2 : World} (h : Ex w w2) : Mo1 g w w2 := ⟨⟨h.os, h.tape, h.output, h.size, fun i hi _ => h.block i hi⟩, Ys.ex h⟩
theorem Mo1.trans {g : Nat} {a b c : World} (h : Mo1 g a b) (k : Mo1 g b c) : Mo1 g a c := ⟨World.grownBy.trans h.1 k.1, h.2.trans k.2⟩
theorem Mo1.cell {g : Nat} {w w2 : World} (h : Mo1 g w w2) {a : Addr} {v : Value} (hc : w.cell? a = some v) (hne : a.block ≠ g) : w2.cell? a = some v := World.grownBy.cell h.1 hc fun e => hne (Option.some.inj e)
theorem Mo1.frozen {g : Nat} {w w2 : World} (h : Mo1 g w w2) {a : Addr} (hlt : a.block < w.heap.size) (hne : a.block ≠ g) : w2.frozen? a = w.frozen? a := World.grownBy.frozen_far h.1 a hlt fun e => hne (Option.some.inj e)
theorem Mo1.size {g : Nat} {w w2 : World} (h : Mo1 g w w2) : w.heap.size ≤ w2.heap.size := World.grownBy.size h.1
theorem Mo1.ex {g : Nat} {w0 w w2 : World} (hx : Ex w0 w) (h : Mo1 g w w2) (hg : w0.heap.size ≤ g) : Ex w0 w2 := ex_grown hx h.1 fun k hk => by have := Option.some.inj hk; omega
theorem Mo1.set {g : Nat} {a b : World} (h : Mo1 g a b) (i : Nat) (u : Value) : Mo1 g a (b.setCell ⟨g, i, none⟩ u) := by
  refine ⟨World.grownBy.trans h.1 ?_, h.2.trans (Ys.set b g i u)⟩
  refine ⟨rfl, rfl, rfl, by rw [World.size_setCell]; exact Nat.le_refl _, fun j hj hne => ?_⟩
  exact Below.heap_setCell b ⟨g, i, none⟩ u j fun e => hne (by rw [e])

theorem addr_ne' {b c i j : Nat} (h : b ≠ c ∨ i ≠ j) : (⟨b, i, none⟩ : Addr) ≠ ⟨c, j, none⟩ := fun e => by
  simp only [Addr.mk.injEq, and_true] at e
  omega

theorem so_cell {w : World} {q : Addr} {v : Value} (h : w.cell? q = some v) (x : Wo w) : x.val.cell? q = some v := x.ex.cell h

/-- Two places change. -/
def sx (r s i : Nat) : Nat := if i = r then s else if i = s then r else i
theorem sx_sx (r s i : Nat) : sx r s (sx r s i) = i := by unfold sx; split <;> split <;> (try split) <;> omega
theorem sx_r (r s : Nat) : sx r s r = s := by unfold sx; rw [if_pos rfl]
theorem sx_s (r s : Nat) : sx r s s = r := by
  unfold sx
  by_cases h : s = r
  · rw [if_pos h, h]
  · rw [if_neg h, if_pos rfl]
theorem sx_o {r s i : Nat} (h1 : i ≠ r) (h2 : i ≠ s) : sx r s i = i := by unfold sx; rw [if_neg h1, if_neg h2]

/-- Numbers in block g, that may be stored into. -/
def RowN (k : IntKind) (w : World) (g N : Nat) (F : Nat → Int) : Prop := (∀ i, i < N → w.cell? ⟨g, i, none⟩ = some (.int k (F i))) ∧ ∀ i, w.frozen? ⟨g, i, none⟩ = false
theorem RowN.ex {k : IntKind} {w w2 : World} {g N : Nat} {F : Nat → Int} (h : RowN k w g N F) (hN : 1 ≤ N) (hx : Ex w w2) : RowN k w2 g N F :=
  ⟨fun i hi => hx.cell (h.1 i hi), fun i => (Below.frozen (p := ⟨g, i, none⟩) hx (World.block_lt_of_cell? w ⟨g, 0, none⟩ (h.1 0 (by omega)))).trans (h.2 i)⟩
theorem RowN.mo {k : IntKind} {w w2 : World} {g N c : Nat} {F : Nat → Int} (h : RowN k w g N F) (hN : 1 ≤ N) (hm : Mo1 c w w2) (hne : g ≠ c) : RowN k w2 g N F :=
  ⟨fun i hi => hm.cell (h.1 i hi) hne, fun i => (hm.frozen (a := ⟨g, i, none⟩) (World.block_lt_of_cell? w ⟨g, 0, none⟩ (h.1 0 (by omega))) hne).trans (h.2 i)⟩
theorem RowN.swap {k : IntKind} {w : World} {g N r s : Nat} {F : Nat → Int} (h : RowN k w g N F) (hr : r < N) (hs : s < N) :
    RowN k ((w.setCell ⟨g, r, none⟩ (.int k (F s))).setCell ⟨g, s, none⟩ (.int k (F r))) g N (fun i => F (sx r s i)) := by
  have hc : (w.setCell ⟨g, r, none⟩ (.int k (F s))).cell? ⟨g, s, none⟩ = some (.int k (F s)) := by
    by_cases e : s = r
    · subst e
      exact World.cell?_setCell_same _ _ _ (h.1 s hs)
    · rw [World.cell?_setCell_other _ _ _ _ (addr_ne' (.inr fun e2 => e e2.symm)), h.1 s hs]
  refine ⟨fun i hi => ?_, fun i => by rw [World.frozen?_setCell, World.frozen?_setCell]; exact h.2 i⟩
  show _ = some (Value.int k (F (sx r s i)))
  by_cases e : i = s
  · subst e
    rw [World.cell?_setCell_same _ _ _ hc, sx_s]
  · rw [World.cell?_setCell_other _ _ _ _ (addr_ne' (.inr fun e2 => e e2.symm))]
    by_cases e2 : i = r
    · subst e2
      rw [World.cell?_setCell_same _ _ _ (h.1 i hi), sx_r]
    · rw [World.cell?_setCell_other _ _ _ _ (addr_ne' (.inr fun e3 => e2 e3.symm)), h.1 i hi, sx_o e2 e]
theorem RowN.mid {k : IntKind} {w : World} {g N r s : Nat} {F : Nat → Int} (h : RowN k w g N F) (hs : s < N) : (w.setCell ⟨g, r, none⟩ (.int k (F s))).cell? ⟨g, s, none⟩ = some (.int k (F s)) := by
  by_cases e : s = r
  · subst e
    exact World.cell?_setCell_same _ _ _ (h.1 s hs)
  · rw [World.cell?_setCell_other _ _ _ _ (addr_ne' (.inr fun e2 => e e2.symm)), h.1 s hs]

end Go.Proofs.Ytgdfmmdjnifjeaa

namespace Go.Proofs.Ytgdfmmdjnifjeaa.So

/-- H holds on [a, b) what F holds there, in whatever order; elsewhere it is F. -/
def Pm (a b : Nat) (F H : Nat → Int) : Prop := ∃ σ τ : Nat → Nat, (∀ i, H i = F (σ i)) ∧ (∀ i, σ (τ i) = i) ∧ (∀ i, τ (σ i) = i) ∧ ∀ i, i < a ∨ b ≤ i → σ i = i

theorem Pm.refl (a b : Nat) (F : Nat → Int) : Pm a b F F := ⟨id, id, fun _ => rfl, fun _ => rfl, fun _ => rfl, fun _ _ => rfl⟩
theorem Pm.trans {a b : Nat} {F G H : Nat → Int} (h : Pm a b F G) (k : Pm a b G H) : Pm a b F H := by
  obtain ⟨s1, t1, h1, h2, h3, h4⟩ := h
  obtain ⟨s2, t2, k1, k2, k3, k4⟩ := k
  exact ⟨fun i => s1 (s2 i), fun i => t2 (t1 i), fun i => by rw [k1, h1], fun i => by dsimp only; rw [k2, h2], fun i => by dsimp only; rw [h3, k3], fun i hi => by dsimp only; rw [k4 i hi, h4 i hi]⟩
theorem Pm.mono {a b c d : Nat} {F H : Nat → Int} (h : Pm a b F H) (h1 : c ≤ a) (h2 : b ≤ d) : Pm c d F H := by
  obtain ⟨s, t, k1, k2, k3, k4⟩ := h
  exact ⟨s, t, k1, k2, k3, fun i hi => k4 i (by omega)⟩
theorem Pm.swap {a b r s : Nat} (F : Nat → Int) (hr : a ≤ r) (hr2 : r < b) (hs : a ≤ s) (hs2 : s < b) : Pm a b F (fun i => F (sx r s i)) :=
  ⟨sx r s, sx r s, fun _ => rfl, fun i => sx_sx r s i, fun i => sx_sx r s i, fun i hi => sx_o (by omega) (by omega)⟩
theorem Pm.out {a b : Nat} {F H : Nat → Int} (h : Pm a b F H) {i : Nat} (hi : i < a ∨ b ≤ i) : H i = F i := by
  obtain ⟨s, t, k1, k2, k3, k4⟩ := h
  rw [k1, k4 i hi]
theorem Pm.all {a b : Nat} {F H : Nat → Int} (h : Pm a b F H) {p : Int → Prop} (hp : ∀ i, a ≤ i → i < b → p (F i)) : ∀ i, a ≤ i → i < b → p (H i) := by
  intro i h1 h2
  obtain ⟨s, t, k1, k2, k3, k4⟩ := h
  rw [k1]
  have : ¬ (s i < a ∨ b ≤ s i) := fun hc => by
    have e1 := k4 _ hc
    have e2 := congrArg t e1
    rw [k3, k3] at e2
    omega
  exact hp _ (by omega) (by omega)
theorem Pm.perm {a b n : Nat} {F H : Nat → Int} (h : Pm a b F H) (hb : b ≤ n) : ((List.range n).map H).Perm ((List.range n).map F) := by
  obtain ⟨s, t, k1, k2, k3, k4⟩ := h
  have e : (List.range n).map H = ((List.range n).map s).map F := by
    rw [List.map_map]
    exact List.map_congr_left fun i _ => k1 i
  rw [e]
  refine List.Perm.map F ?_
  have hn : ((List.range n).map s).Nodup := List.pairwise_map.mpr (List.nodup_range.imp fun hne e => hne (by
    have := congrArg t e
    rwa [k3, k3] at this))
  have hin : ∀ i, i < n → s i < n := fun i hi => by
    refine Nat.lt_of_not_le fun hc => ?_
    have e1 := k4 (s i) (.inr (by omega))
    have e2 := congrArg t e1
    rw [k3, k3] at e2
    omega
  have hin2 : ∀ i, i < n → t i < n := fun i hi => by
    refine Nat.lt_of_not_le fun hc => ?_
    have e1 := k4 (t i) (.inr (by omega))
    rw [k2] at e1
    omega
  refine (List.perm_ext_iff_of_nodup hn List.nodup_range).mpr fun x => ⟨fun hx => ?_, fun hx => ?_⟩
  · obtain ⟨y, hy, rfl⟩ := List.mem_map.mp hx
    exact List.mem_range.mpr (hin y (List.mem_range.mp hy))
  · exact List.mem_map.mpr ⟨t x, List.mem_range.mpr (hin2 x (List.mem_range.mp hx)), k2 x⟩

/-- In order on [a, b). -/
def Sd (a b : Nat) (F : Nat → Int) : Prop := ∀ i j, a ≤ i → i ≤ j → j < b → F i ≤ F j
theorem Sd.small {a b : Nat} (F : Nat → Int) (h : b ≤ a + 1) : Sd a b F := fun i j h1 h2 h3 => by rw [show i = j by omega]; exact Int.le_refl _
/-- What stands ahead is no greater. -/
def Pre (a b : Nat) (F : Nat → Int) : Prop := a = 0 ∨ ∀ i, a ≤ i → i < b → F (a - 1) ≤ F i
theorem Pre.pm {a b : Nat} {F H : Nat → Int} (h : Pre a b F) (k : Pm a b F H) : Pre a b H := by
  rcases h with h | h
  · exact .inl h
  · by_cases h0 : a = 0
    · exact .inl h0
    · refine .inr fun i h1 h2 => ?_
      rw [k.out (.inl (by omega))]
      exact k.all (p := fun x => F (a - 1) ≤ x) h i h1 h2

/-- The row as far as i, in order but for the element at place j, which is no greater than what follows it. -/
def Ins (a i j : Nat) (G : Nat → Int) : Prop := ∀ p q, a ≤ p → p ≤ q → q ≤ i → q ≠ j → G p ≤ G q
theorem Ins.start {a i : Nat} {G : Nat → Int} (h : Sd a i G) : Ins a i i G := fun p q h1 h2 h3 h4 => h p q h1 h2 (by omega)
theorem Ins.step {a i m : Nat} {G : Nat → Int} (h : Ins a i (m + 1) G) (ha : a ≤ m) (hi : m + 1 ≤ i) (hlt : G (m + 1) < G m) : Ins a i m (fun k => G (sx (m + 1) m k)) := by
  intro p q h1 h2 h3 h4
  show G (sx (m + 1) m p) ≤ G (sx (m + 1) m q)
  by_cases hq : q = m + 1
  · rw [hq, sx_r]
    by_cases hp : p = m + 1
    · rw [hp, sx_r]; exact Int.le_refl _
    · by_cases hp2 : p = m
      · rw [hp2, sx_s]; omega
      · rw [sx_o hp hp2]; exact h p m h1 (by omega) (by omega) (by omega)
  · rw [sx_o hq h4]
    by_cases hp : p = m + 1
    · rw [hp, sx_r]; exact h m q ha (by omega) h3 hq
    · by_cases hp2 : p = m
      · rw [hp2, sx_s]; exact h (m + 1) q (by omega) (by omega) h3 hq
      · rw [sx_o hp hp2]; exact h p q h1 h2 h3 hq
theorem Ins.stop {a i j : Nat} {G : Nat → Int} (h : Ins a i j G) (hj : j ≤ i) (hs : j = a ∨ (a < j ∧ ¬ G j < G (j - 1))) : Sd a (i + 1) G := by
  intro p q h1 h2 h3
  by_cases hq : q = j
  · subst hq
    by_cases hp : p = q
    · rw [hp]; exact Int.le_refl _
    · rcases hs with hs | ⟨hs, hs2⟩
      · omega
      · have := h p (q - 1) h1 (by omega) (by omega) (by omega)
        omega
  · exact h p q h1 h2 (by omega) hq

/-- A heap from lo on. -/
def Hp (f lo hi : Nat) (F : Nat → Int) : Prop := ∀ i, lo ≤ i → ∀ c, (c = 2 * i + 1 ∨ c = 2 * i + 2) → c < hi → F (f + c) ≤ F (f + i)
/-- .. but at the root. -/
def Sf (f lo hi root : Nat) (F : Nat → Int) : Prop :=
  (∀ i, lo ≤ i → i ≠ root → ∀ c, (c = 2 * i + 1 ∨ c = 2 * i + 2) → c < hi → F (f + c) ≤ F (f + i)) ∧ ∀ i c, lo ≤ i → (root = 2 * i + 1 ∨ root = 2 * i + 2) → (c = 2 * root + 1 ∨ c = 2 * root + 2) → c < hi → F (f + c) ≤ F (f + i)
theorem Sf.start {f lo hi : Nat} {F : Nat → Int} (h : Hp f (lo + 1) hi F) : Sf f lo hi lo F := ⟨fun i h1 h2 c hc hh => h i (by omega) c hc hh, fun i c h1 h2 => by omega⟩
theorem Sf.step {f lo hi root ch : Nat} {F : Nat → Int} (h : Sf f lo hi root F) (hlo : lo ≤ root) (hch : ch = 2 * root + 1 ∨ ch = 2 * root + 2) (hlt : ch < hi) (hg : F (f + root) < F (f + ch)) (hm : ∀ c, (c = 2 * root + 1 ∨ c = 2 * root + 2) → c < hi → F (f + c) ≤ F (f + ch)) :
    Sf f lo hi ch (fun k => F (sx (f + root) (f + ch) k)) := by
  refine ⟨fun i h1 h2 c hc hh => ?_, fun i c h1 h2 hc hh => ?_⟩
  · show F (sx (f + root) (f + ch) (f + c)) ≤ F (sx (f + root) (f + ch) (f + i))
    by_cases hi : i = root
    · subst hi
      rw [sx_r]
      by_cases hcc : c = ch
      · rw [hcc, sx_s]; omega
      · rw [sx_o (by omega) (by omega)]; exact hm c hc hh
    · rw [sx_o (i := f + i) (by omega) (by omega)]
      by_cases hcr : c = root
      · subst hcr; rw [sx_r]; exact h.2 i ch h1 hc hch hlt
      · have hcc : c ≠ ch := by omega
        rw [sx_o (by omega) (by omega)]; exact h.1 i h1 hi c hc hh
  · show F (sx (f + root) (f + ch) (f + c)) ≤ F (sx (f + root) (f + ch) (f + i))
    have hi : i = root := by omega
    subst hi
    rw [sx_r, sx_o (by omega) (by omega)]
    exact h.1 ch (by omega) (by omega) c hc hh
theorem Sf.stop {f lo hi root : Nat} {F : Nat → Int} (h : Sf f lo hi root F) (hs : ∀ c, (c = 2 * root + 1 ∨ c = 2 * root + 2) → c < hi → F (f + c) ≤ F (f + root)) : Hp f lo hi F := fun i h1 c hc hh => by
  by_cases e : i = root
  · rw [e]; exact hs c (by rw [← e]; exact hc) hh
  · exact h.1 i h1 e c hc hh
theorem Hp.top {f hi : Nat} {F : Nat → Int} (h : Hp f 0 hi F) : ∀ n k, k ≤ n → k < hi → F (f + k) ≤ F f := by
  intro n
  induction n with
  | zero => intro k h1 _; rw [show k = 0 by omega]; exact Int.le_refl _
  | succ n ih =>
    intro k h1 h2
    by_cases h0 : k = 0
    · rw [h0]; exact Int.le_refl _
    · have h3 := ih ((k - 1) / 2) (by omega) (by omega)
      have h4 := h ((k - 1) / 2) (Nat.zero_le _) k (by omega) h2
      omega

/-- The heap sort's state: a heap as far as place n, from there in order, and nothing in the heap greater than what follows. -/
structure Po (f n hi : Nat) (F : Nat → Int) : Prop where
  heap : Hp f 0 n F
  rest : Sd (f + n) (f + hi) F
  less : ∀ k j, k < n → n ≤ j → j < hi → F (f + k) ≤ F (f + j)
theorem Po.start {f hi : Nat} {F : Nat → Int} (h : Hp f 0 hi F) : Po f hi hi F := ⟨h, Sd.small F (by omega), fun k j h1 h2 h3 => by omega⟩
theorem Po.half {f n hi : Nat} {F : Nat → Int} (h : Po f (n + 1) hi F) : Hp f 1 n (fun k => F (sx f (f + n) k)) := fun i h1 c hc hh => by
  show F (sx f (f + n) (f + c)) ≤ F (sx f (f + n) (f + i))
  rw [sx_o (by omega) (by omega), sx_o (by omega) (by omega)]
  exact h.heap i (by omega) c hc (by omega)
theorem Po.step {f n hi : Nat} {F H : Nat → Int} (h : Po f (n + 1) hi F) (hm : Pm f (f + n) (fun k => F (sx f (f + n) k)) H) (hh : Hp f 0 n H) : Po f n hi H := by
  have htop := h.heap.top (n + 1)
  have hlow : ∀ i, f ≤ i → i < f + n → H i ≤ F f := hm.all (p := fun x => x ≤ F f) fun i h1 h2 => by
    show F (sx f (f + n) i) ≤ F f
    by_cases e : i = f
    · rw [e, sx_r]; exact htop n (by omega) (by omega)
    · rw [sx_o e (by omega)]
      have := htop (i - f) (by omega) (by omega)
      rwa [show f + (i - f) = i by omega] at this
  have hn2 : H (f + n) = F f := by
    rw [hm.out (.inr (Nat.le_refl _))]
    show F (sx f (f + n) (f + n)) = F f
    rw [sx_s]
  have hout : ∀ j, n < j → H (f + j) = F (f + j) := fun j hj => by
    rw [hm.out (.inr (by omega))]
    show F (sx f (f + n) (f + j)) = _
    rw [sx_o (by omega) (by omega)]
  have hF : ∀ j, n < j → j < hi → F f ≤ F (f + j) := fun j h1 h2 => by
    have := h.less 0 j (by omega) (by omega) h2
    exact this
  refine ⟨hh, fun i j h1 h2 h3 => ?_, fun k j h1 h2 h3 => ?_⟩
  · by_cases e : i = f + n
    · rw [e, hn2]
      by_cases e2 : j = f + n
      · rw [e2, hn2]; exact Int.le_refl _
      · have := hF (j - f) (by omega) (by omega)
        rw [← hout (j - f) (by omega), show f + (j - f) = j by omega] at this
        exact this
    · have h5 := h.rest i j (by omega) h2 h3
      have e1 := hout (i - f) (by omega)
      have e2 := hout (j - f) (by omega)
      rw [show f + (i - f) = i by omega] at e1
      rw [show f + (j - f) = j by omega] at e2
      rw [e1, e2]
      exact h5
  · have h5 := hlow (f + k) (by omega) (by omega)
    by_cases e : j = n
    · rw [e, hn2]; exact h5
    · rw [hout j (by omega)]
      have := hF j (by omega) h3
      omega
theorem Po.done {f hi : Nat} {F : Nat → Int} (h : Po f 0 hi F) : Sd f (f + hi) F := h.rest

/-- The partition's state: below i less than the pivot, above j no less. -/
structure Pa (a b i j : Nat) (G : Nat → Int) : Prop where
  low : ∀ k, a < k → k < i → G k < G a
  high : ∀ k, j < k → k < b → G a ≤ G k
theorem Pa.swap {a b i j : Nat} {G : Nat → Int} (h : Pa a b i j G) (ha : a < i) (hij : i ≤ j) (h1 : G a ≤ G i) (h2 : G j < G a) : Pa a b (i + 1) (j - 1) (fun k => G (sx i j k)) := by
  have e : G (sx i j a) = G a := by rw [sx_o (by omega) (by omega)]
  refine ⟨fun k k1 k2 => ?_, fun k k1 k2 => ?_⟩
  · show G (sx i j k) < G (sx i j a)
    rw [e]
    by_cases e1 : k = i
    · rw [e1, sx_r]; exact h2
    · by_cases e2 : k = j
      · omega
      · rw [sx_o e1 e2]; exact h.low k k1 (by omega)
  · show G (sx i j a) ≤ G (sx i j k)
    rw [e]
    by_cases e2 : k = j
    · rw [e2, sx_s]; exact h1
    · by_cases e1 : k = i
      · omega
      · rw [sx_o e1 e2]; exact h.high k (by omega) k2
/-- The end: the pivot comes between. -/
theorem Pa.done {a b i j : Nat} {G : Nat → Int} (h : Pa a b i j G) (ha : a < i) (hij : i = j + 1) : (∀ k, a ≤ k → k < j → G (sx j a k) < G (sx j a j)) ∧ ∀ k, j < k → k < b → G (sx j a j) ≤ G (sx j a k) := by
  refine ⟨fun k k1 k2 => ?_, fun k k1 k2 => ?_⟩
  · rw [sx_r]
    by_cases e : k = a
    · rw [e, sx_s]; exact h.low j (by omega) (by omega)
    · rw [sx_o (by omega) e]; exact h.low k (by omega) (by omega)
  · rw [sx_r, sx_o (by omega) (by omega)]; exact h.high k k1 k2

/-- .. where the pivot is the least: below i no greater, above j greater. -/
structure Pq (a b i j : Nat) (G : Nat → Int) : Prop where
  low : ∀ k, a < k → k < i → G k ≤ G a
  high : ∀ k, j < k → k < b → G a < G k
theorem Pq.swap {a b i j : Nat} {G : Nat → Int} (h : Pq a b i j G) (ha : a < i) (hij : i ≤ j) (h1 : G a < G i) (h2 : G j ≤ G a) : Pq a b (i + 1) (j - 1) (fun k => G (sx i j k)) := by
  have e : G (sx i j a) = G a := by rw [sx_o (by omega) (by omega)]
  refine ⟨fun k k1 k2 => ?_, fun k k1 k2 => ?_⟩
  · show G (sx i j k) ≤ G (sx i j a)
    rw [e]
    by_cases e1 : k = i
    · rw [e1, sx_r]; exact h2
    · by_cases e2 : k = j
      · omega
      · rw [sx_o e1 e2]; exact h.low k k1 (by omega)
  · show G (sx i j a) < G (sx i j k)
    rw [e]
    by_cases e2 : k = j
    · rw [e2, sx_s]; exact h1
    · by_cases e1 : k = i
      · omega
      · rw [sx_o e1 e2]; exact h.high k (by omega) k2

/-- The whole sort's state: [a, b) is left to do. -/
structure Qs (a0 b0 a b : Nat) (F H : Nat → Int) : Prop where
  pm : Pm a0 b0 F H
  ga : a0 ≤ a
  ab : a ≤ b
  gb : b ≤ b0
  left : Sd a0 a H
  right : Sd b b0 H
  lless : ∀ i j, a0 ≤ i → i < a → a ≤ j → j < b0 → H i ≤ H j
  rless : ∀ i j, a ≤ i → i < b → b ≤ j → j < b0 → H i ≤ H j
  pre : Pre a0 b0 H
theorem Qs.start {a b : Nat} {F : Nat → Int} (h : a ≤ b) (hp : Pre a b F) : Qs a b a b F F := ⟨Pm.refl _ _ _, Nat.le_refl _, h, Nat.le_refl _, Sd.small F (by omega), Sd.small F (by omega), fun i j _ _ => by omega, fun i j _ _ _ => by omega, hp⟩
theorem Qs.here {a0 b0 a b : Nat} {F H : Nat → Int} (h : Qs a0 b0 a b F H) : Pre a b H := by
  by_cases e : a = a0
  · subst e
    rcases h.pre with h1 | h1
    · exact .inl h1
    · exact .inr fun i h2 h3 => h1 i h2 (by have := h.gb; omega)
  · by_cases e0 : a = 0
    · exact .inl e0
    · exact .inr fun i h1 h2 => h.lless (a - 1) i (by have := h.ga; omega) (by omega) h1 (by have := h.gb; omega)
/-- What is left is put in another order. -/
theorem Qs.pms {a0 b0 a b : Nat} {F H K : Nat → Int} (h : Qs a0 b0 a b F H) (k : Pm a b H K) : Qs a0 b0 a b F K := by
  have g1 := h.ga
  have g2 := h.gb
  have g3 := h.ab
  have k2 := k.mono g1 g2
  refine ⟨h.pm.trans k2, g1, g3, g2, fun i j h1 h2 h3 => ?_, fun i j h1 h2 h3 => ?_, fun i j h1 h2 h3 h4 => ?_, fun i j h1 h2 h3 h4 => ?_, h.pre.pm k2⟩
  · rw [k.out (.inl (by omega)), k.out (.inl (by omega))]; exact h.left i j h1 h2 h3
  · rw [k.out (.inr (by omega)), k.out (.inr (by omega))]; exact h.right i j h1 h2 h3
  · rw [k.out (i := i) (.inl (by omega))]
    by_cases e : j < b
    · exact k.all (p := fun x => H i ≤ x) (fun j h5 h6 => h.lless i j h1 h2 h5 (by omega)) j h3 e
    · rw [k.out (.inr (by omega))]; exact h.lless i j h1 h2 h3 h4
  · rw [k.out (i := j) (.inr h3)]
    exact k.all (p := fun x => x ≤ H j) (fun i h5 h6 => h.rless i j h5 h6 h3 h4) i h1 h2
/-- Some at the left are done. -/
theorem Qs.cutL {a0 b0 a b m : Nat} {F H : Nat → Int} (h : Qs a0 b0 a b F H) (h1 : a ≤ m) (h2 : m ≤ b) (hs : Sd a m H) (hl : ∀ i j, a ≤ i → i < m → m ≤ j → j < b → H i ≤ H j) : Qs a0 b0 m b F H := by
  have g1 := h.ga
  have g2 := h.gb
  refine ⟨h.pm, by omega, h2, g2, fun i j k1 k2 k3 => ?_, h.right, fun i j k1 k2 k3 k4 => ?_, fun i j k1 k2 k3 k4 => h.rless i j (by omega) k2 k3 k4, h.pre⟩
  · by_cases e1 : j < a
    · exact h.left i j k1 k2 e1
    · by_cases e2 : i < a
      · exact h.lless i j k1 e2 (by omega) (by omega)
      · exact hs i j (by omega) k2 k3
  · by_cases e2 : i < a
    · exact h.lless i j k1 e2 (by omega) k4
    · by_cases e3 : j < b
      · exact hl i j (by omega) k2 k3 e3
      · exact h.rless i j (by omega) (by omega) (by omega) k4
theorem Qs.cutR {a0 b0 a b m : Nat} {F H : Nat → Int} (h : Qs a0 b0 a b F H) (h1 : a ≤ m) (h2 : m ≤ b) (hs : Sd m b H) (hl : ∀ i j, a ≤ i → i < m → m ≤ j → j < b → H i ≤ H j) : Qs a0 b0 a m F H := by
  have g1 := h.ga
  have g2 := h.gb
  refine ⟨h.pm, g1, h1, by omega, h.left, fun i j k1 k2 k3 => ?_, h.lless, fun i j k1 k2 k3 k4 => ?_, h.pre⟩
  · by_cases e1 : j < b
    · exact hs i j k1 k2 e1
    · by_cases e2 : i < b
      · exact h.rless i j (by omega) e2 (by omega) k3
      · exact h.right i j (by omega) k2 k3
  · by_cases e1 : j < b
    · exact hl i j k1 k2 k3 e1
    · exact h.rless i j k1 (by omega) (by omega) k4
theorem Qs.done {a0 b0 a b : Nat} {F H : Nat → Int} (h : Qs a0 b0 a b F H) (hs : Sd a b H) : Sd a0 b0 H := by
  have g1 := h.ga
  have g2 := h.gb
  have g3 := h.ab
  have := (h.cutL g3 (Nat.le_refl _) hs fun i j _ _ _ _ => by omega)
  intro i j k1 k2 k3
  by_cases e1 : j < b
  · exact this.left i j k1 k2 e1
  · by_cases e2 : i < b
    · exact this.lless i j k1 e2 (by omega) k3
    · exact this.right i j (by omega) k2 k3

/-- The least ones are done. -/
theorem Qs.eqs {a0 b0 a b m : Nat} {p : Int} {F H : Nat → Int} (h : Qs a0 b0 a b F H) (h1 : a ≤ m) (h2 : m ≤ b) (hp : ∀ i, a ≤ i → i < b → p ≤ H i) (low : ∀ k, a ≤ k → k < m → H k ≤ p) (high : ∀ k, m ≤ k → k < b → p < H k) : Qs a0 b0 m b F H :=
  h.cutL h1 h2 (fun i j k1 k2 k3 => by
    have := low i k1 (by omega)
    have := hp j (by omega) (by omega)
    omega) fun i j k1 k2 k3 k4 => by
    have := low i k1 k2
    have := high j k3 k4
    omega
theorem Qs.preL {a0 b0 a b m : Nat} {F K : Nat → Int} (h : Qs a0 b0 a b F K) (h2 : m ≤ b) : Pre a m K := by
  rcases h.here with h1 | h1
  · exact .inl h1
  · exact .inr fun i k1 k2 => h1 i k1 (by omega)
theorem pre_above {b m : Nat} {K : Nat → Int} (high : ∀ k, m < k → k < b → K m ≤ K k) : Pre (m + 1) b K := .inr fun i k1 k2 => high i (by omega) k2
/-- The left part is sorted behind a partition. -/
theorem Qs.goL {a0 b0 a b m : Nat} {F K L : Nat → Int} (h : Qs a0 b0 a b F K) (h1 : a ≤ m) (h2 : m < b) (low : ∀ k, a ≤ k → k < m → K k < K m) (high : ∀ k, m < k → k < b → K m ≤ K k) (k : Pm a m K L) (s : Sd a m L) : Qs a0 b0 (m + 1) b F L := by
  have hL := k.all (p := fun x => x ≤ K m) fun i i1 i2 => by have := low i i1 i2; omega
  have hm : L m = K m := k.out (.inr (Nat.le_refl _))
  refine (h.pms (k.mono (Nat.le_refl _) (by omega))).cutL (by omega) (by omega) (fun i j k1 k2 k3 => ?_) fun i j k1 k2 k3 k4 => ?_
  · by_cases e : j = m
    · rw [e, hm]
      by_cases e2 : i = m
      · rw [e2, hm]; exact Int.le_refl _
      · exact hL i k1 (by omega)
    · exact s i j k1 k2 (by omega)
  · have e1 : L i ≤ K m := by
      by_cases e2 : i = m
      · rw [e2, hm]; exact Int.le_refl _
      · exact hL i k1 (by omega)
    have e2 := high j (by omega) k4
    rw [← k.out (i := j) (.inr (by omega))] at e2
    omega
theorem Qs.goR {a0 b0 a b m : Nat} {F K L : Nat → Int} (h : Qs a0 b0 a b F K) (h1 : a ≤ m) (h2 : m < b) (low : ∀ k, a ≤ k → k < m → K k < K m) (high : ∀ k, m < k → k < b → K m ≤ K k) (k : Pm (m + 1) b K L) (s : Sd (m + 1) b L) : Qs a0 b0 a m F L := by
  have hL := k.all (p := fun x => K m ≤ x) fun i i1 i2 => high i (by omega) i2
  have hm : L m = K m := k.out (.inl (by omega))
  refine (h.pms (k.mono (by omega) (Nat.le_refl _))).cutR h1 (by omega) (fun i j k1 k2 k3 => ?_) fun i j k1 k2 k3 k4 => ?_
  · by_cases e : i = m
    · rw [e, hm]
      by_cases e2 : j = m
      · rw [e2, hm]; exact Int.le_refl _
      · exact hL j (by omega) k3
    · exact s i j (by omega) k2 k3
  · have e1 := low i k1 k2
    rw [← k.out (i := i) (.inl (by omega))] at e1
    have e2 : K m ≤ L j := by
      by_cases e2 : j = m
      · rw [e2, hm]; exact Int.le_refl _
      · exact hL j (by omega) k4
    omega

end Go.Proofs.Ytgdfmmdjnifjeaa.So

namespace Go.Proofs.Ytgdfmmdjnifjeaa
open Go.RowKit

theorem nat_u64 (a : Nat) (ha : a < 18446744073709551616) : (BitVec.ofInt 64 (a : Int)).toNat = a := by
  rw [BitVec.ofInt_natCast, BitVec.toNat_ofNat]; exact Nat.mod_eq_of_lt (by omega)
theorem u64_range (x : Int) : 0 ≤ IntKind.u64.wrap x ∧ IntKind.u64.wrap x < 18446744073709551616 := by
  have : IntKind.u64.wrap x = x % 18446744073709551616 := rfl
  rw [this]
  omega
theorem xor_u64_range (a b : Int) : 0 ≤ bits .xor .u64 a b ∧ bits .xor .u64 a b < 18446744073709551616 := u64_range _
theorem and_u64_le (a b : Nat) (ha : a < 18446744073709551616) (hb : b < 18446744073709551616) : ∃ c : Nat, bits .and .u64 (a : Int) (b : Int) = (c : Int) ∧ c ≤ b := by
  refine ⟨a &&& b, ?_, Nat.and_le_right⟩
  have hx : a &&& b < 18446744073709551616 := Nat.lt_of_le_of_lt Nat.and_le_right hb
  show IntKind.u64.wrap ((BitVec.ofInt 64 (a : Int) &&& BitVec.ofInt 64 (b : Int)).toNat : Int) = _
  rw [BitVec.toNat_and, nat_u64 a ha, nat_u64 b hb]
  have : IntKind.u64.wrap ((a &&& b : Nat) : Int) = ((a &&& b : Nat) : Int) % 18446744073709551616 := rfl
  rw [this]
  omega

/-- What turned beside is new. -/
theorem Mo1.new {g c : Nat} {w wr w2 : World} (h : Mo1 g w wr) (k : Mo1 c wr w2) (hc : w.heap.size ≤ c) : Mo1 g w w2 :=
  ⟨⟨k.1.1.trans h.1.1, k.1.2.trans h.1.2, k.1.3.trans h.1.3, Nat.le_trans h.1.4 k.1.4, fun i hi hne => (k.1.5 i (Nat.lt_of_lt_of_le hi h.1.4) (fun e => by have := Option.some.inj e; omega)).trans (h.1.5 i hi hne)⟩, h.2.trans k.2⟩

/-- A number in a cell of its own, that may be stored into. -/
def SoCell (k : IntKind) (w : World) (b : Nat) (x : Int) : Prop := w.cell? ⟨b, 0, none⟩ = some (.int k x) ∧ w.frozen? ⟨b, 0, none⟩ = false
theorem SoCell.lt {k : IntKind} {w : World} {b : Nat} {x : Int} (h : SoCell k w b x) : b < w.heap.size := World.block_lt_of_cell? w ⟨b, 0, none⟩ h.1
theorem SoCell.ex {k : IntKind} {w w2 : World} {b : Nat} {x : Int} (h : SoCell k w b x) (hx : Ex w w2) : SoCell k w2 b x := ⟨hx.cell h.1, (Below.frozen (p := ⟨b, 0, none⟩) hx h.lt).trans h.2⟩
theorem SoCell.mo {k : IntKind} {w w2 : World} {b c : Nat} {x : Int} (h : SoCell k w b x) (hm : Mo1 c w w2) (hne : b ≠ c) : SoCell k w2 b x := ⟨hm.cell h.1 hne, (hm.frozen (a := ⟨b, 0, none⟩) h.lt hne).trans h.2⟩
theorem SoCell.set {k : IntKind} {w : World} {b : Nat} {x : Int} (h : SoCell k w b x) (y : Int) : SoCell k (w.setCell ⟨b, 0, none⟩ (.int k y)) b y := ⟨World.cell?_setCell_same _ _ _ h.1, by rw [World.frozen?_setCell]; exact h.2⟩

theorem SoCell.of {k : IntKind} {w : World} {b : Nat} {x : Int} {T : TypeId} (h : w.heap[b]? = some (.cells #[.int k x] T (0, 0))) : SoCell k w b x := ⟨by simp [World.cell?, h], by simp [World.frozen?, h]⟩
theorem SoCell.new (k : IntKind) (w : World) (x : Int) (T : TypeId) : SoCell k (w.alloc (.cells #[.int k x] T)) w.heap.size x := SoCell.of (heap_alloc_new _ _)

theorem lenB_fin : ∀ n : Fin 256, n.val < 2 ^ Lib.bitLen n.val ∧ (1 ≤ n.val → 2 ^ Lib.bitLen n.val ≤ 2 * n.val) ∧ Lib.bitLen n.val ≤ 8 := by decide +kernel
theorem lenB_of (n : Nat) (h : n < 256) : n < 2 ^ Lib.bitLen n ∧ (1 ≤ n → 2 ^ Lib.bitLen n ≤ 2 * n) ∧ Lib.bitLen n ≤ 8 := lenB_fin ⟨n, h⟩

end Go.Proofs.Ytgdfmmdjnifjeaa

namespace Go.Proofs.Ytgdfmmdjnifjeaa
open Go.RowKit
open So

theorem mo1_setCells (b : Nat) : ∀ (vs : List Value) (o : Nat) (w : World), Mo1 b w (w.setCells b o vs) := by
  intro vs
  induction vs with
  | nil => intro o w; exact Mo1.refl b w
  | cons v vs ih =>
    intro o w
    show Mo1 b w ((w.setCell ⟨b, o, none⟩ v).setCells b (o + 1) vs)
    exact ((Mo1.refl b w).set o v).trans (ih _ _)

namespace So
/-- The first p of F, compacted. -/
def cl (F : Nat → Int) : Nat → List Int
  | 0 => []
  | p + 1 => if p ≠ 0 ∧ F p = F (p - 1) then cl F p else cl F p ++ [F p]
theorem cl_one (F : Nat → Int) : cl F 1 = [F 0] := by
  show (if 0 ≠ 0 ∧ F 0 = F (0 - 1) then cl F 0 else cl F 0 ++ [F 0]) = _
  rw [if_neg (by simp)]
  rfl
theorem cl_same {F : Nat → Int} {p : Nat} (h : F (p + 1) = F p) : cl F (p + 2) = cl F (p + 1) := by
  show (if p + 1 ≠ 0 ∧ F (p + 1) = F (p + 1 - 1) then cl F (p + 1) else _) = _
  rw [if_pos ⟨by omega, by rw [Nat.add_sub_cancel]; exact h⟩]
theorem cl_more {F : Nat → Int} {p : Nat} (h : F (p + 1) ≠ F p) : cl F (p + 2) = cl F (p + 1) ++ [F (p + 1)] := by
  show (if p + 1 ≠ 0 ∧ F (p + 1) = F (p + 1 - 1) then cl F (p + 1) else cl F (p + 1) ++ [F (p + 1)]) = _
  rw [if_neg (by rw [Nat.add_sub_cancel]; exact fun h2 => h h2.2)]
theorem cl_le (F : Nat → Int) : ∀ p, (cl F p).length ≤ p := by
  intro p
  induction p with
  | zero => exact Nat.le_refl _
  | succ p ih =>
    show (if p ≠ 0 ∧ F p = F (p - 1) then cl F p else cl F p ++ [F p]).length ≤ p + 1
    split
    · omega
    · rw [List.length_append]; show (cl F p).length + 1 ≤ p + 1; omega
theorem cl_all {F : Nat → Int} : ∀ p, (∀ i, i + 1 < p → F (i + 1) ≠ F i) → cl F p = (List.range p).map F := by
  intro p
  induction p with
  | zero => intro _; rfl
  | succ p ih =>
    intro h
    have e := ih fun i hi => h i (by omega)
    cases p with
    | zero => rw [cl_one]; rfl
    | succ p => rw [cl_more (h p (by omega)), e, List.range_succ (n := p + 1), List.map_append]; rfl
theorem cl_few {F : Nat → Int} {p i : Nat} (hi : i + 1 < p) (h : F (i + 1) = F i) : (cl F p).length < p := by
  induction p with
  | zero => omega
  | succ p ih =>
    by_cases e : i + 1 = p
    · subst e
      rw [cl_same h]
      have := cl_le F (i + 1)
      omega
    · have := ih (by omega)
      show (if p ≠ 0 ∧ F p = F (p - 1) then cl F p else cl F p ++ [F p]).length < p + 1
      split
      · omega
      · rw [List.length_append]; show (cl F p).length + 1 < p + 1; omega
theorem cl_mem {F : Nat → Int} : ∀ (p : Nat) (v : Int), v ∈ cl F p ↔ ∃ i, i < p ∧ F i = v := by
  intro p
  induction p with
  | zero => intro v; exact ⟨fun h => (by cases h), fun ⟨i, h, _⟩ => absurd h (Nat.not_lt_zero _)⟩
  | succ p ih =>
    intro v
    show v ∈ (if p ≠ 0 ∧ F p = F (p - 1) then cl F p else cl F p ++ [F p]) ↔ _
    split
    · rename_i h
      rw [ih v]
      refine ⟨fun ⟨i, h1, h2⟩ => ⟨i, by omega, h2⟩, fun ⟨i, h1, h2⟩ => ?_⟩
      by_cases e : i = p
      · exact ⟨p - 1, by omega, by rw [← h.2, ← e]; exact h2⟩
      · exact ⟨i, by omega, h2⟩
    · rw [List.mem_append, ih v]
      refine ⟨fun h => ?_, fun ⟨i, h1, h2⟩ => ?_⟩
      · rcases h with ⟨i, h1, h2⟩ | h
        · exact ⟨i, by omega, h2⟩
        · exact ⟨p, by omega, (List.mem_singleton.mp h).symm⟩
      · by_cases e : i = p
        · right; rw [← h2, e]; exact List.mem_singleton.mpr rfl
        · exact .inl ⟨i, by omega, h2⟩
theorem cl_lt {F : Nat → Int} : ∀ (p : Nat), Sd 0 p F → (cl F p).Pairwise (· < ·) := by
  intro p
  induction p with
  | zero => intro _; exact List.Pairwise.nil
  | succ p ih =>
    intro h
    have h2 := ih fun i j i1 i2 i3 => h i j i1 i2 (by omega)
    show (if p ≠ 0 ∧ F p = F (p - 1) then cl F p else cl F p ++ [F p]).Pairwise (· < ·)
    split
    · exact h2
    · rename_i hne
      refine List.pairwise_append.mpr ⟨h2, List.pairwise_singleton _ _, fun x hx y hy => ?_⟩
      obtain rfl := List.mem_singleton.mp hy
      obtain ⟨i, h3, rfl⟩ := (cl_mem p x).mp hx
      have h4 := h i (p - 1) (by omega) (by omega) (by omega)
      have h5 := h (p - 1) p (by omega) (by omega) (by omega)
      have : F p ≠ F (p - 1) := fun e => hne ⟨by omega, e⟩
      omega
end So

/-- The state of Compact: p of the row have been looked at, the first k are right. -/
structure Cp (F H : Nat → Int) (p k : Nat) : Prop where
  len : (So.cl F p).length = k
  low : ∀ i, i < k → H i = (So.cl F p).getD i 0
  high : ∀ i, p - 1 ≤ i → H i = F i
  kp : k < p
theorem Cp.keep {F H : Nat → Int} {p k : Nat} (h : Cp F H (p + 1) k) (hne : F (p + 1) ≠ F p) : Cp F (fun i => if i = k then F (p + 1) else H i) (p + 2) (k + 1) := by
  have hk := h.kp
  refine ⟨by rw [So.cl_more hne, List.length_append, h.len]; rfl, fun i hi => ?_, fun i hi => ?_, by omega⟩
  · show (if i = k then F (p + 1) else H i) = _
    rw [So.cl_more hne, List.getD_eq_getElem?_getD]
    by_cases e : i = k
    · rw [if_pos e, List.getElem?_append_right (by rw [h.len]; omega), h.len, e, Nat.sub_self]; rfl
    · rw [if_neg e, List.getElem?_append_left (by rw [h.len]; omega), ← List.getD_eq_getElem?_getD]; exact h.low i (by omega)
  · show (if i = k then F (p + 1) else H i) = _
    rw [if_neg (by omega)]
    exact h.high i (by omega)
theorem Cp.skip {F H : Nat → Int} {p k : Nat} (h : Cp F H (p + 1) k) (he : F (p + 1) = F p) : Cp F H (p + 2) k :=
  ⟨by rw [So.cl_same he]; exact h.len, fun i hi => by rw [So.cl_same he]; exact h.low i hi, fun i hi => h.high i (by omega), by have := h.kp; omega⟩

end Go.Proofs.Ytgdfmmdjnifjeaa
