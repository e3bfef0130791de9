/-
  Several texts in one:
  - Slices of congruences (structs of two ints) as memory holds them; Go's library at them: IndexFunc, ContainsFunc; rows of one's own.
  - Rows of structs of two ints of one's own, more: written out, one appended; and whether two such slices are alike.
  - Three rows of structs of two ints, apart from one another; one more at one of them, out of a block that is apart.
  - slices.Clone and slices.Reverse at slices of congruences.
-/
import Derived.Test.YtgdfmmdjnifjeaaGro
import Derived.Test.YtgdfmmdjnifjeaaGnu
import Derived.Test.YtgdfmmdjnifjeaaGma
import Derived.Deep.SlicePairs
import Derived.SizedLaws
import Derived.RegionTactic
import Derived.BigRegion
import Derived.Lib.SliceRun
namespace Go.Proofs.Ytgdfmmdjnifjeaa
open Go.RowKit
open Ch

/-- The congruence at place i; (0, 0) behind the end. -/
def nthR (l : List (Int × Int)) (i : Nat) : Int × Int := l.getD i (0, 0)
theorem nthR_eq {l : List (Int × Int)} {i : Nat} (h : i < l.length) : nthR l i = l[i] := by
  unfold nthR; rw [List.getD_eq_getElem?_getD, List.getElem?_eq_getElem h]; rfl
theorem nthR_mem {l : List (Int × Int)} {i : Nat} (h : i < l.length) : nthR l i ∈ l := by rw [nthR_eq h]; exact List.getElem_mem h

/-- The slice at a reads as l, in the world w. -/
def ReadsR (w : World) (a : Option Addr) (l : List (Int × Int)) : Prop :=
  l = [] ∨ ∃ b off, a = some ⟨b, off, none⟩ ∧ ∀ i, i < l.length → w.cell? ⟨b, off + i * 2, none⟩ = some (.int .i64 (nthR l i).1) ∧ w.cell? ⟨b, off + i * 2 + 1, none⟩ = some (.int .i64 (nthR l i).2)

theorem ReadsR.ex {w w2 : World} {a : Option Addr} {l : List (Int × Int)} (h : ReadsR w a l) (hx : Ex w w2) : ReadsR w2 a l := by
  rcases h with h | ⟨b, off, h1, h2⟩
  · exact .inl h
  · exact .inr ⟨b, off, h1, fun i hi => ⟨hx.cell (h2 i hi).1, hx.cell (h2 i hi).2⟩⟩

theorem ReadsR.take {w : World} {a : Option Addr} {l : List (Int × Int)} (h : ReadsR w a l) (k : Nat) : ReadsR w a (l.take k) := by
  rcases h with h | ⟨b, off, h1, h2⟩
  · exact .inl (by rw [h]; simp)
  · refine .inr ⟨b, off, h1, fun i hi => ?_⟩
    have hi2 : i < k ∧ i < l.length := by simp at hi; omega
    have e : nthR (l.take k) i = nthR l i := by
      rw [nthR_eq hi, nthR_eq hi2.2]; simp
    rw [e]
    exact h2 i hi2.2

/-- What a walk is told of a slice of congruences that came in. -/
def IsPairs (w : World) (a : Option Addr) (len cap : Nat) (z : List (Int × Int)) : Prop :=
  z.length = len ∧ len ≤ cap ∧ cap * 16 ≤ 140737488351232 ∧ ReadsR w a z ∧ (a = none → cap = 0) ∧ ∀ r ∈ z, I64 r.1 ∧ I64 r.2

theorem add_none (b off i : Nat) : (⟨b, off, none⟩ : Addr).add i = ⟨b, off + i, none⟩ := by unfold Addr.add; split <;> simp_all

/-- A value's number. -/
def numOf : Value → Int
  | .int _ n => n
  | _ => 0

theorem pairs_of {H : Type} {enc : TypeId × Value → H} {P : Program} {W : World} {t e : TypeId} {f0 f1 : Field} {a : Option Addr} {len cap : Nat} {d : DataW H} {ps : List MemPlace}
    (ht : P.underlying t = some (.slice e)) (he : P.underlying e = some (.struct #[f0, f1])) (ce : P.cellsOf e = 2) (o0 : f0.offset = 0) (o1 : f1.offset = 1) (c0 : P.cellsOf f0.type = 1) (c1 : P.cellsOf f1.type = 1)
    (i0 : P.underlying f0.type = some (.int .i64)) (i1 : P.underlying f1.type = some (.int .i64)) (h : DataW.Trod enc P W 0 (fun _ => true) true t (.slice a len cap) d ps)
    (hsz : ∀ elems spare, d = .slice elems spare → (elems.length + spare.length) * 16 ≤ reachBytes) : ∃ z, IsPairs W a len cap z := by
  obtain ⟨fuel, hf⟩ := h
  rcases Deep.open_slice_pairs ht he ce o0 o1 c0 c1 hf with ⟨hc, _⟩ | ⟨x, l, c, m, n, V0, V1, D0, D1, P0, P1, hc, _, hl, hm, hmm, hx, hall⟩
  · simp [Value.cells] at hc
    obtain ⟨rfl, rfl, rfl⟩ := hc
    exact ⟨[], rfl, Nat.le_refl _, by omega, .inl rfl, fun _ => rfl, fun r h => by cases h⟩
  · simp [Value.cells] at hc
    obtain ⟨rfl, rfl, rfl⟩ := hc
    simp only [if_true] at hmm
    subst hmm
    simp only [Prod.mk.injEq] at hx
    have hs := hsz _ _ hx.1
    simp only [List.length_map, List.length_range, reachBytes] at hs
    have hv : ∀ i, i < m → (V0 i = .int .i64 (numOf (V0 i)) ∧ I64 (numOf (V0 i))) ∧ V1 i = .int .i64 (numOf (V1 i)) ∧ I64 (numOf (V1 i)) := fun i hi => by
      obtain ⟨N, h1, _, h3⟩ := DataW.trod_int i0 (hall i hi).2.2.1
      obtain ⟨K, k1, _, k3⟩ := DataW.trod_int i1 (hall i hi).2.2.2
      simp only [List.cons.injEq, and_true] at h1 k1
      rw [h1, k1]
      exact ⟨⟨rfl, wf_i64 h3⟩, rfl, wf_i64 k3⟩
    have hz : ∀ i, i < len → nthR ((List.range len).map fun i => (numOf (V0 i), numOf (V1 i))) i = (numOf (V0 i), numOf (V1 i)) := fun i hi => by
      rw [nthR_eq (by simpa using hi)]; simp
    refine ⟨(List.range len).map fun i => (numOf (V0 i), numOf (V1 i)), by simp, hl, by omega, ?_, (by intro h; cases h), ?_⟩
    · by_cases h0 : len = 0
      · subst h0; exact .inl rfl
      · have hx0 := (hall 0 (by omega)).1
        have hsp : x.spot = none := by
          have e0 : x.add (0 * 2) = x := rfl
          rw [e0] at hx0
          unfold World.cell? at hx0
          split at hx0
          · split at hx0
            · cases hx0
            · rename_i hh
              simpa using hh
          · cases hx0
        obtain ⟨b, off, sp⟩ := x
        simp only at hsp
        subst hsp
        refine .inr ⟨b, off, rfl, fun i hi => ?_⟩
        simp only [List.length_map, List.length_range] at hi
        have hc := hall i (by omega)
        rw [add_none, add_none] at hc
        rw [hz i hi]
        have hvi := hv i (by omega)
        exact ⟨hc.1.trans (congrArg some hvi.1.1), (by rw [← Nat.add_assoc] at hc; exact hc.2.1.trans (congrArg some hvi.2.1))⟩
    · intro r hr
      simp only [List.mem_map, List.mem_range] at hr
      obtain ⟨i, hi, rfl⟩ := hr
      have hvi := hv i (by omega)
      exact ⟨hvi.1.2, hvi.2.2⟩

/-- A congruence as a value. -/
abbrev rv (x : Int × Int) : Value := .agg #[.int .i64 x.1, .int .i64 x.2]

/-- A function value (f, over what it has captured) that says p of each of xs, in whatever world has grown out of w. -/
def SaysR (P : Program) (f : FuncId) (cs : Array Value) (p : Int × Int → Bool) (xs : List (Int × Int)) (w : World) : Prop :=
  ∀ x ∈ xs, ∀ w2, Ex w w2 → Calls P f (#[.agg #[.int .i64 x.1, .int .i64 x.2]] ++ cs) w2 (Says (.bool (p x)) w2)

/-- The first place where p says yes; -1 if there is none. -/
def placeR (p : Int × Int → Bool) (xs : List (Int × Int)) : Int := match xs.findIdx? p with | some i => (i : Int) | none => -1

theorem placeR_at {p : Int × Int → Bool} {xs : List (Int × Int)} {k : Nat} (hk : k < xs.length) (hp : p (nthR xs k) = true) (hn : ∀ j, j < k → p (nthR xs j) = false) : placeR p xs = (k : Int) := by
  have : xs.findIdx? p = some k := by
    rw [List.findIdx?_eq_some_iff_getElem]
    refine ⟨hk, ?_, fun j hj => ?_⟩
    · rw [nthR_eq hk] at hp; exact hp
    · have := hn j hj
      rw [nthR_eq (by omega)] at this
      simpa using this
  unfold placeR; rw [this]

theorem placeR_none {p : Int × Int → Bool} {xs : List (Int × Int)} (hn : ∀ j, j < xs.length → p (nthR xs j) = false) : placeR p xs = -1 := by
  have : xs.findIdx? p = none := by
    rw [List.findIdx?_eq_none_iff]
    intro x hx
    obtain ⟨j, hj, rfl⟩ := List.getElem_of_mem hx
    have := hn j hj
    rw [nthR_eq hj] at this
    exact this
  unfold placeR; rw [this]

theorem placeR_any (p : Int × Int → Bool) (xs : List (Int × Int)) : decide (0 ≤ placeR p xs) = xs.any p := by
  unfold placeR
  cases h : xs.findIdx? p with
  | none =>
    rw [List.findIdx?_eq_none_iff] at h
    have : xs.any p = false := by rw [List.any_eq_false]; intro x hx; simpa using h x hx
    rw [this]; rfl
  | some i =>
    have := List.findIdx?_eq_some_iff_getElem.mp h
    obtain ⟨hi, hp, _⟩ := this
    have h2 : xs.any p = true := List.any_eq_true.mpr ⟨_, List.getElem_mem hi, hp⟩
    rw [h2]; simp

/-- The cells of a list of congruences. -/
def rcs (l : List (Int × Int)) : List Value := l.flatMap fun x => [.int .i64 x.1, .int .i64 x.2]

theorem rcs_at : ∀ (l : List (Int × Int)) (i : Nat), i < l.length → (rcs l)[i * 2]? = some (.int .i64 (nthR l i).1) ∧ (rcs l)[i * 2 + 1]? = some (.int .i64 (nthR l i).2) := by
  intro l
  induction l with
  | nil => intro i h; cases h
  | cons x l ih =>
    intro i h
    have e : rcs (x :: l) = .int .i64 x.1 :: .int .i64 x.2 :: rcs l := rfl
    rw [e]
    match i with
    | 0 => exact ⟨rfl, rfl⟩
    | i + 1 =>
      have h2 := ih i (by simpa using h)
      rw [show (i + 1) * 2 = i * 2 + 1 + 1 by omega, show i * 2 + 1 + 1 + 1 = (i * 2 + 1) + 1 + 1 by omega]
      simp only [List.getElem?_cons_succ]
      exact h2

theorem rcs_length (l : List (Int × Int)) : (rcs l).length = l.length * 2 := by
  induction l with
  | nil => rfl
  | cons x l ih => show (rcs l).length + 1 + 1 = _; rw [ih, List.length_cons]; omega

theorem rcs_append (l m : List (Int × Int)) : rcs (l ++ m) = rcs l ++ rcs m := by simp [rcs]

theorem rcs_one (l : List (Int × Int)) : ∀ u ∈ rcs l, u.oneCell' = true := by
  intro u hu
  simp only [rcs, List.mem_flatMap] at hu
  obtain ⟨x, _, hx⟩ := hu
  exact two_oneCell _ _ _ u hx

/-- The slice v is a row of our own, in memory from base on: it holds l. -/
def RowR (e : TypeId) (w : World) (base : Nat) (v : Value) (l : List (Int × Int)) : Prop := w.ownsRow base e 2 v l.length (rcs l)

theorem RowR.nil (e : TypeId) (w : World) (base : Nat) : RowR e w base (.slice none 0 0) [] := World.ownsRow_nil _ _ _ _
theorem RowR.ex {e : TypeId} {w w2 : World} {base : Nat} {v : Value} {l : List (Int × Int)} (h : RowR e w base v l) (hx : Ex w w2) : RowR e w2 base v l := owns_ex h hx

theorem RowR.form {e : TypeId} {w : World} {base : Nat} {v : Value} {l : List (Int × Int)} (h : RowR e w base v l) :
    (v = .slice none 0 0 ∧ l = []) ∨ ∃ g cap, v = .slice (some ⟨g, 0, none⟩) l.length cap ∧ base ≤ g ∧ g < w.heap.size ∧ l.length ≤ cap ∧ cap ≤ maxLen ∧
      (∀ i, i < l.length → w.cell? ⟨g, i * 2, none⟩ = some (.int .i64 (nthR l i).1) ∧ w.cell? ⟨g, i * 2 + 1, none⟩ = some (.int .i64 (nthR l i).2)) ∧ ∀ i, w.frozen? ⟨g, i, none⟩ = false := by
  have h0 := h
  rcases h.2 with ⟨rfl, hn⟩ | ⟨g, cap, cur, rfl, hb, hgg, h1, h2, _⟩
  · exact .inl ⟨rfl, List.length_eq_zero_iff.mp hn⟩
  · refine .inr ⟨g, cap, rfl, hb, (Array.getElem?_eq_some_iff.1 hgg).1, h1, h2, fun i hi => ?_, fun i => World.ownsRow.frozenAt h i⟩
    have hp := rcs_at l i hi
    exact ⟨(World.ownsRow.cellAt h0 (i * 2) (by omega)).trans hp.1, (World.ownsRow.cellAt h0 (i * 2 + 1) (by omega)).trans hp.2⟩

theorem RowR.reads {e : TypeId} {w : World} {base : Nat} {v : Value} {l : List (Int × Int)} (h : RowR e w base v l) :
    ∃ a cap, v = .slice a l.length cap ∧ l.length ≤ cap ∧ ReadsR w a l ∧ (a = none → cap = 0) := by
  rcases h.form with ⟨rfl, rfl⟩ | ⟨g, cap, rfl, _, _, h1, h2, hc, _⟩
  · exact ⟨none, 0, by simp, by simp, .inl rfl, fun _ => rfl⟩
  · exact ⟨_, cap, rfl, h1, .inr ⟨g, 0, rfl, fun i hi => by rw [Nat.zero_add]; exact hc i hi⟩, fun h => by simp at h⟩

theorem RowR.grown {e : TypeId} {w a b : World} {v : Value} {l : List (Int × Int)} (hr : RowR e a w.heap.size v l) (h : Ex w a) (hg : a.grownBy b v.ownBlock) : Ex w b := ex_append h hr hg

end Go.Proofs.Ytgdfmmdjnifjeaa

namespace Go.Proofs.Ytgdfmmdjnifjeaa
open Go.RowKit
open Ch

theorem rcs_append2 (l k : List (Int × Int)) : rcs (l ++ k) = rcs l ++ rcs k := by simp [rcs]

theorem rowR_new (e : TypeId) (w : World) (base : Nat) (hb : base ≤ w.heap.size) (xs : List (Int × Int)) (vs : Array Value) (h : vs = (rcs xs).toArray) (hl : xs.length ≤ maxLen) :
    RowR e (w.alloc (.cells vs e)) base (.slice (some ⟨w.heap.size, 0, none⟩) xs.length xs.length) xs := by
  subst h
  exact ⟨by rw [rcs_length], .inr ⟨w.heap.size, xs.length, _, rfl, hb, heap_alloc_new w _, Nat.le_refl _, hl, by simp [rcs_length], by simp [List.take_of_length_le, rcs_length]⟩⟩

theorem add0 (b i : Nat) : (⟨b, 0, none⟩ : Addr).add i = ⟨b, i, none⟩ := by rw [add_none, Nat.zero_add]

section
variable {P : Program} {w : World} {ops : Array Oper} {rest : List Oper} {o : Oper} {a : Act} {Q : Exit → Act → World → Prop}

/-- append of one struct of two ints, which lies in the block b. -/
theorem wpList_append_pair (hgd : o.guard = none) (s x : Operand) (t : TypeId) (ho : o.op = .call { callee := .builtin .append, args := #[s, x], argTypes := #[t, t] })
    (base : Nat) (e : TypeId) (ht : P.underlying t = some (.slice e)) (hinfo : (P.info? e).map (fun i => (i.zero, i.size, i.bytes)) = some (some (.agg #[.int .i64 0, .int .i64 0]), 2, 16))
    (v : Value) (xs : List (Int × Int)) (hs : a.eval s = v) (hown : RowR e w base v xs) (d : Int × Int) (b : Nat) (hx : a.eval x = .slice (some ⟨b, 0, none⟩) 1 1)
    (hb0 : w.cell? ⟨b, 0, none⟩ = some (.int .i64 d.1)) (hb1 : w.cell? ⟨b, 1, none⟩ = some (.int .i64 d.2))
    (h63 : xs.length + 1 ≤ maxLen) (hbytes : (xs.length + 1) * 16 ≤ 140737488355328) (hbase : base ≤ w.heap.size)
    (h : ∀ v' w', RowR e w' base v' (xs ++ [d]) → w.grownBy w' v.ownBlock → (v'.ownBlock = v.ownBlock ∨ v'.ownBlock = some w.heap.size) → wpList P ops Q rest (a.put o.dst v') w') : wpList P ops Q (o :: rest) a w := by
  obtain ⟨i, hi, hz, hsz, hby⟩ := info_parts hinfo
  refine wpList_append_own_at w hgd s x t ho base e i _ 2 16 ht hi hz hsz hby rfl (by decide) v xs.length (rcs xs) hs hown ⟨b, 0, none⟩ 1 1 [.int .i64 d.1, .int .i64 d.2] hx rfl ?_ (by intro u hu; simp at hu; rcases hu with rfl | rfl <;> rfl) h63 hbytes hbase ?_
  · intro j u hj
    match j, hj with
    | 0, hj => simp at hj; subst hj; exact hb0
    | 1, hj => simp at hj; subst hj; rw [add0]; exact hb1
  · intro v' w' h1 h2 _ h4
    refine h v' w' ?_ h2 h4
    unfold RowR
    rw [rcs_append2, List.length_append]
    exact h1
end

/-- Are they alike? Element for element, as far as the first. -/
def alikeR : List (Int × Int) → List (Int × Int) → Bool
  | [], [] => true
  | x :: l, y :: k => (x.1 == y.1 && x.2 == y.2) && alikeR l k
  | _, _ => false

theorem alikeR_iff : ∀ (l k : List (Int × Int)), alikeR l k = true ↔ l = k := by
  intro l
  induction l with
  | nil => intro k; cases k <;> simp [alikeR]
  | cons x l ih =>
    intro k
    cases k with
    | nil => simp [alikeR]
    | cons y k =>
      simp only [alikeR, Bool.and_eq_true, beq_iff_eq, ih, List.cons.injEq]
      constructor
      · rintro ⟨⟨h1, h2⟩, rfl⟩; exact ⟨Prod.ext h1 h2, rfl⟩
      · rintro ⟨rfl, rfl⟩; exact ⟨⟨rfl, rfl⟩, rfl⟩

end Go.Proofs.Ytgdfmmdjnifjeaa

namespace Go.Proofs.Ytgdfmmdjnifjeaa
open Go.RowKit

/-- Two rows lie in no one block. -/
def ApartB (u v : Value) : Prop := ∀ b, u.ownBlock = some b → v.ownBlock ≠ some b
theorem ApartB.symm {u v : Value} (h : ApartB u v) : ApartB v u := fun b h1 h2 => h b h2 h1
theorem ApartB.none {u v : Value} (h : u.ownBlock = none) : ApartB u v := fun b h1 => by rw [h] at h1; cases h1

/-- Three rows, apart. -/
structure St3 (e : TypeId) (w W : World) (v1 v2 v3 : Value) (l1 l2 l3 : List (Int × Int)) : Prop where
  ex : Ex w W
  r1 : RowR e W w.heap.size v1 l1
  r2 : RowR e W w.heap.size v2 l2
  r3 : RowR e W w.heap.size v3 l3
  a12 : ApartB v1 v2
  a13 : ApartB v1 v3
  a23 : ApartB v2 v3

theorem St3.swap {e : TypeId} {w W : World} {v1 v2 v3 : Value} {l1 l2 l3 : List (Int × Int)} (h : St3 e w W v1 v2 v3 l1 l2 l3) : St3 e w W v2 v1 v3 l2 l1 l3 := ⟨h.ex, h.r2, h.r1, h.r3, h.a12.symm, h.a23, h.a13⟩
theorem St3.turn {e : TypeId} {w W : World} {v1 v2 v3 : Value} {l1 l2 l3 : List (Int × Int)} (h : St3 e w W v1 v2 v3 l1 l2 l3) : St3 e w W v3 v2 v1 l3 l2 l1 := ⟨h.ex, h.r3, h.r2, h.r1, h.a23.symm, h.a13.symm, h.a12.symm⟩
theorem St3.to {e : TypeId} {w W W2 : World} {v1 v2 v3 : Value} {l1 l2 l3 : List (Int × Int)} (h : St3 e w W v1 v2 v3 l1 l2 l3) (hx : Ex W W2) : St3 e w W2 v1 v2 v3 l1 l2 l3 := ⟨h.ex.trans hx, h.r1.ex hx, h.r2.ex hx, h.r3.ex hx, h.a12, h.a13, h.a23⟩
theorem St3.alloc {e : TypeId} {w W : World} {v1 v2 v3 : Value} {l1 l2 l3 : List (Int × Int)} (h : St3 e w W v1 v2 v3 l1 l2 l3) (o : Obj) : St3 e w (W.alloc o) v1 v2 v3 l1 l2 l3 := h.to ((Ex.refl W).alloc o)
theorem St3.drew {e : TypeId} {w W : World} {v1 v2 v3 : Value} {l1 l2 l3 : List (Int × Int)} (h : St3 e w W v1 v2 v3 l1 l2 l3) : St3 e w W.drew v1 v2 v3 l1 l2 l3 := h.to (Ex.refl W).drew
theorem St3.start (e : TypeId) (w : World) {W : World} (hx : Ex w W) : St3 e w W (.slice none 0 0) (.slice none 0 0) (.slice none 0 0) [] [] [] := ⟨hx, RowR.nil _ _ _, RowR.nil _ _ _, RowR.nil _ _ _, .none rfl, .none rfl, .none rfl⟩

theorem RowR.lt {e : TypeId} {w : World} {base : Nat} {v : Value} {l : List (Int × Int)} (h : RowR e w base v l) : ∀ b, v.ownBlock = some b → base ≤ b ∧ b < w.heap.size := World.ownsRow.lt h

/-- A block that holds a struct of two ints, apart from the three rows. -/
structure Bx3 (W : World) (b : Nat) (x y : Int) (v1 v2 v3 : Value) : Prop where
  lt : b < W.heap.size
  c0 : W.cell? ⟨b, 0, none⟩ = some (.int .i64 x)
  c1 : W.cell? ⟨b, 1, none⟩ = some (.int .i64 y)
  n1 : v1.ownBlock ≠ some b
  n2 : v2.ownBlock ≠ some b
  n3 : v3.ownBlock ≠ some b

theorem Bx3.swap {W : World} {b : Nat} {x y : Int} {v1 v2 v3 : Value} (h : Bx3 W b x y v1 v2 v3) : Bx3 W b x y v2 v1 v3 := ⟨h.lt, h.c0, h.c1, h.n2, h.n1, h.n3⟩
theorem Bx3.turn {W : World} {b : Nat} {x y : Int} {v1 v2 v3 : Value} (h : Bx3 W b x y v1 v2 v3) : Bx3 W b x y v3 v2 v1 := ⟨h.lt, h.c0, h.c1, h.n3, h.n2, h.n1⟩
theorem Bx3.alloc {W : World} {b : Nat} {x y : Int} {v1 v2 v3 : Value} (h : Bx3 W b x y v1 v2 v3) (o : Obj) : Bx3 (W.alloc o) b x y v1 v2 v3 :=
  ⟨by rw [World.size_alloc]; have := h.lt; omega, ((Ex.refl W).alloc o).cell h.c0, ((Ex.refl W).alloc o).cell h.c1, h.n1, h.n2, h.n3⟩
/-- The three rows' blocks are there. -/
def Low3 (W : World) (v1 v2 v3 : Value) : Prop := ∀ b, v1.ownBlock = some b ∨ v2.ownBlock = some b ∨ v3.ownBlock = some b → b < W.heap.size
theorem St3.low {e : TypeId} {w W : World} {v1 v2 v3 : Value} {l1 l2 l3 : List (Int × Int)} (h : St3 e w W v1 v2 v3 l1 l2 l3) : Low3 W v1 v2 v3 := fun b hb => by
  rcases hb with hb | hb | hb
  · exact (h.r1.lt _ hb).2
  · exact (h.r2.lt _ hb).2
  · exact (h.r3.lt _ hb).2
theorem Low3.alloc {W : World} {v1 v2 v3 : Value} (h : Low3 W v1 v2 v3) (o : Obj) : Low3 (W.alloc o) v1 v2 v3 := fun b hb => by
  have := h b hb
  rw [World.size_alloc]
  omega
theorem Bx3.new {t : TypeId} {W : World} {b : Nat} {x y : Int} {v1 v2 v3 : Value} (hb : b = W.heap.size) (h : Low3 W v1 v2 v3) : Bx3 (W.alloc (.cells #[.int .i64 x, .int .i64 y] t)) b x y v1 v2 v3 := by
  subst hb
  refine ⟨by rw [World.size_alloc]; omega, by simp, by simp, fun e => ?_, fun e => ?_, fun e => ?_⟩
  · have := h _ (.inl e); omega
  · have := h _ (.inr (.inl e)); omega
  · have := h _ (.inr (.inr e)); omega

theorem ne_row {u v : Value} (h : ApartB u v) : v.ownBlock = none ∨ v.ownBlock ≠ u.ownBlock := by
  cases hv : v.ownBlock with
  | none => exact .inl rfl
  | some b => exact .inr fun e => h b e.symm hv

section
variable {P : Program} {W : World} {ops : Array Oper} {rest : List Oper} {o : Oper} {a : Act} {Q : Exit → Act → World → Prop}

theorem wpList_append_st1 (hgd : o.guard = none) (s x : Operand) (t : TypeId) (ho : o.op = .call { callee := .builtin .append, args := #[s, x], argTypes := #[t, t] })
    (w : World) (e : TypeId) (ht : P.underlying t = some (.slice e)) (hinfo : (P.info? e).map (fun i => (i.zero, i.size, i.bytes)) = some (some (.agg #[.int .i64 0, .int .i64 0]), 2, 16))
    (v1 v2 v3 : Value) (l1 l2 l3 : List (Int × Int)) (hs : a.eval s = v1) (d1 d2 : Int) (b : Nat) (hx : a.eval x = .slice (some ⟨b, 0, none⟩) 1 1) (hst : St3 e w W v1 v2 v3 l1 l2 l3) (hb : Bx3 W b d1 d2 v1 v2 v3)
    (hl : l1.length ≤ 1000)
    (h : ∀ v' w', St3 e w w' v' v2 v3 (l1 ++ [(d1, d2)]) l2 l3 → (∀ b x y, Bx3 W b x y v1 v2 v3 → Bx3 w' b x y v' v2 v3) → wpList P ops Q rest (a.put o.dst v') w') : wpList P ops Q (o :: rest) a W := by
  refine wpList_append_pair hgd s x t ho w.heap.size e ht hinfo v1 l1 hs hst.r1 (d1, d2) b hx hb.c0 hb.c1 (by unfold maxLen; omega) (by omega) hst.ex.size fun v' w' hown hgrow hloc => ?_
  have hx' : Ex w w' := RowR.grown hst.r1 hst.ex hgrow
  have hfar : ∀ j, j < W.heap.size → v1.ownBlock ≠ some j → v'.ownBlock ≠ some j := fun j hj h1 => by
    rcases hloc with h2 | h2
    · rw [h2]; exact h1
    · rw [h2]; intro e; have := Option.some.inj e; omega
  refine h v' w' ⟨hx', hown, World.ownsRow.kept hst.r2 hgrow (ne_row hst.a12), World.ownsRow.kept hst.r3 hgrow (ne_row hst.a13), fun j h1 h2 => ?_, fun j h1 h2 => ?_, hst.a23⟩ fun b2 x2 y2 hb2 => ?_
  · exact hfar j (hst.r2.lt j h2).2 (fun e => hst.a12 j e h2) h1
  · exact hfar j (hst.r3.lt j h2).2 (fun e => hst.a13 j e h2) h1
  · exact ⟨Nat.lt_of_lt_of_le hb2.lt hgrow.size, hgrow.cell hb2.c0 (Ne.symm hb2.n1), hgrow.cell hb2.c1 (Ne.symm hb2.n1), hfar b2 hb2.lt hb2.n1, hb2.n2, hb2.n3⟩

theorem wpList_append_st2 (hgd : o.guard = none) (s x : Operand) (t : TypeId) (ho : o.op = .call { callee := .builtin .append, args := #[s, x], argTypes := #[t, t] })
    (w : World) (e : TypeId) (ht : P.underlying t = some (.slice e)) (hinfo : (P.info? e).map (fun i => (i.zero, i.size, i.bytes)) = some (some (.agg #[.int .i64 0, .int .i64 0]), 2, 16))
    (v1 v2 v3 : Value) (l1 l2 l3 : List (Int × Int)) (hs : a.eval s = v2) (d1 d2 : Int) (b : Nat) (hx : a.eval x = .slice (some ⟨b, 0, none⟩) 1 1) (hst : St3 e w W v1 v2 v3 l1 l2 l3) (hb : Bx3 W b d1 d2 v1 v2 v3)
    (hl : l2.length ≤ 1000)
    (h : ∀ v' w', St3 e w w' v1 v' v3 l1 (l2 ++ [(d1, d2)]) l3 → (∀ b x y, Bx3 W b x y v1 v2 v3 → Bx3 w' b x y v1 v' v3) → wpList P ops Q rest (a.put o.dst v') w') : wpList P ops Q (o :: rest) a W :=
  wpList_append_st1 hgd s x t ho w e ht hinfo v2 v1 v3 l2 l1 l3 hs d1 d2 b hx hst.swap hb.swap hl fun v' w' h1 h2 => h v' w' h1.swap fun b x y hb => (h2 b x y hb.swap).swap

theorem wpList_append_st3 (hgd : o.guard = none) (s x : Operand) (t : TypeId) (ho : o.op = .call { callee := .builtin .append, args := #[s, x], argTypes := #[t, t] })
    (w : World) (e : TypeId) (ht : P.underlying t = some (.slice e)) (hinfo : (P.info? e).map (fun i => (i.zero, i.size, i.bytes)) = some (some (.agg #[.int .i64 0, .int .i64 0]), 2, 16))
    (v1 v2 v3 : Value) (l1 l2 l3 : List (Int × Int)) (hs : a.eval s = v3) (d1 d2 : Int) (b : Nat) (hx : a.eval x = .slice (some ⟨b, 0, none⟩) 1 1) (hst : St3 e w W v1 v2 v3 l1 l2 l3) (hb : Bx3 W b d1 d2 v1 v2 v3)
    (hl : l3.length ≤ 1000)
    (h : ∀ v' w', St3 e w w' v1 v2 v' l1 l2 (l3 ++ [(d1, d2)]) → (∀ b x y, Bx3 W b x y v1 v2 v3 → Bx3 w' b x y v1 v2 v') → wpList P ops Q rest (a.put o.dst v') w') : wpList P ops Q (o :: rest) a W :=
  wpList_append_st1 hgd s x t ho w e ht hinfo v3 v2 v1 l3 l2 l1 hs d1 d2 b hx hst.turn hb.turn hl fun v' w' h1 h2 => h v' w' h1.turn fun b x y hb => (h2 b x y hb.turn).turn
end

end Go.Proofs.Ytgdfmmdjnifjeaa

namespace Go.Proofs.Ytgdfmmdjnifjeaa
open Go.RowKit
open Ch

/-- xs, turned from both ends as far as i. -/
def revToR (xs : List (Int × Int)) (i : Nat) : List (Int × Int) := (List.range xs.length).map fun t => if t < i ∨ xs.length < t + i + 1 then nthR xs (xs.length - 1 - t) else nthR xs t

theorem revToR_length (xs : List (Int × Int)) (i : Nat) : (revToR xs i).length = xs.length := by simp [revToR]
theorem revToR_at {xs : List (Int × Int)} {i t : Nat} (h : t < xs.length) : nthR (revToR xs i) t = if t < i ∨ xs.length < t + i + 1 then nthR xs (xs.length - 1 - t) else nthR xs t := by
  rw [nthR_eq (by rw [revToR_length]; exact h)]
  simp [revToR]
theorem listR_nth {xs ys : List (Int × Int)} (hl : xs.length = ys.length) (h : ∀ t, t < xs.length → nthR xs t = nthR ys t) : xs = ys := by
  apply List.ext_getElem hl
  intro t h1 h2
  have := h t h1
  rwa [nthR_eq h1, nthR_eq h2] at this
theorem nthR_set {xs : List (Int × Int)} {j t : Nat} {x : Int × Int} (h : t < xs.length) : nthR (xs.set j x) t = if t = j then x else nthR xs t := by
  rw [nthR_eq (by simpa using h), List.getElem_set, nthR_eq h]
  by_cases e : j = t
  · simp [e]
  · rw [if_neg e, if_neg (Ne.symm e)]
theorem revToR_zero (xs : List (Int × Int)) : revToR xs 0 = xs := listR_nth (revToR_length _ _) fun t h => by
  rw [revToR_length] at h
  rw [revToR_at h, if_neg (by omega)]
theorem nthR_reverse {xs : List (Int × Int)} {t : Nat} (h : t < xs.length) : nthR xs.reverse t = nthR xs (xs.length - 1 - t) := by
  rw [nthR_eq (by simpa using h), List.getElem_reverse, nthR_eq (by omega)]
theorem revToR_end {xs : List (Int × Int)} {i : Nat} (h : xs.length ≤ 2 * i + 1) : revToR xs i = xs.reverse := listR_nth (by simp [revToR_length]) fun t ht => by
  rw [revToR_length] at ht
  rw [revToR_at ht, nthR_reverse ht]
  by_cases h1 : t < i ∨ xs.length < t + i + 1
  · rw [if_pos h1]
  · rw [if_neg h1]; congr 1; omega
theorem revToR_step {xs : List (Int × Int)} {i j : Nat} (h : i + j + 1 = xs.length) (hij : i < j) : ((revToR xs i).set i (nthR xs j)).set j (nthR xs i) = revToR xs (i + 1) := listR_nth (by simp [revToR_length]) fun t ht => by
  simp only [List.length_set, revToR_length] at ht
  rw [nthR_set (by simpa [revToR_length] using ht), nthR_set (by rw [revToR_length]; exact ht), revToR_at ht, revToR_at ht]
  by_cases e : t = j
  · subst e
    rw [if_pos rfl, if_pos (by omega)]; congr 1; omega
  · rw [if_neg e]
    by_cases e2 : t = i
    · subst e2
      rw [if_pos rfl, if_pos (by omega)]; congr 1; omega
    · rw [if_neg e2]
      by_cases h1 : t < i ∨ xs.length < t + i + 1
      · rw [if_pos h1, if_pos (by omega)]
      · rw [if_neg h1, if_neg (by omega)]

theorem rcs_set (l : List (Int × Int)) (j : Nat) (x : Int × Int) (h : j < l.length) : ((rcs l).set (j * 2) (.int .i64 x.1)).set (j * 2 + 1) (.int .i64 x.2) = rcs (l.set j x) := by
  induction l generalizing j with
  | nil => cases h
  | cons y l ih =>
    have e : rcs (y :: l) = .int .i64 y.1 :: .int .i64 y.2 :: rcs l := rfl
    match j with
    | 0 => rfl
    | j + 1 =>
      rw [e, show (j + 1) * 2 = j * 2 + 1 + 1 by omega, show j * 2 + 1 + 1 + 1 = (j * 2 + 1) + 1 + 1 by omega]
      simp only [List.set_cons_succ]
      rw [ih j (by simpa using h)]
      rfl

theorem RowR.set {e : TypeId} {w : World} {base g n cap : Nat} {l : List (Int × Int)} (h : RowR e w base (.slice (some ⟨g, 0, none⟩) n cap) l) (hn : n = l.length) (j : Nat) (x : Int × Int) (hj : j < l.length) :
    RowR e ((w.setCell ⟨g, j * 2, none⟩ (.int .i64 x.1)).setCell ⟨g, j * 2 + 1, none⟩ (.int .i64 x.2)) base (.slice (some ⟨g, 0, none⟩) n cap) (l.set j x) ∧
      w.grownBy ((w.setCell ⟨g, j * 2, none⟩ (.int .i64 x.1)).setCell ⟨g, j * 2 + 1, none⟩ (.int .i64 x.2)) (some g) := by
  subst hn
  have s1 := World.ownsRow.stored h (j * 2) (.int .i64 x.1)
  have s2 := World.ownsRow.stored s1.1 (j * 2 + 1) (.int .i64 x.2)
  refine ⟨?_, s1.2.trans s2.2⟩
  unfold RowR
  rw [List.length_set, ← rcs_set l j x hj]
  exact s2.1

end Go.Proofs.Ytgdfmmdjnifjeaa
