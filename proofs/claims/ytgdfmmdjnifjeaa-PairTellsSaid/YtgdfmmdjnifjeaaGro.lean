/-
  Several texts in one:
  - What every walk of this seat leans on: 'Ex w w2' (the world w2 has grown out of w: what was there is as it was), contracts in that word, and regions that draw their order walked once with callees that may grow the world.
  - Go's library at this seat's types: slices.IndexFunc, ContainsFunc, Equal; and the helper 'good'.
  - Rows of integers that a function has made itself: append of one, append of a row, reading, storing.
  - Rows of integers of one's own: written out, made.
  - Rows of integers told by a function of the place.
  - slices.Clone at integers: a row of one's own.
  - Rows of integers: cut shorter, read from a place on, copied over.
  - slices.Equal over integers; Names.
  - What a walk is told of a slice of numbers that came in, with the form's own reach.
  - A region that draws its order, in which operations that look at no memory stand beside calls and new memory: walked once, in the order of the text, where each operation that turns the world can only come up alone.
  - A region that draws its order, walked by a script of the prover's own: operations that only read what a condition on the world tells are free to come at any time and are taken where the script says; each operation that turns the world comes up alone, or one of two comes up (then both ways are walked).
-/
import Derived.WalkKit
import Derived.WalkSpells
import Derived.WalkLawsBesides
import Derived.Handy
import Derived.Lib.Hide
import Derived.Deep.LoopGhost
import Derived.BigQuiet
import Derived.OpenShut
import Derived.Deep.QuietTactic
import Derived.Test.YtgdfmmdjnifjeaaChecked
import Derived.Laws.OwnMore
import Derived.Laws.AppendOwnNone
import Derived.Maps.AppendAt
import Derived.OwnWalk
import Derived.Laws.CopyOwn
import Derived.ProofKit
import Derived.SizedLaws
import Derived.OrdersHeld
namespace Go.Proofs.Ytgdfmmdjnifjeaa
open Go.RowKit

/-- w2 has grown out of w: blocks may have come, draws may have been made; nothing that was there has turned. -/
def Ex (w w2 : World) : Prop := Below w.heap.size w w2

theorem Ex.refl (w : World) : Ex w w := Below.refl _ _
theorem Ex.trans {a b c : World} (h : Ex a b) (k : Ex b c) : Ex a c := Below.trans h (Below.mono k h.size)
theorem Ex.drew {a b : World} (h : Ex a b) : Ex a b.drew := Below.drew h
theorem Ex.drewN {a b : World} (h : Ex a b) (n : Nat) : Ex a (b.drewN n) := ⟨h.os, h.tape, h.output, h.size, h.block⟩
theorem Ex.cell {w w2 : World} (h : Ex w w2) {a : Addr} {v : Value} (hc : w.cell? a = some v) : w2.cell? a = some v := by
  have hb : a.block < w.heap.size := by
    unfold World.cell? at hc
    split at hc
    · rename_i he
      exact (Array.getElem?_eq_some_iff.mp he).1
    · cases hc
  rw [Below.cell h hb]; exact hc
theorem Ex.alloc {a b : World} (h : Ex a b) (o : Obj) : Ex a (b.alloc o) := Below.alloc h h.size o
theorem Ex.setCell {a b : World} (h : Ex a b) {p : Addr} (hp : a.heap.size ≤ p.block) (u : Value) : Ex a (b.setCell p u) := Below.setCell h hp u

/-- The worlds that have grown out of w. -/
structure Wo (w : World) where
  val : World
  ex : Ex w val

instance (w : World) : Nonempty (Wo w) := ⟨⟨w, Ex.refl w⟩⟩

/-- A function hands back v and leaves a grown world. -/
def Says (v : Value) (w : World) (e : Ending) (w2 : World) : Prop := e = .returned v ∧ Ex w w2

theorem Says.same {v : Value} {w : World} : Says v w (.returned v) w := ⟨rfl, Ex.refl w⟩

theorem says_same {P : Program} {f : FuncId} {args : Array Value} {w : World} {v : Value} (h : Calls P f args w fun e w2 => e = .returned v ∧ w = w2) : Calls P f args w (Says v w) :=
  h.mono fun _ _ ⟨he, hw⟩ => ⟨he, hw ▸ Ex.refl _⟩

theorem says_wo {P : Program} {f : FuncId} {args : Array Value} {w : World} {x : Wo w} {v : Value} (h : Calls P f args x.val (Says v x.val)) :
    Calls P f args x.val fun e w2 => e = .returned v ∧ ∃ y : Wo w, w2 = y.val :=
  h.mono fun _ w2 ⟨he, hw⟩ => ⟨he, ⟨w2, x.ex.trans hw⟩, rfl⟩

theorem wp_region_wo {P : Program} {id : Nat} {Q : Exit → Act → World → Prop} {a : Act} {w : World} {l : List Oper} (hm : P.follows .mixedOrders = true) (hB : Region.lexB .any l.toArray = true)
    (h : wpQuiet P l.toArray (fun w2 => ∃ x : Wo w, w2 = x.val) (fun a2 => ∀ w2, (∃ x : Wo w, w2 = x.val) → Q .normal a2 w2) l a) : (Code.region id l.toArray true).wp P Q a w :=
  wp_region_quiet (C := fun w2 => ∃ x : Wo w, w2 = x.val) hm hB ⟨⟨_, (Ex.refl w).drew⟩, rfl⟩ (by simpa using h)

/-- A number that an int can hold. -/
def I64 (a : Int) : Prop := -9223372036854775808 ≤ a ∧ a ≤ 9223372036854775807

theorem wf_i64 {a : Int} (h : (Lit.int .i64 a).wf = true) : I64 a := by
  have := Go.bounds_i64 h
  unfold I64; omega

/-- What a walk is told of a slice of integers that came in. -/
def IsRow (k : IntKind) (w : World) (a : Option Addr) (len cap : Nat) (zs : List Int) : Prop :=
  (a = none ∧ len = 0 ∧ cap = 0 ∧ zs = []) ∨
  ∃ x, a = some x ∧ len ≤ cap ∧ cap ≤ maxLen ∧ zs.length = cap ∧ (∀ i, i < zs.length → w.cell? (x.add i) = some (.int k (zs.getD i 0))) ∧ ∀ n ∈ zs, (Lit.int k n).wf = true

theorem int_eq {k : IntKind} {a b : Int} (h : a = b) : Value.int k a = Value.int k b := by rw [h]

end Go.Proofs.Ytgdfmmdjnifjeaa

namespace Go.Proofs.Ytgdfmmdjnifjeaa
open Go.RowKit

/-- The number at place i; 0 behind the end. -/
def nth (xs : List Int) (i : Nat) : Int := xs.getD i 0
theorem nth_eq {xs : List Int} {i : Nat} (h : i < xs.length) : nth xs i = xs[i] := by
  unfold nth; rw [List.getD_eq_getElem?_getD, List.getElem?_eq_getElem h]; rfl
theorem nth_mem {xs : List Int} {i : Nat} (h : i < xs.length) : nth xs i ∈ xs := by rw [nth_eq h]; exact List.getElem_mem h

/-- The slice at a (nil, or a row) reads as xs, in the world w. -/
def Reads (w : World) (k : IntKind) (a : Option Addr) (xs : List Int) : Prop :=
  xs = [] ∨ ∃ b off, a = some ⟨b, off, none⟩ ∧ ∀ i, i < xs.length → w.cell? ⟨b, off + i, none⟩ = some (.int k (nth xs i))

theorem Reads.ex {w w2 : World} {k : IntKind} {a : Option Addr} {xs : List Int} (h : Reads w k a xs) (hx : Ex w w2) : Reads w2 k a xs := by
  rcases h with h | ⟨b, off, h1, h2⟩
  · exact .inl h
  · exact .inr ⟨b, off, h1, fun i hi => hx.cell (h2 i hi)⟩

/-- The first place where p says yes; -1 if there is none. -/
def place (p : Int → Bool) (xs : List Int) : Int := match xs.findIdx? p with | some i => (i : Int) | none => -1

theorem place_at {p : Int → Bool} {xs : List Int} {k : Nat} (hk : k < xs.length) (hp : p (nth xs k) = true) (hn : ∀ j, j < k → p (nth xs j) = false) : place p xs = (k : Int) := by
  have : xs.findIdx? p = some k := by
    rw [List.findIdx?_eq_some_iff_getElem]
    refine ⟨hk, ?_, fun j hj => ?_⟩
    · rw [nth_eq hk] at hp; exact hp
    · have := hn j hj
      rw [nth_eq (by omega)] at this
      simpa using this
  unfold place; rw [this]

theorem place_none {p : Int → Bool} {xs : List Int} (hn : ∀ j, j < xs.length → p (nth xs j) = false) : place p xs = -1 := by
  have : xs.findIdx? p = none := by
    rw [List.findIdx?_eq_none_iff]
    intro x hx
    obtain ⟨j, hj, rfl⟩ := List.getElem_of_mem hx
    have := hn j hj
    rw [nth_eq hj] at this
    exact this
  unfold place; rw [this]

theorem place_any (p : Int → Bool) (xs : List Int) : decide (0 ≤ place p xs) = xs.any p := by
  unfold place
  cases h : xs.findIdx? p with
  | none =>
    rw [List.findIdx?_eq_none_iff] at h
    have : xs.any p = false := by rw [List.any_eq_false]; intro x hx; simpa using h x hx
    rw [this]; rfl
  | some i =>
    have := List.findIdx?_eq_some_iff_getElem.mp h
    obtain ⟨hi, hp, _⟩ := this
    have h2 : xs.any p = true := List.any_eq_true.mpr ⟨_, List.getElem_mem hi, hp⟩
    rw [h2]; simp

/-- A function value (f, over what it has captured) that says p of each of xs, in whatever world has grown out of w. -/
def SaysOf (P : Program) (f : FuncId) (cs : Array Value) (k : IntKind) (p : Int → Bool) (xs : List Int) (w : World) : Prop :=
  ∀ x ∈ xs, ∀ w2, Ex w w2 → Calls P f (#[.int k x] ++ cs) w2 (Says (.bool (p x)) w2)

/-- f has a body: a call of it is entered. -/
def Entered (P : Program) (f : FuncId) : Prop := ∀ args w, Sem.run P (callFunc f args) w = .ok (.enter f args) w

/-- Is none of these errors an error? -/
def okAll (xs : List Int) : Bool := !(xs.any fun x => x != 0)

theorem reads_new (k : IntKind) (xs : List Int) (vs : Array Value) (h : vs = (xs.map (Value.int k)).toArray) (T : TypeId) (w : World) :
    Reads (w.alloc (.cells vs T)) k (some ⟨w.heap.size, 0, none⟩) xs := by
  subst h
  refine .inr ⟨_, _, rfl, fun i hi => ?_⟩
  rw [nth_eq hi]
  show (match (w.heap.push _)[w.heap.size]? with | some (.cells c _ _) => _ | _ => none) = _
  rw [Array.getElem?_push_size]
  simp [hi]

end Go.Proofs.Ytgdfmmdjnifjeaa

namespace Go.Proofs.Ytgdfmmdjnifjeaa
open Go.RowKit

/-- The slice v is a row of our own, in memory from base on: it holds xs. -/
def Row (e : TypeId) (k : IntKind) (w : World) (base : Nat) (v : Value) (xs : List Int) : Prop := w.ownsRow base e 1 v xs.length (xs.map (Value.int k))

theorem Row.nil (e : TypeId) (k : IntKind) (w : World) (base : Nat) : Row e k w base (.slice none 0 0) [] := World.ownsRow_nil _ _ _ _

theorem Row.ex {e : TypeId} {k : IntKind} {w w2 : World} {base : Nat} {v : Value} {xs : List Int} (h : Row e k w base v xs) (hx : Ex w w2) : Row e k w2 base v xs := by
  refine ⟨h.1, ?_⟩
  rcases h.2 with hn | ⟨g, cap, cur, rfl, hb, hgg, rest⟩
  · exact .inl hn
  · refine .inr ⟨g, cap, cur, rfl, hb, ?_, rest⟩
    rw [hx.block g (Array.getElem?_eq_some_iff.1 hgg).1]
    exact hgg

theorem Row.kept {e : TypeId} {k : IntKind} {w w2 : World} {base : Nat} {v : Value} {xs : List Int} {row : Option Nat} (h : Row e k w base v xs) (hg : w.grownBy w2 row) (hne : v.ownBlock = none ∨ v.ownBlock ≠ row) : Row e k w2 base v xs :=
  World.ownsRow.kept h hg hne

theorem Row.lt {e : TypeId} {k : IntKind} {w : World} {base : Nat} {v : Value} {xs : List Int} (h : Row e k w base v xs) : ∀ b, v.ownBlock = some b → base ≤ b ∧ b < w.heap.size := World.ownsRow.lt h

theorem Row.less {e : TypeId} {k : IntKind} {w : World} {base base2 : Nat} {v : Value} {xs : List Int} (h : Row e k w base v xs) (hb : base2 ≤ base) : Row e k w base2 v xs := by
  refine ⟨h.1, ?_⟩
  rcases h.2 with hn | ⟨g, cap, cur, h1, h2, rest⟩
  · exact .inl hn
  · exact .inr ⟨g, cap, cur, h1, by omega, rest⟩

/-- What an append or a store to the row leaves has grown out of what was before. -/
theorem ex_grown {w a b : World} {row : Option Nat} (h : Ex w a) (hg : a.grownBy b row) (hr : ∀ k, row = some k → w.heap.size ≤ k) : Ex w b := Below.grown h hg h.size hr

theorem Row.grown {e : TypeId} {k : IntKind} {w a b : World} {v : Value} {xs : List Int} (hr : Row e k a w.heap.size v xs) (h : Ex w a) (hg : a.grownBy b v.ownBlock) : Ex w b := ex_grown h hg fun j hj => (hr.lt j hj).1

theorem Row.form {e : TypeId} {k : IntKind} {w : World} {base : Nat} {v : Value} {xs : List Int} (h : Row e k w base v xs) :
    (v = .slice none 0 0 ∧ xs = []) ∨ ∃ g cap, v = .slice (some ⟨g, 0, none⟩) xs.length cap ∧ base ≤ g ∧ g < w.heap.size ∧ xs.length ≤ cap ∧ cap ≤ maxLen ∧
      (∀ i, i < xs.length → w.cell? ⟨g, i, none⟩ = some (.int k (nth xs i))) ∧ ∀ i, w.frozen? ⟨g, i, none⟩ = false := by
  rcases h.2 with ⟨rfl, hn⟩ | ⟨g, cap, cur, rfl, hb, hgg, h1, h2, _⟩
  · exact .inl ⟨rfl, List.length_eq_zero_iff.mp hn⟩
  · refine .inr ⟨g, cap, rfl, hb, (Array.getElem?_eq_some_iff.1 hgg).1, h1, h2, fun i hi => ?_, fun i => World.ownsRow.frozenAt h i⟩
    have := World.ownsRow.cellAt h i (by omega)
    rw [this, List.getElem?_map, List.getElem?_eq_getElem hi, nth_eq hi]
    rfl

theorem Row.reads {e : TypeId} {k : IntKind} {w : World} {base : Nat} {v : Value} {xs : List Int} (h : Row e k w base v xs) :
    ∃ a cap, v = .slice a xs.length cap ∧ xs.length ≤ maxLen ∧ Reads w k a xs ∧ (a = none → cap = 0) := by
  rcases h.form with ⟨rfl, rfl⟩ | ⟨g, cap, rfl, _, _, h1, h2, hc, _⟩
  · exact ⟨none, 0, rfl, by simp, .inl rfl, fun _ => rfl⟩
  · exact ⟨_, cap, rfl, by omega, .inr ⟨g, 0, rfl, fun i hi => by rw [Nat.zero_add]; exact hc i hi⟩, fun h => by simp at h⟩

theorem Row.read {e : TypeId} {k : IntKind} {w : World} {base n cap : Nat} {a : Option Addr} {xs : List Int} (h : Row e k w base (.slice a n cap) xs) : Reads w k a xs := by
  obtain ⟨a2, cap2, h1, _, h2, _⟩ := h.reads
  simp only [Value.slice.injEq] at h1
  rw [h1.1]; exact h2

theorem Row.set {e : TypeId} {k : IntKind} {w : World} {base g n cap : Nat} {xs : List Int} (h : Row e k w base (.slice (some ⟨g, 0, none⟩) n cap) xs) (hn : n = xs.length) (j : Nat) (x : Int) :
    Row e k (w.setCell ⟨g, j, none⟩ (.int k x)) base (.slice (some ⟨g, 0, none⟩) n cap) (xs.set j x) ∧ w.grownBy (w.setCell ⟨g, j, none⟩ (.int k x)) (some g) := by
  subst hn
  have := World.ownsRow.stored h j (.int k x)
  refine ⟨?_, this.2⟩
  unfold Row
  rw [List.length_set, List.map_set]
  exact this.1

theorem ints_one (k : IntKind) (xs : List Int) : ∀ u ∈ xs.map (Value.int k), u.oneCell' = true := by
  intro u hu
  simp only [List.mem_map] at hu
  obtain ⟨x, _, rfl⟩ := hu
  rfl

section
variable {P : Program} {w : World} {ops : Array Oper} {rest : List Oper} {o : Oper} {a : Act} {Q : Exit → Act → World → Prop}

/-- append of one integer, which lies in the block b. -/
theorem wpList_append_int (hgd : o.guard = none) (s x : Operand) (t : TypeId) (ho : o.op = .call { callee := .builtin .append, args := #[s, x], argTypes := #[t, t] })
    (base : Nat) (e : TypeId) (k : IntKind) (bytes : Nat) (ht : P.underlying t = some (.slice e)) (hinfo : (P.info? e).map (fun i => (i.zero, i.size, i.bytes)) = some (some (.int k 0), 1, bytes))
    (v : Value) (xs : List Int) (hs : a.eval s = v) (hown : Row e k w base v xs) (d : Int) (b : Nat) (hx : a.eval x = .slice (some ⟨b, 0, none⟩) 1 1) (hb : w.cell? ⟨b, 0, none⟩ = some (.int k d))
    (h63 : xs.length + 1 ≤ maxLen) (hbytes : (xs.length + 1) * bytes ≤ 140737488355328) (hbase : base ≤ w.heap.size)
    (h : ∀ v' w', Row e k w' base v' (xs ++ [d]) → w.grownBy w' v.ownBlock → (v'.ownBlock = v.ownBlock ∨ v'.ownBlock = some w.heap.size) → wpList P ops Q rest (a.put o.dst v') w') : wpList P ops Q (o :: rest) a w := by
  obtain ⟨i, hi, hz, hsz, hby⟩ := info_parts hinfo
  refine wpList_append_own_at w hgd s x t ho base e i _ 1 bytes ht hi hz hsz hby rfl (by decide) v xs.length (xs.map (Value.int k)) hs hown ⟨b, 0, none⟩ 1 1 [.int k d] hx rfl ?_ (by intro u hu; simp at hu; subst hu; rfl) h63 hbytes hbase ?_
  · intro j u hj
    match j, hj with
    | 0, hj => simp at hj; subst hj; exact hb
  · intro v' w' h1 h2 _ h4
    refine h v' w' ?_ h2 h4
    unfold Row
    simpa using h1

/-- append of a row of integers, nil or not. -/
theorem wpList_append_ints (hgd : o.guard = none) (s x : Operand) (t : TypeId) (ho : o.op = .call { callee := .builtin .append, args := #[s, x], argTypes := #[t, t] })
    (base : Nat) (e : TypeId) (k : IntKind) (bytes : Nat) (ht : P.underlying t = some (.slice e)) (hinfo : (P.info? e).map (fun i => (i.zero, i.size, i.bytes)) = some (some (.int k 0), 1, bytes))
    (v : Value) (xs : List Int) (hs : a.eval s = v) (hown : Row e k w base v xs) (ad : Option Addr) (c : Nat) (ys : List Int) (hx : a.eval x = .slice ad ys.length c) (hnil : ad = none → c = 0) (hr : Reads w k ad ys)
    (h63 : xs.length + ys.length ≤ maxLen) (hbytes : (xs.length + ys.length) * bytes ≤ 140737488355328) (hbase : base ≤ w.heap.size)
    (h : ∀ v' w', Row e k w' base v' (xs ++ ys) → w.grownBy w' v.ownBlock → (v'.ownBlock = v.ownBlock ∨ v'.ownBlock = some w.heap.size) → wpList P ops Q rest (a.put o.dst v') w') : wpList P ops Q (o :: rest) a w := by
  obtain ⟨i, hi, hz, hsz, hby⟩ := info_parts hinfo
  have go : ∀ (p : Addr), ad = some p → (∀ j u, (ys.map (Value.int k))[j]? = some u → w.cell? (p.add j) = some u) → wpList P ops Q (o :: rest) a w := fun p hp hc => by
    subst hp
    refine wpList_append_own_at w hgd s x t ho base e i _ 1 bytes ht hi hz hsz hby rfl (by decide) v xs.length (xs.map (Value.int k)) hs hown p ys.length c (ys.map (Value.int k)) hx (by simp) hc (ints_one k ys) h63 hbytes hbase ?_
    intro v' w' h1 h2 _ h4
    refine h v' w' ?_ h2 h4
    unfold Row
    simpa using h1
  rcases hr with rfl | ⟨b, off, rfl, hc⟩
  · cases ad with
    | none =>
      obtain rfl := hnil rfl
      refine wpList_append_own_none hgd s x t ho base e i 1 ht hi v xs.length (xs.map (Value.int k)) hs hown hx (h v w ?_ ⟨rfl, rfl, rfl, Nat.le_refl _, fun _ _ _ => rfl⟩ (.inl rfl))
      simpa using hown
    | some p => exact go p rfl (fun j u hj => by simp at hj)
  · refine go ⟨b, off, none⟩ rfl fun j u hj => ?_
    have hl : j < ys.length := by
      have := (List.getElem?_eq_some_iff.mp hj).1
      simpa using this
    rw [List.getElem?_map, List.getElem?_eq_getElem hl] at hj
    simp at hj
    subst hj
    have e2 : (⟨b, off, none⟩ : Addr).add j = ⟨b, off + j, none⟩ := by unfold Addr.add; split <;> simp_all
    rw [e2, hc j hl, nth_eq hl]
end

end Go.Proofs.Ytgdfmmdjnifjeaa

namespace Go.Proofs.Ytgdfmmdjnifjeaa
open Go.RowKit

theorem info_int : (Try.prog.info? 3).map (fun i => (i.zero, i.size, i.bytes)) = some (some (.int .i64 0), 1, 8) := by kernel_rfl

theorem row_new (e : TypeId) (k : IntKind) (w : World) (base : Nat) (hb : base ≤ w.heap.size) (xs : List Int) (vs : Array Value) (h : vs = (xs.map (Value.int k)).toArray) (hl : xs.length ≤ maxLen) :
    Row e k (w.alloc (.cells vs e)) base (.slice (some ⟨w.heap.size, 0, none⟩) xs.length xs.length) xs := by
  subst h
  exact ⟨by simp, .inr ⟨w.heap.size, xs.length, _, rfl, hb, heap_alloc_new w _, Nat.le_refl _, hl, by simp, by simp [List.take_of_length_le]⟩⟩

section
variable {P : Program} {w : World} {ops : Array Oper} {rest : List Oper} {o : Oper} {a : Act} {Q : Exit → Act → World → Prop}

/-- make([]int, n): a row of n noughts. -/
theorem wpList_make_ints (hg : o.guard = none) (l c : Operand) (t : TypeId) (hop : o.op = Op.makeSlice t l c)
    (base : Nat) (e : TypeId) (k : IntKind) (bytes : Nat) (ht : P.underlying t = some (.slice e)) (hinfo : (P.info? e).map (fun i => (i.zero, i.size, i.bytes)) = some (some (.int k 0), 1, bytes))
    (kl kc : IntKind) (n : Nat) (hl : a.eval l = .int kl (n : Int)) (hc : a.eval c = .int kc (n : Int)) (b2 : bytes * n ≤ 281474976710656) (b3 : n ≤ maxLen) (b4 : base ≤ w.heap.size)
    (h : ∀ w', Row e k w' base (.slice (some ⟨w.heap.size, 0, none⟩) n n) (List.replicate n 0) → w.grownBy w' none → wpList P ops Q rest (a.put o.dst (.slice (some ⟨w.heap.size, 0, none⟩) n n)) w') : wpList P ops Q (o :: rest) a w := by
  obtain ⟨i, hi, hz, hsz, hby⟩ := info_parts hinfo
  refine wpList_make_full w hg l c t hop base e i _ 1 ht hi hz hsz kl kc n n n hl hc rfl rfl (by rw [hby]; exact b2) b3 b4 ?_
  intro w' h1 h2
  refine h w' ?_ h2
  unfold Row
  have e1 : (Value.int k 0).cells = #[.int k 0] := rfl
  rw [e1, Nat.mul_one, toList_madeCells_one] at h1
  simpa using h1
end

end Go.Proofs.Ytgdfmmdjnifjeaa

namespace Go.Proofs.Ytgdfmmdjnifjeaa
open Go.RowKit

def fl (L : Nat) (F : Nat → Int) : List Int := (List.range L).map F

theorem fl_length (L : Nat) (F : Nat → Int) : (fl L F).length = L := by simp [fl]
theorem fl_nth {L : Nat} {F : Nat → Int} {t : Nat} (h : t < L) : nth (fl L F) t = F t := by
  rw [nth_eq (by rw [fl_length]; exact h)]
  simp [fl]
theorem fl_congr {L : Nat} {F H : Nat → Int} (h : ∀ t, t < L → F t = H t) : fl L F = fl L H := by
  unfold fl
  apply List.map_congr_left
  intro t ht
  exact h t (List.mem_range.mp ht)
theorem fl_zero (L : Nat) : List.replicate L (0 : Int) = fl L fun _ => 0 := by
  unfold fl
  rw [List.map_const', List.length_range]

/-- F, but x at j. -/
def upd (F : Nat → Int) (j : Nat) (x : Int) : Nat → Int := fun t => if t = j then x else F t
theorem upd_at (F : Nat → Int) (j : Nat) (x : Int) : upd F j x j = x := by simp [upd]
theorem upd_ne {F : Nat → Int} {j t : Nat} {x : Int} (h : t ≠ j) : upd F j x t = F t := by simp [upd, h]

theorem fl_set (L : Nat) (F : Nat → Int) (j : Nat) (x : Int) : (fl L F).set j x = fl L (upd F j x) := by
  apply List.ext_getElem
  · simp [fl]
  · intro t h1 h2
    simp [fl, List.getElem_set, upd, eq_comm]

theorem fl_of (xs : List Int) : fl xs.length (nth xs) = xs := by
  apply List.ext_getElem
  · simp [fl]
  · intro t h1 h2
    simp [fl, nth_eq h2]

theorem Row.flset {e : TypeId} {k : IntKind} {w : World} {base g L cap : Nat} {F : Nat → Int} (h : Row e k w base (.slice (some ⟨g, 0, none⟩) L cap) (fl L F)) (j : Nat) (x : Int) :
    Row e k (w.setCell ⟨g, j, none⟩ (.int k x)) base (.slice (some ⟨g, 0, none⟩) L cap) (fl L (upd F j x)) ∧ w.grownBy (w.setCell ⟨g, j, none⟩ (.int k x)) (some g) := by
  have := h.set (fl_length L F).symm j x
  rw [fl_set] at this
  exact this

theorem Row.flat {e : TypeId} {k : IntKind} {w : World} {base g L cap : Nat} {F : Nat → Int} (h : Row e k w base (.slice (some ⟨g, 0, none⟩) L cap) (fl L F)) :
    base ≤ g ∧ g < w.heap.size ∧ (∀ i, i < L → w.cell? ⟨g, i, none⟩ = some (.int k (F i))) ∧ ∀ i, w.frozen? ⟨g, i, none⟩ = false := by
  have hlen := fl_length L F
  have f := h.form
  rw [hlen] at f
  rcases f with ⟨f1, _⟩ | ⟨g2, cap2, f1, f2, f3, _, _, hc, hf⟩
  · simp at f1
  simp only [Value.slice.injEq, Option.some.injEq, Addr.mk.injEq, and_true, true_and] at f1
  obtain ⟨rfl, rfl⟩ := f1
  refine ⟨f2, f3, fun i hi => ?_, hf⟩
  have := hc i hi
  rwa [fl_nth hi] at this

end Go.Proofs.Ytgdfmmdjnifjeaa

namespace Go.Proofs.Ytgdfmmdjnifjeaa
open Go.RowKit

end Go.Proofs.Ytgdfmmdjnifjeaa

namespace Go.Proofs.Ytgdfmmdjnifjeaa
open Go.RowKit

theorem Row.cut {e : TypeId} {k : IntKind} {w : World} {base g n cap m : Nat} {xs : List Int} (h : Row e k w base (.slice (some ⟨g, 0, none⟩) n cap) xs) (hn : n = xs.length) (hm : m ≤ n) : Row e k w base (.slice (some ⟨g, 0, none⟩) m cap) (xs.take m) := by
  subst hn
  rcases h.2 with ⟨h1, _⟩ | ⟨g2, cap2, cur, h1, hb, hg, hc, hx, hs, ht⟩
  · simp at h1
  · simp only [Value.slice.injEq, Option.some.injEq, Addr.mk.injEq, and_true, true_and] at h1
    obtain ⟨rfl, rfl⟩ := h1
    have hl : (xs.take m).length = m := by simp; omega
    refine ⟨by simp, .inr ⟨g, cap, cur, by rw [hl], hb, hg, by rw [hl]; omega, hx, hs, ?_⟩⟩
    rw [Nat.mul_one] at ht ⊢
    rw [hl, List.map_take, ← ht, List.take_take]
    congr 1
    omega

theorem Reads.take {w : World} {k : IntKind} {a : Option Addr} {xs : List Int} (h : Reads w k a xs) (n : Nat) : Reads w k a (xs.take n) := by
  rcases h with rfl | ⟨b, off, h1, h2⟩
  · exact .inl (by simp)
  · refine .inr ⟨b, off, h1, fun i hi => ?_⟩
    have hi2 : i < n ∧ i < xs.length := by rw [List.length_take] at hi; omega
    rw [h2 i hi2.2, nth_eq hi2.2, nth_eq hi]
    simp

theorem Row.flcong {e : TypeId} {k : IntKind} {w : World} {base L : Nat} {v : Value} {F H : Nat → Int} (h : Row e k w base v (fl L F)) (he : ∀ t, t < L → F t = H t) : Row e k w base v (fl L H) := by
  rw [← fl_congr he]; exact h

/-- A value's own row is there, or it is nil and empty. -/
theorem Row.cases {e : TypeId} {k : IntKind} {w : World} {base : Nat} {v : Value} {xs : List Int} (h : Row e k w base v xs) :
    (v = .slice none 0 0 ∧ xs = []) ∨ ∃ g cap, v = .slice (some ⟨g, 0, none⟩) xs.length cap ∧ xs.length ≤ cap ∧ cap ≤ 9223372036854775807 := by
  rcases h.form with h1 | ⟨g, cap, h1, _, _, h2, h3, _⟩
  · exact .inl h1
  · exact .inr ⟨g, cap, h1, h2, by unfold maxLen at h3; omega⟩

section
variable {P : Program} {w : World} {ops : Array Oper} {rest : List Oper} {o : Oper} {a : Act} {Q : Exit → Act → World → Prop}

/-- copy(row, xs) where there is room. -/
theorem wpList_copy_ints (hgd : o.guard = none) (d s : Operand) (dT sT : TypeId) (ho : o.op = .call { callee := .builtin .copy, args := #[d, s], argTypes := #[dT, sT] })
    (base : Nat) (e : TypeId) (k : IntKind) (hu : P.underlying dT = some (.slice e)) (hsz : (P.info? e).map (·.size) = some 1)
    (g L cap : Nat) (F : Nat → Int) (hd : a.eval d = .slice (some ⟨g, 0, none⟩) L cap) (hrow : Row e k w base (.slice (some ⟨g, 0, none⟩) L cap) (fl L F))
    (xs : List Int) (n : Nat) (hnx : xs.length = n) (sp : Option Addr) (sCap : Nat) (hs : a.eval s = .slice sp n sCap) (hr : Reads w k sp xs) (hl : n ≤ L)
    (h : ∀ w', Row e k w' base (.slice (some ⟨g, 0, none⟩) L cap) (fl L fun t => if t < n then nth xs t else F t) → w.grownBy w' (some g) → wpList P ops Q rest (a.put o.dst (.int .i64 n)) w') : wpList P ops Q (o :: rest) a w := by
  subst hnx
  rcases hrow.2 with ⟨h1, _⟩ | ⟨g2, cap2, cur, h1, hb, hg, hc, hx, hcs, ht⟩
  · simp at h1
  simp only [fl_length, Value.slice.injEq, Option.some.injEq, Addr.mk.injEq, and_true, true_and] at h1
  obtain ⟨rfl, rfl⟩ := h1
  rw [fl_length] at hc ht
  rw [Nat.mul_one] at ht hcs
  have hgi : (goInt xs.length : Value) = .int .i64 xs.length := rfl
  have hmin : Nat.min xs.length L = xs.length := Nat.min_eq_left hl
  by_cases h0 : xs.length = 0
  · refine wpList_copy_nothing hgd d s dT sT ho e hu hsz _ sp L cap xs.length sCap hd hs (by rw [hmin]; exact h0) ?_
    have := h w (hrow.flcong fun t _ => by rw [if_neg (by omega)]) ⟨rfl, rfl, rfl, Nat.le_refl _, fun _ _ _ => rfl⟩
    rw [h0] at this
    exact this
  · rcases hr with rfl | ⟨b, off, rfl, hcell⟩
    · exact absurd rfl h0
    have hsz2 : cur.toList.length = cap := by simp [hcs]
    refine wpList_copy_own hgd d s dT sT ho e hu hsz g 0 L cap ⟨b, off, none⟩ xs.length sCap hd hs cur e hg (xs.map (Value.int k)) (by rw [List.length_map, hmin]) ?_ (by rw [List.length_map]; omega) (ints_one k xs) ?_
    · intro j v hj
      have hjl : j < xs.length := by
        have := (List.getElem?_eq_some_iff.mp hj).1
        simpa using this
      rw [List.getElem?_map, List.getElem?_eq_getElem hjl] at hj
      simp at hj
      subst hj
      have e2 : (⟨b, off, none⟩ : Addr).add j = ⟨b, off + j, none⟩ := by unfold Addr.add; split <;> simp_all
      rw [e2, hcell j hjl, nth_eq hjl]
    · rw [List.length_map]
      refine h _ ?_ ⟨rfl, rfl, rfl, by simp [World.setRow], fun j hj hne => setRow_other w g j _ (fun e2 => hne (by rw [e2]))⟩
      refine ⟨by simp, .inr ⟨g, cap, _, by rw [fl_length], hb, setRow_heap w g _ _ e _ hg, by rw [fl_length]; exact hc, hx, ?_, ?_⟩⟩
      · simp; omega
      · rw [fl_length, Nat.mul_one]
        apply List.ext_getElem?
        intro j
        by_cases hj : j < L
        · rw [List.getElem?_take_of_lt hj]
          have hm : ((fl L fun t => if t < xs.length then nth xs t else F t).map (Value.int k))[j]? = some (Value.int k (if j < xs.length then nth xs j else F j)) := by
            rw [List.getElem?_map, List.getElem?_eq_getElem (by rw [fl_length]; exact hj)]
            simp [fl]
          rw [hm]
          by_cases hjx : j < xs.length
          · rw [if_pos hjx]
            simp only [List.take_zero, List.nil_append]
            rw [List.getElem?_append_left (by simpa using hjx), List.getElem?_map, List.getElem?_eq_getElem hjx, nth_eq hjx]
            rfl
          · rw [if_neg hjx]
            simp only [List.take_zero, List.nil_append]
            rw [List.getElem?_append_right (by simp; omega), List.getElem?_drop, List.length_map]
            have h4 : (cur.toList.take L)[j]? = some (Value.int k (F j)) := by
              rw [ht, List.getElem?_map, List.getElem?_eq_getElem (by rw [fl_length]; exact hj)]
              simp [fl]
            rw [List.getElem?_take_of_lt hj] at h4
            rw [show 0 + xs.length + (j - xs.length) = j by omega]
            exact h4
        · rw [List.getElem?_take_eq_none (by omega), List.getElem?_eq_none (by simp [fl]; omega)]
end

end Go.Proofs.Ytgdfmmdjnifjeaa

namespace Go.Proofs.Ytgdfmmdjnifjeaa
open Go.RowKit

end Go.Proofs.Ytgdfmmdjnifjeaa

namespace Go.Proofs.Ytgdfmmdjnifjeaa
open Go.RowKit Go.ChangeShapes Go.WideShapes

/-- The slice (a, len, cap) of numbers of B bytes each reads as z. -/
def IsInts (k : IntKind) (B : Nat) (w : World) (a : Option Addr) (len cap : Nat) (z : List Int) : Prop :=
  z.length = len ∧ len ≤ cap ∧ cap * B ≤ 140737488351232 ∧ Reads w k a z ∧ (a = none → cap = 0) ∧ ∀ n ∈ z, (Lit.int k n).wf = true

theorem ints_of {H : Type} {enc : TypeId × Value → H} {P : Program} {W : World} {t e : TypeId} {k : IntKind} {B : Nat} {a : Option Addr} {len cap : Nat} {d : DataW H} {ps : List MemPlace}
    (ht : P.underlying t = some (.slice e)) (he : P.underlying e = some (.int k)) (hc : P.cellsOf e = 1) (h : DataW.Trod enc P W 0 (fun _ => true) true t (.slice a len cap) d ps)
    (hsz : ∀ elems spare, d = .slice elems spare → (elems.length + spare.length) * B ≤ reachBytes) : ∃ z, IsInts k B W a len cap z := by
  obtain ⟨fuel, hf⟩ := h
  rcases open_ints ht he hc hf with ⟨hcs, _⟩ | ⟨x, l, c, zs, hcs, _, hl, hm, hz, hx, hcell, hwz⟩
  · simp [Value.cells] at hcs
    obtain ⟨rfl, rfl, rfl⟩ := hcs
    exact ⟨[], rfl, Nat.le_refl _, by omega, .inl rfl, fun _ => rfl, fun r h => by cases h⟩
  · simp [Value.cells] at hcs
    obtain ⟨rfl, rfl, rfl⟩ := hcs
    simp only [if_true] at hz
    simp only [Prod.mk.injEq] at hx
    have hs := hsz _ _ hx.1
    have e1 : (lits k (zs.take len) : List (DataW H)).length + (lits k (zs.drop len) : List (DataW H)).length = cap := by simp [lits]; omega
    rw [e1] at hs
    simp only [reachBytes] at hs
    refine ⟨zs.take len, by simp; omega, hl, by omega, ?_, (by intro h; cases h), fun n hn => hwz n (List.mem_of_mem_take hn)⟩
    by_cases h0 : len = 0
    · subst h0; exact .inl (by simp)
    · have hx0 := hcell 0 (by omega)
      have hsp : x.spot = none := by
        have e0 : x.add 0 = x := rfl
        rw [e0] at hx0
        unfold World.cell? at hx0
        split at hx0
        · split at hx0
          · cases hx0
          · rename_i hh
            simpa using hh
        · cases hx0
      obtain ⟨b, off, sp⟩ := x
      simp only at hsp
      subst hsp
      refine .inr ⟨b, off, rfl, fun i hi => ?_⟩
      have hi2 : i < len ∧ i < zs.length := by simp at hi; omega
      have h1 := hcell i hi2.2
      have e2 : (⟨b, off, none⟩ : Addr).add i = ⟨b, off + i, none⟩ := by unfold Addr.add; split <;> simp_all
      rw [e2] at h1
      rw [h1, nth_eq hi]
      simp [hi2.2]

theorem wf_u8 {a : Int} (h : (Lit.int .u8 a).wf = true) : 0 ≤ a ∧ a ≤ 255 := Go.bounds_u8 h
theorem wf_u16 {a : Int} (h : (Lit.int .u16 a).wf = true) : 0 ≤ a ∧ a ≤ 65535 := Go.bounds_u16 h
theorem wf_u32 {a : Int} (h : (Lit.int .u32 a).wf = true) : 0 ≤ a ∧ a ≤ 4294967295 := Go.bounds_u32 h
theorem wf_u64 {a : Int} (h : (Lit.int .u64 a).wf = true) : 0 ≤ a ∧ a ≤ 18446744073709551615 := Go.bounds_u64 h

end Go.Proofs.Ytgdfmmdjnifjeaa

namespace Go.Proofs.Ytgdfmmdjnifjeaa
open Go.RowKit

section
variable {P : Program} {ops : Array Oper} {Q : Exit → Act → World → Prop} {md : Region.Mode} {S : World → Prop}

/-- An operation that looks at no memory and enters nothing. -/
def blindOp : Op → Bool
  | .move _ | .assign _ | .pick .. | .binOp .. | .unOp .. | .convert .. | .extract .. | .fieldAddr .. | .indexAddr .. | .load .. | .field .. | .index .. => true
  | _ => false

theorem blind_value {o : Oper} {a : Act} {v : Value} {w : World} (hb : blindOp o.op = true) (h : o.quietAt P a S w v) : (execOp a.eval o).run P w = .ok (.value v) w := by
  obtain ⟨dst, op, type, pos, after, guard⟩ := o
  unfold Oper.quietAt at h
  cases op <;> simp [blindOp] at hb
  all_goals
    simp only [execOp, Sem.run_bind, Sem.run_pure] at h ⊢
    revert h
    first
      | (intro h; simp only [Oper.quietUpon] at h; obtain ⟨-, h⟩ := h; rw [h]; done)
      | (generalize (Sem.run P _ w) = r
         intro h
         cases r with
         | ok x w' =>
           simp only [Result.andThen, Oper.quietUpon] at h ⊢
           first
             | (obtain ⟨h1, h2⟩ := h; rw [h1, h2]; done)
             | (revert h
                generalize (Sem.run P _ w') = r2
                intro h
                cases r2 with
                | ok y w2 => simp only at h ⊢; obtain ⟨h1, h2⟩ := h; rw [h1, h2]
                | halt y w2 => simp only at h)
         | halt x w' => simp only [Result.andThen, Oper.quietUpon] at h)

/-- The order of the text serves: a flagged operation comes up alone, each other is blind and free. -/
def mixB (md : Region.Mode) (ops : Array Oper) : List Bool → Nat → Array Bool → Bool
  | [], _, listed => (Region.ready md ops listed).isEmpty
  | f :: fs, k, listed =>
    (if f then Region.ready md ops listed == [k]
     else Region.free md ops listed k && (Region.ready md ops listed).contains k && (ops[k]?.map fun o => blindOp o.op) == some true) && mixB md ops fs (k + 1) (listed.setIfInBounds k true)

/-- The walk, in the order of the text. -/
def wpMix (P : Program) (ops : Array Oper) (S : World → Prop) (Q : Exit → Act → World → Prop) : List Bool → List Oper → Act → World → Prop
  | [], _, a, w => Q .normal a w
  | false :: fs, o :: l, a, w => if Region.wanted o (yielded ops a.tmps) then o.quiet P a S (fun a' => wpMix P ops S Q fs l a' w) else wpMix P ops S Q fs l (a.put o.dst undef) w
  | true :: fs, o :: l, a, w => if Region.wanted o (yielded ops a.tmps) then o.wp P a w (fun a' w' => S w' ∧ wpMix P ops S Q fs l a' w') Q ∨ (o.asks P a w ∧ LetsOut Q) else S w ∧ wpMix P ops S Q fs l (a.put o.dst undef) w
  | _ :: _, [], _, _ => False

theorem wpAnyH_of_mix (hs : Region.noSelect ops = true) (hQ : ∀ c a d v w, Q (.panic c) (a.put d v) w → Q (.panic c) a w) :
    ∀ (fs : List Bool) (l : List Oper) (k : Nat) (listed : Array Bool) (a : Act) (w : World), (∀ j, l[j]? = ops[k + j]?) → mixB md ops fs k listed = true → S w → wpMix P ops S Q fs l a w →
      wpAnyH P md ops Q S fs.length listed a w := by
  intro fs
  induction fs with
  | nil =>
    intro l k listed a w _ hB _ h
    exact ⟨by simpa [mixB] using hB, h⟩
  | cons f fs ih =>
    intro l k listed a w hl hB hS h
    cases l with
    | nil => cases f <;> simp [wpMix] at h
    | cons o l =>
      have ho : ops[k]? = some o := by have := hl 0; simpa using this.symm
      have hl' : ∀ j, l[j]? = ops[k + 1 + j]? := fun j => by have := hl (j + 1); rw [List.getElem?_cons_succ] at this; rw [this]; congr 1; omega
      simp only [mixB, Bool.and_eq_true] at hB
      obtain ⟨hB1, hB2⟩ := hB
      cases f with
      | false =>
        simp only [Bool.false_eq_true, if_false, Bool.and_eq_true] at hB1
        obtain ⟨⟨h1, h2⟩, h3⟩ := hB1
        rw [ho] at h3
        have hb : blindOp o.op = true := by simpa using h3
        simp only [wpMix] at h
        split at h
        · rename_i hw
          obtain ⟨v, hv, hn⟩ := h
          exact wpAnyH_take ho hs h1 h2 (fun c a w => hQ c a _ _ w) (.inl ⟨hw, fun w' hw' => blind_value hb (hv w' hw')⟩) hS (ih l (k + 1) _ _ w hl' hB2 hS hn)
        · rename_i hw
          exact wpAnyH_take (v := undef) ho hs h1 h2 (fun c a w => hQ c a _ _ w) (.inr ⟨by simpa using hw, rfl⟩) hS (ih l (k + 1) _ _ w hl' hB2 hS h)
      | true =>
        simp only [if_true, beq_iff_eq] at hB1
        refine wpAnyH_all hB1 (by simp) fun i hi => ?_
        obtain rfl : i = k := by simpa using hi
        unfold wpOp
        simp only [ho]
        simp only [wpMix] at h
        split at h
        · rename_i hw
          simp only [hw, if_true]
          exact h.imp (Oper.wp_mono (fun a' w' h' => ⟨h'.1, ih l (i + 1) _ a' w' hl' hB2 h'.1 h'.2⟩)) id
        · rename_i hw
          simp only [hw]
          exact ⟨h.1, ih l (i + 1) _ _ w hl' hB2 h.1 h.2⟩
end

section
variable {P : Program} {Q : Exit → Act → World → Prop} {S : World → Prop} {a : Act} {w : World}

theorem wp_region_mix (S : World → Prop) (fs : List Bool) {id : Nat} {l : List Oper} (hm : P.follows .mixedOrders = true)
    (hB : (fs.length == l.length && Region.noSelect l.toArray && mixB .any l.toArray fs 0 (Array.replicate l.toArray.size false)) = true)
    (hQ : ∀ c a d v w, Q (.panic c) (a.put d v) w → Q (.panic c) a w) (hS : S w.drew) (h : wpMix P l.toArray S Q fs l a w.drew) : (Code.region id l.toArray true).wp P Q a w := by
  simp only [Bool.and_eq_true, beq_iff_eq] at hB
  obtain ⟨⟨h1, h2⟩, h3⟩ := hB
  refine wp_region_held (S := S) hm ?_
  have h4 := wpAnyH_of_mix (md := .any) h2 hQ fs l 0 _ a w.drew (fun j => by simp) h3 hS h
  rw [h1] at h4
  simpa using h4

/-- The walk's rest, as what is asked of a frame. -/
def mixQ (P : Program) (ops : Array Oper) (S : World → Prop) (Q : Exit → Act → World → Prop) (fs : List Bool) (l : List Oper) (w : World) (a : Act) : Prop := wpMix P ops S Q fs l a w

theorem mixQ_on {ops : Array Oper} {fs : List Bool} {l : List Oper} (h : wpMix P ops S Q fs l a w) : wpQuiet P ops S (mixQ P ops S Q fs l w) [] a := wpQuiet_nil h

theorem wpMix_pure {ops : Array Oper} {fs : List Bool} {o : Oper} {l : List Oper} (h : wpQuiet P ops S (mixQ P ops S Q fs l w) [o] a) : wpMix P ops S Q (false :: fs) (o :: l) a w := by
  simp only [wpMix]
  simp only [wpQuiet] at h
  exact h

/-- What is asked behind a turning operation. -/
def mixK (P : Program) (ops : Array Oper) (S : World → Prop) (Q : Exit → Act → World → Prop) (fs : List Bool) (l : List Oper) : Exit → Act → World → Prop
  | .normal, a, w => S w ∧ wpMix P ops S Q fs l a w
  | e, a, w => Q e a w

theorem wp_mixK {ops : Array Oper} {fs : List Bool} {o : Oper} {l : List Oper} (h : o.wp P a w (fun a' w' => mixK P ops S Q fs l .normal a' w') (mixK P ops S Q fs l)) :
    o.wp P a w (fun a' w' => S w' ∧ wpMix P ops S Q fs l a' w') Q := by
  unfold Oper.wp at *
  generalize (execOp a.eval o).run P w = r at *
  cases r with
  | ok n w' =>
    cases n <;> simp only [Oper.upon] at h ⊢ <;>
      first
        | exact h
        | exact Calls.mono h (fun e w'' he => by cases e <;> first | exact he | (obtain ⟨a, w, he⟩ := he; exact ⟨a, w, he⟩))
        | exact Rows.mono h (fun _ _ he => he)
  | halt x w' => cases x <;> simp only [Oper.upon] at h ⊢ <;> exact h

theorem wpMix_turn {ops : Array Oper} {fs : List Bool} {o : Oper} {l : List Oper}
    (h : ∀ K : Exit → Act → World → Prop, (∀ a' w', S w' → wpMix P ops S Q fs l a' w' → K .normal a' w') → wpList P ops K [o] a w) : wpMix P ops S Q (true :: fs) (o :: l) a w := by
  have h1 := h (mixK P ops S Q fs l) (fun a' w' hS h => ⟨hS, h⟩)
  simp only [wpMix]
  simp only [wpList] at h1
  split
  · rename_i hw
    rw [if_pos hw] at h1
    exact h1.imp wp_mixK (fun ⟨h2, a, w, h3⟩ => ⟨h2, a, w, h3⟩)
  · rename_i hw
    rw [if_neg hw] at h1
    exact h1

theorem wpMix_nil {ops : Array Oper} {l : List Oper} (h : Q .normal a w) : wpMix P ops S Q [] l a w := h
end

end Go.Proofs.Ytgdfmmdjnifjeaa

namespace Go.Proofs.Ytgdfmmdjnifjeaa
open Go.RowKit

/-- Which operation is walked next: a free one; one that comes up alone; one of two. -/
inductive Scr where
  | fin
  | take (k : Nat) (s : Scr)
  | one (k : Nat) (s : Scr)
  | two (j : Nat) (s : Scr) (k : Nat) (t : Scr)
  | three (j : Nat) (s : Scr) (k : Nat) (t : Scr) (m : Nat) (u : Scr)

/-- The same, the operations written out. -/
inductive ScrO where
  | fin
  | take (o : Oper) (s : ScrO)
  | one (o : Oper) (s : ScrO)
  | two (o : Oper) (s : ScrO) (p : Oper) (t : ScrO)
  | three (o : Oper) (s : ScrO) (p : Oper) (t : ScrO) (q : Oper) (u : ScrO)

/-- What stands for an operation that is not there. -/
def noOper : Oper := { dst := none, op := .move (.tmp 0), type := 0, pos := "", after := #[], guard := none }

def fillS (l : List Oper) : Scr → ScrO
  | .fin => .fin
  | .take k s => .take (l.getD k noOper) (fillS l s)
  | .one k s => .one (l.getD k noOper) (fillS l s)
  | .two j s k t => .two (l.getD j noOper) (fillS l s) (l.getD k noOper) (fillS l t)
  | .three j s k t m u => .three (l.getD j noOper) (fillS l s) (l.getD k noOper) (fillS l t) (l.getD m noOper) (fillS l u)

/-- The worlds of which C holds. -/
structure Kp (C : World → Prop) where
  val : World
  ok : C val

section
variable {P : Program} {ops : Array Oper} {Q : Exit → Act → World → Prop} {md : Region.Mode} {S : World → Prop}

/-- An operation that looks at no memory but in reading, and enters nothing. -/
def blindOp2 : Op → Bool
  | .build .. => true
  | .call c => (match c.callee with | .builtin .len => true | _ => false)
  | o => blindOp o

theorem blind_value2 {o : Oper} {a : Act} {v : Value} {w : World} (hb : blindOp2 o.op = true) (h : o.quietAt P a S w v) : (execOp a.eval o).run P w = .ok (.value v) w := by
  by_cases hc : blindOp o.op = true
  · exact blind_value hc h
  · obtain ⟨dst, op, type, pos, after, guard⟩ := o
    unfold Oper.quietAt at h
    cases op <;> simp [blindOp2, blindOp] at hb hc
    case build t parts =>
      simp only [execOp, Sem.run_bind, Sem.run_pure, Result.andThen] at h ⊢
      revert h
      generalize (Sem.run P _ w) = r
      intro h
      cases r with
      | ok x w' =>
        simp only [Oper.quietUpon] at h ⊢
        first
          | (obtain ⟨h1, h2⟩ := h; rw [h1, h2]; done)
          | (revert h
             generalize (Sem.run P _ w') = r2
             intro h
             cases r2 with
             | ok y w2 => simp only at h ⊢; obtain ⟨h1, h2⟩ := h; rw [h1, h2]
             | halt y w2 => simp only at h)
      | halt x w' => simp only [Oper.quietUpon] at h
    case call c =>
      obtain ⟨callee, args, argTypes⟩ := c
      cases callee <;> simp at hb
      rename_i b
      cases b <;> simp at hb
      simp only [execOp, resolve, invoke, builtin, Sem.run_bind, Sem.run_pure, Result.andThen] at h ⊢
      revert h
      generalize (Sem.run P _ w) = r
      intro h
      cases r with
      | ok x w' =>
        simp only [Oper.quietUpon] at h ⊢
        first
          | (obtain ⟨h1, h2⟩ := h; rw [h1, h2]; done)
          | (revert h
             generalize (Sem.run P _ w') = r2
             intro h
             cases r2 with
             | ok y w2 => simp only at h ⊢; obtain ⟨h1, h2⟩ := h; rw [h1, h2]
             | halt y w2 => simp only at h)
      | halt x w' => simp only [Oper.quietUpon] at h

/-- How long the script is. -/
def Scr.len : Scr → Nat
  | .fin => 0
  | .take _ s => s.len + 1
  | .one _ s => s.len + 1
  | .two _ s _ _ => s.len + 1
  | .three _ s _ _ _ _ => s.len + 1

/-- The script serves. -/
def scrB (md : Region.Mode) (ops : Array Oper) : Scr → Array Bool → Bool
  | .fin, listed => (Region.ready md ops listed).isEmpty
  | .take k s, listed => Region.free md ops listed k && (Region.ready md ops listed).contains k && (ops[k]?.map fun o => blindOp2 o.op) == some true && scrB md ops s (listed.setIfInBounds k true)
  | .one k s, listed => Region.ready md ops listed == [k] && decide (k < ops.size) && scrB md ops s (listed.setIfInBounds k true)
  | .three j s k t m u, listed => Region.ready md ops listed == [j, k, m] && decide (j < ops.size) && decide (k < ops.size) && decide (m < ops.size) && s.len == t.len && s.len == u.len && scrB md ops s (listed.setIfInBounds j true) && scrB md ops t (listed.setIfInBounds k true) && scrB md ops u (listed.setIfInBounds m true)
  | .two j s k t, listed => Region.ready md ops listed == [j, k] && decide (j < ops.size) && decide (k < ops.size) && s.len == t.len && scrB md ops s (listed.setIfInBounds j true) && scrB md ops t (listed.setIfInBounds k true)

/-- One operation that turns the world. -/
def turnS (P : Program) (ops : Array Oper) (S : World → Prop) (Q : Exit → Act → World → Prop) (o : Oper) (K : Act → World → Prop) (a : Act) (w : World) : Prop :=
  if Region.wanted o (yielded ops a.tmps) then o.wp P a w (fun a' w' => S w' ∧ K a' w') Q ∨ (o.asks P a w ∧ LetsOut Q) else S w ∧ K (a.put o.dst undef) w

/-- The walk by the script. -/
def wpScr (P : Program) (ops : Array Oper) (S : World → Prop) (Q : Exit → Act → World → Prop) : ScrO → Act → World → Prop
  | .fin, a, w => Q .normal a w
  | .take o s, a, w => if Region.wanted o (yielded ops a.tmps) then o.quiet P a S (fun a' => wpScr P ops S Q s a' w) else wpScr P ops S Q s (a.put o.dst undef) w
  | .one o s, a, w => turnS P ops S Q o (wpScr P ops S Q s) a w
  | .two o s p t, a, w => turnS P ops S Q o (wpScr P ops S Q s) a w ∧ turnS P ops S Q p (wpScr P ops S Q t) a w
  | .three o s p t q u, a, w => turnS P ops S Q o (wpScr P ops S Q s) a w ∧ turnS P ops S Q p (wpScr P ops S Q t) a w ∧ turnS P ops S Q q (wpScr P ops S Q u) a w

theorem getD_at {l : List Oper} {k : Nat} (h : k < l.toArray.size) : l.toArray[k]? = some (l.getD k noOper) := by
  have h2 : k < l.length := by simpa using h
  simp [h2]

theorem wpAnyH_of_scr {l : List Oper} (hs : Region.noSelect l.toArray = true) (hQ : ∀ c a d v w, Q (.panic c) (a.put d v) w → Q (.panic c) a w) :
    ∀ (s : Scr) (listed : Array Bool) (a : Act) (w : World), scrB md l.toArray s listed = true → S w → wpScr P l.toArray S Q (fillS l s) a w → wpAnyH P md l.toArray Q S s.len listed a w := by
  have turn : ∀ (k : Nat) (r : Scr) (listed : Array Bool) (a : Act) (w : World), k < l.toArray.size → turnS P l.toArray S Q (l.getD k noOper) (wpScr P l.toArray S Q (fillS l r)) a w →
      (∀ a' w', S w' → wpScr P l.toArray S Q (fillS l r) a' w' → wpAnyH P md l.toArray Q S r.len (listed.setIfInBounds k true) a' w') → 
      wpOp P l.toArray Q k (fun a' w' => S w' ∧ wpAnyH P md l.toArray Q S r.len (listed.setIfInBounds k true) a' w') a w := by
    intro k r listed a w hk h ih
    unfold wpOp
    simp only [getD_at hk]
    unfold turnS at h
    split at h
    · rename_i hw
      simp only [hw, if_true]
      exact h.imp (Oper.wp_mono (fun a' w' h' => ⟨h'.1, ih a' w' h'.1 h'.2⟩)) id
    · rename_i hw
      simp only [hw]
      exact ⟨h.1, ih _ w h.1 h.2⟩
  intro s
  induction s with
  | fin =>
    intro listed a w hB _ h
    exact ⟨by simpa [scrB] using hB, h⟩
  | take k s ih =>
    intro listed a w hB hS h
    simp only [scrB, Bool.and_eq_true] at hB
    obtain ⟨⟨⟨h1, h2⟩, h3⟩, hB2⟩ := hB
    have hk : k < l.toArray.size := by
      refine Decidable.byContradiction fun hc => ?_
      rw [Array.getElem?_eq_none (by omega)] at h3
      simp at h3
    have ho := getD_at hk
    rw [ho] at h3
    have hb : blindOp2 (l.getD k noOper).op = true := by simpa using h3
    simp only [fillS, wpScr] at h
    split at h
    · rename_i hw
      obtain ⟨v, hv, hn⟩ := h
      exact wpAnyH_take ho hs h1 h2 (fun c a w => hQ c a _ _ w) (.inl ⟨hw, fun w' hw' => blind_value2 hb (hv w' hw')⟩) hS (ih _ _ w hB2 hS hn)
    · rename_i hw
      exact wpAnyH_take (v := undef) ho hs h1 h2 (fun c a w => hQ c a _ _ w) (.inr ⟨by simpa using hw, rfl⟩) hS (ih _ _ w hB2 hS h)
  | one k s ih =>
    intro listed a w hB hS h
    simp only [scrB, Bool.and_eq_true, beq_iff_eq, decide_eq_true_eq] at hB
    obtain ⟨⟨hB1, hk⟩, hB2⟩ := hB
    refine wpAnyH_all hB1 (by simp) fun i hi => ?_
    obtain rfl : i = k := by simpa using hi
    exact turn i s listed a w hk h fun a' w' hS' h' => ih _ a' w' hB2 hS' h'
  | two j s k t ih1 ih2 =>
    intro listed a w hB hS h
    simp only [scrB, Bool.and_eq_true, beq_iff_eq, decide_eq_true_eq] at hB
    obtain ⟨⟨⟨⟨⟨hB1, hj⟩, hk⟩, hlen⟩, hB2⟩, hB3⟩ := hB
    refine wpAnyH_all hB1 (by simp) fun i hi => ?_
    simp only [List.mem_cons, List.not_mem_nil, or_false] at hi
    rcases hi with rfl | rfl
    · exact turn i s listed a w hj h.1 fun a' w' hS' h' => ih1 _ a' w' hB2 hS' h'
    · have := turn i t listed a w hk h.2 fun a' w' hS' h' => ih2 _ a' w' hB3 hS' h'
      rw [← hlen] at this
      exact this
  | three j s k t m u ih1 ih2 ih3 =>
    intro listed a w hB hS h
    simp only [scrB, Bool.and_eq_true, beq_iff_eq, decide_eq_true_eq] at hB
    obtain ⟨⟨⟨⟨⟨⟨⟨⟨hB1, hj⟩, hk⟩, hm⟩, hlen⟩, hlen2⟩, hB2⟩, hB3⟩, hB4⟩ := hB
    refine wpAnyH_all hB1 (by simp) fun i hi => ?_
    simp only [List.mem_cons, List.not_mem_nil, or_false] at hi
    rcases hi with rfl | rfl | rfl
    · exact turn i s listed a w hj h.1 fun a' w' hS' h' => ih1 _ a' w' hB2 hS' h'
    · have := turn i t listed a w hk h.2.1 fun a' w' hS' h' => ih2 _ a' w' hB3 hS' h'
      rw [← hlen] at this
      exact this
    · have := turn i u listed a w hm h.2.2 fun a' w' hS' h' => ih3 _ a' w' hB4 hS' h'
      rw [← hlen2] at this
      exact this

end

section
variable {P : Program} {Q : Exit → Act → World → Prop} {S : World → Prop} {a : Act} {w : World}

theorem wp_region_scr (S : World → Prop) (s : Scr) {id : Nat} {l : List Oper} (hm : P.follows .mixedOrders = true)
    (hB : (s.len == l.length && Region.noSelect l.toArray && scrB .any l.toArray s (Array.replicate l.toArray.size false)) = true)
    (hQ : ∀ c a d v w, Q (.panic c) (a.put d v) w → Q (.panic c) a w) (hS : S w.drew) (h : wpScr P l.toArray S Q (fillS l s) a w.drew) : (Code.region id l.toArray true).wp P Q a w := by
  simp only [Bool.and_eq_true, beq_iff_eq] at hB
  obtain ⟨⟨h1, h2⟩, h3⟩ := hB
  refine wp_region_held (S := S) hm ?_
  have h4 := wpAnyH_of_scr (md := .any) h2 hQ s _ a w.drew h3 hS h
  rw [h1] at h4
  simpa using h4

/-- The walk's rest, as what is asked of a frame. -/
def scrQ (P : Program) (ops : Array Oper) (S : World → Prop) (Q : Exit → Act → World → Prop) (s : ScrO) (w : World) (a : Act) : Prop := wpScr P ops S Q s a w

theorem scrQ_on {ops : Array Oper} {s : ScrO} (h : wpScr P ops S Q s a w) : wpQuiet P ops S (scrQ P ops S Q s w) [] a := wpQuiet_nil h

theorem wpScr_pure {ops : Array Oper} {o : Oper} {s : ScrO} (h : wpQuiet P ops S (scrQ P ops S Q s w) [o] a) : wpScr P ops S Q (.take o s) a w := by
  simp only [wpScr]
  simp only [wpQuiet] at h
  exact h

theorem wpScr_nil {ops : Array Oper} (h : Q .normal a w) : wpScr P ops S Q .fin a w := h

/-- What is asked behind a turning operation. -/
def scrK (P : Program) (ops : Array Oper) (S : World → Prop) (Q : Exit → Act → World → Prop) (s : ScrO) : Exit → Act → World → Prop
  | .normal, a, w => S w ∧ wpScr P ops S Q s a w
  | e, a, w => Q e a w

theorem wp_scrK {ops : Array Oper} {o : Oper} {s : ScrO} (h : o.wp P a w (fun a' w' => scrK P ops S Q s .normal a' w') (scrK P ops S Q s)) : o.wp P a w (fun a' w' => S w' ∧ wpScr P ops S Q s a' w') Q := by
  unfold Oper.wp at *
  generalize (execOp a.eval o).run P w = r at *
  cases r with
  | ok n w' =>
    cases n <;> simp only [Oper.upon] at h ⊢ <;>
      first
        | exact h
        | exact Calls.mono h (fun e w'' he => by cases e <;> first | exact he | (obtain ⟨a, w, he⟩ := he; exact ⟨a, w, he⟩))
        | exact Rows.mono h (fun _ _ he => he)
  | halt x w' => cases x <;> simp only [Oper.upon] at h ⊢ <;> exact h

theorem turnS_of {ops : Array Oper} {o : Oper} {s : ScrO} (h : ∀ K : Exit → Act → World → Prop, (∀ a' w', S w' → wpScr P ops S Q s a' w' → K .normal a' w') → wpList P ops K [o] a w) : turnS P ops S Q o (wpScr P ops S Q s) a w := by
  have h1 := h (scrK P ops S Q s) (fun a' w' hS h => ⟨hS, h⟩)
  unfold turnS
  simp only [wpList] at h1
  split
  · rename_i hw
    rw [if_pos hw] at h1
    exact h1.imp wp_scrK (fun ⟨h2, a, w, h3⟩ => ⟨h2, a, w, h3⟩)
  · rename_i hw
    rw [if_neg hw] at h1
    exact h1

theorem wpScr_turn {ops : Array Oper} {o : Oper} {s : ScrO} (h : ∀ K : Exit → Act → World → Prop, (∀ a' w', S w' → wpScr P ops S Q s a' w' → K .normal a' w') → wpList P ops K [o] a w) : wpScr P ops S Q (.one o s) a w := turnS_of h

theorem wpScr_two {ops : Array Oper} {o p : Oper} {s t : ScrO} (h : wpScr P ops S Q (.one o s) a w) (k : wpScr P ops S Q (.one p t) a w) : wpScr P ops S Q (.two o s p t) a w := ⟨h, k⟩

theorem wpScr_three {ops : Array Oper} {o p q : Oper} {s t u : ScrO} (h : wpScr P ops S Q (.one o s) a w) (k : wpScr P ops S Q (.one p t) a w) (m : wpScr P ops S Q (.one q u) a w) : wpScr P ops S Q (.three o s p t q u) a w := ⟨h, k, m⟩
end

end Go.Proofs.Ytgdfmmdjnifjeaa
