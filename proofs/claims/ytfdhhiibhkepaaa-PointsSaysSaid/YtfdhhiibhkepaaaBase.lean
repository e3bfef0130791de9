/-
  What every walk of this seat leans on: 'Ex w w2' (the world w2 has grown out of w: what was there is as it was), contracts in that word, and regions that draw their order walked once with callees that may grow the world.
-/
import Derived.WalkKit
import Derived.WalkSpells
import Derived.WalkLawsBesides
import Derived.Handy
import Derived.Lib.Hide
import Derived.Deep.LoopGhost
import Derived.BigQuiet
import Derived.OpenShut
import Derived.Deep.QuietTactic
namespace Go.Proofs.Ytfdhhiibhkepaaa
open Go.RowKit

/-- w2 has grown out of w: blocks may have come, draws may have been made; nothing that was there has turned. -/
def Ex (w w2 : World) : Prop := Below w.heap.size w w2

theorem Ex.refl (w : World) : Ex w w := Below.refl _ _
theorem Ex.trans {a b c : World} (h : Ex a b) (k : Ex b c) : Ex a c := Below.trans h (Below.mono k h.size)
theorem Ex.drew {a b : World} (h : Ex a b) : Ex a b.drew := Below.drew h
theorem Ex.drewN {a b : World} (h : Ex a b) (n : Nat) : Ex a (b.drewN n) := ⟨h.os, h.tape, h.output, h.size, h.block⟩
theorem Ex.cell {w w2 : World} (h : Ex w w2) {a : Addr} {v : Value} (hc : w.cell? a = some v) : w2.cell? a = some v := by
  have hb : a.block < w.heap.size := by
    unfold World.cell? at hc
    split at hc
    · rename_i he
      exact (Array.getElem?_eq_some_iff.mp he).1
    · cases hc
  rw [Below.cell h hb]; exact hc
theorem Ex.alloc {a b : World} (h : Ex a b) (o : Obj) : Ex a (b.alloc o) := Below.alloc h h.size o
theorem Ex.setCell {a b : World} (h : Ex a b) {p : Addr} (hp : a.heap.size ≤ p.block) (u : Value) : Ex a (b.setCell p u) := Below.setCell h hp u

/-- The worlds that have grown out of w. -/
structure Wo (w : World) where
  val : World
  ex : Ex w val

instance (w : World) : Nonempty (Wo w) := ⟨⟨w, Ex.refl w⟩⟩

/-- A function hands back v and leaves a grown world. -/
def Says (v : Value) (w : World) (e : Ending) (w2 : World) : Prop := e = .returned v ∧ Ex w w2

theorem Says.same {v : Value} {w : World} : Says v w (.returned v) w := ⟨rfl, Ex.refl w⟩

theorem says_same {P : Program} {f : FuncId} {args : Array Value} {w : World} {v : Value} (h : Calls P f args w fun e w2 => e = .returned v ∧ w = w2) : Calls P f args w (Says v w) :=
  h.mono fun _ _ ⟨he, hw⟩ => ⟨he, hw ▸ Ex.refl _⟩

theorem says_wo {P : Program} {f : FuncId} {args : Array Value} {w : World} {x : Wo w} {v : Value} (h : Calls P f args x.val (Says v x.val)) :
    Calls P f args x.val fun e w2 => e = .returned v ∧ ∃ y : Wo w, w2 = y.val :=
  h.mono fun _ w2 ⟨he, hw⟩ => ⟨he, ⟨w2, x.ex.trans hw⟩, rfl⟩

theorem wp_region_wo {P : Program} {id : Nat} {Q : Exit → Act → World → Prop} {a : Act} {w : World} {l : List Oper} (hm : P.follows .mixedOrders = true) (hB : Region.lexB .any l.toArray = true)
    (h : wpQuiet P l.toArray (fun w2 => ∃ x : Wo w, w2 = x.val) (fun a2 => ∀ w2, (∃ x : Wo w, w2 = x.val) → Q .normal a2 w2) l a) : (Code.region id l.toArray true).wp P Q a w :=
  wp_region_quiet (C := fun w2 => ∃ x : Wo w, w2 = x.val) hm hB ⟨⟨_, (Ex.refl w).drew⟩, rfl⟩ (by simpa using h)

/-- A number that an int can hold. -/
def I64 (a : Int) : Prop := -9223372036854775808 ≤ a ∧ a ≤ 9223372036854775807

theorem wf_i64 {a : Int} (h : (Lit.int .i64 a).wf = true) : I64 a := by
  have := Go.bounds_i64 h
  unfold I64; omega

/-- What a walk is told of a slice of integers that came in. -/
def IsRow (k : IntKind) (w : World) (a : Option Addr) (len cap : Nat) (zs : List Int) : Prop :=
  (a = none ∧ len = 0 ∧ cap = 0 ∧ zs = []) ∨
  ∃ x, a = some x ∧ len ≤ cap ∧ cap ≤ maxLen ∧ zs.length = cap ∧ (∀ i, i < zs.length → w.cell? (x.add i) = some (.int k (zs.getD i 0))) ∧ ∀ n ∈ zs, (Lit.int k n).wf = true

theorem int_eq {k : IntKind} {a b : Int} (h : a = b) : Value.int k a = Value.int k b := by rw [h]

end Go.Proofs.Ytfdhhiibhkepaaa
