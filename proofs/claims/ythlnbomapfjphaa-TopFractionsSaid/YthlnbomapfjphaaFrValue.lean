/-
  The walks over package frac: what a list is worth.
-/
import Derived.Test.YthlnbomapfjphaaFrOf
namespace Go.Proofs.Ythlnbomapfjphaa
open Go.RowKit
open Eu Fr

/-- A number that may stand at place i. -/
def okAt (l : List Int) (i : Nat) : Prop := 0 ≤ nth l i ∧ nth l i ≤ 1000000 ∧ (0 < i → 1 ≤ nth l i)
/-- Numbers that may stand so. -/
def OkT (l : List Int) : Prop := ∀ i, i < l.length → okAt l i
/-- What is wrong with a list. -/
def Chk (l : List Int) (r : Int) : Prop := (l = [] ∧ r = 4) ∨ (l ≠ [] ∧ OkT l ∧ r = 0) ∨ (¬ OkT l ∧ r = 1)

theorem chk_some (l : List Int) : ∃ r, Chk l r ∧ (r = 0 ∨ r = 1 ∨ r = 4) := by
  by_cases h : l = []
  · exact ⟨4, .inl ⟨h, rfl⟩, by omega⟩
  · by_cases h2 : OkT l
    · exact ⟨0, .inr (.inl ⟨h, h2, rfl⟩), by omega⟩
    · exact ⟨1, .inr (.inr ⟨h2, rfl⟩), by omega⟩

/-- What Value hands back where nothing is wrong. -/
def vres : Option (Int × Int) → Value
  | none => .tuple #[.agg #[.int .i64 0, .int .i64 0], .int .i64 2]
  | some x => .tuple #[.agg #[.int .i64 x.1, .int .i64 x.2], .int .i64 0]

end Go.Proofs.Ythlnbomapfjphaa
