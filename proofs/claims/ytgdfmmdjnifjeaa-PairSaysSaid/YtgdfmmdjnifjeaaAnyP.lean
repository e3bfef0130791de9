/-
  Elements of one cell each, read by their place: IndexFunc and ContainsFunc at any such type.
-/
import Derived.Test.YtgdfmmdjnifjeaaGro
namespace Go.Proofs.Ytgdfmmdjnifjeaa
open Go.RowKit

/-- A cell at every later world. -/
theorem cell_wo {w : World} {q : Addr} {v : Value} (h : w.cell? q = some v) (x : Wo w) : x.val.cell? q = some v := x.ex.cell h

/-- The slice at a holds us, n of them. -/
def ReadsV (w : World) (a : Option Addr) (n : Nat) (us : Nat → Value) : Prop := n = 0 ∨ ∃ b off, a = some ⟨b, off, none⟩ ∧ ∀ i, i < n → w.cell? ⟨b, off + i, none⟩ = some (us i)
theorem ReadsV.ex {w w2 : World} {a : Option Addr} {n : Nat} {us : Nat → Value} (h : ReadsV w a n us) (hx : Ex w w2) : ReadsV w2 a n us := by
  rcases h with h | ⟨b, off, h1, h2⟩
  · exact .inl h
  · exact .inr ⟨b, off, h1, fun i hi => hx.cell (h2 i hi)⟩

/-- The first place below n; -1 if there is none. -/
def firstP (p : Nat → Bool) (n : Nat) : Int := match (List.range n).find? p with | some i => (i : Int) | none => -1
theorem firstP_at {p : Nat → Bool} {n k : Nat} (hk : k < n) (hp : p k = true) (hn : ∀ j, j < k → p j = false) : firstP p n = (k : Int) := by
  have : (List.range n).find? p = some k := by
    rw [List.find?_range_eq_some]
    exact ⟨hp, by simpa using hk, fun j hj => by simp [hn j hj]⟩
  unfold firstP; rw [this]
theorem firstP_none {p : Nat → Bool} {n : Nat} (hn : ∀ j, j < n → p j = false) : firstP p n = -1 := by
  have : (List.range n).find? p = none := by
    rw [List.find?_eq_none]
    intro x hx
    simp [hn x (List.mem_range.mp hx)]
  unfold firstP; rw [this]
theorem firstP_cases (p : Nat → Bool) (n : Nat) : (firstP p n = -1 ∧ ∀ j, j < n → p j = false) ∨ ∃ k, k < n ∧ firstP p n = (k : Int) ∧ p k = true ∧ ∀ j, j < k → p j = false := by
  cases h : (List.range n).find? p with
  | none =>
    rw [List.find?_eq_none] at h
    have hn : ∀ j, j < n → p j = false := fun j hj => by simpa using h j (List.mem_range.mpr hj)
    exact .inl ⟨firstP_none hn, hn⟩
  | some k =>
    rw [List.find?_range_eq_some] at h
    obtain ⟨h1, h2, h3⟩ := h
    have hk : k < n := by simpa using h2
    have hn : ∀ j, j < k → p j = false := fun j hj => by simpa using h3 j hj
    exact .inr ⟨k, hk, firstP_at hk h1 hn, h1, hn⟩
/-- Is there one below n? -/
def anyP (p : Nat → Bool) (n : Nat) : Bool := decide (0 ≤ firstP p n)
theorem anyP_yes {p : Nat → Bool} {n k : Nat} (hk : k < n) (hp : p k = true) : anyP p n = true := by
  unfold anyP
  rcases firstP_cases p n with ⟨_, h⟩ | ⟨j, _, h, _⟩
  · rw [h k hk] at hp; cases hp
  · rw [h]; exact decide_eq_true (by omega)
theorem anyP_no {p : Nat → Bool} {n : Nat} (hn : ∀ j, j < n → p j = false) : anyP p n = false := by
  unfold anyP; rw [firstP_none hn]; rfl
theorem anyP_iff {p : Nat → Bool} {n : Nat} : anyP p n = true ↔ ∃ k, k < n ∧ p k = true := by
  constructor
  · intro h
    rcases firstP_cases p n with ⟨h1, h2⟩ | ⟨k, hk, _, h2, _⟩
    · rw [anyP_no h2] at h; cases h
    · exact ⟨k, hk, h2⟩
  · rintro ⟨k, hk, h⟩; exact anyP_yes hk h

/-- A function value (f, over what it has captured) that says p of the i-th of us, in whatever world has grown out of w. -/
def SaysAt (P : Program) (f : FuncId) (cs : Array Value) (p : Nat → Bool) (n : Nat) (us : Nat → Value) (w : World) : Prop :=
  ∀ i, i < n → ∀ w2, Ex w w2 → Calls P f (#[us i] ++ cs) w2 (Says (.bool (p i)) w2)

end Go.Proofs.Ytgdfmmdjnifjeaa
