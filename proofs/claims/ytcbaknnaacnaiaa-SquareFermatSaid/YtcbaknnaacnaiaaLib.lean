/-
  Go's library at this seat's types: slices.IndexFunc, ContainsFunc, Equal; and the helper 'good'.
-/
import Derived.Test.YtcbaknnaacnaiaaChecked
import Derived.Test.YtcbaknnaacnaiaaBase
namespace Go.Proofs.Ytcbaknnaacnaiaa
open Go.RowKit

/-- The number at place i; 0 behind the end. -/
def nth (xs : List Int) (i : Nat) : Int := xs.getD i 0
theorem nth_eq {xs : List Int} {i : Nat} (h : i < xs.length) : nth xs i = xs[i] := by
  unfold nth; rw [List.getD_eq_getElem?_getD, List.getElem?_eq_getElem h]; rfl
theorem nth_mem {xs : List Int} {i : Nat} (h : i < xs.length) : nth xs i ∈ xs := by rw [nth_eq h]; exact List.getElem_mem h

/-- The slice at a (nil, or a row) reads as xs, in the world w. -/
def Reads (w : World) (k : IntKind) (a : Option Addr) (xs : List Int) : Prop :=
  xs = [] ∨ ∃ b off, a = some ⟨b, off, none⟩ ∧ ∀ i, i < xs.length → w.cell? ⟨b, off + i, none⟩ = some (.int k (nth xs i))

theorem Reads.ex {w w2 : World} {k : IntKind} {a : Option Addr} {xs : List Int} (h : Reads w k a xs) (hx : Ex w w2) : Reads w2 k a xs := by
  rcases h with h | ⟨b, off, h1, h2⟩
  · exact .inl h
  · exact .inr ⟨b, off, h1, fun i hi => hx.cell (h2 i hi)⟩

/-- The first place where p says yes; -1 if there is none. -/
def place (p : Int → Bool) (xs : List Int) : Int := match xs.findIdx? p with | some i => (i : Int) | none => -1

theorem place_at {p : Int → Bool} {xs : List Int} {k : Nat} (hk : k < xs.length) (hp : p (nth xs k) = true) (hn : ∀ j, j < k → p (nth xs j) = false) : place p xs = (k : Int) := by
  have : xs.findIdx? p = some k := by
    rw [List.findIdx?_eq_some_iff_getElem]
    refine ⟨hk, ?_, fun j hj => ?_⟩
    · rw [nth_eq hk] at hp; exact hp
    · have := hn j hj
      rw [nth_eq (by omega)] at this
      simpa using this
  unfold place; rw [this]

theorem place_none {p : Int → Bool} {xs : List Int} (hn : ∀ j, j < xs.length → p (nth xs j) = false) : place p xs = -1 := by
  have : xs.findIdx? p = none := by
    rw [List.findIdx?_eq_none_iff]
    intro x hx
    obtain ⟨j, hj, rfl⟩ := List.getElem_of_mem hx
    have := hn j hj
    rw [nth_eq hj] at this
    exact this
  unfold place; rw [this]

theorem place_any (p : Int → Bool) (xs : List Int) : decide (0 ≤ place p xs) = xs.any p := by
  unfold place
  cases h : xs.findIdx? p with
  | none =>
    rw [List.findIdx?_eq_none_iff] at h
    have : xs.any p = false := by rw [List.any_eq_false]; intro x hx; simpa using h x hx
    rw [this]; rfl
  | some i =>
    have := List.findIdx?_eq_some_iff_getElem.mp h
    obtain ⟨hi, hp, _⟩ := this
    have h2 : xs.any p = true := List.any_eq_true.mpr ⟨_, List.getElem_mem hi, hp⟩
    rw [h2]; simp

/-- A function value (f, over what it has captured) that says p of each of xs, in whatever world has grown out of w. -/
def SaysOf (P : Program) (f : FuncId) (cs : Array Value) (k : IntKind) (p : Int → Bool) (xs : List Int) (w : World) : Prop :=
  ∀ x ∈ xs, ∀ w2, Ex w w2 → Calls P f (#[.int k x] ++ cs) w2 (Says (.bool (p x)) w2)

/-- f has a body: a call of it is entered. -/
def Entered (P : Program) (f : FuncId) : Prop := ∀ args w, Sem.run P (callFunc f args) w = .ok (.enter f args) w





/-- Is none of these errors an error? -/
def okAll (xs : List Int) : Bool := !(xs.any fun x => x != 0)

theorem reads_new (k : IntKind) (xs : List Int) (vs : Array Value) (h : vs = (xs.map (Value.int k)).toArray) (T : TypeId) (w : World) :
    Reads (w.alloc (.cells vs T)) k (some ⟨w.heap.size, 0, none⟩) xs := by
  subst h
  refine .inr ⟨_, _, rfl, fun i hi => ?_⟩
  rw [nth_eq hi]
  show (match (w.heap.push _)[w.heap.size]? with | some (.cells c _ _) => _ | _ => none) = _
  rw [Array.getElem?_push_size]
  simp [hi]

end Go.Proofs.Ytcbaknnaacnaiaa
