/-
  What is answered beside an error: nothing, or a row.
-/
import Derived.Test.YthlnbomapfjphaaGro
namespace Go.Proofs.Ythlnbomapfjphaa
open Go.RowKit

/-- Nothing, and an error. -/
def Nil2 (er : Int) (w : World) (e : Ending) (w2 : World) : Prop := ∃ a2 c2, e = .returned (.tuple #[.slice a2 0 c2, .int .i64 er]) ∧ Ex w w2
/-- A row and no error. -/
def Vec3 (k : IntKind) (M : Nat) (xs : List Int) (w : World) (e : Ending) (w2 : World) : Prop := ∃ a2 c2, e = .returned (.tuple #[.slice a2 M c2, .int .i64 0]) ∧ Hid (M ≤ c2 ∧ c2 ≤ 9223372036854775807) ∧ Hid (Reads w2 k a2 xs) ∧ Ex w w2

theorem IsInts.ex {k : IntKind} {B : Nat} {w w2 : World} {a : Option Addr} {len cap : Nat} {z : List Int} (h : IsInts k B w a len cap z) (hx : Ex w w2) : IsInts k B w2 a len cap z := by
  obtain ⟨h1, h2, h3, h4, h5, h6⟩ := h
  exact ⟨h1, h2, h3, h4.ex hx, h5, h6⟩

/-- A row of one's own, as a contract hands it out. -/
theorem Row.hands {e : TypeId} {k : IntKind} {w : World} {base n : Nat} {v : Value} {xs : List Int} (h : Row e k w base v xs) (hn : xs.length = n) : ∃ a c, v = .slice a n c ∧ Hid (n ≤ c ∧ c ≤ 9223372036854775807) ∧ Hid (Reads w k a xs) := by
  subst hn
  rcases h.form with ⟨rfl, rfl⟩ | ⟨g, cap, rfl, _, _, h1, h2, hc, _⟩
  · exact ⟨none, 0, rfl, Lib.hid ⟨Nat.le_refl _, by omega⟩, Lib.hid (.inl rfl)⟩
  · unfold maxLen at h2
    exact ⟨_, cap, rfl, Lib.hid ⟨h1, by omega⟩, Lib.hid (.inr ⟨g, 0, rfl, fun i hi => by rw [Nat.zero_add]; exact hc i hi⟩)⟩

theorem box_one (w : World) (v : Value) (T : TypeId) : (w.alloc (.cells #[v] T)).cell? ⟨w.heap.size, 0, none⟩ = some v := by
  have := heap_alloc_new w (.cells #[v] T)
  unfold World.cell?
  simp only [this]
  simp

end Go.Proofs.Ythlnbomapfjphaa
