/-
  What is answered beside an error: nothing, or a row.
-/
import Derived.Test.YtgmhbkfjabmkgaaGro
namespace Go.Proofs.Ytgmhbkfjabmkgaa
open Go.RowKit

/-- Nothing, and an error. -/
def Nil2 (er : Int) (w : World) (e : Ending) (w2 : World) : Prop := ∃ a2 c2, e = .returned (.tuple #[.slice a2 0 c2, .int .i64 er]) ∧ Ex w w2
/-- A row and no error. -/
def Vec3 (k : IntKind) (M : Nat) (xs : List Int) (w : World) (e : Ending) (w2 : World) : Prop := ∃ a2 c2, e = .returned (.tuple #[.slice a2 M c2, .int .i64 0]) ∧ Hid (M ≤ c2 ∧ c2 ≤ 9223372036854775807) ∧ Hid (Reads w2 k a2 xs) ∧ Ex w w2

theorem IsInts.ex {k : IntKind} {B : Nat} {w w2 : World} {a : Option Addr} {len cap : Nat} {z : List Int} (h : IsInts k B w a len cap z) (hx : Ex w w2) : IsInts k B w2 a len cap z := by
  obtain ⟨h1, h2, h3, h4, h5, h6⟩ := h
  exact ⟨h1, h2, h3, h4.ex hx, h5, h6⟩

end Go.Proofs.Ytgmhbkfjabmkgaa
