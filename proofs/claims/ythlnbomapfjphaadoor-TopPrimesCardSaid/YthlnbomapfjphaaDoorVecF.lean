/-
  A row of the field's elements in memory.
-/
import Derived.Test.YthlnbomapfjphaaDoorGro
import Derived.Test.YthlnbomapfjphaaDoorGmx
namespace Go.Proofs.YthlnbomapfjphaaDoor
open Go.RowKit
open Gf

/-- A row of bytes, in memory. -/
def ReadsF (w : World) (a : Option Addr) (n : Nat) (F : Nat → E) : Prop := ∃ b off, a = some ⟨b, off, none⟩ ∧ ∀ k, k < n → w.cell? ⟨b, off + k, none⟩ = some (.int .u8 (((F k).v : Nat) : Int))
theorem ReadsF.ex {w w2 : World} {a : Option Addr} {n : Nat} {F : Nat → E} (h : ReadsF w a n F) (hx : Ex w w2) : ReadsF w2 a n F := by
  obtain ⟨b, off, h1, h2⟩ := h
  exact ⟨b, off, h1, fun k hk => hx.cell (h2 k hk)⟩
/-- A row and no error. -/
def Vec2 (n : Nat) (F : Nat → E) (w : World) (e : Ending) (w2 : World) : Prop := ∃ a2 c2, e = .returned (.tuple #[.slice a2 n c2, .int .i64 0]) ∧ Hid (n ≤ c2 ∧ c2 ≤ 9223372036854775807) ∧ Hid (ReadsF w2 a2 n F) ∧ Ex w w2

end Go.Proofs.YthlnbomapfjphaaDoor
