/-
  wholeref: TableMul.
-/
import Derived.Test.YthlnbomapfjphaaGtb
import Derived.Test.YthlnbomapfjphaaGfw
namespace Go.Proofs.Ythlnbomapfjphaa
open Go.RowKit
open Gf

/-- The product. -/
def mm (A B : Nat → Nat → E) (K i j : Nat) : E := sg (fun k => A i k * B k j) (List.range K)
theorem sg_range (F : Nat → E) (k : Nat) : sg F (List.range (k + 1)) = sg F (List.range k) + F k := by
  rw [List.range_succ, sg_append]
  show _ + (F k + 0) = _
  rw [E.add_zero]

/-- A call answers a table of R rows and C columns. -/
def Tabd (R C : Nat) (M : Nat → Nat → E) (w : World) (e : Ending) (w2 : World) : Prop := ∃ a2 c2, e = .returned (.slice a2 R c2) ∧ Hid (R ≤ c2 ∧ c2 ≤ maxLen) ∧ Hid (ReadsT w2 a2 R C M) ∧ Ex w w2

/-- An entry, at a place. -/
theorem ReadsT.at {w : World} {a : Option Addr} {R C : Nat} {M : Nat → Nat → E} (h : ReadsT w a R C M) {r : Nat} (hr : r < R) :
    ∃ b off br orr c, a = some ⟨b, off, none⟩ ∧ w.cell? ⟨b, off + r, none⟩ = some (.slice (some ⟨br, orr, none⟩) C c) ∧ C ≤ c ∧ c ≤ 9223372036854775807 ∧ ∀ k, k < C → w.cell? ⟨br, orr + k, none⟩ = some (.int .u8 (((M r k).v : Nat) : Int)) := by
  obtain ⟨b, off, h1, h2⟩ := h
  obtain ⟨br, orr, c, k1, k2, k3, k4⟩ := h2 r hr
  exact ⟨b, off, br, orr, c, h1, k1, k2, k3, k4⟩


end Go.Proofs.Ythlnbomapfjphaa
