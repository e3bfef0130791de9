/-
  wholeref.WordErr.
-/
import Derived.Test.YthlnbomapfjphaaDoorGrb
import Derived.Test.YthlnbomapfjphaaDoorLnD
import Derived.Test.YthlnbomapfjphaaDoorAnyP
import Derived.Test.YthlnbomapfjphaaDoorU16
namespace Go.Proofs.YthlnbomapfjphaaDoor
open Go.RowKit
open Ln

theorem ReadsV.of {k : IntKind} {w : World} {a : Option Addr} {xs : List Int} {n : Nat} (h : Reads w k a xs) (hn : xs.length = n) : ReadsV w a n (fun i => .int k (nth xs i)) := by
  rcases h with h | ⟨b, off, h1, h2⟩
  · left; rw [← hn, h]; rfl
  · exact .inr ⟨b, off, h1, fun i hi => h2 i (by rw [hn]; exact hi)⟩




end Go.Proofs.YthlnbomapfjphaaDoor
