/-
  Package poly: monic, Gcd.
-/
import Derived.Test.YtfdhhiibhkepaaaPoDvL
namespace Go.Proofs.Ytfdhhiibhkepaaa
open Go.RowKit
open Pr Po

theorem rowed_nil {w w2 : World} (h : Ex w w2) : Rowed [] w (.returned (.tuple #[.slice none 0 0, .int .i64 0])) w2 := ⟨_, rfl, Lib.hid (Row.nil _ _ _ _), h⟩




end Go.Proofs.Ytfdhhiibhkepaaa
