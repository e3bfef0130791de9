/-
  Package poly: divide where there are steps to take; Div.
-/
import Derived.Test.YtfdhhiibhkepaaaPoDvW
namespace Go.Proofs.Ytfdhhiibhkepaaa
open Go.RowKit
open Pr Po






end Go.Proofs.Ytfdhhiibhkepaaa
