/-
  wholekeep: turned.
-/
import Derived.Test.YteaehaebhpcfeaaTabMul
namespace Go.Proofs.Yteaehaebhpcfeaa
open Go.RowKit
open Gf


end Go.Proofs.Yteaehaebhpcfeaa
