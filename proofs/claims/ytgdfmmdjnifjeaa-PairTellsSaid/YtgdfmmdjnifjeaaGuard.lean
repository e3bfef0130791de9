/-
  An operation whose guard holds is walked as one without a guard.
-/
import Derived.Test.YtgdfmmdjnifjeaaGro
namespace Go.Proofs.Ytgdfmmdjnifjeaa
open Go.RowKit

section
variable {P : Program} {w : World} {ops : Array Oper} {rest : List Oper} {o : Oper} {a : Act} {Q : Exit → Act → World → Prop}

theorem wpList_wanted (hw : Region.wanted o (yielded ops a.tmps) = true) (h : wpList P ops Q ({ o with guard := none } :: rest) a w) : wpList P ops Q (o :: rest) a w := by
  unfold wpList at h ⊢
  rw [if_pos hw]
  rw [if_pos (by simp [Region.wanted])] at h
  exact h
end

end Go.Proofs.Ytgdfmmdjnifjeaa
