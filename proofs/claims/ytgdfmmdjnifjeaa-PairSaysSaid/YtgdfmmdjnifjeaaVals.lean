/-
  append of a row of one-cell values, nil or not.
-/
import Derived.Test.YtgdfmmdjnifjeaaGtb
import Derived.Test.YtgdfmmdjnifjeaaAnyP
import Derived.Laws.AppendOwnNone
namespace Go.Proofs.Ytgdfmmdjnifjeaa
open Go.RowKit

/-- Slices, each of one cell. -/
def Slis (us : List Value) : Prop := ∀ u ∈ us, u.oneCell' = true

section
variable {P : Program} {w : World} {ops : Array Oper} {rest : List Oper} {o : Oper} {a : Act} {Q : Exit → Act → World → Prop}

/-- append of a row of values, nil or not. -/
theorem wpList_append_vals (hgd : o.guard = none) (s x : Operand) (t : TypeId) (ho : o.op = .call { callee := .builtin .append, args := #[s, x], argTypes := #[t, t] })
    (base : Nat) (e : TypeId) (z : Value) (bytes : Nat) (ht : P.underlying t = some (.slice e)) (hinfo : (P.info? e).map (fun i => (i.zero, i.size, i.bytes)) = some (some z, 1, bytes)) (hzs : z.cells.size = 1)
    (v : Value) (xs : List Value) (hs : a.eval s = v) (hown : RowV e w base v xs) (ad : Option Addr) (c : Nat) (ys : List Value) (h1 : Slis ys) (hx : a.eval x = .slice ad ys.length c) (hnil : ad = none → c = 0) (hr : ReadsV w ad ys.length (nthV ys))
    (h63 : xs.length + ys.length ≤ maxLen) (hbytes : (xs.length + ys.length) * bytes ≤ 140737488355328) (hbase : base ≤ w.heap.size)
    (h : ∀ v' w', RowV e w' base v' (xs ++ ys) → w.grownBy w' v.ownBlock → wpList P ops Q rest (a.put o.dst v') w') : wpList P ops Q (o :: rest) a w := by
  obtain ⟨i, hi, hz, hsz, hby⟩ := info_parts hinfo
  have go : ∀ (p : Addr), ad = some p → (∀ j u, ys[j]? = some u → w.cell? (p.add j) = some u) → wpList P ops Q (o :: rest) a w := fun p hp hc => by
    subst hp
    refine wpList_append_own_at w hgd s x t ho base e i _ 1 bytes ht hi hz hsz hby hzs (by decide) v xs.length xs hs hown p ys.length c ys hx (by simp) hc h1 h63 hbytes hbase ?_
    intro v' w' k1 k2 _ _
    refine h v' w' ?_ k2
    unfold RowV
    rw [List.length_append]
    exact k1
  rcases hr with h0 | ⟨b, off, rfl, hc⟩
  · have hy : ys = [] := List.length_eq_zero_iff.mp h0
    subst hy
    cases ad with
    | none =>
      obtain rfl := hnil rfl
      refine wpList_append_own_none hgd s x t ho base e i 1 ht hi v xs.length xs hs hown hx (h v w ?_ ⟨rfl, rfl, rfl, Nat.le_refl _, fun _ _ _ => rfl⟩)
      rw [List.append_nil]
      exact hown
    | some p => exact go p rfl (fun j u hj => by simp at hj)
  · refine go ⟨b, off, none⟩ rfl fun j u hj => ?_
    have hl : j < ys.length := (List.getElem?_eq_some_iff.mp hj).1
    rw [List.getElem?_eq_getElem hl] at hj
    have e2 : (⟨b, off, none⟩ : Addr).add j = ⟨b, off + j, none⟩ := by unfold Addr.add; split <;> simp_all
    rw [e2, hc j hl, nthV_eq hl]
    exact hj
end

end Go.Proofs.Ytgdfmmdjnifjeaa
