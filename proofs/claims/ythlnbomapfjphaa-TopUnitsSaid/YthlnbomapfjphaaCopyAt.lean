/-
  copy of numbers into a row of one's own from a place on.
-/
import Derived.Test.YthlnbomapfjphaaGro
import Derived.Laws.CopyOwn
namespace Go.Proofs.Ythlnbomapfjphaa
open Go.RowKit

section
variable {P : Program} {w : World} {ops : Array Oper} {rest : List Oper} {o : Oper} {a : Act} {Q : Exit → Act → World → Prop}
/-- copy of cells from somewhere into a row of one's own, from a place on to its end at most. -/
theorem wpList_copy_at (hgd : o.guard = none) (d s : Operand) (dT sT : TypeId) (ho : o.op = .call { callee := .builtin .copy, args := #[d, s], argTypes := #[dT, sT] })
    (base : Nat) (e : TypeId) (k : IntKind) (hu : P.underlying dT = some (.slice e)) (hsz : (P.info? e).map (·.size) = some 1)
    (g L cap off : Nat) (F : Nat → Int) (dLen dCap : Nat) (hd : a.eval d = .slice (some ⟨g, off, none⟩) dLen dCap) (hdl : off + dLen = L)
    (gs os sLen sCap : Nat) (hs : a.eval s = .slice (some ⟨gs, os, none⟩) sLen sCap) (c : Nat) (hc0 : c = Nat.min sLen dLen) (S : Nat → Int) (hsrc : ∀ j, j < c → w.cell? ⟨gs, os + j, none⟩ = some (.int k (S j)))
    (hrow : Row e k w base (.slice (some ⟨g, 0, none⟩) L cap) (fl L F))
    (h : ∀ w', Row e k w' base (.slice (some ⟨g, 0, none⟩) L cap) (fl L fun t => if off ≤ t ∧ t < off + c then S (t - off) else F t) → w.grownBy w' (some g) → wpList P ops Q rest (a.put o.dst (.int .i64 c)) w') : wpList P ops Q (o :: rest) a w := by
  rcases hrow.2 with ⟨h1, _⟩ | ⟨g2, cap2, cur, h1, hb, hg, hc, hx, hcs, ht⟩
  · simp at h1
  simp only [fl_length, Value.slice.injEq, Option.some.injEq, Addr.mk.injEq, and_true, true_and] at h1
  obtain ⟨rfl, rfl⟩ := h1
  rw [fl_length] at hc ht
  rw [Nat.mul_one] at ht hcs
  have hcl : c ≤ dLen := by rw [hc0]; exact Nat.min_le_right _ _
  have hlen : ((fl c S).map (Value.int k)).length = c := by rw [List.length_map, fl_length]
  have hgi : (goInt ((fl c S).map (Value.int k)).length : Value) = .int .i64 c := by rw [hlen]; rfl
  have hsz2 : cur.toList.length = cap := by simp [hcs]
  refine wpList_copy_own hgd d s dT sT ho e hu hsz g off dLen dCap ⟨gs, os, none⟩ sLen sCap hd hs cur e hg ((fl c S).map (Value.int k)) (by rw [hlen]; exact hc0) ?_ (by rw [hlen]; omega) (ints_one k _) ?_
  · intro j v hj
    have hjl : j < c := by
      have := (List.getElem?_eq_some_iff.mp hj).1
      rwa [hlen] at this
    rw [List.getElem?_map, List.getElem?_eq_getElem (by rw [fl_length]; exact hjl)] at hj
    simp [fl] at hj
    subst hj
    have e2 : (⟨gs, os, none⟩ : Addr).add j = ⟨gs, os + j, none⟩ := by unfold Addr.add; split <;> simp_all
    rw [e2]
    exact hsrc j hjl
  · rw [hgi, hlen]
    refine h _ ?_ ⟨rfl, rfl, rfl, by simp [World.setRow], fun j hj hne => setRow_other w g j _ (fun e2 => hne (by rw [e2]))⟩
    refine ⟨by simp, .inr ⟨g, cap, _, by rw [fl_length], hb, setRow_heap w g _ _ e _ hg, by rw [fl_length]; exact hc, hx, ?_, ?_⟩⟩
    · simp [fl_length]; omega
    · rw [fl_length, Nat.mul_one]
      apply List.ext_getElem?
      intro j
      by_cases hj : j < L
      · rw [List.getElem?_take_of_lt hj]
        have hm : ((fl L fun t => if off ≤ t ∧ t < off + c then S (t - off) else F t).map (Value.int k))[j]? = some (Value.int k (if off ≤ j ∧ j < off + c then S (j - off) else F j)) := by
          rw [List.getElem?_map, List.getElem?_eq_getElem (by rw [fl_length]; exact hj)]
          simp [fl]
        rw [hm]
        have h4 : cur.toList[j]? = some (Value.int k (F j)) := by
          have h5 : (cur.toList.take L)[j]? = some (Value.int k (F j)) := by
            rw [ht, List.getElem?_map, List.getElem?_eq_getElem (by rw [fl_length]; exact hj)]
            simp [fl]
          rwa [List.getElem?_take_of_lt hj] at h5
        have hto : (cur.toList.take off).length = off := by rw [List.length_take]; omega
        by_cases h6 : j < off
        · rw [if_neg (by omega), List.getElem?_append_left (by rw [hto]; exact h6), List.getElem?_take_of_lt h6, h4]
        · rw [List.getElem?_append_right (by rw [hto]; omega), hto]
          by_cases h7 : j < off + c
          · rw [if_pos ⟨by omega, h7⟩, List.getElem?_append_left (by rw [hlen]; omega), List.getElem?_map, List.getElem?_eq_getElem (by rw [fl_length]; omega)]
            simp [fl]
          · rw [if_neg (by omega), List.getElem?_append_right (by rw [hlen]; omega), hlen, List.getElem?_drop, show off + c + (j - off - c) = j by omega, h4]
      · rw [List.getElem?_eq_none (by rw [List.length_take]; omega), List.getElem?_eq_none (by rw [List.length_map, fl_length]; omega)]
end

end Go.Proofs.Ythlnbomapfjphaa
