/-
  Rows of integers: cut shorter, read from a place on, copied over.
-/
import Derived.Test.YtfdhhiibhkepaaaFl
import Derived.Test.YtfdhhiibhkepaaaClone
import Derived.Laws.CopyOwn
namespace Go.Proofs.Ytfdhhiibhkepaaa
open Go.RowKit

theorem Row.cut {e : TypeId} {k : IntKind} {w : World} {base g n cap m : Nat} {xs : List Int} (h : Row e k w base (.slice (some ⟨g, 0, none⟩) n cap) xs) (hn : n = xs.length) (hm : m ≤ n) : Row e k w base (.slice (some ⟨g, 0, none⟩) m cap) (xs.take m) := by
  subst hn
  rcases h.2 with ⟨h1, _⟩ | ⟨g2, cap2, cur, h1, hb, hg, hc, hx, hs, ht⟩
  · simp at h1
  · simp only [Value.slice.injEq, Option.some.injEq, Addr.mk.injEq, and_true, true_and] at h1
    obtain ⟨rfl, rfl⟩ := h1
    have hl : (xs.take m).length = m := by simp; omega
    refine ⟨by simp, .inr ⟨g, cap, cur, by rw [hl], hb, hg, by rw [hl]; omega, hx, hs, ?_⟩⟩
    rw [Nat.mul_one] at ht ⊢
    rw [hl, List.map_take, ← ht, List.take_take]
    congr 1
    omega

theorem Reads.take {w : World} {k : IntKind} {a : Option Addr} {xs : List Int} (h : Reads w k a xs) (n : Nat) : Reads w k a (xs.take n) := by
  rcases h with rfl | ⟨b, off, h1, h2⟩
  · exact .inl (by simp)
  · refine .inr ⟨b, off, h1, fun i hi => ?_⟩
    have hi2 : i < n ∧ i < xs.length := by rw [List.length_take] at hi; omega
    rw [h2 i hi2.2, nth_eq hi2.2, nth_eq hi]
    simp

theorem Row.flcong {e : TypeId} {k : IntKind} {w : World} {base L : Nat} {v : Value} {F H : Nat → Int} (h : Row e k w base v (fl L F)) (he : ∀ t, t < L → F t = H t) : Row e k w base v (fl L H) := by
  rw [← fl_congr he]; exact h

/-- A value's own row is there, or it is nil and empty. -/
theorem Row.cases {e : TypeId} {k : IntKind} {w : World} {base : Nat} {v : Value} {xs : List Int} (h : Row e k w base v xs) :
    (v = .slice none 0 0 ∧ xs = []) ∨ ∃ g cap, v = .slice (some ⟨g, 0, none⟩) xs.length cap ∧ xs.length ≤ cap ∧ cap ≤ 9223372036854775807 := by
  rcases h.form with h1 | ⟨g, cap, h1, _, _, h2, h3, _⟩
  · exact .inl h1
  · exact .inr ⟨g, cap, h1, h2, by unfold maxLen at h3; omega⟩

section
variable {P : Program} {w : World} {ops : Array Oper} {rest : List Oper} {o : Oper} {a : Act} {Q : Exit → Act → World → Prop}

/-- copy(row, xs) where there is room. -/
theorem wpList_copy_ints (hgd : o.guard = none) (d s : Operand) (dT sT : TypeId) (ho : o.op = .call { callee := .builtin .copy, args := #[d, s], argTypes := #[dT, sT] })
    (base : Nat) (e : TypeId) (k : IntKind) (hu : P.underlying dT = some (.slice e)) (hsz : (P.info? e).map (·.size) = some 1)
    (g L cap : Nat) (F : Nat → Int) (hd : a.eval d = .slice (some ⟨g, 0, none⟩) L cap) (hrow : Row e k w base (.slice (some ⟨g, 0, none⟩) L cap) (fl L F))
    (xs : List Int) (n : Nat) (hnx : xs.length = n) (sp : Option Addr) (sCap : Nat) (hs : a.eval s = .slice sp n sCap) (hr : Reads w k sp xs) (hl : n ≤ L)
    (h : ∀ w', Row e k w' base (.slice (some ⟨g, 0, none⟩) L cap) (fl L fun t => if t < n then nth xs t else F t) → w.grownBy w' (some g) → wpList P ops Q rest (a.put o.dst (.int .i64 n)) w') : wpList P ops Q (o :: rest) a w := by
  subst hnx
  rcases hrow.2 with ⟨h1, _⟩ | ⟨g2, cap2, cur, h1, hb, hg, hc, hx, hcs, ht⟩
  · simp at h1
  simp only [fl_length, Value.slice.injEq, Option.some.injEq, Addr.mk.injEq, and_true, true_and] at h1
  obtain ⟨rfl, rfl⟩ := h1
  rw [fl_length] at hc ht
  rw [Nat.mul_one] at ht hcs
  have hgi : (goInt xs.length : Value) = .int .i64 xs.length := rfl
  have hmin : Nat.min xs.length L = xs.length := Nat.min_eq_left hl
  by_cases h0 : xs.length = 0
  · refine wpList_copy_nothing hgd d s dT sT ho e hu hsz _ sp L cap xs.length sCap hd hs (by rw [hmin]; exact h0) ?_
    have := h w (hrow.flcong fun t _ => by rw [if_neg (by omega)]) ⟨rfl, rfl, rfl, Nat.le_refl _, fun _ _ _ => rfl⟩
    rw [h0] at this
    exact this
  · rcases hr with rfl | ⟨b, off, rfl, hcell⟩
    · exact absurd rfl h0
    have hsz2 : cur.toList.length = cap := by simp [hcs]
    refine wpList_copy_own hgd d s dT sT ho e hu hsz g 0 L cap ⟨b, off, none⟩ xs.length sCap hd hs cur e hg (xs.map (Value.int k)) (by rw [List.length_map, hmin]) ?_ (by rw [List.length_map]; omega) (ints_one k xs) ?_
    · intro j v hj
      have hjl : j < xs.length := by
        have := (List.getElem?_eq_some_iff.mp hj).1
        simpa using this
      rw [List.getElem?_map, List.getElem?_eq_getElem hjl] at hj
      simp at hj
      subst hj
      have e2 : (⟨b, off, none⟩ : Addr).add j = ⟨b, off + j, none⟩ := by unfold Addr.add; split <;> simp_all
      rw [e2, hcell j hjl, nth_eq hjl]
    · rw [List.length_map]
      refine h _ ?_ ⟨rfl, rfl, rfl, by simp [World.setRow], fun j hj hne => setRow_other w g j _ (fun e2 => hne (by rw [e2]))⟩
      refine ⟨by simp, .inr ⟨g, cap, _, by rw [fl_length], hb, setRow_heap w g _ _ e _ hg, by rw [fl_length]; exact hc, hx, ?_, ?_⟩⟩
      · simp; omega
      · rw [fl_length, Nat.mul_one]
        apply List.ext_getElem?
        intro j
        by_cases hj : j < L
        · rw [List.getElem?_take_of_lt hj]
          have hm : ((fl L fun t => if t < xs.length then nth xs t else F t).map (Value.int k))[j]? = some (Value.int k (if j < xs.length then nth xs j else F j)) := by
            rw [List.getElem?_map, List.getElem?_eq_getElem (by rw [fl_length]; exact hj)]
            simp [fl]
          rw [hm]
          by_cases hjx : j < xs.length
          · rw [if_pos hjx]
            simp only [List.take_zero, List.nil_append]
            rw [List.getElem?_append_left (by simpa using hjx), List.getElem?_map, List.getElem?_eq_getElem hjx, nth_eq hjx]
            rfl
          · rw [if_neg hjx]
            simp only [List.take_zero, List.nil_append]
            rw [List.getElem?_append_right (by simp; omega), List.getElem?_drop, List.length_map]
            have h4 : (cur.toList.take L)[j]? = some (Value.int k (F j)) := by
              rw [ht, List.getElem?_map, List.getElem?_eq_getElem (by rw [fl_length]; exact hj)]
              simp [fl]
            rw [List.getElem?_take_of_lt hj] at h4
            rw [show 0 + xs.length + (j - xs.length) = j by omega]
            exact h4
        · rw [List.getElem?_take_eq_none (by omega), List.getElem?_eq_none (by simp [fl]; omega)]
end

end Go.Proofs.Ytfdhhiibhkepaaa
