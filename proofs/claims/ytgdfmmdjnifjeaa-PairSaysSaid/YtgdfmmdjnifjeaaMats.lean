/-
  A slice of slices of numbers that came in: what a walk is told of it.
-/
import Derived.Test.YtgdfmmdjnifjeaaGro
import Derived.Deep.Matrix
namespace Go.Proofs.Ytgdfmmdjnifjeaa
open Go.RowKit Go.ChangeShapes Go.WideShapes

/-- Row r; nothing behind the end. -/
def rowM (m : List (List Int)) (r : Nat) : List Int := m.getD r []
theorem rowM_eq {m : List (List Int)} {r : Nat} (h : r < m.length) : rowM m r = m[r] := by
  unfold rowM; rw [List.getD_eq_getElem?_getD, List.getElem?_eq_getElem h]; rfl
theorem rowM_mem {m : List (List Int)} {r : Nat} (h : r < m.length) : rowM m r ∈ m := by rw [rowM_eq h]; exact List.getElem_mem h
theorem rowM_over {m : List (List Int)} {r : Nat} (h : m.length ≤ r) : rowM m r = [] := by
  unfold rowM; rw [List.getD_eq_getElem?_getD, List.getElem?_eq_none h]; rfl

/-- The slice at a reads as the rows m, in the world w. -/
def ReadsM (k : IntKind) (w : World) (a : Option Addr) (m : List (List Int)) : Prop :=
  m = [] ∨ ∃ b off, a = some ⟨b, off, none⟩ ∧ ∀ r, r < m.length → ∃ (ar : Option Addr) (c : Nat), w.cell? ⟨b, off + r, none⟩ = some (.slice ar (rowM m r).length c) ∧ Reads w k ar (rowM m r) ∧ (rowM m r).length ≤ c ∧ c ≤ maxLen ∧ (ar = none → c = 0)

theorem ReadsM.ex {k : IntKind} {w w2 : World} {a : Option Addr} {m : List (List Int)} (h : ReadsM k w a m) (hx : Ex w w2) : ReadsM k w2 a m := by
  rcases h with h | ⟨b, off, h1, h2⟩
  · exact .inl h
  · refine .inr ⟨b, off, h1, fun r hr => ?_⟩
    obtain ⟨ar, c, k1, k2, k3, k4, k5⟩ := h2 r hr
    exact ⟨ar, c, hx.cell k1, k2.ex hx, k3, k4, k5⟩

theorem ReadsM.take {k : IntKind} {w : World} {a : Option Addr} {m : List (List Int)} (h : ReadsM k w a m) (n : Nat) : ReadsM k w a (m.take n) := by
  rcases h with h | ⟨b, off, h1, h2⟩
  · exact .inl (by rw [h]; simp)
  · refine .inr ⟨b, off, h1, fun r hr => ?_⟩
    have hr2 : r < n ∧ r < m.length := by rw [List.length_take] at hr; omega
    have e : rowM (m.take n) r = rowM m r := by rw [rowM_eq hr, rowM_eq hr2.2]; simp
    rw [e]
    exact h2 r hr2.2

/-- What a walk is told of a slice of slices of numbers that came in. -/
def IsMat (k : IntKind) (w : World) (a : Option Addr) (len cap : Nat) (m : List (List Int)) : Prop :=
  m.length = len ∧ len ≤ cap ∧ cap * 24 ≤ 140737488351232 ∧ ReadsM k w a m ∧ (a = none → cap = 0) ∧ ∀ r ∈ m, (∀ n ∈ r, (Lit.int k n).wf = true) ∧ r.length ≤ maxLen

theorem spotless {w : World} {x : Addr} {v : Value} (h : w.cell? x = some v) : x.spot = none := by
  unfold World.cell? at h
  split at h
  · split at h
    · cases h
    · rename_i hh
      simpa using hh
  · cases h

theorem mats_of {H : Type} {enc : TypeId × Value → H} {P : Program} {W : World} {t e q : TypeId} {k : IntKind} {a : Option Addr} {len cap : Nat} {d : DataW H} {ps : List MemPlace}
    (ht : P.underlying t = some (.slice e)) (he : P.underlying e = some (.slice q)) (hq : P.underlying q = some (.int k)) (ce : P.cellsOf e = 1) (cq : P.cellsOf q = 1) (h : DataW.Trod enc P W 0 (fun _ => true) true t (.slice a len cap) d ps)
    (hsz : ∀ elems spare, d = .slice elems spare → (elems.length + spare.length) * 24 ≤ reachBytes) : ∃ m, IsMat k W a len cap m := by
  obtain ⟨fuel, hf⟩ := h
  rcases Deep.open_int_rows ht he hq ce cq hf with ⟨hcs, _⟩ | ⟨x, l, c, A, L, C, Z, hcs, _, hl, hm, hx, hall⟩
  · simp [Value.cells] at hcs
    obtain ⟨rfl, rfl, rfl⟩ := hcs
    exact ⟨[], rfl, Nat.le_refl _, by omega, .inl rfl, fun _ => rfl, fun r h => by cases h⟩
  · simp [Value.cells] at hcs
    obtain ⟨rfl, rfl, rfl⟩ := hcs
    simp only [Prod.mk.injEq] at hx
    have hs := hsz _ _ hx.1
    simp only [List.length_map, List.length_range, reachBytes] at hs
    have hrow : ∀ r, r < len → rowM ((List.range len).map fun r => (Z r).take (L r)) r = (Z r).take (L r) := fun r hr => by
      rw [rowM_eq (by simpa using hr)]; simp
    have hlen : ∀ r, r < len → ((Z r).take (L r)).length = L r := fun r hr => by
      obtain ⟨_, h2, _, h4, _⟩ := hall r (by omega)
      rw [List.length_take]; omega
    refine ⟨(List.range len).map fun r => (Z r).take (L r), by simp, hl, by omega, ?_, (by intro h; cases h), ?_⟩
    · by_cases h0 : len = 0
      · subst h0; exact .inl rfl
      · have hx0 := (hall 0 (by omega)).1
        have hsp := spotless (x := x.add 0) hx0
        have e0 : x.add 0 = x := rfl
        rw [e0] at hsp
        obtain ⟨b, off, sp⟩ := x
        simp only at hsp
        subst hsp
        refine .inr ⟨b, off, rfl, fun r hr => ?_⟩
        have hr2 : r < len := by simpa using hr
        obtain ⟨g1, g2, g3, g4, g5, g6, g7⟩ := hall r (by omega)
        have e2 : (⟨b, off, none⟩ : Addr).add r = ⟨b, off + r, none⟩ := by unfold Addr.add; split <;> simp_all
        rw [e2] at g1
        rw [hrow r hr2]
        refine ⟨A r, C r, by rw [hlen r hr2]; exact g1, ?_, by rw [hlen r hr2]; exact g2, g3, g6⟩
        by_cases hL : L r = 0
        · exact .inl (by rw [hL]; simp)
        · cases hA : A r with
          | none => have := g6 hA; omega
          | some y =>
            obtain ⟨_, g8⟩ := g7 y hA
            have hsy := spotless (x := y.add 0) (g8 0 (by omega))
            have e3 : y.add 0 = y := rfl
            rw [e3] at hsy
            obtain ⟨by_, oy, sy⟩ := y
            simp only at hsy
            subst hsy
            refine .inr ⟨by_, oy, rfl, fun i hi => ?_⟩
            have hi2 : i < L r := by rw [hlen r hr2] at hi; exact hi
            have h1 := g8 i (by omega)
            have e4 : (⟨by_, oy, none⟩ : Addr).add i = ⟨by_, oy + i, none⟩ := by unfold Addr.add; split <;> simp_all
            rw [e4] at h1
            rw [h1, nth_eq hi]
            have hiz : i < (Z r).length := by omega
            simp [hiz]
    · intro r hr
      simp only [List.mem_map, List.mem_range] at hr
      obtain ⟨i, hi, rfl⟩ := hr
      obtain ⟨_, g2, g3, g4, g5, _⟩ := hall i (by omega)
      exact ⟨fun n hn => g5 n (List.mem_of_mem_take hn), by rw [hlen i hi]; omega⟩

/-- The same, as an equation for the walk: row r is a slice of this length, that reads so. -/
theorem ReadsM.row {k : IntKind} {w : World} {a : Option Addr} {m : List (List Int)} (h : ReadsM k w a m) {r : Nat} (hr : r < m.length) :
    ∃ (b off : Nat) (ar : Option Addr) (c : Nat), a = some ⟨b, off, none⟩ ∧ w.cell? ⟨b, off + r, none⟩ = some (.slice ar (rowM m r).length c) ∧ Reads w k ar (rowM m r) ∧ (rowM m r).length ≤ c ∧ c ≤ maxLen ∧ (ar = none → c = 0) := by
  rcases h with h | ⟨b, off, h1, h2⟩
  · rw [h] at hr; exact absurd hr (Nat.not_lt_zero _)
  · obtain ⟨ar, c, g⟩ := h2 r hr
    exact ⟨b, off, ar, c, h1, g⟩

end Go.Proofs.Ytgdfmmdjnifjeaa
