/-
  ROUCHE; CAPELLI: with the other side as a column more the rank is the same just if there is an answer. No Go in sight.
-/
import Derived.Test.YthlnbomapfjphaaMxCols
import Derived.Test.YthlnbomapfjphaaGmx
namespace Go.Proofs.Ythlnbomapfjphaa.Gf

/-- The first place of all below c that is not 0. -/
theorem first_not {F : Nat → E} : ∀ c, (∀ j, j < c → F j = 0) ∨ ∃ k, k < c ∧ F k ≠ 0 ∧ ∀ j, j < k → F j = 0 := by
  intro c
  induction c with
  | zero => exact .inl fun j hj => absurd hj (Nat.not_lt_zero _)
  | succ c ih =>
    rcases ih with h | ⟨k, hk, h1, h2⟩
    · by_cases e : F c = 0
      · refine .inl fun j hj => ?_
        by_cases ej : j = c
        · rw [ej]; exact e
        · exact h j (by omega)
      · exact .inr ⟨c, by omega, e, h⟩
    · exact .inr ⟨k, by omega, h1, h2⟩

/-- The elimination, the pivot of each row the first that is not 0. -/
theorem elim_some (M : Nat → Nat → E) (n c : Nat) : ∀ p, p ≤ n → ∃ N P, Elim M N n c p P ∧ ∀ a ∈ P, ∀ j, j < a.2 → N a.1 j = 0 := by
  intro p
  induction p with
  | zero => intro _; exact ⟨M, [], Elim.start M n c, fun a ha => by cases ha⟩
  | succ p ih =>
    intro hp
    obtain ⟨N, P, h, hl⟩ := ih (by omega)
    rcases first_not (F := N p) c with h0 | ⟨k, hk, h0, h1⟩
    · exact ⟨N, P, h.skip h0, hl⟩
    · refine ⟨fun i j => if p < i then N i j + N i k * (N p k).inv * N p j else N i j, P ++ [(p, k)], h.step (by omega) hk h0 (fun i => N i k * (N p k).inv) (fun _ => rfl) fun i _ j _ => rfl, fun a ha j hj => ?_⟩
      rcases List.mem_append.mp ha with ha | ha
      · have := h.some a ha
        show (if p < a.1 then _ else N a.1 j) = 0
        rw [if_neg (by omega)]
        exact hl a ha j hj
      · obtain rfl := List.mem_singleton.mp ha
        show (if p < p then _ else N p j) = 0
        rw [if_neg (by omega)]
        exact h1 j hj

theorem Al.fewer {M N : Nat → Nat → E} {R C D : List Nat} (h : Al M N R C) (hD : ∀ j ∈ D, j ∈ C) : Al M N R D := by
  obtain ⟨⟨a, ha⟩, ⟨b, hb⟩⟩ := h
  exact ⟨⟨a, fun i hi j hj => ha i hi j (hD j hj)⟩, ⟨b, fun i hi j hj => hb i hi j (hD j hj)⟩⟩

/-- The last column left out. -/
theorem Elim.less {M N : Nat → Nat → E} {n c : Nat} {P : List (Nat × Nat)} (h : Elim M N n (c + 1) n P) (hl : ∀ a ∈ P, ∀ j, j < a.2 → N a.1 j = 0) : Elim M N n c n (P.filter fun a => decide (a.2 < c)) where
  al := h.al.fewer fun j hj => List.mem_range.mpr (by have := List.mem_range.mp hj; omega)
  some a ha := by
    obtain ⟨h1, h2⟩ := List.mem_filter.mp ha
    have := h.some a h1
    exact ⟨this.1, by simpa using h2, this.2.2⟩
  rows := h.rows.sublist (List.filter_sublist.map _)
  cols := h.cols.sublist (List.filter_sublist.map _)
  steps := h.steps.sublist List.filter_sublist
  ahead a ha i hi hn := by omega
  nought i hi hn hni j hj := by
    by_cases e : i ∈ P.map (·.1)
    · obtain ⟨a, ha, rfl⟩ := List.mem_map.mp e
      by_cases e2 : a.2 < c
      · exact absurd (List.mem_map.mpr ⟨a, List.mem_filter.mpr ⟨ha, by simpa using e2⟩, rfl⟩) hni
      · exact hl a ha j (by omega)
    · exact h.nought i hi hn e j (by omega)

/-- Steps can be solved, from the last one up. -/
theorem steps_solve {N : Nat → Nat → E} {c : Nat} (F : Nat → E) : ∀ (P : List (Nat × Nat)), P.Pairwise (fun a b => N b.1 a.2 = 0) → (∀ a ∈ P, a.2 < c ∧ N a.1 a.2 ≠ 0) → ∃ X : Nat → E, ∀ a ∈ P, sg (fun j => N a.1 j * X j) (List.range c) = F a.1 := by
  intro P
  induction P with
  | nil => intro _ _; exact ⟨fun _ => 0, fun a ha => by cases ha⟩
  | cons p P ih =>
    intro hp h0
    rw [List.pairwise_cons] at hp
    obtain ⟨X, hX⟩ := ih hp.2 fun a ha => h0 a (List.mem_cons_of_mem _ ha)
    obtain ⟨k1, k2⟩ := h0 p (List.mem_cons_self ..)
    obtain ⟨t, ht⟩ : ∃ t, t = (F p.1 + sg (fun j => N p.1 j * X j) (List.range c)) * (N p.1 p.2).inv := ⟨_, rfl⟩
    have key : ∀ i, sg (fun j => N i j * (X j + if j = p.2 then t else 0)) (List.range c) = sg (fun j => N i j * X j) (List.range c) + N i p.2 * t := fun i => by
      rw [sg_congr (H := fun j => N i j * X j + if j = p.2 then N i j * t else 0) fun j _ => by
        rw [E.mul_add]
        by_cases e : j = p.2
        · rw [if_pos e, if_pos e]
        · rw [if_neg e, if_neg e, E.mul_zero], sg_add]
      congr 1
      exact sg_one List.nodup_range (List.mem_range.mpr k1) fun j => N i j * t
    refine ⟨fun j => X j + if j = p.2 then t else 0, fun a ha => ?_⟩
    rw [key]
    rcases List.mem_cons.mp ha with rfl | ha
    · rw [ht, E.mul_comm _ (N a.1 a.2).inv, ← E.mul_assoc, E.mul_inv k2, E.one_mul, E.add_comm (F a.1), ← E.add_assoc, E.add_self, E.zero_add]
    · rw [hp.1 a ha, E.zero_mul, E.add_zero, hX a ha]

theorem sg_last (F : Nat → E) (k : Nat) : sg F (List.range (k + 1)) = sg F (List.range k) + F k := by
  rw [List.range_succ, sg_append]
  show _ + (F k + 0) = _
  rw [E.add_zero]

/-- With F as column c. -/
def wid (A : Nat → Nat → E) (F : Nat → E) (c : Nat) : Nat → Nat → E := fun i j => if j = c then F i else A i j

theorem wid_le {A : Nat → Nat → E} {F : Nat → E} {n c r s : Nat} (hr : Rk A (List.range n) (List.range c) r) (hs : Rk (wid A F c) (List.range n) (List.range (c + 1)) s) : r ≤ s := by
  have h : Hm (wid A F c) (List.range n) (List.range c) r := hr.1.entries fun i _ j hj => by
    have := List.mem_range.mp hj
    unfold wid
    rw [if_neg (by omega)]
  obtain ⟨R', C', k1, k2, k3, k4, k5⟩ := h
  exact hs.2 r ⟨R', C', k1, k2, k3, fun j hj => List.mem_range.mpr (by have := List.mem_range.mp (k4 j hj); omega), k5⟩

theorem capelli {A : Nat → Nat → E} {F : Nat → E} {n c r s : Nat} (hr : Rk A (List.range n) (List.range c) r) (hs : Rk (wid A F c) (List.range n) (List.range (c + 1)) s) :
    s = r ↔ ∃ X : Nat → E, ∀ i, i < n → sg (fun k => A i k * X k) (List.range c) = F i := by
  have hA : ∀ i j, j ∈ List.range c → wid A F c i j = A i j := fun i j hj => by
    have := List.mem_range.mp hj
    unfold wid
    rw [if_neg (by omega)]
  have hr' : Rk (wid A F c) (List.range n) (List.range c) r := ⟨hr.1.entries fun i _ j hj => (hA i j hj).symm, fun t ht => hr.2 t (ht.entries fun i _ j hj => hA i j hj)⟩
  constructor
  · intro e
    obtain ⟨N, P, h, hl⟩ := elim_some (wid A F c) n (c + 1) n (Nat.le_refl _)
    have h1 := h.rank.uniq hs
    have h2 := (h.less hl).rank.uniq hr'
    have h3 : P.filter (fun a => decide (a.2 < c)) = P := List.filter_sublist.eq_of_length (by omega)
    have hP : ∀ a ∈ P, a.2 < c := fun a ha => by
      rw [← h3] at ha
      simpa using (List.mem_filter.mp ha).2
    obtain ⟨X, hX⟩ := steps_solve (N := N) (c := c) (fun i => N i c) P h.steps fun a ha => ⟨hP a ha, (h.some a ha).2.2⟩
    have h4 := h.al.symm.orth (fun j => if j = c then 1 else X j) fun i hi => by
      rw [sg_last, if_pos rfl, E.mul_one, sg_congr (H := fun j => N i j * X j) fun j hj => by
        have := List.mem_range.mp hj
        rw [if_neg (by omega)]]
      by_cases hiP : i ∈ P.map (·.1)
      · obtain ⟨a, ha, rfl⟩ := List.mem_map.mp hiP
        rw [hX a ha, E.add_self]
      · have hz := h.nought i (List.mem_range.mp hi) (List.mem_range.mp hi) hiP
        rw [sg_congr (H := fun _ => 0) fun j hj => by rw [hz j (by have := List.mem_range.mp hj; omega), E.zero_mul], sg_zero, hz c (by omega), E.add_zero]
    refine ⟨X, fun i hi => ?_⟩
    have h5 := h4 i (List.mem_range.mpr hi)
    rw [sg_last, if_pos rfl, E.mul_one, sg_congr (H := fun k => A i k * X k) fun j hj => by
      rw [hA i j hj]
      have := List.mem_range.mp hj
      rw [if_neg (by omega)], show wid A F c i c = F i from if_pos rfl] at h5
    have h6 := congrArg (fun x => x + F i) h5
    rwa [E.add_assoc, E.add_self, E.add_zero, E.zero_add] at h6
  · rintro ⟨X, hX⟩
    have hc : Hm (wid A F c) (List.range n) (c :: List.range c) s := by
      obtain ⟨R', C', k1, k2, k3, k4, k5⟩ := hs.1
      refine ⟨R', C', k1, k2, k3, fun j hj => ?_, k5⟩
      have := List.mem_range.mp (k4 j hj)
      by_cases e : j = c
      · exact List.mem_cons.mpr (.inl e)
      · exact List.mem_cons_of_mem _ (List.mem_range.mpr (by omega))
    have h1 := Hm.column (x := X) (fun i hi => by
      rw [show wid A F c i c = F i from if_pos rfl, ← hX i (List.mem_range.mp hi)]
      exact sg_congr fun j hj => by rw [hA i j hj]) List.nodup_range hc
    have h2 := hr'.2 s h1
    obtain ⟨R', C', k1, k2, k3, k4, k5⟩ := hr'.1
    have h3 := hs.2 r ⟨R', C', k1, k2, k3, fun j hj => List.mem_range.mpr (by have := List.mem_range.mp (k4 j hj); omega), k5⟩
    omega

end Go.Proofs.Ythlnbomapfjphaa.Gf
