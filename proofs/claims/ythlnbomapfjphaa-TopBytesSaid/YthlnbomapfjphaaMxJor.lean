/-
  GAUSS and JORDAN: the elimination above and below; what undoes; systems. No Go in sight.
-/
import Derived.Test.YthlnbomapfjphaaMxEch
namespace Go.Proofs.Ythlnbomapfjphaa.Gf

/-- The first `col` of c columns are done: pivots are 1, alone in their columns; the further rows are 0 there. -/
structure Jor (M0 M : Nat → Nat → E) (n c col : Nat) (P : List (Nat × Nat)) : Prop where
  al : Al M0 M (List.range n) (List.range c)
  rows : P.map (·.1) = List.range P.length
  few : P.length ≤ n
  one : ∀ a ∈ P, a.2 < col ∧ M a.1 a.2 = 1
  alone : ∀ a ∈ P, ∀ i, i < n → i ≠ a.1 → M i a.2 = 0
  cols : (P.map (·.2)).Pairwise (· < ·)
  zero : ∀ i, P.length ≤ i → i < n → ∀ j, j < col → M i j = 0

theorem Jor.lt {M0 M : Nat → Nat → E} {n c col : Nat} {P : List (Nat × Nat)} (h : Jor M0 M n c col P) {a : Nat × Nat} (ha : a ∈ P) : a.1 < P.length := by
  have : a.1 ∈ P.map (·.1) := List.mem_map.mpr ⟨a, ha, rfl⟩
  rw [h.rows] at this
  exact List.mem_range.mp this

theorem Jor.start (M : Nat → Nat → E) (n c : Nat) : Jor M M n c 0 [] where
  al := Al.refl M List.nodup_range _
  rows := rfl
  few := Nat.zero_le _
  one a ha := by cases ha
  alone a ha := by cases ha
  cols := List.Pairwise.nil
  zero i _ _ j hj := absurd hj (Nat.not_lt_zero _)

theorem Jor.skip {M0 M : Nat → Nat → E} {n c col : Nat} {P : List (Nat × Nat)} (h : Jor M0 M n c col P) (h0 : ∀ i, P.length ≤ i → i < n → M i col = 0) : Jor M0 M n c (col + 1) P where
  al := h.al
  rows := h.rows
  few := h.few
  one a ha := ⟨by have := (h.one a ha).1; omega, (h.one a ha).2⟩
  alone := h.alone
  cols := h.cols
  zero i hi hn j hj := by
    by_cases e : j = col
    · rw [e]; exact h0 i hi hn
    · exact h.zero i hi hn j (by omega)

theorem Jor.swap {M0 M N : Nat → Nat → E} {n c col r s : Nat} {P : List (Nat × Nat)} (h : Jor M0 M n c col P) (hr : P.length ≤ r) (hrn : r < n) (hs : P.length ≤ s) (hsn : s < n) (hN : ∀ i, i < n → ∀ j, N i j = M (swi r s i) j) : Jor M0 N n c col P where
  al := h.al.trans (Al.turn List.nodup_range (swi r s) (fun i hi => List.mem_range.mpr (swi_lt hrn hsn (List.mem_range.mp hi))) (fun i _ => swi_swi r s i) fun i hi j _ => hN i (List.mem_range.mp hi) j)
  rows := h.rows
  few := h.few
  one a ha := by
    have h1 := h.lt ha
    have h2 := h.few
    rw [hN _ (by omega), show swi r s a.1 = a.1 by unfold swi; rw [if_neg (by omega), if_neg (by omega)]]
    exact h.one a ha
  alone a ha i hn hne := by
    rw [hN i hn]
    have h1 := h.lt ha
    refine h.alone a ha _ (swi_lt hrn hsn hn) ?_
    unfold swi
    split
    · omega
    · split
      · omega
      · exact hne
  cols := h.cols
  zero i hi hn j hj := by
    rw [hN i hn]
    refine h.zero _ ?_ (swi_lt hrn hsn hn) j hj
    unfold swi
    split
    · exact hs
    · split
      · exact hr
      · exact hi

/-- The row becomes 1 at the pivot, and is taken from all others. -/
theorem Jor.step {M0 M N : Nat → Nat → E} {n c col p : Nat} {P : List (Nat × Nat)} (h : Jor M0 M n c col P) (hpe : P.length = p) (hp : p < n) (hc : col < c) (h0 : M p col ≠ 0)
    (hN : ∀ i, i < n → ∀ j, j < c → N i j = if i = p then M p j * (M p col).inv else M i j + (M p j * (M p col).inv) * M i col) : Jor M0 N n c (col + 1) (P ++ [(p, col)]) := by
  subst hpe
  have hpc : M P.length col * (M P.length col).inv = 1 := E.mul_inv h0
  have old : ∀ a ∈ P, ∀ i, i < n → N i a.2 = M i a.2 := fun a ha i hi => by
    have h1 := h.one a ha
    have h2 := h.zero P.length (Nat.le_refl _) hp _ h1.1
    rw [hN i hi _ (by omega), h2]
    by_cases e : i = P.length
    · rw [if_pos e, E.zero_mul, e, h2]
    · rw [if_neg e, E.zero_mul, E.zero_mul, E.add_zero]
  have hcol : ∀ i, i < n → N i col = if i = P.length then 1 else 0 := fun i hi => by
    rw [hN i hi _ hc]
    by_cases e : i = P.length
    · rw [if_pos e, if_pos e, hpc]
    · rw [if_neg e, if_neg e, hpc, E.one_mul, E.add_self]
  have hal : Al M N (List.range n) (List.range c) := by
    refine Al.trans (N := fun i j => (if i = P.length then (M P.length col).inv else 1) * M i j) (Al.scale List.nodup_range (fun i => if i = P.length then (M P.length col).inv else 1) (fun i _ => ?_) fun i _ j _ => rfl)
      (Al.take List.nodup_range (k := P.length) (List.mem_range.mpr hp) (fun i => if i = P.length then 0 else M i col) (if_pos rfl) fun i hi j hj => ?_)
    · by_cases e : i = P.length
      · rw [if_pos e]
        intro h2
        rw [h2, E.mul_zero] at hpc
        exact E.one_ne hpc.symm
      · rw [if_neg e]; exact E.one_ne
    · rw [hN i (List.mem_range.mp hi) j (List.mem_range.mp hj), if_pos rfl]
      by_cases e : i = P.length
      · rw [if_pos e, if_pos e, if_pos e, E.zero_mul, E.add_zero, e, E.mul_comm]
      · rw [if_neg e, if_neg e, if_neg e, E.one_mul, E.mul_comm (M i col), E.mul_comm (M P.length col).inv]
  refine ⟨h.al.trans hal, ?_, by rw [List.length_append]; show P.length + 1 ≤ n; omega, fun a ha => ?_, fun a ha i hn hne => ?_, ?_, fun i hi hn j hj => ?_⟩
  · rw [List.map_append, h.rows, List.length_append]
    show List.range P.length ++ [P.length] = List.range (P.length + 1)
    rw [List.range_succ]
  · rcases List.mem_append.mp ha with ha | ha
    · have h1 := h.one a ha
      have h2 := h.lt ha
      exact ⟨by omega, by rw [old a ha _ (by omega)]; exact h1.2⟩
    · obtain rfl := List.mem_singleton.mp ha
      exact ⟨by show col < col + 1; omega, by show N P.length col = 1; rw [hcol _ hp, if_pos rfl]⟩
  · rcases List.mem_append.mp ha with ha | ha
    · rw [old a ha i hn]; exact h.alone a ha i hn hne
    · obtain rfl := List.mem_singleton.mp ha
      show N i col = 0
      rw [hcol i hn]
      exact if_neg hne
  · rw [List.map_append, List.pairwise_append]
    refine ⟨h.cols, List.pairwise_singleton _ _, fun x hx y hy => ?_⟩
    obtain ⟨a, ha, rfl⟩ := List.mem_map.mp hx
    simp at hy
    have := (h.one a ha).1
    omega
  · rw [List.length_append] at hi
    have hi2 : P.length < i := hi
    by_cases e : j = col
    · rw [e, hcol i hn, if_neg (by omega)]
    · rw [hN i hn _ (by omega), if_neg (by omega), h.zero i (by omega) hn _ (by omega), h.zero P.length (Nat.le_refl _) hp _ (by omega), E.zero_mul, E.zero_mul, E.add_zero]

/-- Numbers that rise, as many as there is room for. -/
theorem rise_all : ∀ (l : List Nat) (n : Nat), l.Pairwise (· < ·) → (∀ x ∈ l, x < n) → l.length = n → l = List.range n := by
  intro l n hp hl hlen
  have hn : l.Nodup := hp.imp fun h => Nat.ne_of_lt h
  have hperm : l.Perm (List.range n) := by
    refine (List.perm_ext_iff_of_nodup hn List.nodup_range).mpr fun x => ⟨fun hx => List.mem_range.mpr (hl x hx), fun hx => ?_⟩
    refine Decidable.byContradiction fun hc => ?_
    have h1 := sub_length l ((List.range n).erase x) hn fun y hy => (List.mem_erase_of_ne (fun e => hc (by rw [← e]; exact hy))).mpr (List.mem_range.mpr (hl y hy))
    rw [List.length_erase_of_mem hx, List.length_range] at h1
    have := List.length_pos_of_mem hx
    rw [List.length_range] at this
    omega
  exact hperm.eq_of_pairwise (le := (· < ·)) (fun a b _ _ h1 h2 => by omega) hp List.pairwise_lt_range

/-- As many pivots as rows and columns: the unit stands there. -/
theorem Jor.unit {M0 M : Nat → Nat → E} {n c : Nat} {P : List (Nat × Nat)} (h : Jor M0 M n c n P) (hl : P.length = n) : ∀ i, i < n → ∀ j, j < n → M i j = if i = j then 1 else 0 := by
  intro i hi j hj
  have h2 : P.map (·.2) = List.range n := rise_all _ n h.cols (fun x hx => by
    obtain ⟨a, ha, rfl⟩ := List.mem_map.mp hx
    exact (h.one a ha).1) (by rw [List.length_map, hl])
  have hm : ∀ j, j < n → (j, j) ∈ P := fun j hj => by
    have e1 : (P.map (·.1))[j]? = some j := by rw [h.rows, hl]; simp [hj]
    have e2 : (P.map (·.2))[j]? = some j := by rw [h2]; simp [hj]
    rw [List.getElem?_map] at e1 e2
    cases hP : P[j]? with
    | none => rw [hP] at e1; cases e1
    | some a =>
      rw [hP] at e1 e2
      have e1 : a.1 = j := Option.some.inj e1
      have e2 : a.2 = j := Option.some.inj e2
      have : a = (j, j) := Prod.ext e1 e2
      rw [← this]
      exact List.mem_of_getElem? hP
  have := hm j hj
  by_cases e : i = j
  · rw [if_pos e, e]; exact (h.one _ this).2
  · rw [if_neg e]; exact h.alone _ this i hi e

/-- How many pivots the first columns have: their rank. -/
theorem Jor.rank {M0 M : Nat → Nat → E} {n c col : Nat} {P : List (Nat × Nat)} (h : Jor M0 M n c col P) (hc : col ≤ c) : Rk M0 (List.range n) (List.range col) P.length := by
  have hcn : (P.map (·.2)).Nodup := h.cols.imp fun hab => Nat.ne_of_lt hab
  have hs : P.Pairwise (fun a b => M b.1 a.2 = 0) := by
    have h1 : P.Pairwise (fun a b => a.1 < b.1) := by
      have : (P.map (·.1)).Pairwise (· < ·) := by rw [h.rows]; exact List.pairwise_lt_range
      exact List.pairwise_map.mp this
    exact h1.imp_of_mem fun {a b} ha hb hab => h.alone a ha b.1 (Nat.lt_of_lt_of_le (h.lt hb) h.few) (by omega)
  have hal : Al M0 M (List.range n) (List.range col) := by
    obtain ⟨⟨a, ha⟩, ⟨b, hb⟩⟩ := h.al
    have hsub : ∀ j ∈ List.range col, j ∈ List.range c := fun j hj => List.mem_range.mpr (by have := List.mem_range.mp hj; omega)
    exact ⟨⟨a, fun i hi j hj => ha i hi j (hsub j hj)⟩, ⟨b, fun i hi j hj => hb i hi j (hsub j hj)⟩⟩
  refine hal.symm.rank (rk_steps P (by rw [h.rows]; exact List.nodup_range) hcn (fun a ha => List.mem_range.mpr (Nat.lt_of_lt_of_le (h.lt ha) h.few)) (fun a ha => List.mem_range.mpr (h.one a ha).1) hs (fun a ha => by rw [(h.one a ha).2]; exact E.one_ne) fun i hi hni j hj => ?_)
  refine h.zero i (Nat.le_of_not_lt fun hc => hni ?_) (List.mem_range.mp hi) j (List.mem_range.mp hj)
  rw [h.rows]
  exact List.mem_range.mpr hc

theorem sg_up (F : Nat → E) (k : Nat) : sg F (List.range (k + 1)) = sg F (List.range k) + F k := by
  rw [List.range_succ, sg_append]
  show _ + (F k + 0) = _
  rw [E.add_zero]

/-- A system, the other side as the last column: rows that are left with nothing but the other side have none. -/
theorem Jor.none {M0 M : Nat → Nat → E} {n c : Nat} {P : List (Nat × Nat)} (h : Jor M0 M n (c + 1) c P) {i : Nat} (h1 : P.length ≤ i) (hi : i < n) (h2 : M i c ≠ 0) : ¬ ∃ X : Nat → E, ∀ r, r < n → sg (fun k => M0 r k * X k) (List.range c) = M0 r c := by
  rintro ⟨X, hX⟩
  have h3 := h.al.orth (fun j => if j = c then 1 else X j) (fun r hr => by
    rw [sg_up, if_pos rfl, E.mul_one, sg_congr (H := fun k => M0 r k * X k) fun k hk => by
      have := List.mem_range.mp hk
      rw [if_neg (by omega)], hX r (List.mem_range.mp hr), E.add_self]) i (List.mem_range.mpr hi)
  rw [sg_up, if_pos rfl, E.mul_one, sg_congr (H := fun _ => 0) fun k hk => by
    rw [h.zero i h1 hi k (List.mem_range.mp hk), E.zero_mul], sg_zero, E.zero_add] at h3
  exact h2 h3

/-- Else: the other side at the pivots' places, 0 at the others. -/
theorem Jor.sol {M0 M : Nat → Nat → E} {n c : Nat} {P : List (Nat × Nat)} (h : Jor M0 M n (c + 1) c P) (h0 : ∀ i, P.length ≤ i → i < n → M i c = 0) (X : Nat → E) (hX : ∀ a ∈ P, X a.2 = M a.1 c) (hX0 : ∀ j, j ∉ P.map (·.2) → X j = 0) : ∀ r, r < n → sg (fun k => M0 r k * X k) (List.range c) = M0 r c := by
  have key : ∀ i ∈ List.range n, sg (fun j => M i j * if j = c then 1 else X j) (List.range (c + 1)) = 0 := fun i hi => by
    have hi' := List.mem_range.mp hi
    rw [sg_up, if_pos rfl, E.mul_one, sg_congr (H := fun k => M i k * X k) fun k hk => by
      have := List.mem_range.mp hk
      rw [if_neg (by omega)]]
    by_cases hP : P.length ≤ i
    · rw [sg_congr (H := fun _ => 0) fun k hk => by rw [h.zero i hP hi' k (List.mem_range.mp hk), E.zero_mul], sg_zero, h0 i hP hi', E.add_zero]
    · obtain ⟨a, ha, rfl⟩ : ∃ a ∈ P, a.1 = i := by
        have : i ∈ P.map (·.1) := by rw [h.rows]; exact List.mem_range.mpr (by omega)
        obtain ⟨a, ha, e⟩ := List.mem_map.mp this
        exact ⟨a, ha, e⟩
      have h1 := h.one a ha
      rw [sg_congr (H := fun k => if k = a.2 then X k else 0) fun k _ => ?_, sg_one List.nodup_range (List.mem_range.mpr h1.1) X, hX a ha, E.add_self]
      by_cases e : k = a.2
      · rw [if_pos e, e, h1.2, E.one_mul]
      · rw [if_neg e]
        by_cases hk : k ∈ P.map (·.2)
        · obtain ⟨b, hb, rfl⟩ := List.mem_map.mp hk
          have hne : a.1 ≠ b.1 := fun e2 => by
            have hPn : (P.map (·.1)).Nodup := by rw [h.rows]; exact List.nodup_range
            have : a = b := by
              have hinj := List.pairwise_map.mp hPn
              exact Decidable.byContradiction fun hc => by
                rcases (List.pairwise_iff_forall_sublist.mp hinj) with hh
                rcases (List.mem_iff_getElem.mp ha) with ⟨x, hx, ex⟩
                rcases (List.mem_iff_getElem.mp hb) with ⟨y, hy, ey⟩
                have hxy : x ≠ y := fun e3 => hc (by subst e3; rw [← ex, ← ey])
                have h4 := List.pairwise_iff_getElem.mp hinj
                rcases Nat.lt_or_gt_of_ne hxy with h5 | h5
                · exact h4 x y hx hy h5 (by rw [ex, ey]; exact e2)
                · exact h4 y x hy hx h5 (by rw [ex, ey]; exact e2.symm)
            exact e (by rw [this])
          rw [h.alone b hb a.1 (by omega) hne, E.zero_mul]
        · rw [hX0 k hk, E.mul_zero]
  intro r hr
  have h4 := h.al.symm.orth (fun j => if j = c then 1 else X j) key r (List.mem_range.mpr hr)
  rw [sg_up, if_pos rfl, E.mul_one, sg_congr (H := fun k => M0 r k * X k) fun k hk => by
    have := List.mem_range.mp hk
    rw [if_neg (by omega)]] at h4
  have h6 := congrArg (fun x => x + M0 r c) h4
  rwa [E.add_assoc, E.add_self, E.add_zero, E.zero_add] at h6

end Go.Proofs.Ythlnbomapfjphaa.Gf
