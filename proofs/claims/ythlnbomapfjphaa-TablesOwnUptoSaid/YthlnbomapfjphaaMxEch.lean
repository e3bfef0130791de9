/-
  The elimination column by column, rows changing places: the state, the rank, the determinant. No Go in sight.
-/
import Derived.Test.YthlnbomapfjphaaMxCols
import Derived.Test.YthlnbomapfjphaaGmx
namespace Go.Proofs.Ythlnbomapfjphaa.Gf

/-- The first `col` columns are done: P tells the pivots, one a row from the top; the further rows are 0 there. -/
structure Ech (M0 M : Nat → Nat → E) (n c col : Nat) (P : List (Nat × Nat)) : Prop where
  al : Al M0 M (List.range n) (List.range c)
  rows : P.map (·.1) = List.range P.length
  few : P.length ≤ n
  some : ∀ a ∈ P, a.2 < col ∧ M a.1 a.2 ≠ 0
  cols : (P.map (·.2)).Pairwise (· < ·)
  steps : ∀ a ∈ P, ∀ i, a.1 < i → i < n → M i a.2 = 0
  zero : ∀ i, P.length ≤ i → i < n → ∀ j, j < col → M i j = 0

theorem Ech.lt {M0 M : Nat → Nat → E} {n c col : Nat} {P : List (Nat × Nat)} (h : Ech M0 M n c col P) {a : Nat × Nat} (ha : a ∈ P) : a.1 < P.length := by
  have : a.1 ∈ P.map (·.1) := List.mem_map.mpr ⟨a, ha, rfl⟩
  rw [h.rows] at this
  exact List.mem_range.mp this

theorem Ech.start (M : Nat → Nat → E) (n c : Nat) : Ech M M n c 0 [] where
  al := Al.refl M List.nodup_range _
  rows := rfl
  few := Nat.zero_le _
  some a ha := by cases ha
  cols := List.Pairwise.nil
  steps a ha := by cases ha
  zero i _ _ j hj := absurd hj (Nat.not_lt_zero _)

/-- No pivot in this column. -/
theorem Ech.skip {M0 M : Nat → Nat → E} {n c col : Nat} {P : List (Nat × Nat)} (h : Ech M0 M n c col P) (h0 : ∀ i, P.length ≤ i → i < n → M i col = 0) : Ech M0 M n c (col + 1) P where
  al := h.al
  rows := h.rows
  few := h.few
  some a ha := ⟨by have := (h.some a ha).1; omega, (h.some a ha).2⟩
  cols := h.cols
  steps := h.steps
  zero i hi hn j hj := by
    by_cases e : j = col
    · rw [e]; exact h0 i hi hn
    · exact h.zero i hi hn j (by omega)

/-- The place that comes to place i, where r and s change. -/
def swi (r s i : Nat) : Nat := if i = r then s else if i = s then r else i
theorem swi_swi (r s i : Nat) : swi r s (swi r s i) = i := by unfold swi; split <;> split <;> (try split) <;> omega
theorem swi_lt {r s i R : Nat} (hr : r < R) (hs : s < R) (hi : i < R) : swi r s i < R := by
  unfold swi
  split
  · exact hs
  · split
    · exact hr
    · exact hi

/-- Two of the further rows change places. -/
theorem Ech.swap {M0 M N : Nat → Nat → E} {n c col r s : Nat} {P : List (Nat × Nat)} (h : Ech M0 M n c col P) (hr : P.length ≤ r) (hrn : r < n) (hs : P.length ≤ s) (hsn : s < n) (hN : ∀ i, i < n → ∀ j, N i j = M (swi r s i) j) : Ech M0 N n c col P where
  al := h.al.trans (Al.turn List.nodup_range (swi r s) (fun i hi => List.mem_range.mpr (swi_lt hrn hsn (List.mem_range.mp hi))) (fun i _ => swi_swi r s i) fun i hi j _ => hN i (List.mem_range.mp hi) j)
  rows := h.rows
  few := h.few
  some a ha := by
    have h1 := h.lt ha
    have h2 := h.few
    rw [hN _ (by omega), show swi r s a.1 = a.1 by unfold swi; rw [if_neg (by omega), if_neg (by omega)]]
    exact h.some a ha
  cols := h.cols
  steps a ha i hi hn := by
    rw [hN i hn]
    have h1 := h.lt ha
    refine h.steps a ha _ ?_ (swi_lt hrn hsn hn)
    unfold swi
    split
    · omega
    · split
      · omega
      · exact hi
  zero i hi hn j hj := by
    rw [hN i hn]
    refine h.zero _ ?_ (swi_lt hrn hsn hn) j hj
    unfold swi
    split
    · exact hs
    · split
      · exact hr
      · exact hi

/-- One pivot more. -/
theorem Ech.step {M0 M N : Nat → Nat → E} {n c col : Nat} {P : List (Nat × Nat)} (h : Ech M0 M n c col P) (hp : P.length < n) (hc : col < c) (h0 : M P.length col ≠ 0) (f : Nat → E) (hf : ∀ i, f i = M i col * (M P.length col).inv)
    (hN : ∀ i, i < n → ∀ j, j < c → N i j = if P.length < i then M i j + f i * M P.length j else M i j) : Ech M0 N n c (col + 1) (P ++ [(P.length, col)]) := by
  have old : ∀ a ∈ P, ∀ i, i < n → N i a.2 = M i a.2 := fun a ha i hi => by
    have h1 := h.some a ha
    rw [hN i hi _ (by omega)]
    by_cases e : P.length < i
    · rw [if_pos e, h.zero P.length (Nat.le_refl _) hp _ h1.1, E.mul_zero, E.add_zero]
    · rw [if_neg e]
  refine ⟨h.al.trans (Al.take List.nodup_range (k := P.length) (List.mem_range.mpr hp) (fun i => if P.length < i then f i else 0) (if_neg (by omega)) fun i hi j hj => ?_), ?_, by rw [List.length_append]; show P.length + 1 ≤ n; omega, fun a ha => ?_, ?_, fun a ha i hi hn => ?_, fun i hi hn j hj => ?_⟩
  · rw [hN i (List.mem_range.mp hi) j (List.mem_range.mp hj)]
    by_cases e : P.length < i
    · rw [if_pos e, if_pos e]
    · rw [if_neg e, if_neg e, E.zero_mul, E.add_zero]
  · rw [List.map_append, h.rows, List.length_append]
    show List.range P.length ++ [P.length] = List.range (P.length + 1)
    rw [List.range_succ]
  · rcases List.mem_append.mp ha with ha | ha
    · have h1 := h.some a ha
      have h2 := h.lt ha
      exact ⟨by omega, by rw [old a ha _ (by omega)]; exact h1.2⟩
    · obtain rfl := List.mem_singleton.mp ha
      exact ⟨by show col < col + 1; omega, by show N P.length col ≠ 0; rw [hN _ hp _ hc, if_neg (by omega)]; exact h0⟩
  · rw [List.map_append, List.pairwise_append]
    refine ⟨h.cols, List.pairwise_singleton _ _, fun x hx y hy => ?_⟩
    obtain ⟨a, ha, rfl⟩ := List.mem_map.mp hx
    simp at hy
    have := (h.some a ha).1
    omega
  · rcases List.mem_append.mp ha with ha | ha
    · rw [old a ha i hn]; exact h.steps a ha i hi hn
    · obtain rfl := List.mem_singleton.mp ha
      show N i col = 0
      rw [hN i hn _ hc, if_pos hi, hf, E.mul_assoc, E.mul_comm (M P.length col).inv, E.mul_inv h0, E.mul_one, E.add_self]
  · rw [List.length_append] at hi
    have hi2 : P.length < i := hi
    by_cases e : j = col
    · subst e
      rw [hN i hn _ hc, if_pos hi2, hf, E.mul_assoc, E.mul_comm (M P.length j).inv, E.mul_inv h0, E.mul_one, E.add_self]
    · rw [hN i hn _ (by omega), if_pos hi2, h.zero i (by omega) hn _ (by omega), h.zero P.length (Nat.le_refl _) hp _ (by omega), E.mul_zero, E.add_zero]

/-- All columns are done: so many pivots. -/
theorem Ech.rank {M0 M : Nat → Nat → E} {n c : Nat} {P : List (Nat × Nat)} (h : Ech M0 M n c c P) : Rk M0 (List.range n) (List.range c) P.length := by
  have hc : (P.map (·.2)).Nodup := h.cols.imp fun hab => Nat.ne_of_lt hab
  have hs : P.Pairwise (fun a b => M b.1 a.2 = 0) := by
    have h1 : P.Pairwise (fun a b => a.1 < b.1) := by
      have : (P.map (·.1)).Pairwise (· < ·) := by rw [h.rows]; exact List.pairwise_lt_range
      exact List.pairwise_map.mp this
    exact h1.imp_of_mem fun {a b} ha hb hab => h.steps a ha b.1 hab (Nat.lt_of_lt_of_le (h.lt hb) h.few)
  refine h.al.symm.rank (rk_steps P (by rw [h.rows]; exact List.nodup_range) hc (fun a ha => List.mem_range.mpr (Nat.lt_of_lt_of_le (h.lt ha) h.few)) (fun a ha => List.mem_range.mpr (h.some a ha).1) hs (fun a ha => (h.some a ha).2) fun i hi hni j hj => ?_)
  refine h.zero i (Nat.le_of_not_lt fun hc => hni ?_) (List.mem_range.mp hi) j (List.mem_range.mp hj)
  rw [h.rows]
  exact List.mem_range.mpr hc

/-- Few rows beside those that are 0 in many columns. -/
theorem dt_few : ∀ (rs ss : List Rw) (C Z : List Nat), C.Nodup → Z.Nodup → (∀ z ∈ Z, z ∈ C) → rs.length < Z.length → (rs ++ ss).length = C.length → (∀ r ∈ ss, ∀ z ∈ Z, r z = 0) → dt (rs ++ ss) C = 0 := by
  intro rs
  induction rs with
  | nil =>
    intro ss C Z hC _ hZC hl hlen h0
    obtain ⟨z, hz⟩ : ∃ z, z ∈ Z := List.exists_mem_of_length_pos (by simpa using hl)
    exact dt_void hC (hZC z hz) (by simpa using hlen) fun r hr => h0 r hr z hz
  | cons r rs ih =>
    intro ss C Z hC hZ hZC hl hlen h0
    rw [List.cons_append, dt, sg_congr (H := fun _ => 0) fun k hk => ?_, sg_zero]
    have key : dt (rs ++ ss) (C.erase k) = 0 := by
      refine ih ss (C.erase k) (Z.erase k) (hC.erase k) (hZ.erase k) (fun z hz => ?_) ?_ ?_ fun r hr z hz => h0 r hr z (List.mem_of_mem_erase hz)
      · have h1 : z ≠ k := fun e => by rw [e] at hz; exact (hZ.not_mem_erase) hz
        exact (List.mem_erase_of_ne h1).mpr (hZC z (List.mem_of_mem_erase hz))
      · have h2 : Z.length ≤ (Z.erase k).length + 1 := by
          rw [List.length_erase]
          split <;> omega
        rw [List.length_cons] at hl
        omega
      · rw [List.length_erase_of_mem hk, ← hlen]
        simp
    rw [key, E.mul_zero]

/-- Two rows change places: the determinant stays. -/
theorem dt_swi (M : Nat → Nat → E) {n r s : Nat} (hr : r < n) (hs : s < n) : dt ((List.range n).map fun i => M (swi r s i)) (List.range n) = dt ((List.range n).map M) (List.range n) := by
  have hp : ((List.range n).map (swi r s)).Perm (List.range n) := by
    have hn : ((List.range n).map (swi r s)).Nodup := List.pairwise_map.mpr (List.nodup_range.imp fun hne e => hne (by
      have := congrArg (swi r s) e
      rwa [swi_swi, swi_swi] at this))
    refine (List.perm_ext_iff_of_nodup hn List.nodup_range).mpr fun x => ⟨fun hx => ?_, fun hx => ?_⟩
    · obtain ⟨y, hy, rfl⟩ := List.mem_map.mp hx
      exact List.mem_range.mpr (swi_lt hr hs (List.mem_range.mp hy))
    · exact List.mem_map.mpr ⟨swi r s x, List.mem_range.mpr (swi_lt hr hs (List.mem_range.mp hx)), swi_swi r s x⟩
  have := dt_perm (hp.map M) (C := List.range n) List.nodup_range
  rw [List.map_map] at this
  exact this

/-- So many times one row taken to the others: the determinant stays. -/
theorem dt_takes {M N : Nat → Nat → E} {n p : Nat} (hp : p < n) (t : Nat → E) (h0 : t p = 0) (h : ∀ i, i < n → ∀ j, j < n → N i j = M i j + t i * M p j) : dt ((List.range n).map N) (List.range n) = dt ((List.range n).map M) (List.range n) := by
  have key : ∀ m, m ≤ n → dt ((List.range n).map fun i j => if i < m then N i j else M i j) (List.range n) = dt ((List.range n).map M) (List.range n) := by
    intro m
    induction m with
    | zero => intro _; exact dt_entries (C := List.range n) (fun j hj => hj) (by simp) fun i h1 h2 j _ => by rw [List.getElem_map, List.getElem_map]; exact if_neg (by omega)
    | succ m ih =>
      intro hm
      rw [← ih (by omega)]
      have hperm : ∀ F : Nat → Rw, dt ((List.range n).map F) (List.range n) = dt (F m :: ((List.range n).erase m).map F) (List.range n) := fun F => by
        rw [← List.map_cons (f := F)]
        exact dt_perm ((List.perm_cons_erase (List.mem_range.mpr (by omega))).map F) List.nodup_range
      rw [hperm, hperm]
      have hrest : ((List.range n).erase m).map (fun i j => if i < m + 1 then N i j else M i j) = ((List.range n).erase m).map (fun i j => if i < m then N i j else M i j) := by
        refine List.map_congr_left fun i hi => ?_
        have hne : i ≠ m := fun e => by rw [e] at hi; exact List.nodup_range.not_mem_erase hi
        funext j
        by_cases e : i < m
        · rw [if_pos e, if_pos (by omega)]
        · rw [if_neg e, if_neg (by omega)]
      rw [hrest]
      by_cases hmp : m = p
      · refine dt_entries (C := List.range n) (fun j hj => hj) rfl fun i h1 h2 j hj => ?_
        cases i with
        | zero =>
          show (if m < m + 1 then N m j else M m j) = if m < m then N m j else M m j
          rw [if_pos (by omega), if_neg (by omega), h m (by omega) j (List.mem_range.mp hj), hmp, h0, E.zero_mul, E.add_zero]
        | succ i => rfl
      · have hmem : (fun j => if p < m then N p j else M p j) ∈ ((List.range n).erase m).map (fun i j => if i < m then N i j else M i j) :=
          List.mem_map.mpr ⟨p, (List.mem_erase_of_ne (Ne.symm hmp)).mpr (List.mem_range.mpr hp), rfl⟩
        have h2 := dt_take (t m) (fun j => M m j) _ _ (C := List.range n) List.nodup_range hmem
        rw [show (fun j => if m < m then N m j else M m j) = fun j => M m j by funext j; rw [if_neg (by omega)], ← h2]
        refine dt_entries (C := List.range n) (fun j hj => hj) rfl fun i h1 h3 j hj => ?_
        cases i with
        | zero =>
          show (if m < m + 1 then N m j else M m j) = M m j + t m * (if p < m then N p j else M p j)
          have hj' := List.mem_range.mp hj
          rw [if_pos (by omega), h m (by omega) j hj']
          have hNp : N p j = M p j := by rw [h p hp j hj', h0, E.zero_mul, E.add_zero]
          rw [hNp, ite_self]
        | succ i => rfl
  have := key n (Nat.le_refl _)
  rw [← this]
  exact dt_entries (C := List.range n) (fun j hj => hj) (by simp) fun i h1 h2 j _ => by
    have hi : i < n := by simpa using h1
    rw [List.getElem_map, List.getElem_map, List.getElem_range]
    exact (if_pos hi).symm

end Go.Proofs.Ythlnbomapfjphaa.Gf
