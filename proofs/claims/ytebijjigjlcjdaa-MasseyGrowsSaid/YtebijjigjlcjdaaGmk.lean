/-
  Several texts in one:
  - The rank by columns taken off one by one (or rows): the state of the elimination. No Go in sight.
  - The elimination column by column, rows changing places: the state, the rank, the determinant. No Go in sight.
  - GAUSS and JORDAN: the elimination above and below; what undoes; systems. No Go in sight.
  - Functions that store into a row of bytes: what has turned is that row's block alone.
  - Tables of bytes whose rows are stored one by one into a made slice; slices.Clone at bytes.
  - slices.Grow at nil and slices.Concat of two, at bytes.
-/
import Derived.Test.YtebijjigjlcjdaaGmx
import Derived.Test.YtebijjigjlcjdaaGtb
import Derived.Test.YtebijjigjlcjdaaGfw
import Derived.Test.YtebijjigjlcjdaaMixT
import Derived.Test.YtebijjigjlcjdaaGso
import Derived.Test.YtebijjigjlcjdaaGrb
import Derived.Test.YtebijjigjlcjdaaGmj
import Derived.Test.YtebijjigjlcjdaaGro
import Derived.Test.YtebijjigjlcjdaaCloneB
import Derived.Lib.AppendZerosOnto
import Derived.Laws.AppendOwnNone
import Derived.Lib.SliceRun
namespace Go.Proofs.Ytebijjigjlcjdaa.Gf

/-- The first p of the n rows are done: P tells which of them are pivots, and where; the others of them are noughts; all further rows are 0 at the pivots' places. -/
structure Elim (M0 M : Nat → Nat → E) (n c p : Nat) (P : List (Nat × Nat)) : Prop where
  al : Al M0 M (List.range n) (List.range c)
  some : ∀ a ∈ P, a.1 < p ∧ a.2 < c ∧ M a.1 a.2 ≠ 0
  rows : (P.map (·.1)).Nodup
  cols : (P.map (·.2)).Nodup
  steps : P.Pairwise (fun a b => M b.1 a.2 = 0)
  ahead : ∀ a ∈ P, ∀ i, p ≤ i → i < n → M i a.2 = 0
  nought : ∀ i, i < p → i < n → i ∉ P.map (·.1) → ∀ j, j < c → M i j = 0

theorem Elim.start (M : Nat → Nat → E) (n c : Nat) : Elim M M n c 0 [] where
  al := Al.refl M List.nodup_range _
  some a ha := by cases ha
  rows := List.nodup_nil
  cols := List.nodup_nil
  steps := List.Pairwise.nil
  ahead a ha := by cases ha
  nought i hi := absurd hi (Nat.not_lt_zero _)

/-- A row of noughts. -/
theorem Elim.skip {M0 M : Nat → Nat → E} {n c p : Nat} {P : List (Nat × Nat)} (h : Elim M0 M n c p P) (h0 : ∀ j, j < c → M p j = 0) : Elim M0 M n c (p + 1) P where
  al := h.al
  some a ha := by have := h.some a ha; exact ⟨by omega, this.2⟩
  rows := h.rows
  cols := h.cols
  steps := h.steps
  ahead a ha i hi hn := h.ahead a ha i (by omega) hn
  nought i hi hn hni j hj := by
    by_cases e : i = p
    · rw [e]; exact h0 j hj
    · exact h.nought i (by omega) hn hni j hj

/-- One pivot more: so many times its row taken from all that follow. -/
theorem Elim.step {M0 M N : Nat → Nat → E} {n c p k : Nat} {P : List (Nat × Nat)} (h : Elim M0 M n c p P) (hp : p < n) (hk : k < c) (h0 : M p k ≠ 0) (f : Nat → E) (hf : ∀ i, f i = M i k * (M p k).inv)
    (hN : ∀ i, i < n → ∀ j, j < c → N i j = if p < i then M i j + f i * M p j else M i j) : Elim M0 N n c (p + 1) (P ++ [(p, k)]) := by
  have old : ∀ a ∈ P, N a.1 a.2 = M a.1 a.2 := fun a ha => by
    have := h.some a ha
    rw [hN _ (by omega) _ this.2.1, if_neg (by omega)]
  have hkP : k ∉ P.map (·.2) := fun hc => by
    obtain ⟨a, ha, e⟩ := List.mem_map.mp hc
    exact h0 (by rw [← e]; exact h.ahead a ha p (Nat.le_refl _) hp)
  refine ⟨h.al.trans (Al.take List.nodup_range (k := p) (List.mem_range.mpr hp) (fun i => if p < i then f i else 0) (if_neg (by omega)) fun i hi j hj => ?_), fun a ha => ?_, ?_, ?_, ?_, fun a ha i hi hn => ?_, fun i hi hn hni j hj => ?_⟩
  · rw [hN i (List.mem_range.mp hi) j (List.mem_range.mp hj)]
    by_cases e : p < i
    · rw [if_pos e, if_pos e]
    · rw [if_neg e, if_neg e, E.zero_mul, E.add_zero]
  · rcases List.mem_append.mp ha with ha | ha
    · have := h.some a ha
      exact ⟨by omega, this.2.1, by rw [old a ha]; exact this.2.2⟩
    · obtain rfl := List.mem_singleton.mp ha
      exact ⟨by show p < p + 1; omega, hk, by show N p k ≠ 0; rw [hN p hp k hk, if_neg (by omega)]; exact h0⟩
  · rw [List.map_append, List.map_singleton]
    refine List.nodup_append.mpr ⟨h.rows, by simp, fun x hx y hy e => ?_⟩
    obtain ⟨a, ha, rfl⟩ := List.mem_map.mp hx
    have := (h.some a ha).1
    simp at hy
    omega
  · rw [List.map_append, List.map_singleton]
    refine List.nodup_append.mpr ⟨h.cols, by simp, fun x hx y hy e => ?_⟩
    simp at hy
    subst hy
    subst e
    exact hkP hx
  · rw [List.pairwise_append]
    refine ⟨h.steps.imp_of_mem fun {a b} ha hb e => ?_, List.pairwise_singleton _ _, fun a ha b hb => ?_⟩
    · have h1 := h.some a ha
      have h2 := h.some b hb
      rw [hN _ (by omega) _ h1.2.1, if_neg (by omega)]
      exact e
    · obtain rfl := List.mem_singleton.mp hb
      have h1 := h.some a ha
      show N p a.2 = 0
      rw [hN p hp _ h1.2.1, if_neg (by omega)]
      exact h.ahead a ha p (Nat.le_refl _) hp
  · rcases List.mem_append.mp ha with ha | ha
    · have h1 := h.some a ha
      rw [hN i hn _ h1.2.1, if_pos (by omega), h.ahead a ha i (by omega) hn, h.ahead a ha p (Nat.le_refl _) hp, E.mul_zero, E.add_zero]
    · obtain rfl := List.mem_singleton.mp ha
      show N i k = 0
      rw [hN i hn k hk, if_pos (by omega), hf, E.mul_assoc, E.mul_comm (M p k).inv, E.mul_inv h0, E.mul_one, E.add_self]
  · have hi2 : i ≠ p := fun e => hni (by rw [List.map_append, e]; simp)
    rw [hN i hn j hj, if_neg (by omega)]
    exact h.nought i (by omega) hn (fun hc => hni (by rw [List.map_append]; exact List.mem_append_left _ hc)) j hj

/-- No more pivots than rows. -/
theorem Elim.length {M0 M : Nat → Nat → E} {n c p : Nat} {P : List (Nat × Nat)} (h : Elim M0 M n c p P) : P.length ≤ p := by
  have := sub_length (P.map (·.1)) (List.range p) h.rows fun x hx => by
    obtain ⟨a, ha, rfl⟩ := List.mem_map.mp hx
    exact List.mem_range.mpr (h.some a ha).1
  rwa [List.length_map, List.length_range] at this

/-- All done: so many pivots. -/
theorem Elim.rank {M0 M : Nat → Nat → E} {n c : Nat} {P : List (Nat × Nat)} (h : Elim M0 M n c n P) : Rk M0 (List.range n) (List.range c) P.length := by
  refine h.al.symm.rank (rk_steps P h.rows h.cols (fun a ha => List.mem_range.mpr (h.some a ha).1) (fun a ha => List.mem_range.mpr (h.some a ha).2.1) h.steps (fun a ha => (h.some a ha).2.2) fun i hi hni j hj => ?_)
  exact h.nought i (List.mem_range.mp hi) (List.mem_range.mp hi) hni j (List.mem_range.mp hj)

end Go.Proofs.Ytebijjigjlcjdaa.Gf

namespace Go.Proofs.Ytebijjigjlcjdaa.Gf

/-- The first `col` columns are done: P tells the pivots, one a row from the top; the further rows are 0 there. -/
structure Ech (M0 M : Nat → Nat → E) (n c col : Nat) (P : List (Nat × Nat)) : Prop where
  al : Al M0 M (List.range n) (List.range c)
  rows : P.map (·.1) = List.range P.length
  few : P.length ≤ n
  some : ∀ a ∈ P, a.2 < col ∧ M a.1 a.2 ≠ 0
  cols : (P.map (·.2)).Pairwise (· < ·)
  steps : ∀ a ∈ P, ∀ i, a.1 < i → i < n → M i a.2 = 0
  zero : ∀ i, P.length ≤ i → i < n → ∀ j, j < col → M i j = 0

theorem Ech.lt {M0 M : Nat → Nat → E} {n c col : Nat} {P : List (Nat × Nat)} (h : Ech M0 M n c col P) {a : Nat × Nat} (ha : a ∈ P) : a.1 < P.length := by
  have : a.1 ∈ P.map (·.1) := List.mem_map.mpr ⟨a, ha, rfl⟩
  rw [h.rows] at this
  exact List.mem_range.mp this

theorem Ech.start (M : Nat → Nat → E) (n c : Nat) : Ech M M n c 0 [] where
  al := Al.refl M List.nodup_range _
  rows := rfl
  few := Nat.zero_le _
  some a ha := by cases ha
  cols := List.Pairwise.nil
  steps a ha := by cases ha
  zero i _ _ j hj := absurd hj (Nat.not_lt_zero _)

/-- No pivot in this column. -/
theorem Ech.skip {M0 M : Nat → Nat → E} {n c col : Nat} {P : List (Nat × Nat)} (h : Ech M0 M n c col P) (h0 : ∀ i, P.length ≤ i → i < n → M i col = 0) : Ech M0 M n c (col + 1) P where
  al := h.al
  rows := h.rows
  few := h.few
  some a ha := ⟨by have := (h.some a ha).1; omega, (h.some a ha).2⟩
  cols := h.cols
  steps := h.steps
  zero i hi hn j hj := by
    by_cases e : j = col
    · rw [e]; exact h0 i hi hn
    · exact h.zero i hi hn j (by omega)

/-- The place that comes to place i, where r and s change. -/
def swi (r s i : Nat) : Nat := if i = r then s else if i = s then r else i
theorem swi_swi (r s i : Nat) : swi r s (swi r s i) = i := by unfold swi; split <;> split <;> (try split) <;> omega
theorem swi_lt {r s i R : Nat} (hr : r < R) (hs : s < R) (hi : i < R) : swi r s i < R := by
  unfold swi
  split
  · exact hs
  · split
    · exact hr
    · exact hi

/-- Two of the further rows change places. -/
theorem Ech.swap {M0 M N : Nat → Nat → E} {n c col r s : Nat} {P : List (Nat × Nat)} (h : Ech M0 M n c col P) (hr : P.length ≤ r) (hrn : r < n) (hs : P.length ≤ s) (hsn : s < n) (hN : ∀ i, i < n → ∀ j, N i j = M (swi r s i) j) : Ech M0 N n c col P where
  al := h.al.trans (Al.turn List.nodup_range (swi r s) (fun i hi => List.mem_range.mpr (swi_lt hrn hsn (List.mem_range.mp hi))) (fun i _ => swi_swi r s i) fun i hi j _ => hN i (List.mem_range.mp hi) j)
  rows := h.rows
  few := h.few
  some a ha := by
    have h1 := h.lt ha
    have h2 := h.few
    rw [hN _ (by omega), show swi r s a.1 = a.1 by unfold swi; rw [if_neg (by omega), if_neg (by omega)]]
    exact h.some a ha
  cols := h.cols
  steps a ha i hi hn := by
    rw [hN i hn]
    have h1 := h.lt ha
    refine h.steps a ha _ ?_ (swi_lt hrn hsn hn)
    unfold swi
    split
    · omega
    · split
      · omega
      · exact hi
  zero i hi hn j hj := by
    rw [hN i hn]
    refine h.zero _ ?_ (swi_lt hrn hsn hn) j hj
    unfold swi
    split
    · exact hs
    · split
      · exact hr
      · exact hi

/-- One pivot more. -/
theorem Ech.step {M0 M N : Nat → Nat → E} {n c col : Nat} {P : List (Nat × Nat)} (h : Ech M0 M n c col P) (hp : P.length < n) (hc : col < c) (h0 : M P.length col ≠ 0) (f : Nat → E) (hf : ∀ i, f i = M i col * (M P.length col).inv)
    (hN : ∀ i, i < n → ∀ j, j < c → N i j = if P.length < i then M i j + f i * M P.length j else M i j) : Ech M0 N n c (col + 1) (P ++ [(P.length, col)]) := by
  have old : ∀ a ∈ P, ∀ i, i < n → N i a.2 = M i a.2 := fun a ha i hi => by
    have h1 := h.some a ha
    rw [hN i hi _ (by omega)]
    by_cases e : P.length < i
    · rw [if_pos e, h.zero P.length (Nat.le_refl _) hp _ h1.1, E.mul_zero, E.add_zero]
    · rw [if_neg e]
  refine ⟨h.al.trans (Al.take List.nodup_range (k := P.length) (List.mem_range.mpr hp) (fun i => if P.length < i then f i else 0) (if_neg (by omega)) fun i hi j hj => ?_), ?_, by rw [List.length_append]; show P.length + 1 ≤ n; omega, fun a ha => ?_, ?_, fun a ha i hi hn => ?_, fun i hi hn j hj => ?_⟩
  · rw [hN i (List.mem_range.mp hi) j (List.mem_range.mp hj)]
    by_cases e : P.length < i
    · rw [if_pos e, if_pos e]
    · rw [if_neg e, if_neg e, E.zero_mul, E.add_zero]
  · rw [List.map_append, h.rows, List.length_append]
    show List.range P.length ++ [P.length] = List.range (P.length + 1)
    rw [List.range_succ]
  · rcases List.mem_append.mp ha with ha | ha
    · have h1 := h.some a ha
      have h2 := h.lt ha
      exact ⟨by omega, by rw [old a ha _ (by omega)]; exact h1.2⟩
    · obtain rfl := List.mem_singleton.mp ha
      exact ⟨by show col < col + 1; omega, by show N P.length col ≠ 0; rw [hN _ hp _ hc, if_neg (by omega)]; exact h0⟩
  · rw [List.map_append, List.pairwise_append]
    refine ⟨h.cols, List.pairwise_singleton _ _, fun x hx y hy => ?_⟩
    obtain ⟨a, ha, rfl⟩ := List.mem_map.mp hx
    simp at hy
    have := (h.some a ha).1
    omega
  · rcases List.mem_append.mp ha with ha | ha
    · rw [old a ha i hn]; exact h.steps a ha i hi hn
    · obtain rfl := List.mem_singleton.mp ha
      show N i col = 0
      rw [hN i hn _ hc, if_pos hi, hf, E.mul_assoc, E.mul_comm (M P.length col).inv, E.mul_inv h0, E.mul_one, E.add_self]
  · rw [List.length_append] at hi
    have hi2 : P.length < i := hi
    by_cases e : j = col
    · subst e
      rw [hN i hn _ hc, if_pos hi2, hf, E.mul_assoc, E.mul_comm (M P.length j).inv, E.mul_inv h0, E.mul_one, E.add_self]
    · rw [hN i hn _ (by omega), if_pos hi2, h.zero i (by omega) hn _ (by omega), h.zero P.length (Nat.le_refl _) hp _ (by omega), E.mul_zero, E.add_zero]

/-- All columns are done: so many pivots. -/
theorem Ech.rank {M0 M : Nat → Nat → E} {n c : Nat} {P : List (Nat × Nat)} (h : Ech M0 M n c c P) : Rk M0 (List.range n) (List.range c) P.length := by
  have hc : (P.map (·.2)).Nodup := h.cols.imp fun hab => Nat.ne_of_lt hab
  have hs : P.Pairwise (fun a b => M b.1 a.2 = 0) := by
    have h1 : P.Pairwise (fun a b => a.1 < b.1) := by
      have : (P.map (·.1)).Pairwise (· < ·) := by rw [h.rows]; exact List.pairwise_lt_range
      exact List.pairwise_map.mp this
    exact h1.imp_of_mem fun {a b} ha hb hab => h.steps a ha b.1 hab (Nat.lt_of_lt_of_le (h.lt hb) h.few)
  refine h.al.symm.rank (rk_steps P (by rw [h.rows]; exact List.nodup_range) hc (fun a ha => List.mem_range.mpr (Nat.lt_of_lt_of_le (h.lt ha) h.few)) (fun a ha => List.mem_range.mpr (h.some a ha).1) hs (fun a ha => (h.some a ha).2) fun i hi hni j hj => ?_)
  refine h.zero i (Nat.le_of_not_lt fun hc => hni ?_) (List.mem_range.mp hi) j (List.mem_range.mp hj)
  rw [h.rows]
  exact List.mem_range.mpr hc

/-- Few rows beside those that are 0 in many columns. -/
theorem dt_few : ∀ (rs ss : List Rw) (C Z : List Nat), C.Nodup → Z.Nodup → (∀ z ∈ Z, z ∈ C) → rs.length < Z.length → (rs ++ ss).length = C.length → (∀ r ∈ ss, ∀ z ∈ Z, r z = 0) → dt (rs ++ ss) C = 0 := by
  intro rs
  induction rs with
  | nil =>
    intro ss C Z hC _ hZC hl hlen h0
    obtain ⟨z, hz⟩ : ∃ z, z ∈ Z := List.exists_mem_of_length_pos (by simpa using hl)
    exact dt_void hC (hZC z hz) (by simpa using hlen) fun r hr => h0 r hr z hz
  | cons r rs ih =>
    intro ss C Z hC hZ hZC hl hlen h0
    rw [List.cons_append, dt, sg_congr (H := fun _ => 0) fun k hk => ?_, sg_zero]
    have key : dt (rs ++ ss) (C.erase k) = 0 := by
      refine ih ss (C.erase k) (Z.erase k) (hC.erase k) (hZ.erase k) (fun z hz => ?_) ?_ ?_ fun r hr z hz => h0 r hr z (List.mem_of_mem_erase hz)
      · have h1 : z ≠ k := fun e => by rw [e] at hz; exact (hZ.not_mem_erase) hz
        exact (List.mem_erase_of_ne h1).mpr (hZC z (List.mem_of_mem_erase hz))
      · have h2 : Z.length ≤ (Z.erase k).length + 1 := by
          rw [List.length_erase]
          split <;> omega
        rw [List.length_cons] at hl
        omega
      · rw [List.length_erase_of_mem hk, ← hlen]
        simp
    rw [key, E.mul_zero]

/-- Two rows change places: the determinant stays. -/
theorem dt_swi (M : Nat → Nat → E) {n r s : Nat} (hr : r < n) (hs : s < n) : dt ((List.range n).map fun i => M (swi r s i)) (List.range n) = dt ((List.range n).map M) (List.range n) := by
  have hp : ((List.range n).map (swi r s)).Perm (List.range n) := by
    have hn : ((List.range n).map (swi r s)).Nodup := List.pairwise_map.mpr (List.nodup_range.imp fun hne e => hne (by
      have := congrArg (swi r s) e
      rwa [swi_swi, swi_swi] at this))
    refine (List.perm_ext_iff_of_nodup hn List.nodup_range).mpr fun x => ⟨fun hx => ?_, fun hx => ?_⟩
    · obtain ⟨y, hy, rfl⟩ := List.mem_map.mp hx
      exact List.mem_range.mpr (swi_lt hr hs (List.mem_range.mp hy))
    · exact List.mem_map.mpr ⟨swi r s x, List.mem_range.mpr (swi_lt hr hs (List.mem_range.mp hx)), swi_swi r s x⟩
  have := dt_perm (hp.map M) (C := List.range n) List.nodup_range
  rw [List.map_map] at this
  exact this

/-- So many times one row taken to the others: the determinant stays. -/
theorem dt_takes {M N : Nat → Nat → E} {n p : Nat} (hp : p < n) (t : Nat → E) (h0 : t p = 0) (h : ∀ i, i < n → ∀ j, j < n → N i j = M i j + t i * M p j) : dt ((List.range n).map N) (List.range n) = dt ((List.range n).map M) (List.range n) := by
  have key : ∀ m, m ≤ n → dt ((List.range n).map fun i j => if i < m then N i j else M i j) (List.range n) = dt ((List.range n).map M) (List.range n) := by
    intro m
    induction m with
    | zero => intro _; exact dt_entries (C := List.range n) (fun j hj => hj) (by simp) fun i h1 h2 j _ => by rw [List.getElem_map, List.getElem_map]; exact if_neg (by omega)
    | succ m ih =>
      intro hm
      rw [← ih (by omega)]
      have hperm : ∀ F : Nat → Rw, dt ((List.range n).map F) (List.range n) = dt (F m :: ((List.range n).erase m).map F) (List.range n) := fun F => by
        rw [← List.map_cons (f := F)]
        exact dt_perm ((List.perm_cons_erase (List.mem_range.mpr (by omega))).map F) List.nodup_range
      rw [hperm, hperm]
      have hrest : ((List.range n).erase m).map (fun i j => if i < m + 1 then N i j else M i j) = ((List.range n).erase m).map (fun i j => if i < m then N i j else M i j) := by
        refine List.map_congr_left fun i hi => ?_
        have hne : i ≠ m := fun e => by rw [e] at hi; exact List.nodup_range.not_mem_erase hi
        funext j
        by_cases e : i < m
        · rw [if_pos e, if_pos (by omega)]
        · rw [if_neg e, if_neg (by omega)]
      rw [hrest]
      by_cases hmp : m = p
      · refine dt_entries (C := List.range n) (fun j hj => hj) rfl fun i h1 h2 j hj => ?_
        cases i with
        | zero =>
          show (if m < m + 1 then N m j else M m j) = if m < m then N m j else M m j
          rw [if_pos (by omega), if_neg (by omega), h m (by omega) j (List.mem_range.mp hj), hmp, h0, E.zero_mul, E.add_zero]
        | succ i => rfl
      · have hmem : (fun j => if p < m then N p j else M p j) ∈ ((List.range n).erase m).map (fun i j => if i < m then N i j else M i j) :=
          List.mem_map.mpr ⟨p, (List.mem_erase_of_ne (Ne.symm hmp)).mpr (List.mem_range.mpr hp), rfl⟩
        have h2 := dt_take (t m) (fun j => M m j) _ _ (C := List.range n) List.nodup_range hmem
        rw [show (fun j => if m < m then N m j else M m j) = fun j => M m j by funext j; rw [if_neg (by omega)], ← h2]
        refine dt_entries (C := List.range n) (fun j hj => hj) rfl fun i h1 h3 j hj => ?_
        cases i with
        | zero =>
          show (if m < m + 1 then N m j else M m j) = M m j + t m * (if p < m then N p j else M p j)
          have hj' := List.mem_range.mp hj
          rw [if_pos (by omega), h m (by omega) j hj']
          have hNp : N p j = M p j := by rw [h p hp j hj', h0, E.zero_mul, E.add_zero]
          rw [hNp, ite_self]
        | succ i => rfl
  have := key n (Nat.le_refl _)
  rw [← this]
  exact dt_entries (C := List.range n) (fun j hj => hj) (by simp) fun i h1 h2 j _ => by
    have hi : i < n := by simpa using h1
    rw [List.getElem_map, List.getElem_map, List.getElem_range]
    exact (if_pos hi).symm

end Go.Proofs.Ytebijjigjlcjdaa.Gf

namespace Go.Proofs.Ytebijjigjlcjdaa.Gf

/-- The first `col` of c columns are done: pivots are 1, alone in their columns; the further rows are 0 there. -/
structure Jor (M0 M : Nat → Nat → E) (n c col : Nat) (P : List (Nat × Nat)) : Prop where
  al : Al M0 M (List.range n) (List.range c)
  rows : P.map (·.1) = List.range P.length
  few : P.length ≤ n
  one : ∀ a ∈ P, a.2 < col ∧ M a.1 a.2 = 1
  alone : ∀ a ∈ P, ∀ i, i < n → i ≠ a.1 → M i a.2 = 0
  cols : (P.map (·.2)).Pairwise (· < ·)
  zero : ∀ i, P.length ≤ i → i < n → ∀ j, j < col → M i j = 0

theorem Jor.lt {M0 M : Nat → Nat → E} {n c col : Nat} {P : List (Nat × Nat)} (h : Jor M0 M n c col P) {a : Nat × Nat} (ha : a ∈ P) : a.1 < P.length := by
  have : a.1 ∈ P.map (·.1) := List.mem_map.mpr ⟨a, ha, rfl⟩
  rw [h.rows] at this
  exact List.mem_range.mp this

theorem Jor.start (M : Nat → Nat → E) (n c : Nat) : Jor M M n c 0 [] where
  al := Al.refl M List.nodup_range _
  rows := rfl
  few := Nat.zero_le _
  one a ha := by cases ha
  alone a ha := by cases ha
  cols := List.Pairwise.nil
  zero i _ _ j hj := absurd hj (Nat.not_lt_zero _)

theorem Jor.skip {M0 M : Nat → Nat → E} {n c col : Nat} {P : List (Nat × Nat)} (h : Jor M0 M n c col P) (h0 : ∀ i, P.length ≤ i → i < n → M i col = 0) : Jor M0 M n c (col + 1) P where
  al := h.al
  rows := h.rows
  few := h.few
  one a ha := ⟨by have := (h.one a ha).1; omega, (h.one a ha).2⟩
  alone := h.alone
  cols := h.cols
  zero i hi hn j hj := by
    by_cases e : j = col
    · rw [e]; exact h0 i hi hn
    · exact h.zero i hi hn j (by omega)

theorem Jor.swap {M0 M N : Nat → Nat → E} {n c col r s : Nat} {P : List (Nat × Nat)} (h : Jor M0 M n c col P) (hr : P.length ≤ r) (hrn : r < n) (hs : P.length ≤ s) (hsn : s < n) (hN : ∀ i, i < n → ∀ j, N i j = M (swi r s i) j) : Jor M0 N n c col P where
  al := h.al.trans (Al.turn List.nodup_range (swi r s) (fun i hi => List.mem_range.mpr (swi_lt hrn hsn (List.mem_range.mp hi))) (fun i _ => swi_swi r s i) fun i hi j _ => hN i (List.mem_range.mp hi) j)
  rows := h.rows
  few := h.few
  one a ha := by
    have h1 := h.lt ha
    have h2 := h.few
    rw [hN _ (by omega), show swi r s a.1 = a.1 by unfold swi; rw [if_neg (by omega), if_neg (by omega)]]
    exact h.one a ha
  alone a ha i hn hne := by
    rw [hN i hn]
    have h1 := h.lt ha
    refine h.alone a ha _ (swi_lt hrn hsn hn) ?_
    unfold swi
    split
    · omega
    · split
      · omega
      · exact hne
  cols := h.cols
  zero i hi hn j hj := by
    rw [hN i hn]
    refine h.zero _ ?_ (swi_lt hrn hsn hn) j hj
    unfold swi
    split
    · exact hs
    · split
      · exact hr
      · exact hi

/-- The row becomes 1 at the pivot, and is taken from all others. -/
theorem Jor.step {M0 M N : Nat → Nat → E} {n c col p : Nat} {P : List (Nat × Nat)} (h : Jor M0 M n c col P) (hpe : P.length = p) (hp : p < n) (hc : col < c) (h0 : M p col ≠ 0)
    (hN : ∀ i, i < n → ∀ j, j < c → N i j = if i = p then M p j * (M p col).inv else M i j + (M p j * (M p col).inv) * M i col) : Jor M0 N n c (col + 1) (P ++ [(p, col)]) := by
  subst hpe
  have hpc : M P.length col * (M P.length col).inv = 1 := E.mul_inv h0
  have old : ∀ a ∈ P, ∀ i, i < n → N i a.2 = M i a.2 := fun a ha i hi => by
    have h1 := h.one a ha
    have h2 := h.zero P.length (Nat.le_refl _) hp _ h1.1
    rw [hN i hi _ (by omega), h2]
    by_cases e : i = P.length
    · rw [if_pos e, E.zero_mul, e, h2]
    · rw [if_neg e, E.zero_mul, E.zero_mul, E.add_zero]
  have hcol : ∀ i, i < n → N i col = if i = P.length then 1 else 0 := fun i hi => by
    rw [hN i hi _ hc]
    by_cases e : i = P.length
    · rw [if_pos e, if_pos e, hpc]
    · rw [if_neg e, if_neg e, hpc, E.one_mul, E.add_self]
  have hal : Al M N (List.range n) (List.range c) := by
    refine Al.trans (N := fun i j => (if i = P.length then (M P.length col).inv else 1) * M i j) (Al.scale List.nodup_range (fun i => if i = P.length then (M P.length col).inv else 1) (fun i _ => ?_) fun i _ j _ => rfl)
      (Al.take List.nodup_range (k := P.length) (List.mem_range.mpr hp) (fun i => if i = P.length then 0 else M i col) (if_pos rfl) fun i hi j hj => ?_)
    · by_cases e : i = P.length
      · rw [if_pos e]
        intro h2
        rw [h2, E.mul_zero] at hpc
        exact E.one_ne hpc.symm
      · rw [if_neg e]; exact E.one_ne
    · rw [hN i (List.mem_range.mp hi) j (List.mem_range.mp hj), if_pos rfl]
      by_cases e : i = P.length
      · rw [if_pos e, if_pos e, if_pos e, E.zero_mul, E.add_zero, e, E.mul_comm]
      · rw [if_neg e, if_neg e, if_neg e, E.one_mul, E.mul_comm (M i col), E.mul_comm (M P.length col).inv]
  refine ⟨h.al.trans hal, ?_, by rw [List.length_append]; show P.length + 1 ≤ n; omega, fun a ha => ?_, fun a ha i hn hne => ?_, ?_, fun i hi hn j hj => ?_⟩
  · rw [List.map_append, h.rows, List.length_append]
    show List.range P.length ++ [P.length] = List.range (P.length + 1)
    rw [List.range_succ]
  · rcases List.mem_append.mp ha with ha | ha
    · have h1 := h.one a ha
      have h2 := h.lt ha
      exact ⟨by omega, by rw [old a ha _ (by omega)]; exact h1.2⟩
    · obtain rfl := List.mem_singleton.mp ha
      exact ⟨by show col < col + 1; omega, by show N P.length col = 1; rw [hcol _ hp, if_pos rfl]⟩
  · rcases List.mem_append.mp ha with ha | ha
    · rw [old a ha i hn]; exact h.alone a ha i hn hne
    · obtain rfl := List.mem_singleton.mp ha
      show N i col = 0
      rw [hcol i hn]
      exact if_neg hne
  · rw [List.map_append, List.pairwise_append]
    refine ⟨h.cols, List.pairwise_singleton _ _, fun x hx y hy => ?_⟩
    obtain ⟨a, ha, rfl⟩ := List.mem_map.mp hx
    simp at hy
    have := (h.one a ha).1
    omega
  · rw [List.length_append] at hi
    have hi2 : P.length < i := hi
    by_cases e : j = col
    · rw [e, hcol i hn, if_neg (by omega)]
    · rw [hN i hn _ (by omega), if_neg (by omega), h.zero i (by omega) hn _ (by omega), h.zero P.length (Nat.le_refl _) hp _ (by omega), E.zero_mul, E.zero_mul, E.add_zero]

/-- Numbers that rise, as many as there is room for. -/
theorem rise_all : ∀ (l : List Nat) (n : Nat), l.Pairwise (· < ·) → (∀ x ∈ l, x < n) → l.length = n → l = List.range n := by
  intro l n hp hl hlen
  have hn : l.Nodup := hp.imp fun h => Nat.ne_of_lt h
  have hperm : l.Perm (List.range n) := by
    refine (List.perm_ext_iff_of_nodup hn List.nodup_range).mpr fun x => ⟨fun hx => List.mem_range.mpr (hl x hx), fun hx => ?_⟩
    refine Decidable.byContradiction fun hc => ?_
    have h1 := sub_length l ((List.range n).erase x) hn fun y hy => (List.mem_erase_of_ne (fun e => hc (by rw [← e]; exact hy))).mpr (List.mem_range.mpr (hl y hy))
    rw [List.length_erase_of_mem hx, List.length_range] at h1
    have := List.length_pos_of_mem hx
    rw [List.length_range] at this
    omega
  exact hperm.eq_of_pairwise (le := (· < ·)) (fun a b _ _ h1 h2 => by omega) hp List.pairwise_lt_range

/-- As many pivots as rows and columns: the unit stands there. -/
theorem Jor.unit {M0 M : Nat → Nat → E} {n c : Nat} {P : List (Nat × Nat)} (h : Jor M0 M n c n P) (hl : P.length = n) : ∀ i, i < n → ∀ j, j < n → M i j = if i = j then 1 else 0 := by
  intro i hi j hj
  have h2 : P.map (·.2) = List.range n := rise_all _ n h.cols (fun x hx => by
    obtain ⟨a, ha, rfl⟩ := List.mem_map.mp hx
    exact (h.one a ha).1) (by rw [List.length_map, hl])
  have hm : ∀ j, j < n → (j, j) ∈ P := fun j hj => by
    have e1 : (P.map (·.1))[j]? = some j := by rw [h.rows, hl]; simp [hj]
    have e2 : (P.map (·.2))[j]? = some j := by rw [h2]; simp [hj]
    rw [List.getElem?_map] at e1 e2
    cases hP : P[j]? with
    | none => rw [hP] at e1; cases e1
    | some a =>
      rw [hP] at e1 e2
      have e1 : a.1 = j := Option.some.inj e1
      have e2 : a.2 = j := Option.some.inj e2
      have : a = (j, j) := Prod.ext e1 e2
      rw [← this]
      exact List.mem_of_getElem? hP
  have := hm j hj
  by_cases e : i = j
  · rw [if_pos e, e]; exact (h.one _ this).2
  · rw [if_neg e]; exact h.alone _ this i hi e

/-- How many pivots the first columns have: their rank. -/
theorem Jor.rank {M0 M : Nat → Nat → E} {n c col : Nat} {P : List (Nat × Nat)} (h : Jor M0 M n c col P) (hc : col ≤ c) : Rk M0 (List.range n) (List.range col) P.length := by
  have hcn : (P.map (·.2)).Nodup := h.cols.imp fun hab => Nat.ne_of_lt hab
  have hs : P.Pairwise (fun a b => M b.1 a.2 = 0) := by
    have h1 : P.Pairwise (fun a b => a.1 < b.1) := by
      have : (P.map (·.1)).Pairwise (· < ·) := by rw [h.rows]; exact List.pairwise_lt_range
      exact List.pairwise_map.mp this
    exact h1.imp_of_mem fun {a b} ha hb hab => h.alone a ha b.1 (Nat.lt_of_lt_of_le (h.lt hb) h.few) (by omega)
  have hal : Al M0 M (List.range n) (List.range col) := by
    obtain ⟨⟨a, ha⟩, ⟨b, hb⟩⟩ := h.al
    have hsub : ∀ j ∈ List.range col, j ∈ List.range c := fun j hj => List.mem_range.mpr (by have := List.mem_range.mp hj; omega)
    exact ⟨⟨a, fun i hi j hj => ha i hi j (hsub j hj)⟩, ⟨b, fun i hi j hj => hb i hi j (hsub j hj)⟩⟩
  refine hal.symm.rank (rk_steps P (by rw [h.rows]; exact List.nodup_range) hcn (fun a ha => List.mem_range.mpr (Nat.lt_of_lt_of_le (h.lt ha) h.few)) (fun a ha => List.mem_range.mpr (h.one a ha).1) hs (fun a ha => by rw [(h.one a ha).2]; exact E.one_ne) fun i hi hni j hj => ?_)
  refine h.zero i (Nat.le_of_not_lt fun hc => hni ?_) (List.mem_range.mp hi) j (List.mem_range.mp hj)
  rw [h.rows]
  exact List.mem_range.mpr hc

theorem sg_up (F : Nat → E) (k : Nat) : sg F (List.range (k + 1)) = sg F (List.range k) + F k := by
  rw [List.range_succ, sg_append]
  show _ + (F k + 0) = _
  rw [E.add_zero]

/-- A system, the other side as the last column: rows that are left with nothing but the other side have none. -/
theorem Jor.none {M0 M : Nat → Nat → E} {n c : Nat} {P : List (Nat × Nat)} (h : Jor M0 M n (c + 1) c P) {i : Nat} (h1 : P.length ≤ i) (hi : i < n) (h2 : M i c ≠ 0) : ¬ ∃ X : Nat → E, ∀ r, r < n → sg (fun k => M0 r k * X k) (List.range c) = M0 r c := by
  rintro ⟨X, hX⟩
  have h3 := h.al.orth (fun j => if j = c then 1 else X j) (fun r hr => by
    rw [sg_up, if_pos rfl, E.mul_one, sg_congr (H := fun k => M0 r k * X k) fun k hk => by
      have := List.mem_range.mp hk
      rw [if_neg (by omega)], hX r (List.mem_range.mp hr), E.add_self]) i (List.mem_range.mpr hi)
  rw [sg_up, if_pos rfl, E.mul_one, sg_congr (H := fun _ => 0) fun k hk => by
    rw [h.zero i h1 hi k (List.mem_range.mp hk), E.zero_mul], sg_zero, E.zero_add] at h3
  exact h2 h3

/-- Else: the other side at the pivots' places, 0 at the others. -/
theorem Jor.sol {M0 M : Nat → Nat → E} {n c : Nat} {P : List (Nat × Nat)} (h : Jor M0 M n (c + 1) c P) (h0 : ∀ i, P.length ≤ i → i < n → M i c = 0) (X : Nat → E) (hX : ∀ a ∈ P, X a.2 = M a.1 c) (hX0 : ∀ j, j ∉ P.map (·.2) → X j = 0) : ∀ r, r < n → sg (fun k => M0 r k * X k) (List.range c) = M0 r c := by
  have key : ∀ i ∈ List.range n, sg (fun j => M i j * if j = c then 1 else X j) (List.range (c + 1)) = 0 := fun i hi => by
    have hi' := List.mem_range.mp hi
    rw [sg_up, if_pos rfl, E.mul_one, sg_congr (H := fun k => M i k * X k) fun k hk => by
      have := List.mem_range.mp hk
      rw [if_neg (by omega)]]
    by_cases hP : P.length ≤ i
    · rw [sg_congr (H := fun _ => 0) fun k hk => by rw [h.zero i hP hi' k (List.mem_range.mp hk), E.zero_mul], sg_zero, h0 i hP hi', E.add_zero]
    · obtain ⟨a, ha, rfl⟩ : ∃ a ∈ P, a.1 = i := by
        have : i ∈ P.map (·.1) := by rw [h.rows]; exact List.mem_range.mpr (by omega)
        obtain ⟨a, ha, e⟩ := List.mem_map.mp this
        exact ⟨a, ha, e⟩
      have h1 := h.one a ha
      rw [sg_congr (H := fun k => if k = a.2 then X k else 0) fun k _ => ?_, sg_one List.nodup_range (List.mem_range.mpr h1.1) X, hX a ha, E.add_self]
      by_cases e : k = a.2
      · rw [if_pos e, e, h1.2, E.one_mul]
      · rw [if_neg e]
        by_cases hk : k ∈ P.map (·.2)
        · obtain ⟨b, hb, rfl⟩ := List.mem_map.mp hk
          have hne : a.1 ≠ b.1 := fun e2 => by
            have hPn : (P.map (·.1)).Nodup := by rw [h.rows]; exact List.nodup_range
            have : a = b := by
              have hinj := List.pairwise_map.mp hPn
              exact Decidable.byContradiction fun hc => by
                rcases (List.pairwise_iff_forall_sublist.mp hinj) with hh
                rcases (List.mem_iff_getElem.mp ha) with ⟨x, hx, ex⟩
                rcases (List.mem_iff_getElem.mp hb) with ⟨y, hy, ey⟩
                have hxy : x ≠ y := fun e3 => hc (by subst e3; rw [← ex, ← ey])
                have h4 := List.pairwise_iff_getElem.mp hinj
                rcases Nat.lt_or_gt_of_ne hxy with h5 | h5
                · exact h4 x y hx hy h5 (by rw [ex, ey]; exact e2)
                · exact h4 y x hy hx h5 (by rw [ex, ey]; exact e2.symm)
            exact e (by rw [this])
          rw [h.alone b hb a.1 (by omega) hne, E.zero_mul]
        · rw [hX0 k hk, E.mul_zero]
  intro r hr
  have h4 := h.al.symm.orth (fun j => if j = c then 1 else X j) key r (List.mem_range.mpr hr)
  rw [sg_up, if_pos rfl, E.mul_one, sg_congr (H := fun k => M0 r k * X k) fun k hk => by
    have := List.mem_range.mp hk
    rw [if_neg (by omega)]] at h4
  have h6 := congrArg (fun x => x + M0 r c) h4
  rwa [E.add_assoc, E.add_self, E.add_zero, E.zero_add] at h6

end Go.Proofs.Ytebijjigjlcjdaa.Gf

namespace Go.Proofs.Ytebijjigjlcjdaa
open Go.RowKit
open Gf

theorem Grid.row {w : World} {base G R C : Nat} {gs cs : Nat → Nat} {M : Nat → Nat → E} (h : Grid w base G R C gs cs M) {r : Nat} (hr : r < R) : RowB w (gs r) C (M r) := ⟨h.inner r hr, h.free r hr⟩
/-- One row has turned. -/
theorem Grid.rowTo {w w2 : World} {base G R C : Nat} {gs cs : Nat → Nat} {M : Nat → Nat → E} {F : Nat → E} (h : Grid w base G R C gs cs M) {r : Nat} (hr : r < R) (hC : 1 ≤ C) (hm : Mo1 (gs r) w w2) (hF : RowB w2 (gs r) C F) : Grid w2 base G R C gs cs (fun i => if i = r then F else M i) where
  outer i hi := hm.cell (h.outer i hi) (h.far r hr).symm
  outerFree i := (hm.frozen (a := ⟨G, i, none⟩) (World.block_lt_of_cell? w ⟨G, r, none⟩ (h.outer r hr)) (h.far r hr).symm).trans (h.outerFree i)
  inner i hi k hk := by
    by_cases e : i = r
    · subst e; rw [if_pos rfl]; exact hF.1 k hk
    · rw [if_neg e]; exact hm.cell (h.inner i hi k hk) (h.apart i r hi hr e)
  free i hi k := by
    by_cases e : i = r
    · subst e; exact hF.2 k
    · exact (hm.frozen (a := ⟨gs i, k, none⟩) (World.block_lt_of_cell? w ⟨gs i, 0, none⟩ (h.inner i hi 0 (by omega))) (h.apart i r hi hr e)).trans (h.free i hi k)
  apart := h.apart
  far := h.far
  le := h.le
  leG := h.leG
  cap := h.cap

end Go.Proofs.Ytebijjigjlcjdaa

namespace Go.Proofs.Ytebijjigjlcjdaa
open Go.RowKit
open Gf

/-- A slice of L rows in block g, of which the first i are made: rows of C bytes. -/
def OwnP (e : TypeId) (w : World) (base g L C i : Nat) (M : Nat → Nat → E) : Prop :=
  ∃ (us : List Value) (gs : Nat → Nat), us.length = L ∧ RowV e w base (.slice (some ⟨g, 0, none⟩) L L) us ∧ (∀ r s, r < s → s < i → gs r ≠ gs s) ∧
    ∀ r, r < i → base ≤ gs r ∧ gs r < w.heap.size ∧ gs r ≠ g ∧ (∀ k, w.frozen? ⟨gs r, k, none⟩ = false) ∧ (∀ k, k < C → w.cell? ⟨gs r, k, none⟩ = some (.int .u8 (((M r k).v : Nat) : Int))) ∧ ∃ c, nthV us r = .slice (some ⟨gs r, 0, none⟩) C c ∧ C ≤ c ∧ c ≤ maxLen

theorem OwnP.start {e : TypeId} {w : World} {base g L : Nat} {us : List Value} (hl : us.length = L) (h : RowV e w base (.slice (some ⟨g, 0, none⟩) L L) us) (C : Nat) (M : Nat → Nat → E) : OwnP e w base g L C 0 M :=
  ⟨us, fun _ => 0, hl, h, fun _ _ _ hr => absurd hr (Nat.not_lt_zero _), fun _ hr => absurd hr (Nat.not_lt_zero _)⟩
theorem OwnP.ex {e : TypeId} {w w2 : World} {base g L C i : Nat} {M : Nat → Nat → E} (h : OwnP e w base g L C i M) (hx : Ex w w2) : OwnP e w2 base g L C i M := by
  obtain ⟨us, gs, h1, h2, h3, h4⟩ := h
  refine ⟨us, gs, h1, h2.ex hx, h3, fun r hr => ?_⟩
  obtain ⟨k1, k2, k3, k4, k5, k6⟩ := h4 r hr
  exact ⟨k1, Nat.lt_of_lt_of_le k2 hx.size, k3, fun k => (Below.frozen hx k2).trans (k4 k), fun k hk => hx.cell (k5 k hk), k6⟩
/-- A cell of the slice: it is there, and may be stored into. -/
theorem OwnP.cell {e : TypeId} {w : World} {base g L C i : Nat} {M : Nat → Nat → E} (h : OwnP e w base g L C i M) {r : Nat} (hr : r < L) : (∃ u, w.cell? ⟨g, r, none⟩ = some u) ∧ w.frozen? ⟨g, r, none⟩ = false ∧ base ≤ g ∧ g < w.heap.size := by
  obtain ⟨us, gs, h1, h2, _⟩ := h
  rcases h2.form with ⟨h3, _⟩ | ⟨g2, cap2, h3, g3, g4, _, _, hc, hf⟩
  · cases h3
  · simp only [Value.slice.injEq, Option.some.injEq, Addr.mk.injEq, and_true] at h3
    obtain ⟨rfl, _⟩ := h3
    exact ⟨⟨_, hc r (by omega)⟩, hf r, g3, g4⟩

/-- One row more is stored. -/
theorem OwnP.set {e eu : TypeId} {w0 w : World} {base g L C i : Nat} {M : Nat → Nat → E} {F : Nat → E} {row : Value} (h : OwnP e w0 base g L C i M) (hx : Ex w0 w) (hrow : Row eu .u8 w w0.heap.size row (bl F C)) (hC : 1 ≤ C) (hi : i < L) (hb : base ≤ w0.heap.size) :
    OwnP e (w.setCell ⟨g, i, none⟩ row) base g L C (i + 1) (fun r k => if r = i then F k else M r k) := by
  have hbl := bl_length F C
  rcases hrow.form with ⟨_, hn⟩ | ⟨b, c, rfl, g1, g2, g3, g4, g5, g6⟩
  · rw [hn] at hbl; simp at hbl; omega
  rw [hbl] at g3 g5 ⊢
  have hgw := (h.cell hi).2.2.2
  have hpx := h.ex hx
  obtain ⟨us, gs, h1, h2, h3, h4⟩ := h
  have hbg : b ≠ g := by omega
  refine ⟨us.set i (.slice (some ⟨b, 0, none⟩) C c), fun r => if r = i then b else gs r, by simp [h1], ((h2.ex hx).set h1.symm i _).1, fun r s hrs hs => ?_, fun r hr => ?_⟩
  · dsimp only
    by_cases hsi : s = i
    · rw [if_pos hsi, if_neg (by omega)]
      have := (h4 r (by omega)).2.1
      omega
    · rw [if_neg (by omega), if_neg hsi]
      exact h3 r s hrs (by omega)
  · dsimp only
    rw [nthV_set (by omega), World.size_setCell]
    by_cases hri : r = i
    · simp only [if_pos hri]
      refine ⟨by omega, g2, hbg, fun k => by rw [World.frozen?_setCell]; exact g6 k, fun k hk => ?_, c, rfl, g3, g4⟩
      rw [World.cell?_setCell_other _ _ _ _ (fun e2 => by simp only [Addr.mk.injEq] at e2; exact hbg e2.1.symm)]
      have := g5 k hk
      rw [bl_nth hk] at this
      exact this
    · simp only [if_neg hri]
      obtain ⟨k1, k2, k3, k4, k5, k6⟩ := h4 r (by omega)
      refine ⟨k1, Nat.lt_of_lt_of_le k2 hx.size, k3, fun k => by rw [World.frozen?_setCell]; exact (Below.frozen hx k2).trans (k4 k), fun k hk => ?_, k6⟩
      rw [World.cell?_setCell_other _ _ _ _ (fun e2 => by simp only [Addr.mk.injEq] at e2; exact k3 e2.1.symm)]
      exact hx.cell (k5 k hk)
theorem OwnP.congr {e : TypeId} {w : World} {base g L C i : Nat} {M N : Nat → Nat → E} (h : OwnP e w base g L C i M) (he : ∀ r, r < i → ∀ k, k < C → M r k = N r k) : OwnP e w base g L C i N := by
  obtain ⟨us, gs, h1, h2, h3, h4⟩ := h
  refine ⟨us, gs, h1, h2, h3, fun r hr => ?_⟩
  obtain ⟨k1, k2, k3, k4, k5, k6⟩ := h4 r hr
  exact ⟨k1, k2, k3, k4, fun k hk => by rw [← he r hr k hk]; exact k5 k hk, k6⟩
/-- All are made. -/
theorem OwnP.own {e : TypeId} {w : World} {base g L C : Nat} {M : Nat → Nat → E} (h : OwnP e w base g L C L M) : OwnT e w base (.slice (some ⟨g, 0, none⟩) L L) C L M := by
  obtain ⟨us, gs, h1, h2, h3, h4⟩ := h
  refine ⟨us, gs, h1, h2, h3, fun r hr => ?_⟩
  obtain ⟨k1, k2, k3, k4⟩ := h4 r hr
  exact ⟨k1, k2, fun e2 => k3 (Option.some.inj e2).symm, k4⟩

end Go.Proofs.Ytebijjigjlcjdaa

namespace Go.Proofs.Ytebijjigjlcjdaa
open Go.RowKit

set_option maxHeartbeats 1000000 in
theorem grow_bytes (n : Nat) (w : World) (hn : n ≤ 4000000) :
    Calls Try.prog 31 #[.slice none 0 0, .int .i64 n] w (fun e w2 => ∃ v : Value, e = .returned v ∧ Row 5 .u8 w2 w.heap.size v [] ∧ Ex w w2) := by
  by_cases h0 : n = 0
  · subst h0
    go_enter Try.func31, Try.ntmps31
    go_wp2
    go_ret
    exact ⟨_, rfl, Row.nil _ _ _ _, Ex.refl _⟩
  · obtain ⟨i0, hi, hz0, hz1, hz2⟩ := info_parts info_u8
    have hrz : ∀ ty, (Builtin.append_ #[22, 3] ty #[.slice none 0 0, .int .i64 (n : Int)]).run Try.prog w =
        .ok (.slice (some ⟨w.heap.size, 0, none⟩) n (grownCap w n 0 5)) (w.drew.alloc (.cells ((#[] : Array Value) ++ Builtin.zeroCells (Value.int .u8 0).cells n ++ Builtin.zeroCells (Value.int .u8 0).cells (grownCap w n 0 5 - n)) 5)) := fun ty => by
      have h := Lib.run_append_grow_zeros w 22 3 ty 5 i0 _ .i64 .i64 Try.underlying22 Try.underlying3 hi hz0 none 0 0 [] (run_firstCells_none w.drew i0.size 0 0 0) n (by omega) (by omega) (by omega) (by omega)
        (by rw [hz2]; omega) (by rw [Nat.zero_add, nextslicecap_zero (by omega), hz2]; omega)
      rw [Nat.zero_add] at h
      exact h
    have hG := grownCap_ge w n 0 5
    have hG63 := grownCap_le_maxLen w n 0 5 (by unfold maxLen; omega)
    have HR : Hid (Row 5 .u8 (w.drew.alloc (.cells ((#[] : Array Value) ++ Builtin.zeroCells (Value.int .u8 0).cells n ++ Builtin.zeroCells (Value.int .u8 0).cells (grownCap w n 0 5 - n)) 5)) w.heap.size (.slice (some ⟨w.heap.size, 0, none⟩) 0 (grownCap w n 0 5)) []) := by
      refine World.ownsRow_made (w := w.drew) _ _ (Nat.le_refl _) hG63 ?_
      simp only [Array.size_append, size_zeroCells]
      show 0 + n * 1 + (grownCap w n 0 5 - n) * 1 = _
      omega
    have HX := Lib.hid (((Ex.refl w).drew).alloc (.cells ((#[] : Array Value) ++ Builtin.zeroCells (Value.int .u8 0).cells n ++ Builtin.zeroCells (Value.int .u8 0).cells (grownCap w n 0 5 - n)) 5))
    obtain ⟨G, hg⟩ : ∃ G, G = grownCap w n 0 5 := ⟨_, rfl⟩
    rw [← hg] at hrz hG hG63 HR HX
    obtain ⟨W, hW⟩ : ∃ W, W = w.drew.alloc (.cells ((#[] : Array Value) ++ Builtin.zeroCells (Value.int .u8 0).cells n ++ Builtin.zeroCells (Value.int .u8 0).cells (G - n)) 5) := ⟨_, rfl⟩
    rw [← hW] at hrz HR HX
    have HZ := Lib.hid hrz
    unfold maxLen at hG63
    clear hg hW hi hz0 hz1 hz2 hrz
    go_enter Try.func31, Try.ntmps31
    go_wp2_with (at_builtin; refine Lib.wpList_append_run _ rfl _ _ _ _ rfl _ _ rfl rfl _ _ (HZ.out _) ?_)
    go_ret
    exact ⟨_, rfl, HR.out, HX.out⟩

set_option maxHeartbeats 1000000 in
theorem concat_bytes (x y : List Int) (N M : Nat) (a1 a2 : Option Addr) (k1 k2 b : Nat) (w : World) (hN : x.length = N) (hM : y.length = M) (hx : N ≤ 1000000) (hy : M ≤ 1000000)
    (h1 : w.cell? ⟨b, 0, none⟩ = some (.slice a1 N k1)) (h2 : w.cell? ⟨b, 1, none⟩ = some (.slice a2 M k2)) (r1 : Reads w .u8 a1 x) (r2 : Reads w .u8 a2 y) (n1 : a1 = none → k1 = 0) (n2 : a2 = none → k2 = 0) :
    Calls Try.prog 28 #[.slice (some ⟨b, 0, none⟩) 2 2] w (fun e w2 => ∃ v : Value, e = .returned v ∧ Hid (Row 5 .u8 w2 w.heap.size v (x ++ y)) ∧ Ex w w2) := by
  subst hN
  subst hM
  have H1 := Lib.hid h1
  have H2 := Lib.hid h2
  have R1 := Lib.hid r1
  have R2 := Lib.hid r2
  have N1 := Lib.hid n1
  have N2 := Lib.hid n2
  clear r1 r2 n1 n2
  have HG := Lib.hid (grow_bytes (x.length + y.length) w (by omega))
  rw [Int.natCast_add] at HG
  go_enter Try.func28, Try.ntmps28
  go_wp2
  refine wp_loop_rounds 3 ?_
  rw [rounds_succ]
  go_wp2
  rw [rounds_succ]
  go_wp2
  rw [rounds_succ]
  go_wp2_with (go_at_call 31; refine (HG.out).mono ?_; rintro e w1 ⟨vg, rfl, hown1, hx1⟩)
  have g1 := hx1.cell h1
  have g2 := hx1.cell h2
  have HO1 := Lib.hid hown1
  have HX1 := Lib.hid hx1
  clear hown1 hx1 h1 h2
  refine wp_loop_rounds 3 ?_
  rw [rounds_succ]
  go_wp2_with (at_builtin; refine wpList_append_ints rfl _ _ 22 rfl w.heap.size 5 .u8 1 Try.underlying22 info_u8 _ [] rfl HO1.out a1 k1 x rfl N1.out (R1.out.ex HX1.out) (by simp; unfold maxLen; omega) (by simp; omega) HX1.out.size ?_; intro v2 w3 hown3 hgrow3 _)
  have HX3 := Lib.hid (Row.grown HO1.out HX1.out hgrow3)
  have HO3 : Hid (Row 5 .u8 w3 w.heap.size v2 x) := Lib.hid hown3
  have q2 := HX3.out.cell H2.out
  clear hgrow3 hown3 g1 g2
  rw [rounds_succ]
  go_wp2_with (at_builtin; refine wpList_append_ints rfl _ _ 22 rfl w.heap.size 5 .u8 1 Try.underlying22 info_u8 _ x rfl HO3.out a2 k2 y rfl N2.out (R2.out.ex HX3.out) (by unfold maxLen; omega) (by omega) HX3.out.size ?_; intro v4 w4 hown4 hgrow4 _)
  have HX4 := Lib.hid (Row.grown HO3.out HX3.out hgrow4)
  have HO4 := Lib.hid hown4
  clear hgrow4 hown4 q2
  rw [rounds_succ]
  go_wp2
  go_ret
  exact ⟨_, rfl, HO4, HX4.out⟩

/-- The two at hand as a literal. -/
theorem concat_bytes_at (x y c : List Int) (N M n : Nat) (a1 a2 : Option Addr) (k1 k2 : Nat) (w : World) (hc : x ++ y = c) (hn : w.heap.size = n) (hN : x.length = N) (hM : y.length = M) (hx : N ≤ 1000000) (hy : M ≤ 1000000)
    (r1 : Reads w .u8 a1 x) (r2 : Reads w .u8 a2 y) (n1 : a1 = none → k1 = 0) (n2 : a2 = none → k2 = 0) :
    Calls Try.prog 28 #[.slice (some ⟨n, 0, none⟩) 2 2] (w.alloc (.cells #[.slice a1 N k1, .slice a2 M k2] 22))
      (fun e w2 => ∃ v : Value, e = .returned v ∧ Hid (Row 5 .u8 w2 w.heap.size v c) ∧ Ex w w2) := by
  subst hc
  subst hn
  refine (concat_bytes x y N M a1 a2 k1 k2 w.heap.size _ hN hM hx hy (by simp) (by simp) (r1.ex ((Ex.refl w).alloc _)) (r2.ex ((Ex.refl w).alloc _)) n1 n2).mono ?_
  rintro e w2 ⟨v, rfl, hr, hx2⟩
  exact ⟨v, rfl, Lib.hid (hr.out.less (by rw [World.size_alloc]; omega)), ((Ex.refl w).alloc _).trans hx2⟩

end Go.Proofs.Ytebijjigjlcjdaa
