/-
  Several texts in one:
  - Inverse of package matrix, where there is one.
  - ROUCHE; CAPELLI: with the other side as a column more the rank is the same just if there is an answer. No Go in sight.
  - MatrixCapelli, walked.
  - wholeref: TableRank.
  - wholeref: TableDet.
  - MatrixSays, walked.
  - MatrixSolves, walked.
  - Solve of package matrix.
-/
import Derived.Test.YtebijjigjlcjdaaGmd
import Derived.Deep.CutRange
import Derived.Deep.DeepCutAuto
import Derived.Test.YtebijjigjlcjdaaGmk
import Derived.Test.YtebijjigjlcjdaaGmx
import Derived.Test.YtebijjigjlcjdaaMatW
import Derived.Test.YtebijjigjlcjdaaGtb
import Derived.Test.YtebijjigjlcjdaaGmj
import Derived.Test.YtebijjigjlcjdaaMixT
import Derived.Test.YtebijjigjlcjdaaGro
import Derived.Test.YtebijjigjlcjdaaMatUndone
import Derived.Deep.CutBlock
namespace Go.Proofs.Ytebijjigjlcjdaa
open Go.RowKit
open Gf

end Go.Proofs.Ytebijjigjlcjdaa

namespace Go.Proofs.Ytebijjigjlcjdaa.Gf

/-- The first place of all below c that is not 0. -/
theorem first_not {F : Nat → E} : ∀ c, (∀ j, j < c → F j = 0) ∨ ∃ k, k < c ∧ F k ≠ 0 ∧ ∀ j, j < k → F j = 0 := by
  intro c
  induction c with
  | zero => exact .inl fun j hj => absurd hj (Nat.not_lt_zero _)
  | succ c ih =>
    rcases ih with h | ⟨k, hk, h1, h2⟩
    · by_cases e : F c = 0
      · refine .inl fun j hj => ?_
        by_cases ej : j = c
        · rw [ej]; exact e
        · exact h j (by omega)
      · exact .inr ⟨c, by omega, e, h⟩
    · exact .inr ⟨k, by omega, h1, h2⟩

/-- The elimination, the pivot of each row the first that is not 0. -/
theorem elim_some (M : Nat → Nat → E) (n c : Nat) : ∀ p, p ≤ n → ∃ N P, Elim M N n c p P ∧ ∀ a ∈ P, ∀ j, j < a.2 → N a.1 j = 0 := by
  intro p
  induction p with
  | zero => intro _; exact ⟨M, [], Elim.start M n c, fun a ha => by cases ha⟩
  | succ p ih =>
    intro hp
    obtain ⟨N, P, h, hl⟩ := ih (by omega)
    rcases first_not (F := N p) c with h0 | ⟨k, hk, h0, h1⟩
    · exact ⟨N, P, h.skip h0, hl⟩
    · refine ⟨fun i j => if p < i then N i j + N i k * (N p k).inv * N p j else N i j, P ++ [(p, k)], h.step (by omega) hk h0 (fun i => N i k * (N p k).inv) (fun _ => rfl) fun i _ j _ => rfl, fun a ha j hj => ?_⟩
      rcases List.mem_append.mp ha with ha | ha
      · have := h.some a ha
        show (if p < a.1 then _ else N a.1 j) = 0
        rw [if_neg (by omega)]
        exact hl a ha j hj
      · obtain rfl := List.mem_singleton.mp ha
        show (if p < p then _ else N p j) = 0
        rw [if_neg (by omega)]
        exact h1 j hj

theorem Al.fewer {M N : Nat → Nat → E} {R C D : List Nat} (h : Al M N R C) (hD : ∀ j ∈ D, j ∈ C) : Al M N R D := by
  obtain ⟨⟨a, ha⟩, ⟨b, hb⟩⟩ := h
  exact ⟨⟨a, fun i hi j hj => ha i hi j (hD j hj)⟩, ⟨b, fun i hi j hj => hb i hi j (hD j hj)⟩⟩

/-- The last column left out. -/
theorem Elim.less {M N : Nat → Nat → E} {n c : Nat} {P : List (Nat × Nat)} (h : Elim M N n (c + 1) n P) (hl : ∀ a ∈ P, ∀ j, j < a.2 → N a.1 j = 0) : Elim M N n c n (P.filter fun a => decide (a.2 < c)) where
  al := h.al.fewer fun j hj => List.mem_range.mpr (by have := List.mem_range.mp hj; omega)
  some a ha := by
    obtain ⟨h1, h2⟩ := List.mem_filter.mp ha
    have := h.some a h1
    exact ⟨this.1, by simpa using h2, this.2.2⟩
  rows := h.rows.sublist (List.filter_sublist.map _)
  cols := h.cols.sublist (List.filter_sublist.map _)
  steps := h.steps.sublist List.filter_sublist
  ahead a ha i hi hn := by omega
  nought i hi hn hni j hj := by
    by_cases e : i ∈ P.map (·.1)
    · obtain ⟨a, ha, rfl⟩ := List.mem_map.mp e
      by_cases e2 : a.2 < c
      · exact absurd (List.mem_map.mpr ⟨a, List.mem_filter.mpr ⟨ha, by simpa using e2⟩, rfl⟩) hni
      · exact hl a ha j (by omega)
    · exact h.nought i hi hn e j (by omega)

/-- Steps can be solved, from the last one up. -/
theorem steps_solve {N : Nat → Nat → E} {c : Nat} (F : Nat → E) : ∀ (P : List (Nat × Nat)), P.Pairwise (fun a b => N b.1 a.2 = 0) → (∀ a ∈ P, a.2 < c ∧ N a.1 a.2 ≠ 0) → ∃ X : Nat → E, ∀ a ∈ P, sg (fun j => N a.1 j * X j) (List.range c) = F a.1 := by
  intro P
  induction P with
  | nil => intro _ _; exact ⟨fun _ => 0, fun a ha => by cases ha⟩
  | cons p P ih =>
    intro hp h0
    rw [List.pairwise_cons] at hp
    obtain ⟨X, hX⟩ := ih hp.2 fun a ha => h0 a (List.mem_cons_of_mem _ ha)
    obtain ⟨k1, k2⟩ := h0 p (List.mem_cons_self ..)
    obtain ⟨t, ht⟩ : ∃ t, t = (F p.1 + sg (fun j => N p.1 j * X j) (List.range c)) * (N p.1 p.2).inv := ⟨_, rfl⟩
    have key : ∀ i, sg (fun j => N i j * (X j + if j = p.2 then t else 0)) (List.range c) = sg (fun j => N i j * X j) (List.range c) + N i p.2 * t := fun i => by
      rw [sg_congr (H := fun j => N i j * X j + if j = p.2 then N i j * t else 0) fun j _ => by
        rw [E.mul_add]
        by_cases e : j = p.2
        · rw [if_pos e, if_pos e]
        · rw [if_neg e, if_neg e, E.mul_zero], sg_add]
      congr 1
      exact sg_one List.nodup_range (List.mem_range.mpr k1) fun j => N i j * t
    refine ⟨fun j => X j + if j = p.2 then t else 0, fun a ha => ?_⟩
    rw [key]
    rcases List.mem_cons.mp ha with rfl | ha
    · rw [ht, E.mul_comm _ (N a.1 a.2).inv, ← E.mul_assoc, E.mul_inv k2, E.one_mul, E.add_comm (F a.1), ← E.add_assoc, E.add_self, E.zero_add]
    · rw [hp.1 a ha, E.zero_mul, E.add_zero, hX a ha]

theorem sg_last (F : Nat → E) (k : Nat) : sg F (List.range (k + 1)) = sg F (List.range k) + F k := by
  rw [List.range_succ, sg_append]
  show _ + (F k + 0) = _
  rw [E.add_zero]

/-- With F as column c. -/
def wid (A : Nat → Nat → E) (F : Nat → E) (c : Nat) : Nat → Nat → E := fun i j => if j = c then F i else A i j

theorem wid_le {A : Nat → Nat → E} {F : Nat → E} {n c r s : Nat} (hr : Rk A (List.range n) (List.range c) r) (hs : Rk (wid A F c) (List.range n) (List.range (c + 1)) s) : r ≤ s := by
  have h : Hm (wid A F c) (List.range n) (List.range c) r := hr.1.entries fun i _ j hj => by
    have := List.mem_range.mp hj
    unfold wid
    rw [if_neg (by omega)]
  obtain ⟨R', C', k1, k2, k3, k4, k5⟩ := h
  exact hs.2 r ⟨R', C', k1, k2, k3, fun j hj => List.mem_range.mpr (by have := List.mem_range.mp (k4 j hj); omega), k5⟩

theorem capelli {A : Nat → Nat → E} {F : Nat → E} {n c r s : Nat} (hr : Rk A (List.range n) (List.range c) r) (hs : Rk (wid A F c) (List.range n) (List.range (c + 1)) s) :
    s = r ↔ ∃ X : Nat → E, ∀ i, i < n → sg (fun k => A i k * X k) (List.range c) = F i := by
  have hA : ∀ i j, j ∈ List.range c → wid A F c i j = A i j := fun i j hj => by
    have := List.mem_range.mp hj
    unfold wid
    rw [if_neg (by omega)]
  have hr' : Rk (wid A F c) (List.range n) (List.range c) r := ⟨hr.1.entries fun i _ j hj => (hA i j hj).symm, fun t ht => hr.2 t (ht.entries fun i _ j hj => hA i j hj)⟩
  constructor
  · intro e
    obtain ⟨N, P, h, hl⟩ := elim_some (wid A F c) n (c + 1) n (Nat.le_refl _)
    have h1 := h.rank.uniq hs
    have h2 := (h.less hl).rank.uniq hr'
    have h3 : P.filter (fun a => decide (a.2 < c)) = P := List.filter_sublist.eq_of_length (by omega)
    have hP : ∀ a ∈ P, a.2 < c := fun a ha => by
      rw [← h3] at ha
      simpa using (List.mem_filter.mp ha).2
    obtain ⟨X, hX⟩ := steps_solve (N := N) (c := c) (fun i => N i c) P h.steps fun a ha => ⟨hP a ha, (h.some a ha).2.2⟩
    have h4 := h.al.symm.orth (fun j => if j = c then 1 else X j) fun i hi => by
      rw [sg_last, if_pos rfl, E.mul_one, sg_congr (H := fun j => N i j * X j) fun j hj => by
        have := List.mem_range.mp hj
        rw [if_neg (by omega)]]
      by_cases hiP : i ∈ P.map (·.1)
      · obtain ⟨a, ha, rfl⟩ := List.mem_map.mp hiP
        rw [hX a ha, E.add_self]
      · have hz := h.nought i (List.mem_range.mp hi) (List.mem_range.mp hi) hiP
        rw [sg_congr (H := fun _ => 0) fun j hj => by rw [hz j (by have := List.mem_range.mp hj; omega), E.zero_mul], sg_zero, hz c (by omega), E.add_zero]
    refine ⟨X, fun i hi => ?_⟩
    have h5 := h4 i (List.mem_range.mpr hi)
    rw [sg_last, if_pos rfl, E.mul_one, sg_congr (H := fun k => A i k * X k) fun j hj => by
      rw [hA i j hj]
      have := List.mem_range.mp hj
      rw [if_neg (by omega)], show wid A F c i c = F i from if_pos rfl] at h5
    have h6 := congrArg (fun x => x + F i) h5
    rwa [E.add_assoc, E.add_self, E.add_zero, E.zero_add] at h6
  · rintro ⟨X, hX⟩
    have hc : Hm (wid A F c) (List.range n) (c :: List.range c) s := by
      obtain ⟨R', C', k1, k2, k3, k4, k5⟩ := hs.1
      refine ⟨R', C', k1, k2, k3, fun j hj => ?_, k5⟩
      have := List.mem_range.mp (k4 j hj)
      by_cases e : j = c
      · exact List.mem_cons.mpr (.inl e)
      · exact List.mem_cons_of_mem _ (List.mem_range.mpr (by omega))
    have h1 := Hm.column (x := X) (fun i hi => by
      rw [show wid A F c i c = F i from if_pos rfl, ← hX i (List.mem_range.mp hi)]
      exact sg_congr fun j hj => by rw [hA i j hj]) List.nodup_range hc
    have h2 := hr'.2 s h1
    obtain ⟨R', C', k1, k2, k3, k4, k5⟩ := hr'.1
    have h3 := hs.2 r ⟨R', C', k1, k2, k3, fun j hj => List.mem_range.mpr (by have := List.mem_range.mp (k4 j hj); omega), k5⟩
    omega

end Go.Proofs.Ytebijjigjlcjdaa.Gf

namespace Go.Proofs.Ytebijjigjlcjdaa
open Go.RowKit
open Gf

/-- A row of bytes that came in. -/
theorem IsInts.row {w : World} {a : Option Addr} {len cap : Nat} {z : List Int} (h : IsInts .u8 1 w a len cap z) (h1 : 1 ≤ len) : ReadsF w a len (fun k => eo (nth z k)) := by
  obtain ⟨e1, _, _, e4, _, e6⟩ := h
  rcases e4 with e4 | ⟨b, off, rfl, hc⟩
  · rw [e4] at e1; simp at e1; omega
  · refine ⟨b, off, rfl, fun k hk => ?_⟩
    have hb := wf_u8 (e6 _ (nth_mem (xs := z) (i := k) (by omega)))
    rw [eo_v hb.1 hb.2]
    exact hc k (by omega)

theorem solE_is {m : List (List Int)} {l : Nat} (h : solE m l ≠ 0) : solE m l = 2 ∨ solE m l = 3 := by
  unfold solE at h ⊢
  rcases tabE_is m with e | e | e
  · rw [if_neg (by simpa using e)] at h ⊢
    by_cases h2 : l ≠ m.length
    · rw [if_pos h2]; exact .inr rfl
    · rw [if_neg h2] at h; exact absurd rfl h
  · rw [if_pos (by rw [e]; decide), e]; exact .inl rfl
  · rw [if_pos (by rw [e]; decide), e]; exact .inr rfl

def lit41 : Nat → E := fun k => if k = 0 then ⟨4, by decide⟩ else 1
def lit61 : Nat → E := fun k => if k = 0 then ⟨6, by decide⟩ else 1
theorem sol_some : Solves (litM [[1, 2], [0, 1]]) 2 2 lit41 lit61 := fun i hi => by
  have : i = 0 ∨ i = 1 := by omega
  rcases this with rfl | rfl <;> exact E.ext (by decide)
theorem sol_one {X : Nat → E} (h : Solves (litM [[1, 2], [0, 1]]) 2 2 lit41 X) : X 0 = ⟨6, by decide⟩ ∧ X 1 = 1 := by
  have h0 := h 0 (by omega)
  have h1 := h 1 (by omega)
  have e : ∀ i, sg (fun k => litM [[1, 2], [0, 1]] i k * X k) (List.range 2) = litM [[1, 2], [0, 1]] i 0 * X 0 + litM [[1, 2], [0, 1]] i 1 * X 1 := fun i => by
    show _ + (_ + 0) = _
    rw [E.add_zero]
  rw [e] at h0 h1
  rw [show litM [[1, 2], [0, 1]] 1 0 = 0 from E.ext (by decide), show litM [[1, 2], [0, 1]] 1 1 = 1 from E.ext (by decide), E.zero_mul, E.zero_add, E.one_mul] at h1
  have h1 : X 1 = 1 := h1
  rw [show litM [[1, 2], [0, 1]] 0 0 = 1 from E.ext (by decide), E.one_mul, h1, E.mul_one] at h0
  refine ⟨?_, h1⟩
  have h2 := congrArg (fun x => x + litM [[1, 2], [0, 1]] 0 1) h0
  rw [E.add_assoc, E.add_self, E.add_zero] at h2
  rw [h2]
  exact E.ext (by decide)

theorem wid_row (A : Nat → Nat → E) (F : Nat → E) (C i : Nat) : bl (A i) C ++ [(((F i).v : Nat) : Int)] = bl (wid A F C i) (C + 1) := by
  rw [← bl_snoc, show wid A F C i C = F i from if_pos rfl]
  congr 1
  unfold bl
  refine List.map_congr_left fun k hk => ?_
  have := List.mem_range.mp hk
  unfold wid
  rw [if_neg (by omega)]

theorem two_cells (w : World) (x y : Int) (T : TypeId) (F : Nat → E) (h0 : (((F 0).v : Nat) : Int) = x) (h1 : (((F 1).v : Nat) : Int) = y) : ReadsF (w.alloc (.cells #[.int .u8 x, .int .u8 y] T)) (some ⟨w.heap.size, 0, none⟩) 2 F :=
  ⟨_, 0, rfl, fun k hk => by
    rw [Nat.zero_add, World.cell?_alloc_new]
    have : k = 0 ∨ k = 1 := by omega
    rcases this with rfl | rfl
    · rw [h0]; rfl
    · rw [h1]; rfl⟩

theorem eq_lit (X : Nat → E) (h0 : X 0 = ⟨6, by decide⟩) (h1 : X 1 = 1) (b1 o1 c1 : Nat) (w : World) (h : ∀ k, k < 2 → w.cell? ⟨b1, o1 + k, none⟩ = some (.int .u8 (((X k).v : Nat) : Int))) :
    Calls Try.prog 17 #[.slice (some ⟨b1, o1, none⟩) 2 c1, .slice (some ⟨w.heap.size, 0, none⟩) 2 2] (w.alloc (.cells #[.int .u8 6, .int .u8 1] 5)) (Says (.bool true) w) := by
  have hx := (Ex.refl w).alloc (.cells #[.int .u8 6, .int .u8 1] 5)
  obtain ⟨b, off, e, hc⟩ := two_cells w 6 1 5 X (by rw [h0]; rfl) (by rw [h1]; rfl)
  simp only [Option.some.injEq, Addr.mk.injEq, and_true] at e
  obtain ⟨rfl, rfl⟩ := e
  exact (sameBytes_any X 2 (by omega) b1 o1 w.heap.size 0 c1 2 _ (fun k hk => hx.cell (h k hk)) hc).mono fun e w2 ⟨k1, k2⟩ => ⟨k1, hx.trans k2⟩

end Go.Proofs.Ytebijjigjlcjdaa

namespace Go.Proofs.Ytebijjigjlcjdaa
open Go.RowKit
open Gf

/-- l rows behind row p are done, and of the next one e entries. -/
def elE (M : Nat → Nat → E) (p : Nat) (f : Nat → E) (l e : Nat) : Nat → Nat → E := fun i j => if (p < i ∧ i ≤ p + l) ∨ (i = p + 1 + l ∧ j < e) then M i j + f i * M p j else M i j
theorem elE_start (M : Nat → Nat → E) (p : Nat) (f : Nat → E) : elE M p f 0 0 = M := by
  funext i j
  unfold elE
  rw [if_neg (by omega)]
theorem elE_row (M : Nat → Nat → E) (p : Nat) (f : Nat → E) (l e j : Nat) : elE M p f l e p j = M p j := by
  unfold elE
  rw [if_neg (by omega)]
theorem elE_at (M : Nat → Nat → E) (p : Nat) (f : Nat → E) (l e j : Nat) (h : e ≤ j) : elE M p f l e (p + 1 + l) j = M (p + 1 + l) j := by
  unfold elE
  rw [if_neg (by omega)]
theorem elE_next (M : Nat → Nat → E) (p : Nat) (f : Nat → E) (l e : Nat) : updM (elE M p f l e) (p + 1 + l) e (M (p + 1 + l) e + f (p + 1 + l) * M p e) = elE M p f l (e + 1) := by
  funext i j
  unfold updM elE
  by_cases h : i = p + 1 + l ∧ j = e
  · obtain ⟨rfl, rfl⟩ := h
    rw [if_pos ⟨rfl, rfl⟩, if_pos (by omega)]
  · rw [if_neg h]
    by_cases h2 : (p < i ∧ i ≤ p + l) ∨ (i = p + 1 + l ∧ j < e)
    · rw [if_pos h2, if_pos (by omega)]
    · rw [if_neg h2, if_neg (by omega)]
theorem elE_done (M : Nat → Nat → E) (p : Nat) (f : Nat → E) (l R i j : Nat) (hj : j < R) : elE M p f l R i j = elE M p f (l + 1) 0 i j := by
  unfold elE
  by_cases h : (p < i ∧ i ≤ p + l) ∨ (i = p + 1 + l ∧ j < R)
  · rw [if_pos h, if_pos (by omega)]
  · rw [if_neg h, if_neg (by omega)]
theorem elE_end (M : Nat → Nat → E) (p : Nat) (f : Nat → E) (n i j : Nat) (hp : p < n) (hi : i < n) : elE M p f (n - (p + 1)) 0 i j = if p < i then M i j + f i * M p j else M i j := by
  unfold elE
  by_cases h : p < i
  · rw [if_pos h, if_pos (by omega)]
  · rw [if_neg h, if_neg (by omega)]

end Go.Proofs.Ytebijjigjlcjdaa

namespace Go.Proofs.Ytebijjigjlcjdaa
open Go.RowKit
open Gf

theorem bi_bit (x j : Nat) : bi x j = (x.testBit j).toNat := by
  unfold bi
  rw [Nat.testBit_eq_decide_div_mod_eq]
  have := Nat.mod_lt (x / 2 ^ j) (show 2 > 0 by decide)
  by_cases h1 : x / 2 ^ j % 2 = 1
  · simp [h1]
  · have h2 : x / 2 ^ j % 2 = 0 := by omega
    simp [h2]
theorem bi_on {x j : Nat} : bi x j = 1 ↔ x.testBit j = true := by rw [bi_bit]; cases x.testBit j <;> simp
theorem strike_on {s k : Nat} (h : bi s k = 1) (j : Nat) : bi (s ^^^ 2 ^ k) j = 1 ↔ bi s j = 1 ∧ j ≠ k := by
  rw [bi_on] at h
  rw [bi_on, bi_on, Nat.testBit_xor, Nat.testBit_two_pow]
  by_cases e : k = j
  · subst e; simp [h]
  · have e2 : j ≠ k := fun h => e h.symm
    simp [e, e2]
theorem strike_lt {s k : Nat} (h : bi s k = 1) : s ^^^ 2 ^ k < s := by
  rw [bi_on] at h
  have e : s ^^^ 2 ^ k = s &&& (s ^^^ 2 ^ k) := by
    apply Nat.eq_of_testBit_eq
    intro j
    rw [Nat.testBit_and, Nat.testBit_xor, Nat.testBit_two_pow]
    by_cases e : k = j
    · subst e; simp [h]
    · simp [e]
  have h1 : s ^^^ 2 ^ k ≤ s := by rw [e]; exact Nat.and_le_left
  refine Nat.lt_of_le_of_ne h1 fun h2 => ?_
  have h3 := congrArg (fun x => Nat.testBit x k) h2
  simp [h] at h3
theorem pow_le_4096 {n : Nat} (h : n ≤ 12) : 2 ^ n ≤ 4096 := Nat.pow_le_pow_right (n := 2) (by decide) h

theorem andNot_strike {s k : Nat} (hs : s < 65536) (hk : k ≤ 15) (h : bi s k = 1) : bits .andNot .i64 (s : Int) ((2 ^ k : Nat) : Int) = ((s ^^^ 2 ^ k : Nat) : Int) := by
  have hp := pow_le_15 hk
  have hlt := strike_lt h
  show IntKind.i64.wrap ((BitVec.ofInt 64 (s : Int) &&& ~~~ BitVec.ofInt 64 ((2 ^ k : Nat) : Int)).toNat : Int) = _
  have e : (BitVec.ofInt 64 (s : Int) &&& ~~~ BitVec.ofInt 64 ((2 ^ k : Nat) : Int)) = BitVec.ofInt 64 (s : Int) ^^^ BitVec.ofInt 64 ((2 ^ k : Nat) : Int) := by
    apply BitVec.eq_of_getLsbD_eq
    intro j hj
    have e1 : (BitVec.ofInt 64 (s : Int)).getLsbD j = s.testBit j := by
      show (BitVec.ofInt 64 (s : Int)).toNat.testBit j = _
      rw [nat_i64 s (by omega)]
    have e2 : (BitVec.ofInt 64 ((2 ^ k : Nat) : Int)).getLsbD j = (2 ^ k).testBit j := by
      show (BitVec.ofInt 64 ((2 ^ k : Nat) : Int)).toNat.testBit j = _
      rw [nat_i64 _ (by omega)]
    rw [BitVec.getLsbD_and, BitVec.getLsbD_not, BitVec.getLsbD_xor, e1, e2, Nat.testBit_two_pow]
    rw [bi_on] at h
    by_cases e3 : k = j
    · subst e3; simp [h]
    · simp [e3, hj]
  rw [e, BitVec.toNat_xor, nat_i64 s (by omega), nat_i64 _ (by omega)]
  exact IntWalk.i64_in _ (by omega)

theorem cl_le (n s : Nat) : (cl n s).length ≤ n := by
  have := List.length_filter_le (fun k => s / 2 ^ k % 2 == 1) (List.range n)
  rw [List.length_range] at this
  exact this
theorem cl_some {n s : Nat} (h1 : 1 ≤ s) (h2 : s < 2 ^ n) : 1 ≤ (cl n s).length := by
  refine Nat.pos_of_ne_zero fun hc => ?_
  have hc := List.length_eq_zero_iff.mp hc
  have : s = 0 := by
    apply Nat.eq_of_testBit_eq
    intro j
    rw [Nat.zero_testBit]
    by_cases hj : j < n
    · cases h : s.testBit j with
      | false => rfl
      | true =>
        have : j ∈ cl n s := mem_cl.mpr ⟨hj, bi_on.mpr h⟩
        rw [hc] at this
        cases this
    · exact Nat.testBit_lt_two_pow (Nat.lt_of_lt_of_le h2 (Nat.pow_le_pow_right (by decide) (by omega)))
  omega

/-- What det[s] becomes, column by column. -/
def tcol (M : Nat → Nat → E) (n s k : Nat) : E := tp (fun k => M ((cl n s).length - 1) k * td M n (s ^^^ 2 ^ k)) s k
theorem tcol_all (M : Nat → Nat → E) {n s : Nat} (h1 : 1 ≤ s) (h2 : s < 2 ^ n) : tcol M n s n = td M n s := by
  have h := cl_some h1 h2
  rw [td_step M (r := (cl n s).length - 1) (by omega) (fun k => s ^^^ 2 ^ k) fun k hk j hj => strike_on (mem_cl.mp hk).2 j]
  rfl

theorem tcol_zero (M : Nat → Nat → E) (n s : Nat) : tcol M n s 0 = 0 := rfl
theorem tcol_yes (M : Nat → Nat → E) {n s k : Nat} (h : bi s k = 1) : tcol M n s (k + 1) = tcol M n s k + M ((cl n s).length - 1) k * td M n (s ^^^ 2 ^ k) := tp_yes _ h
theorem tcol_no (M : Nat → Nat → E) {n s k : Nat} (h : ¬ bi s k = 1) : tcol M n s (k + 1) = tcol M n s k := tp_no _ h

theorem upd_upd (F : Nat → Int) (j : Nat) (x y : Int) : upd (upd F j x) j y = upd F j y := by
  funext t
  unfold upd
  by_cases h : t = j <;> simp [h]

/-- The bytes so far. -/
def dF (M : Nat → Nat → E) (n s : Nat) : Nat → Int := fun t => if t < s then (((td M n t).v : Nat) : Int) else 0

end Go.Proofs.Ytebijjigjlcjdaa

namespace Go.Proofs.Ytebijjigjlcjdaa
open Go.RowKit
open Gf

/-- Any table that came in: as the document's own error of it wants it. -/
theorem IsMat.err {w : World} {a : Option Addr} {len cap : Nat} {m : List (List Int)} (h : IsMat .u8 w a len cap m) : m.length = len ∧ len ≤ maxLen ∧ ReadsM .u8 w a m ∧ ∀ r ∈ m, r.length ≤ maxLen := by
  obtain ⟨h1, h2, h3, h4, _, h6⟩ := h
  exact ⟨h1, by unfold maxLen; omega, h4, fun r hr => (h6 r hr).2⟩

end Go.Proofs.Ytebijjigjlcjdaa

namespace Go.Proofs.Ytebijjigjlcjdaa
open Go.RowKit
open Gf

end Go.Proofs.Ytebijjigjlcjdaa

namespace Go.Proofs.Ytebijjigjlcjdaa
open Go.RowKit
open Gf

theorem RowB.of {w : World} {base n cap g : Nat} {F : Nat → E} (h : Row 5 .u8 w base (.slice (some ⟨g, 0, none⟩) n cap) (bl F n)) : RowB w g n F := by
  rcases h.form with ⟨h1, _⟩ | ⟨g2, cap2, h1, _, _, _, _, h2, h3⟩
  · cases h1
  · simp only [Value.slice.injEq, Option.some.injEq, Addr.mk.injEq, and_true] at h1
    obtain ⟨rfl, _⟩ := h1
    refine ⟨fun k hk => ?_, h3⟩
    rw [h2 k (by rw [bl_length]; exact hk), bl_nth hk]

end Go.Proofs.Ytebijjigjlcjdaa
