/-
  Several texts in one:
  - Inverse of package matrix, where there is one.
  - ROUCHE; CAPELLI: with the other side as a column more the rank is the same just if there is an answer. No Go in sight.
  - MatrixCapelli, walked.
  - wholeref: TableRank.
  - wholeref: TableDet.
  - MatrixSays, walked.
  - MatrixSolves, walked.
  - Solve of package matrix.
-/
import Derived.Test.YtjccpfpldbjcbaaGmd
import Derived.Deep.CutRange
import Derived.Deep.DeepCutAuto
import Derived.Test.YtjccpfpldbjcbaaGmk
import Derived.Test.YtjccpfpldbjcbaaGmx
import Derived.Test.YtjccpfpldbjcbaaMatW
import Derived.Test.YtjccpfpldbjcbaaGtb
import Derived.Test.YtjccpfpldbjcbaaGmj
import Derived.Test.YtjccpfpldbjcbaaMixT
import Derived.Test.YtjccpfpldbjcbaaGro
import Derived.Test.YtjccpfpldbjcbaaMatUndone
import Derived.Deep.CutBlock
namespace Go.Proofs.Ytjccpfpldbjcbaa
open Go.RowKit
open Gf

end Go.Proofs.Ytjccpfpldbjcbaa

namespace Go.Proofs.Ytjccpfpldbjcbaa.Gf

/-- The first place of all below c that is not 0. -/
theorem first_not {F : Nat → E} : ∀ c, (∀ j, j < c → F j = 0) ∨ ∃ k, k < c ∧ F k ≠ 0 ∧ ∀ j, j < k → F j = 0 := by
  intro c
  induction c with
  | zero => exact .inl fun j hj => absurd hj (Nat.not_lt_zero _)
  | succ c ih =>
    rcases ih with h | ⟨k, hk, h1, h2⟩
    · by_cases e : F c = 0
      · refine .inl fun j hj => ?_
        by_cases ej : j = c
        · rw [ej]; exact e
        · exact h j (by omega)
      · exact .inr ⟨c, by omega, e, h⟩
    · exact .inr ⟨k, by omega, h1, h2⟩

/-- The elimination, the pivot of each row the first that is not 0. -/
theorem elim_some (M : Nat → Nat → E) (n c : Nat) : ∀ p, p ≤ n → ∃ N P, Elim M N n c p P ∧ ∀ a ∈ P, ∀ j, j < a.2 → N a.1 j = 0 := by
  intro p
  induction p with
  | zero => intro _; exact ⟨M, [], Elim.start M n c, fun a ha => by cases ha⟩
  | succ p ih =>
    intro hp
    obtain ⟨N, P, h, hl⟩ := ih (by omega)
    rcases first_not (F := N p) c with h0 | ⟨k, hk, h0, h1⟩
    · exact ⟨N, P, h.skip h0, hl⟩
    · refine ⟨fun i j => if p < i then N i j + N i k * (N p k).inv * N p j else N i j, P ++ [(p, k)], h.step (by omega) hk h0 (fun i => N i k * (N p k).inv) (fun _ => rfl) fun i _ j _ => rfl, fun a ha j hj => ?_⟩
      rcases List.mem_append.mp ha with ha | ha
      · have := h.some a ha
        show (if p < a.1 then _ else N a.1 j) = 0
        rw [if_neg (by omega)]
        exact hl a ha j hj
      · obtain rfl := List.mem_singleton.mp ha
        show (if p < p then _ else N p j) = 0
        rw [if_neg (by omega)]
        exact h1 j hj

theorem Al.fewer {M N : Nat → Nat → E} {R C D : List Nat} (h : Al M N R C) (hD : ∀ j ∈ D, j ∈ C) : Al M N R D := by
  obtain ⟨⟨a, ha⟩, ⟨b, hb⟩⟩ := h
  exact ⟨⟨a, fun i hi j hj => ha i hi j (hD j hj)⟩, ⟨b, fun i hi j hj => hb i hi j (hD j hj)⟩⟩

/-- The last column left out. -/
theorem Elim.less {M N : Nat → Nat → E} {n c : Nat} {P : List (Nat × Nat)} (h : Elim M N n (c + 1) n P) (hl : ∀ a ∈ P, ∀ j, j < a.2 → N a.1 j = 0) : Elim M N n c n (P.filter fun a => decide (a.2 < c)) where
  al := h.al.fewer fun j hj => List.mem_range.mpr (by have := List.mem_range.mp hj; omega)
  some a ha := by
    obtain ⟨h1, h2⟩ := List.mem_filter.mp ha
    have := h.some a h1
    exact ⟨this.1, by simpa using h2, this.2.2⟩
  rows := h.rows.sublist (List.filter_sublist.map _)
  cols := h.cols.sublist (List.filter_sublist.map _)
  steps := h.steps.sublist List.filter_sublist
  ahead a ha i hi hn := by omega
  nought i hi hn hni j hj := by
    by_cases e : i ∈ P.map (·.1)
    · obtain ⟨a, ha, rfl⟩ := List.mem_map.mp e
      by_cases e2 : a.2 < c
      · exact absurd (List.mem_map.mpr ⟨a, List.mem_filter.mpr ⟨ha, by simpa using e2⟩, rfl⟩) hni
      · exact hl a ha j (by omega)
    · exact h.nought i hi hn e j (by omega)

/-- Steps can be solved, from the last one up. -/
theorem steps_solve {N : Nat → Nat → E} {c : Nat} (F : Nat → E) : ∀ (P : List (Nat × Nat)), P.Pairwise (fun a b => N b.1 a.2 = 0) → (∀ a ∈ P, a.2 < c ∧ N a.1 a.2 ≠ 0) → ∃ X : Nat → E, ∀ a ∈ P, sg (fun j => N a.1 j * X j) (List.range c) = F a.1 := by
  intro P
  induction P with
  | nil => intro _ _; exact ⟨fun _ => 0, fun a ha => by cases ha⟩
  | cons p P ih =>
    intro hp h0
    rw [List.pairwise_cons] at hp
    obtain ⟨X, hX⟩ := ih hp.2 fun a ha => h0 a (List.mem_cons_of_mem _ ha)
    obtain ⟨k1, k2⟩ := h0 p (List.mem_cons_self ..)
    obtain ⟨t, ht⟩ : ∃ t, t = (F p.1 + sg (fun j => N p.1 j * X j) (List.range c)) * (N p.1 p.2).inv := ⟨_, rfl⟩
    have key : ∀ i, sg (fun j => N i j * (X j + if j = p.2 then t else 0)) (List.range c) = sg (fun j => N i j * X j) (List.range c) + N i p.2 * t := fun i => by
      rw [sg_congr (H := fun j => N i j * X j + if j = p.2 then N i j * t else 0) fun j _ => by
        rw [E.mul_add]
        by_cases e : j = p.2
        · rw [if_pos e, if_pos e]
        · rw [if_neg e, if_neg e, E.mul_zero], sg_add]
      congr 1
      exact sg_one List.nodup_range (List.mem_range.mpr k1) fun j => N i j * t
    refine ⟨fun j => X j + if j = p.2 then t else 0, fun a ha => ?_⟩
    rw [key]
    rcases List.mem_cons.mp ha with rfl | ha
    · rw [ht, E.mul_comm _ (N a.1 a.2).inv, ← E.mul_assoc, E.mul_inv k2, E.one_mul, E.add_comm (F a.1), ← E.add_assoc, E.add_self, E.zero_add]
    · rw [hp.1 a ha, E.zero_mul, E.add_zero, hX a ha]

theorem sg_last (F : Nat → E) (k : Nat) : sg F (List.range (k + 1)) = sg F (List.range k) + F k := by
  rw [List.range_succ, sg_append]
  show _ + (F k + 0) = _
  rw [E.add_zero]

/-- With F as column c. -/
def wid (A : Nat → Nat → E) (F : Nat → E) (c : Nat) : Nat → Nat → E := fun i j => if j = c then F i else A i j

theorem wid_le {A : Nat → Nat → E} {F : Nat → E} {n c r s : Nat} (hr : Rk A (List.range n) (List.range c) r) (hs : Rk (wid A F c) (List.range n) (List.range (c + 1)) s) : r ≤ s := by
  have h : Hm (wid A F c) (List.range n) (List.range c) r := hr.1.entries fun i _ j hj => by
    have := List.mem_range.mp hj
    unfold wid
    rw [if_neg (by omega)]
  obtain ⟨R', C', k1, k2, k3, k4, k5⟩ := h
  exact hs.2 r ⟨R', C', k1, k2, k3, fun j hj => List.mem_range.mpr (by have := List.mem_range.mp (k4 j hj); omega), k5⟩

theorem capelli {A : Nat → Nat → E} {F : Nat → E} {n c r s : Nat} (hr : Rk A (List.range n) (List.range c) r) (hs : Rk (wid A F c) (List.range n) (List.range (c + 1)) s) :
    s = r ↔ ∃ X : Nat → E, ∀ i, i < n → sg (fun k => A i k * X k) (List.range c) = F i := by
  have hA : ∀ i j, j ∈ List.range c → wid A F c i j = A i j := fun i j hj => by
    have := List.mem_range.mp hj
    unfold wid
    rw [if_neg (by omega)]
  have hr' : Rk (wid A F c) (List.range n) (List.range c) r := ⟨hr.1.entries fun i _ j hj => (hA i j hj).symm, fun t ht => hr.2 t (ht.entries fun i _ j hj => hA i j hj)⟩
  constructor
  · intro e
    obtain ⟨N, P, h, hl⟩ := elim_some (wid A F c) n (c + 1) n (Nat.le_refl _)
    have h1 := h.rank.uniq hs
    have h2 := (h.less hl).rank.uniq hr'
    have h3 : P.filter (fun a => decide (a.2 < c)) = P := List.filter_sublist.eq_of_length (by omega)
    have hP : ∀ a ∈ P, a.2 < c := fun a ha => by
      rw [← h3] at ha
      simpa using (List.mem_filter.mp ha).2
    obtain ⟨X, hX⟩ := steps_solve (N := N) (c := c) (fun i => N i c) P h.steps fun a ha => ⟨hP a ha, (h.some a ha).2.2⟩
    have h4 := h.al.symm.orth (fun j => if j = c then 1 else X j) fun i hi => by
      rw [sg_last, if_pos rfl, E.mul_one, sg_congr (H := fun j => N i j * X j) fun j hj => by
        have := List.mem_range.mp hj
        rw [if_neg (by omega)]]
      by_cases hiP : i ∈ P.map (·.1)
      · obtain ⟨a, ha, rfl⟩ := List.mem_map.mp hiP
        rw [hX a ha, E.add_self]
      · have hz := h.nought i (List.mem_range.mp hi) (List.mem_range.mp hi) hiP
        rw [sg_congr (H := fun _ => 0) fun j hj => by rw [hz j (by have := List.mem_range.mp hj; omega), E.zero_mul], sg_zero, hz c (by omega), E.add_zero]
    refine ⟨X, fun i hi => ?_⟩
    have h5 := h4 i (List.mem_range.mpr hi)
    rw [sg_last, if_pos rfl, E.mul_one, sg_congr (H := fun k => A i k * X k) fun j hj => by
      rw [hA i j hj]
      have := List.mem_range.mp hj
      rw [if_neg (by omega)], show wid A F c i c = F i from if_pos rfl] at h5
    have h6 := congrArg (fun x => x + F i) h5
    rwa [E.add_assoc, E.add_self, E.add_zero, E.zero_add] at h6
  · rintro ⟨X, hX⟩
    have hc : Hm (wid A F c) (List.range n) (c :: List.range c) s := by
      obtain ⟨R', C', k1, k2, k3, k4, k5⟩ := hs.1
      refine ⟨R', C', k1, k2, k3, fun j hj => ?_, k5⟩
      have := List.mem_range.mp (k4 j hj)
      by_cases e : j = c
      · exact List.mem_cons.mpr (.inl e)
      · exact List.mem_cons_of_mem _ (List.mem_range.mpr (by omega))
    have h1 := Hm.column (x := X) (fun i hi => by
      rw [show wid A F c i c = F i from if_pos rfl, ← hX i (List.mem_range.mp hi)]
      exact sg_congr fun j hj => by rw [hA i j hj]) List.nodup_range hc
    have h2 := hr'.2 s h1
    obtain ⟨R', C', k1, k2, k3, k4, k5⟩ := hr'.1
    have h3 := hs.2 r ⟨R', C', k1, k2, k3, fun j hj => List.mem_range.mpr (by have := List.mem_range.mp (k4 j hj); omega), k5⟩
    omega

end Go.Proofs.Ytjccpfpldbjcbaa.Gf

namespace Go.Proofs.Ytjccpfpldbjcbaa
open Go.RowKit
open Gf

/-- A row of bytes that came in. -/
theorem IsInts.row {w : World} {a : Option Addr} {len cap : Nat} {z : List Int} (h : IsInts .u8 1 w a len cap z) (h1 : 1 ≤ len) : ReadsF w a len (fun k => eo (nth z k)) := by
  obtain ⟨e1, _, _, e4, _, e6⟩ := h
  rcases e4 with e4 | ⟨b, off, rfl, hc⟩
  · rw [e4] at e1; simp at e1; omega
  · refine ⟨b, off, rfl, fun k hk => ?_⟩
    have hb := wf_u8 (e6 _ (nth_mem (xs := z) (i := k) (by omega)))
    rw [eo_v hb.1 hb.2]
    exact hc k (by omega)

theorem solE_is {m : List (List Int)} {l : Nat} (h : solE m l ≠ 0) : solE m l = 2 ∨ solE m l = 3 := by
  unfold solE at h ⊢
  rcases tabE_is m with e | e | e
  · rw [if_neg (by simpa using e)] at h ⊢
    by_cases h2 : l ≠ m.length
    · rw [if_pos h2]; exact .inr rfl
    · rw [if_neg h2] at h; exact absurd rfl h
  · rw [if_pos (by rw [e]; decide), e]; exact .inl rfl
  · rw [if_pos (by rw [e]; decide), e]; exact .inr rfl

def lit41 : Nat → E := fun k => if k = 0 then ⟨4, by decide⟩ else 1
def lit61 : Nat → E := fun k => if k = 0 then ⟨6, by decide⟩ else 1
theorem sol_some : Solves (litM [[1, 2], [0, 1]]) 2 2 lit41 lit61 := fun i hi => by
  have : i = 0 ∨ i = 1 := by omega
  rcases this with rfl | rfl <;> exact E.ext (by decide)
theorem sol_one {X : Nat → E} (h : Solves (litM [[1, 2], [0, 1]]) 2 2 lit41 X) : X 0 = ⟨6, by decide⟩ ∧ X 1 = 1 := by
  have h0 := h 0 (by omega)
  have h1 := h 1 (by omega)
  have e : ∀ i, sg (fun k => litM [[1, 2], [0, 1]] i k * X k) (List.range 2) = litM [[1, 2], [0, 1]] i 0 * X 0 + litM [[1, 2], [0, 1]] i 1 * X 1 := fun i => by
    show _ + (_ + 0) = _
    rw [E.add_zero]
  rw [e] at h0 h1
  rw [show litM [[1, 2], [0, 1]] 1 0 = 0 from E.ext (by decide), show litM [[1, 2], [0, 1]] 1 1 = 1 from E.ext (by decide), E.zero_mul, E.zero_add, E.one_mul] at h1
  have h1 : X 1 = 1 := h1
  rw [show litM [[1, 2], [0, 1]] 0 0 = 1 from E.ext (by decide), E.one_mul, h1, E.mul_one] at h0
  refine ⟨?_, h1⟩
  have h2 := congrArg (fun x => x + litM [[1, 2], [0, 1]] 0 1) h0
  rw [E.add_assoc, E.add_self, E.add_zero] at h2
  rw [h2]
  exact E.ext (by decide)

theorem wid_row (A : Nat → Nat → E) (F : Nat → E) (C i : Nat) : bl (A i) C ++ [(((F i).v : Nat) : Int)] = bl (wid A F C i) (C + 1) := by
  rw [← bl_snoc, show wid A F C i C = F i from if_pos rfl]
  congr 1
  unfold bl
  refine List.map_congr_left fun k hk => ?_
  have := List.mem_range.mp hk
  unfold wid
  rw [if_neg (by omega)]

theorem two_cells (w : World) (x y : Int) (T : TypeId) (F : Nat → E) (h0 : (((F 0).v : Nat) : Int) = x) (h1 : (((F 1).v : Nat) : Int) = y) : ReadsF (w.alloc (.cells #[.int .u8 x, .int .u8 y] T)) (some ⟨w.heap.size, 0, none⟩) 2 F :=
  ⟨_, 0, rfl, fun k hk => by
    rw [Nat.zero_add, World.cell?_alloc_new]
    have : k = 0 ∨ k = 1 := by omega
    rcases this with rfl | rfl
    · rw [h0]; rfl
    · rw [h1]; rfl⟩

theorem solve_lit (HS : SolC) : ∃ X : Nat → E, X 0 = ⟨6, by decide⟩ ∧ X 1 = 1 ∧ ∀ (w : World), Calls Try.prog 17 #[.slice (some ⟨w.heap.size + 2, 0, none⟩) 2 2, .slice (some ⟨w.heap.size + 3, 0, none⟩) 2 2]
    ((((w.alloc (.cells #[.int .u8 1, .int .u8 2] 5)).alloc (.cells #[.int .u8 0, .int .u8 1] 5)).alloc (.cells #[.slice (some ⟨w.heap.size, 0, none⟩) 2 2, .slice (some ⟨w.heap.size + 1, 0, none⟩) 2 2] 22)).alloc (.cells #[.int .u8 4, .int .u8 1] 5)) (Vec2 2 X w) := by
  obtain ⟨X, hX, hc⟩ := HS.ok (A := litM [[1, 2], [0, 1]]) (F := lit41) (R := 2) (C := 2) (by omega) (by omega) (by omega) (by omega) ⟨_, sol_some⟩
  obtain ⟨x0, x1⟩ := sol_one hX
  refine ⟨X, x0, x1, fun w => ?_⟩
  have h := lit22 w 1 2 0 1 5 22 (by decide) (by decide) (by decide) (by decide)
  have hs : (((w.alloc (.cells #[.int .u8 1, .int .u8 2] 5)).alloc (.cells #[.int .u8 0, .int .u8 1] 5)).alloc (.cells #[.slice (some ⟨w.heap.size, 0, none⟩) 2 2, .slice (some ⟨w.heap.size + 1, 0, none⟩) 2 2] 22)).heap.size = w.heap.size + 3 := by
    rw [World.size_alloc, World.size_alloc, World.size_alloc]
  have h2 := two_cells (((w.alloc (.cells #[.int .u8 1, .int .u8 2] 5)).alloc (.cells #[.int .u8 0, .int .u8 1] 5)).alloc (.cells #[.slice (some ⟨w.heap.size, 0, none⟩) 2 2, .slice (some ⟨w.heap.size + 1, 0, none⟩) 2 2] 22)) 4 1 5 lit41 rfl rfl
  rw [hs] at h2
  exact (hc (ca := 2) (cb := 2) (h.ex ((Ex.refl _).alloc _)) h2).mono fun e w2 ⟨a2, c2, k1, k2, k3, k4⟩ => ⟨a2, c2, k1, k2, k3, (((((Ex.refl w).alloc _).alloc _).alloc _).alloc _).trans k4⟩

theorem eq_lit (X : Nat → E) (h0 : X 0 = ⟨6, by decide⟩) (h1 : X 1 = 1) (b1 o1 c1 : Nat) (w : World) (h : ∀ k, k < 2 → w.cell? ⟨b1, o1 + k, none⟩ = some (.int .u8 (((X k).v : Nat) : Int))) :
    Calls Try.prog 10 #[.slice (some ⟨b1, o1, none⟩) 2 c1, .slice (some ⟨w.heap.size, 0, none⟩) 2 2] (w.alloc (.cells #[.int .u8 6, .int .u8 1] 5)) (Says (.bool true) w) := by
  have hx := (Ex.refl w).alloc (.cells #[.int .u8 6, .int .u8 1] 5)
  obtain ⟨b, off, e, hc⟩ := two_cells w 6 1 5 X (by rw [h0]; rfl) (by rw [h1]; rfl)
  simp only [Option.some.injEq, Addr.mk.injEq, and_true] at e
  obtain ⟨rfl, rfl⟩ := e
  exact (sameBytes_any X 2 (by omega) b1 o1 w.heap.size 0 c1 2 _ (fun k hk => hx.cell (h k hk)) hc).mono fun e w2 ⟨k1, k2⟩ => ⟨k1, hx.trans k2⟩

end Go.Proofs.Ytjccpfpldbjcbaa

namespace Go.Proofs.Ytjccpfpldbjcbaa
open Go.RowKit
open Gf

/-- l rows behind row p are done, and of the next one e entries. -/
def elE (M : Nat → Nat → E) (p : Nat) (f : Nat → E) (l e : Nat) : Nat → Nat → E := fun i j => if (p < i ∧ i ≤ p + l) ∨ (i = p + 1 + l ∧ j < e) then M i j + f i * M p j else M i j
theorem elE_start (M : Nat → Nat → E) (p : Nat) (f : Nat → E) : elE M p f 0 0 = M := by
  funext i j
  unfold elE
  rw [if_neg (by omega)]
theorem elE_row (M : Nat → Nat → E) (p : Nat) (f : Nat → E) (l e j : Nat) : elE M p f l e p j = M p j := by
  unfold elE
  rw [if_neg (by omega)]
theorem elE_at (M : Nat → Nat → E) (p : Nat) (f : Nat → E) (l e j : Nat) (h : e ≤ j) : elE M p f l e (p + 1 + l) j = M (p + 1 + l) j := by
  unfold elE
  rw [if_neg (by omega)]
theorem elE_next (M : Nat → Nat → E) (p : Nat) (f : Nat → E) (l e : Nat) : updM (elE M p f l e) (p + 1 + l) e (M (p + 1 + l) e + f (p + 1 + l) * M p e) = elE M p f l (e + 1) := by
  funext i j
  unfold updM elE
  by_cases h : i = p + 1 + l ∧ j = e
  · obtain ⟨rfl, rfl⟩ := h
    rw [if_pos ⟨rfl, rfl⟩, if_pos (by omega)]
  · rw [if_neg h]
    by_cases h2 : (p < i ∧ i ≤ p + l) ∨ (i = p + 1 + l ∧ j < e)
    · rw [if_pos h2, if_pos (by omega)]
    · rw [if_neg h2, if_neg (by omega)]
theorem elE_done (M : Nat → Nat → E) (p : Nat) (f : Nat → E) (l R i j : Nat) (hj : j < R) : elE M p f l R i j = elE M p f (l + 1) 0 i j := by
  unfold elE
  by_cases h : (p < i ∧ i ≤ p + l) ∨ (i = p + 1 + l ∧ j < R)
  · rw [if_pos h, if_pos (by omega)]
  · rw [if_neg h, if_neg (by omega)]
theorem elE_end (M : Nat → Nat → E) (p : Nat) (f : Nat → E) (n i j : Nat) (hp : p < n) (hi : i < n) : elE M p f (n - (p + 1)) 0 i j = if p < i then M i j + f i * M p j else M i j := by
  unfold elE
  by_cases h : p < i
  · rw [if_pos h, if_pos (by omega)]
  · rw [if_neg h, if_neg (by omega)]

end Go.Proofs.Ytjccpfpldbjcbaa

namespace Go.Proofs.Ytjccpfpldbjcbaa
open Go.RowKit
open Gf

theorem bi_bit (x j : Nat) : bi x j = (x.testBit j).toNat := by
  unfold bi
  rw [Nat.testBit_eq_decide_div_mod_eq]
  have := Nat.mod_lt (x / 2 ^ j) (show 2 > 0 by decide)
  by_cases h1 : x / 2 ^ j % 2 = 1
  · simp [h1]
  · have h2 : x / 2 ^ j % 2 = 0 := by omega
    simp [h2]
theorem bi_on {x j : Nat} : bi x j = 1 ↔ x.testBit j = true := by rw [bi_bit]; cases x.testBit j <;> simp
theorem strike_on {s k : Nat} (h : bi s k = 1) (j : Nat) : bi (s ^^^ 2 ^ k) j = 1 ↔ bi s j = 1 ∧ j ≠ k := by
  rw [bi_on] at h
  rw [bi_on, bi_on, Nat.testBit_xor, Nat.testBit_two_pow]
  by_cases e : k = j
  · subst e; simp [h]
  · have e2 : j ≠ k := fun h => e h.symm
    simp [e, e2]
theorem strike_lt {s k : Nat} (h : bi s k = 1) : s ^^^ 2 ^ k < s := by
  rw [bi_on] at h
  have e : s ^^^ 2 ^ k = s &&& (s ^^^ 2 ^ k) := by
    apply Nat.eq_of_testBit_eq
    intro j
    rw [Nat.testBit_and, Nat.testBit_xor, Nat.testBit_two_pow]
    by_cases e : k = j
    · subst e; simp [h]
    · simp [e]
  have h1 : s ^^^ 2 ^ k ≤ s := by rw [e]; exact Nat.and_le_left
  refine Nat.lt_of_le_of_ne h1 fun h2 => ?_
  have h3 := congrArg (fun x => Nat.testBit x k) h2
  simp [h] at h3
theorem pow_le_4096 {n : Nat} (h : n ≤ 12) : 2 ^ n ≤ 4096 := Nat.pow_le_pow_right (n := 2) (by decide) h

theorem andNot_strike {s k : Nat} (hs : s < 65536) (hk : k ≤ 15) (h : bi s k = 1) : bits .andNot .i64 (s : Int) ((2 ^ k : Nat) : Int) = ((s ^^^ 2 ^ k : Nat) : Int) := by
  have hp := pow_le_15 hk
  have hlt := strike_lt h
  show IntKind.i64.wrap ((BitVec.ofInt 64 (s : Int) &&& ~~~ BitVec.ofInt 64 ((2 ^ k : Nat) : Int)).toNat : Int) = _
  have e : (BitVec.ofInt 64 (s : Int) &&& ~~~ BitVec.ofInt 64 ((2 ^ k : Nat) : Int)) = BitVec.ofInt 64 (s : Int) ^^^ BitVec.ofInt 64 ((2 ^ k : Nat) : Int) := by
    apply BitVec.eq_of_getLsbD_eq
    intro j hj
    have e1 : (BitVec.ofInt 64 (s : Int)).getLsbD j = s.testBit j := by
      show (BitVec.ofInt 64 (s : Int)).toNat.testBit j = _
      rw [nat_i64 s (by omega)]
    have e2 : (BitVec.ofInt 64 ((2 ^ k : Nat) : Int)).getLsbD j = (2 ^ k).testBit j := by
      show (BitVec.ofInt 64 ((2 ^ k : Nat) : Int)).toNat.testBit j = _
      rw [nat_i64 _ (by omega)]
    rw [BitVec.getLsbD_and, BitVec.getLsbD_not, BitVec.getLsbD_xor, e1, e2, Nat.testBit_two_pow]
    rw [bi_on] at h
    by_cases e3 : k = j
    · subst e3; simp [h]
    · simp [e3, hj]
  rw [e, BitVec.toNat_xor, nat_i64 s (by omega), nat_i64 _ (by omega)]
  exact IntWalk.i64_in _ (by omega)

theorem cl_le (n s : Nat) : (cl n s).length ≤ n := by
  have := List.length_filter_le (fun k => s / 2 ^ k % 2 == 1) (List.range n)
  rw [List.length_range] at this
  exact this
theorem cl_some {n s : Nat} (h1 : 1 ≤ s) (h2 : s < 2 ^ n) : 1 ≤ (cl n s).length := by
  refine Nat.pos_of_ne_zero fun hc => ?_
  have hc := List.length_eq_zero_iff.mp hc
  have : s = 0 := by
    apply Nat.eq_of_testBit_eq
    intro j
    rw [Nat.zero_testBit]
    by_cases hj : j < n
    · cases h : s.testBit j with
      | false => rfl
      | true =>
        have : j ∈ cl n s := mem_cl.mpr ⟨hj, bi_on.mpr h⟩
        rw [hc] at this
        cases this
    · exact Nat.testBit_lt_two_pow (Nat.lt_of_lt_of_le h2 (Nat.pow_le_pow_right (by decide) (by omega)))
  omega

/-- What det[s] becomes, column by column. -/
def tcol (M : Nat → Nat → E) (n s k : Nat) : E := tp (fun k => M ((cl n s).length - 1) k * td M n (s ^^^ 2 ^ k)) s k
theorem tcol_all (M : Nat → Nat → E) {n s : Nat} (h1 : 1 ≤ s) (h2 : s < 2 ^ n) : tcol M n s n = td M n s := by
  have h := cl_some h1 h2
  rw [td_step M (r := (cl n s).length - 1) (by omega) (fun k => s ^^^ 2 ^ k) fun k hk j hj => strike_on (mem_cl.mp hk).2 j]
  rfl

theorem tcol_zero (M : Nat → Nat → E) (n s : Nat) : tcol M n s 0 = 0 := rfl
theorem tcol_yes (M : Nat → Nat → E) {n s k : Nat} (h : bi s k = 1) : tcol M n s (k + 1) = tcol M n s k + M ((cl n s).length - 1) k * td M n (s ^^^ 2 ^ k) := tp_yes _ h
theorem tcol_no (M : Nat → Nat → E) {n s k : Nat} (h : ¬ bi s k = 1) : tcol M n s (k + 1) = tcol M n s k := tp_no _ h

theorem upd_upd (F : Nat → Int) (j : Nat) (x y : Int) : upd (upd F j x) j y = upd F j y := by
  funext t
  unfold upd
  by_cases h : t = j <;> simp [h]

/-- The bytes so far. -/
def dF (M : Nat → Nat → E) (n s : Nat) : Nat → Int := fun t => if t < s then (((td M n t).v : Nat) : Int) else 0

end Go.Proofs.Ytjccpfpldbjcbaa

namespace Go.Proofs.Ytjccpfpldbjcbaa
open Go.RowKit
open Gf

/-- Any table that came in: as the document's own error of it wants it. -/
theorem IsMat.err {w : World} {a : Option Addr} {len cap : Nat} {m : List (List Int)} (h : IsMat .u8 w a len cap m) : m.length = len ∧ len ≤ maxLen ∧ ReadsM .u8 w a m ∧ ∀ r ∈ m, r.length ≤ maxLen := by
  obtain ⟨h1, h2, h3, h4, _, h6⟩ := h
  exact ⟨h1, by unfold maxLen; omega, h4, fun r hr => (h6 r hr).2⟩

end Go.Proofs.Ytjccpfpldbjcbaa

namespace Go.Proofs.Ytjccpfpldbjcbaa
open Go.RowKit
open Gf

end Go.Proofs.Ytjccpfpldbjcbaa

namespace Go.Proofs.Ytjccpfpldbjcbaa
open Go.RowKit
open Gf

theorem RowB.of {w : World} {base n cap g : Nat} {F : Nat → E} (h : Row 5 .u8 w base (.slice (some ⟨g, 0, none⟩) n cap) (bl F n)) : RowB w g n F := by
  rcases h.form with ⟨h1, _⟩ | ⟨g2, cap2, h1, _, _, _, _, h2, h3⟩
  · cases h1
  · simp only [Value.slice.injEq, Option.some.injEq, Addr.mk.injEq, and_true] at h1
    obtain ⟨rfl, _⟩ := h1
    refine ⟨fun k hk => ?_, h3⟩
    rw [h2 k (by rw [bl_length]; exact hk), bl_nth hk]

theorem msol_no {m : List (List Int)} {z : List Int} {a b : Option Addr} {la ca lb cb : Nat} {w : World} (ha : IsMat .u8 w a la ca m) (hb : IsInts .u8 1 w b lb cb z) (h : solE m lb ≠ 0) :
    Calls Try.prog 17 #[.slice a la ca, .slice b lb cb] w (Nil2 (solE m lb) w) := by
  have HCA := Lib.hid (checkC.any ha)
  have t5 := ha.2.1
  have t6 := ha.2.2.1
  have hlm := ha.1
  by_cases h1 : tabE m = 0
  · have he : solE m lb = 3 := by
      unfold solE at h ⊢
      rw [if_neg (by simpa using h1)] at h ⊢
      by_cases h3 : lb ≠ m.length
      · rw [if_pos h3]
      · rw [if_neg h3] at h; exact absurd rfl h
    have hne : lb ≠ la := by
      rw [← hlm]
      intro h3
      exact h (solE_zero.mpr ⟨h1, h3⟩)
    have q2 : ((lb : Int) != (la : Int)) = true := by simp; omega
    have u5 := hb.2.1
    have u6 := hb.2.2.1
    rw [he]
    rw [h1] at HCA
    clear he h ha hb hlm
    go_enter Try.func17, Try.ntmps17
    go_wp2_with (go_at_call 31; (with_reducible refine (HCA.out).mono ?_); rintro e w1 ⟨rfl, hw1⟩)
    go_ret2
    exact ⟨_, _, rfl, hw1⟩
  · have he : solE m lb = tabE m := by unfold solE; rw [if_pos h1]
    rw [he]
    obtain ⟨t, ht⟩ : ∃ t, tabE m = t := ⟨_, rfl⟩
    rw [ht] at HCA h1 ⊢
    have q2 : (t != 0) = true := by simpa using h1
    clear ht he h ha hb
    go_enter Try.func17, Try.ntmps17
    go_wp2_with (go_at_call 31; (with_reducible refine (HCA.out).mono ?_); rintro e w1 ⟨rfl, hw1⟩)
    go_ret2
    exact ⟨_, _, rfl, hw1⟩

/-- A row that just fits its block, and no error. -/
def VecX (n : Nat) (F : Nat → E) (w : World) (e : Ending) (w2 : World) : Prop := ∃ b2, e = .returned (.tuple #[.slice (some ⟨b2, 0, none⟩) n n, .int .i64 0]) ∧ Hid (∀ k, k < n → w2.cell? ⟨b2, k, none⟩ = some (.int .u8 (((F k).v : Nat) : Int))) ∧ Ex w w2
theorem VecX.vec {n : Nat} {F : Nat → E} {w w2 : World} {e : Ending} (hn : n ≤ 12) (h : VecX n F w e w2) : Vec2 n F w e w2 := by
  obtain ⟨b2, h1, h2, h3⟩ := h
  exact ⟨_, _, h1, Lib.hid ⟨Nat.le_refl _, by omega⟩, Lib.hid ⟨b2, 0, rfl, fun k hk => by rw [Nat.zero_add]; exact h2.out k hk⟩, h3⟩

/-- What Solve answers, told by what the elimination comes to. -/
def Sold (M : Nat → Nat → E) (P : List (Nat × Nat)) (R C : Nat) (w : World) (e : Ending) (w2 : World) : Prop :=
  ((∃ i, P.length ≤ i ∧ i < R ∧ M i C ≠ 0) → Nil2 4 w e w2) ∧ ((∀ i, P.length ≤ i → i < R → M i C = 0) → VecX C (solX M (P.map (·.2)) C P.length) w e w2)

set_option maxRecDepth 100000 in
set_option maxHeartbeats 4000000 in
theorem msol_walk {A M : Nat → Nat → E} {F : Nat → E} {R C : Nat} {P : List (Nat × Nat)} {d : E} {a b : Option Addr} {ca cb : Nat} {w : World} (hR : 1 ≤ R) (hR2 : R ≤ 12) (hC : 1 ≤ C) (hC2 : C ≤ 12) (ha : ReadsT w a R C A) (hb : ReadsF w b R F) (hS : redu (sideBy A (fun i _ => F i) C) R C = (M, P, d)) :
    Calls Try.prog 17 #[.slice a R ca, .slice b R cb] w (Sold M P R C w) := by
  obtain ⟨p, hp⟩ : ∃ p, P.length = p := ⟨_, rfl⟩
  have hJ := redu_jor _ R (C + 1) C M P d (by omega) hS
  have hpR : p ≤ R := by rw [← hp]; exact hJ.jor.few
  have HP := Lib.hid hp
  have HCB : Hid (∀ i, i < p → (P.map (·.2)).getD i 0 < C) := Lib.hid fun i hi => by
    have e := Jor.at hJ.jor (i := i) (by omega)
    have := hJ.jor.one _ (List.mem_of_getElem? e)
    exact this.1
  obtain ⟨bA, oA, bA0, oA0, cA0, rfl, hA0, hA0c, hA0m, _⟩ := ha.at (r := 0) (by omega)
  rw [Nat.add_zero] at hA0
  have dl := d.lt
  have HCA := Lib.hid (mcheck_ok hR hR2 hC hC2 ha ca)
  have HCO := Lib.hid fun w2 (k : Ex w w2) => columnOf_any F R b cb w2 hR (by omega) (by obtain ⟨x, y, h1, h2⟩ := hb; exact ⟨x, y, h1, fun k2 hk2 => k.cell (h2 k2 hk2)⟩)
  have HBS := Lib.hid fun w2 G2 (k : Ex w w2) (hr : ReadsT w2 (some ⟨G2, 0, none⟩) R 1 (fun i _ => F i)) => beside_any (ca := ca) (cb := R) hR (by omega) hC (by omega) (Nat.le_refl 1) (by omega) (ha.ex k) hr
  have HRD := Lib.hid fun w2 G2 (hr : ReadsT w2 (some ⟨G2, 0, none⟩) R (C + 1) (sideBy A (fun i _ => F i) C)) => reduce_at (ca := R) (w := w2) (n := C) hR (by omega) (by omega) (by omega) (by omega) hr hS hp
  obtain ⟨Q, hQ⟩ : ∃ Q, intsOf (P.map (·.2)) = Q := ⟨_, rfl⟩
  rw [hQ] at HRD
  have HQ := Lib.hid hQ
  clear ha hb hS hJ hp hQ
  go_enter Try.func17, Try.ntmps17
  go_upto_region 6 with (go_at_call 31; (with_reducible refine (HCA.out).mono ?_); rintro e w1 ⟨rfl, hw1⟩; have hA1 := hw1.cell hA0)
  have k1 : ∀ x : Kp (fun w2 => Ex w1 w2), x.val.cell? ⟨bA, oA, none⟩ = some (.slice (some ⟨bA0, oA0, none⟩) C cA0) := fun x => x.ok.cell hA1
  haveI : Nonempty (Kp (fun w2 => Ex w1 w2)) := ⟨⟨w1, Ex.refl w1⟩⟩
  have hd : Ex w1 w1.drew := (Ex.refl w1).drew
  have HX1 := Lib.hid hw1
  clear hw1 hA0
  go_cut [7, 8] (fun v7 v8 wx => ∃ (b G cl : Nat) (al : Option Addr), v7 = .pointer (some ⟨b, 0, none⟩) ∧ v8 = .int .i64 0 ∧ Hid (Three 64 wx b (.slice (some ⟨G, 0, none⟩) R R) (.slice al p cl) (.int .u8 ((d.v : Nat) : Int))) ∧ Hid (ReadsT wx (some ⟨G, 0, none⟩) R (C + 1) M) ∧ Hid (Reads wx .i64 al Q) ∧ Hid (p ≤ cl ∧ cl ≤ 9223372036854775807) ∧ Ex w1 wx)
  case first =>
    refine wp_region_scr (fun w2 => ∃ x : Kp (fun w2 => Ex w1 w2), w2 = x.val) (.take 0 (.take 1 (.take 4 (.take 5 (.take 6 (.take 7 (.two 2 (.two 3 (.two 8 (.take 9 (.take 10 (.take 11 (.one 12 (.one 13 (.take 14 (.fin))))))) 12 (.one 8 (.take 9 (.take 10 (.take 11 (.one 13 (.take 14 (.fin)))))))) 12 (.one 3 (.one 8 (.take 9 (.take 10 (.take 11 (.one 13 (.take 14 (.fin))))))))) 12 (.one 2 (.one 3 (.one 8 (.take 9 (.take 10 (.take 11 (.one 13 (.take 14 (.fin)))))))))))))))) (by kernel_rfl) (by kernel_rfl) (by intro _ _ d _ _ h; cases d <;> exact h) ⟨⟨_, (by repeat (first | assumption | exact Ex.refl _ | (refine Ex.alloc ?_ _) | (refine Ex.setCell ?_ ?_ _) | exact HLE.out))⟩, rfl⟩ ?_
    generalize w1.drew = wd at hd ⊢
    simp only [fillS, List.getD_cons_zero, List.getD_cons_succ]
    repeat' (first
      | ((with_reducible refine wpScr_pure ?_); go_big_quiet_step (fail); (with_reducible refine scrQ_on ?_))
      | ((with_reducible refine wpScr_turn ?_); intro K hK; go_wp2_with (first | fail |(go_at_call 34; (with_reducible refine (HCO.out _ (HX1.out.trans (by first | exact hd | exact hd.alloc _))).mono ?_); rintro e w5 ⟨G5, rfl, hr5, hw5⟩; have hx5 : Ex w1 w5 := (by first | exact hd.trans hw5 | exact (hd.alloc _).trans hw5)) | (go_at_call 33; (with_reducible refine (HBS.out _ _ (HX1.out.trans (by first | exact hx5 | exact hx5.alloc _)) (by first | exact hr5.out | exact hr5.out.ex ((Ex.refl w5).alloc _))).mono ?_); rintro e w6 ⟨G6, rfl, hr6, hw6⟩; have hx6 : Ex w1 w6 := (by first | exact hx5.trans hw6 | exact (hx5.alloc _).trans hw6)) | (go_at_call 32; (with_reducible refine (HRD.out _ _ (by first | exact hr6.out | exact hr6.out.ex ((Ex.refl w6).alloc _))).mono ?_); rintro e w7 ⟨G, cl, al, rfl, hT, hL, hcl, hw7⟩; have hx7 : Ex w1 w7 := (by first | exact hx6.trans hw7 | exact (hx6.alloc _).trans hw7); (first | (have HT7 : Hid (Three 64 w7 wd.heap.size (.slice none 0 0) (.slice none 0 0) (.int .u8 0)) := Lib.hid ((((Three.at rfl).ex hw5).ex hw6).ex hw7); have HB7 : Hid (∀ w8, Mo1 wd.heap.size w7 w8 → ReadsT w8 (some ⟨G, 0, none⟩) R (C + 1) M ∧ Reads w8 .i64 al Q) := Lib.hid fun w8 hm => hL.out.2 w8 _ (((Three.at rfl).ex hw5).ex hw6).lt hm; have HLE : Hid (w1.heap.size ≤ wd.heap.size) := Lib.hid hd.size; have c0 := HT7.out.c0; have c1 := HT7.out.c1; have c2 := HT7.out.c2; have f0 := HT7.out.free 0; have f1 := HT7.out.free 1; have f2 := HT7.out.free 2) | (have HT7 : Hid (Three 64 w7 w5.heap.size (.slice none 0 0) (.slice none 0 0) (.int .u8 0)) := Lib.hid (((Three.at rfl).ex hw6).ex hw7); have HB7 : Hid (∀ w8, Mo1 w5.heap.size w7 w8 → ReadsT w8 (some ⟨G, 0, none⟩) R (C + 1) M ∧ Reads w8 .i64 al Q) := Lib.hid fun w8 hm => hL.out.2 w8 _ ((Three.at rfl).ex hw6).lt hm; have HLE : Hid (w1.heap.size ≤ w5.heap.size) := Lib.hid hx5.size; have c0 := HT7.out.c0; have c1 := HT7.out.c1; have c2 := HT7.out.c2; have f0 := HT7.out.free 0; have f1 := HT7.out.free 1; have f2 := HT7.out.free 2) | (have HT7 : Hid (Three 64 w7 w6.heap.size (.slice none 0 0) (.slice none 0 0) (.int .u8 0)) := Lib.hid ((Three.at rfl).ex hw7); have HB7 : Hid (∀ w8, Mo1 w6.heap.size w7 w8 → ReadsT w8 (some ⟨G, 0, none⟩) R (C + 1) M ∧ Reads w8 .i64 al Q) := Lib.hid fun w8 hm => hL.out.2 w8 _ (Three.at rfl).lt hm; have HLE : Hid (w1.heap.size ≤ w6.heap.size) := Lib.hid hx6.size; have c0 := HT7.out.c0; have c1 := HT7.out.c1; have c2 := HT7.out.c2; have f0 := HT7.out.free 0; have f1 := HT7.out.free 1; have f2 := HT7.out.free 2) | (have HLE : Hid (w1.heap.size ≤ w7.heap.size) := Lib.hid hx7.size)))); refine hK _ _ ⟨⟨_, (by repeat (first | assumption | exact Ex.refl _ | (refine Ex.alloc ?_ _) | (refine Ex.setCell ?_ ?_ _) | exact HLE.out))⟩, rfl⟩ ?_; clear hK K)
      | (with_reducible refine wpScr_two ?_ ?_)
      | (with_reducible refine wpScr_three ?_ ?_ ?_)
      | (with_reducible refine wpScr_nil ?_))
    all_goals go_wp2
    all_goals go_meet
    all_goals first
      | exact ⟨_, G, cl, al, rfl, rfl, Lib.hid (Three.at rfl), Lib.hid (hT.out.ex ((Ex.refl w7).alloc _)), Lib.hid (hL.out.1.ex ((Ex.refl w7).alloc _)), hcl, hx7.alloc _⟩
      | exact ⟨_, G, cl, al, rfl, rfl, Lib.hid HT7.out.set, Lib.hid (HB7.out _ ((((Mo1.refl _ w7).set 0 (.slice (some ⟨G, 0, none⟩) R R)).set 1 (.slice al p cl)).set 2 (.int .u8 ((d.v : Nat) : Int)))).1, Lib.hid (HB7.out _ ((((Mo1.refl _ w7).set 0 (.slice (some ⟨G, 0, none⟩) R R)).set 1 (.slice al p cl)).set 2 (.int .u8 ((d.v : Nat) : Int)))).2, hcl, ((hx7.setCell HLE.out _).setCell HLE.out _).setCell HLE.out _⟩
  case rest =>
  obtain ⟨b, G, cl, al, rfl, rfl, HT, hT, hL, hcl, hx5⟩ := hcut
  rename World => w5
  have HX5 := Lib.hid (HX1.out.trans hx5)
  have hA5 := hx5.cell hA1
  clear HX1 k1 hd hA1 hx5 HCA HCO HBS HRD
  go_wp2_with (at_make; refine wpList_make_ints rfl _ _ 22 rfl w5.heap.size 5 .u8 1 Try.underlying22 info_u8 _ _ C rfl rfl (by omega) (by unfold maxLen; omega) (Nat.le_refl _) ?_; intro w6 hown6 hgrow6
               have HX6 := Lib.hid (ex_grown (Ex.refl w5) hgrow6 fun k hk => by cases hk)
               have HR6 : Hid (RowB w6 w5.heap.size C (solX M (P.map (·.2)) C 0)) := Lib.hid (RowB.of (F := fun _ => 0) (cap := C) (n := C) (base := w5.heap.size) (by
                 rw [show bl (fun _ => (0 : E)) C = List.replicate C 0 from by
                   unfold bl
                   refine List.eq_replicate_iff.mpr ⟨by simp, fun b hb => ?_⟩
                   obtain ⟨_, _, rfl⟩ := List.mem_map.mp hb
                   rfl]
                 exact hown6))
               have c6 := HX6.out.cell HT.out.c0
               clear hown6 hgrow6)
  clear c6 hA5
  go_loopg [46] R (fun k vi wr => ∃ i : Nat, i ≤ R ∧ vi = .int .i64 (i : Int) ∧ Hid (RowB wr w5.heap.size C (solX M (P.map (·.2)) C (min i p))) ∧ Hid (∀ r, p ≤ r → r < i → M r C = 0) ∧ Hid (k = R - i) ∧ Ex w5 wr)
  case atStart => exact ⟨0, by omega, rfl, by rw [Nat.zero_min]; exact HR6, Lib.hid fun r h1 h2 => by omega, Lib.hid rfl, HX6.out⟩
  case round =>
    obtain ⟨i, hi, rfl, hR6, hz, hk, hx⟩ := hrel
    clear HR6 HX6
    by_cases hlt : i < R
    · obtain ⟨bA2, oA2, bAi, oAi, cAi, eA, hAi, hAic, hAim, hAik⟩ := hT.out.at hlt
      simp only [Option.some.injEq, Addr.mk.injEq, and_true] at eA
      obtain ⟨rfl, rfl⟩ := eA
      rw [Nat.zero_add] at hAi
      have q1 := hx.cell hAi
      have q2 := hx.cell (hAik C (by omega))
      obtain ⟨X, hX⟩ : ∃ X, M i C = X := ⟨_, rfl⟩
      rw [hX] at q2
      have xl := X.lt
      have q3 := hx.cell HT.out.c1
      have HXX := Lib.hid hX
      clear hAi hAik hX
      by_cases hip : i < p
      · have hcb := HCB.out i hip
        obtain ⟨b2, o2, rfl, hc2⟩ : ∃ b2 o2, al = some ⟨b2, o2, none⟩ ∧ ∀ j, j < Q.length → w5.cell? ⟨b2, o2 + j, none⟩ = some (.int .i64 (nth Q j)) := by
          rcases hL.out with h | ⟨b2, o2, h1, h2⟩
          · have h9 := congrArg List.length HQ.out
            rw [intsOf_length, List.length_map, HP.out, h] at h9
            simp at h9
            omega
          · exact ⟨b2, o2, h1, h2⟩
        have hql : Q.length = p := by rw [← HQ.out, intsOf_length, List.length_map, HP.out]
        obtain ⟨col, hcol⟩ : ∃ col, (P.map (·.2)).getD i 0 = col := ⟨_, rfl⟩
        have q4 : wr.cell? ⟨b2, o2 + i, none⟩ = some (.int .i64 (col : Int)) := by
          have h8 := hx.cell (hc2 i (by omega))
          rw [h8, ← hcol, ← HQ.out, nth_eq (by rw [intsOf_length, List.length_map, HP.out]; exact hip)]
          rw [List.getD_eq_getElem?_getD, List.getElem?_eq_getElem (by rw [List.length_map, HP.out]; exact hip)]
          simp [intsOf]
        rw [hcol] at hcb
        have m1 := hR6.out.1 col hcb
        have m2 := hR6.out.2 col
        have HR7 : Hid (RowB (wr.setCell ⟨w5.heap.size, col, none⟩ (.int .u8 ((X.v : Nat) : Int))) w5.heap.size C (solX M (P.map (·.2)) C (min (i + 1) p))) := Lib.hid (by
          have h7 := hR6.out.set hcb X
          rw [show min i p = i by omega] at h7
          rw [show min (i + 1) p = i + 1 by omega]
          show RowB _ _ _ (updF (solX M (P.map (·.2)) C i) ((P.map (·.2)).getD i 0) (M i C))
          rw [hcol, HXX.out]
          exact h7)
        clear hc2 hql hcol
        go_wp2
        go_roundg (R - (i + 1))
        case measure => have := hk.out; omega
        case rel => exact ⟨i + 1, by omega, by go_num, HR7, Lib.hid fun r h1 h2 => by omega, Lib.hid rfl, hx.setCell (p := ⟨w5.heap.size, col, none⟩) (Nat.le_refl _) _⟩
      · by_cases h0 : X = 0
        · have q5 : (((X.v : Nat) : Int) != 0) = false := by rw [h0]; rfl
          have HM0 := Lib.hid (HXX.out.trans h0)
          clear h0
          go_wp2
          go_roundg (R - (i + 1))
          case measure => have := hk.out; omega
          case rel => exact ⟨i + 1, by omega, by go_num, by rw [show min (i + 1) p = min i p by omega]; exact hR6, Lib.hid fun r h1 h2 => by
            by_cases e : r = i
            · rw [e]; exact HM0.out
            · exact hz.out r h1 (by omega), Lib.hid rfl, hx⟩
        · have q5 : (((X.v : Nat) : Int) != 0) = true := by
            have : X.v ≠ 0 := fun e => h0 (E.ext e)
            simp; omega
          have HM0 : Hid (M i C ≠ 0) := Lib.hid (by rw [HXX.out]; exact h0)
          clear h0
          go_wp2
          go_ret2
          exact ⟨fun _ => ⟨_, _, rfl, HX5.out.trans hx⟩, fun h => absurd (h i (by rw [HP.out]; omega) hlt) HM0.out⟩
    · have e : R = i := by omega
      subst e
      have HRF : Hid (∀ k, k < C → wr.cell? ⟨w5.heap.size, k, none⟩ = some (.int .u8 (((solX M (P.map (·.2)) C P.length k).v : Nat) : Int))) := Lib.hid fun k hk => by
        have h7 := hR6.out.1 k hk
        rw [show min R p = p by omega] at h7
        rw [HP.out]
        exact h7
      have HXE := Lib.hid (HX5.out.trans hx)
      clear hR6
      go_wp2
      go_ret2
      exact ⟨fun ⟨i, h1, h2, h3⟩ => absurd (hz.out i (by rw [← HP.out]; exact h1) h2) h3, fun _ => ⟨_, rfl, HRF, HXE.out⟩⟩

/-- What Solve answers where there is a solution. -/
theorem msol_some {A : Nat → Nat → E} {F : Nat → E} {R C : Nat} (h1 : 1 ≤ R) (h2 : R ≤ 12) (h3 : 1 ≤ C) (h4 : C ≤ 12) (h7 : ∃ X, Solves A R C F X) : ∃ X, Solves A R C F X ∧ ∀ {a b : Option Addr} {ca cb : Nat} {w : World}, ReadsT w a R C A → ReadsF w b R F → Calls Try.prog 17 #[.slice a R ca, .slice b R cb] w (VecX C X w) := by
  obtain ⟨M, P, d, hS⟩ : ∃ M P d, redu (sideBy A (fun i _ => F i) C) R C = (M, P, d) := ⟨_, _, _, rfl⟩
  have hJ := redu_jor _ R (C + 1) C M P d (by omega) hS
  have hz : ∀ i, P.length ≤ i → i < R → M i C = 0 := fun i i1 i2 => Classical.byContradiction fun i3 => side_none hJ.jor i1 i2 i3 h7
  exact ⟨_, side_sol hJ.jor hz, fun {a b ca cb w} h5 h6 => (msol_walk h1 h2 h3 h4 h5 h6 hS).mono fun e w2 h => h.2 hz⟩

theorem solC : SolC := by
  refine ⟨msol_no, fun {A F R C a b ca cb w} h1 h2 h3 h4 h5 h6 h7 => ?_, fun {A F R C} h1 h2 h3 h4 h7 => ?_⟩
  · obtain ⟨M, P, d, hS⟩ : ∃ M P d, redu (sideBy A (fun i _ => F i) C) R C = (M, P, d) := ⟨_, _, _, rfl⟩
    have hJ := redu_jor _ R (C + 1) C M P d (by omega) hS
    refine (msol_walk h1 h2 h3 h4 h5 h6 hS).mono fun e w2 h => h.1 ?_
    refine Classical.byContradiction fun hc => h7 ⟨_, side_sol hJ.jor fun i i1 i2 => Classical.byContradiction fun i3 => hc ⟨i, i1, i2, i3⟩⟩
  · obtain ⟨X, k1, k2⟩ := msol_some (A := A) (F := F) h1 h2 h3 h4 h7
    exact ⟨X, k1, fun {a b ca cb w} h5 h6 => (k2 h5 h6).mono fun e w2 h => h.vec h4⟩

end Go.Proofs.Ytjccpfpldbjcbaa
