/-
  Several texts in one:
  - BERLEKAMP and WELCH as linear equations: what solves them tells the places that can be trusted. No Go in sight.
  - A made table whose rows grow one behind the other, the header of the row in the making stored at its place.
  - Package welch: Check, differences, positions, value.
  - Package welch: the equations.
  - Package welch: the bytes that can be trusted; Mend.
-/
import Derived.Test.YtjccpfpldbjcbaaGre
import Derived.Test.YtjccpfpldbjcbaaGwe
import Derived.Test.YtjccpfpldbjcbaaGmj
import Derived.Test.YtjccpfpldbjcbaaGtb
import Derived.Test.YtjccpfpldbjcbaaGrb
import Derived.Test.YtjccpfpldbjcbaaGro
import Derived.ArgAppend
import Derived.Test.YtjccpfpldbjcbaaGfw
import Derived.Test.YtjccpfpldbjcbaaMixT
import Derived.Deep.CutRange
import Derived.Deep.DeepCutAuto
import Derived.Test.YtjccpfpldbjcbaaGms
import Derived.Test.YtjccpfpldbjcbaaGgd
namespace Go.Proofs.Ytjccpfpldbjcbaa
open Go.RowKit
open Gf

/-- The equations: m places for the product, then those of the locator. -/
def wlA (m : Nat) (V : Nat → E) (i j : Nat) : E := if j < m then ep (bn i) j else V i * ep (bn i) (j - m)
def wlF (e : Nat) (V : Nat → E) (i : Nat) : E := V i * ep (bn i) e
/-- The locator that a solution holds; its last coefficient is 1. -/
def wlS (m e : Nat) (X : Nat → E) (j : Nat) : E := if j < e then X (m + j) else 1
/-- The locator's value at a place. -/
def wlV (m e : Nat) (X : Nat → E) (i : Nat) : E := pv (lst (wlS m e X) (e + 1)) (bn i)
/-- Where it is not 0. -/
def wlH (m e : Nat) (X : Nat → E) (i : Nat) : Bool := decide ((wlV m e X i).v ≠ 0)

theorem lst_sg (F : Nat → E) (n : Nat) (x : E) : pv (lst F n) x = sg (fun k => F k * ep x k) (List.range n) := by
  rw [pv_sum x (lst F n) n (by rw [lst_length]; exact Nat.le_refl _)]
  refine sg_congr fun k hk => ?_
  rw [lst_cf, if_pos (List.mem_range.mp hk), E.mul_comm]
theorem sg_both (F : Nat → E) (m e : Nat) : sg F (List.range (m + e)) = sg F (List.range m) + sg (fun k => F (m + k)) (List.range e) := by
  induction e with
  | zero => rw [Nat.add_zero, List.range_zero]; show _ = _ + 0; rw [E.add_zero]
  | succ e ih =>
    rw [← Nat.add_assoc, List.range_succ, sg_append, ih, List.range_succ, sg_append, E.add_assoc]
    rfl
theorem sg_up1 (F : Nat → E) (k : Nat) : sg F (List.range (k + 1)) = sg F (List.range k) + F k := by
  rw [List.range_succ, sg_append]
  show _ + (F k + 0) = _
  rw [E.add_zero]

/-- What an equation says. -/
theorem wl_at (m e : Nat) (V X : Nat → E) (i : Nat) : sg (fun k => wlA m V i k * X k) (List.range (m + e)) = wlF e V i ↔ pv (lst X m) (bn i) = V i * wlV m e X i := by
  have e1 : sg (fun k => wlA m V i k * X k) (List.range m) = pv (lst X m) (bn i) := by
    rw [lst_sg]
    refine sg_congr fun k hk => ?_
    unfold wlA
    rw [if_pos (List.mem_range.mp hk), E.mul_comm]
  have e2 : sg (fun k => wlA m V i (m + k) * X (m + k)) (List.range e) = V i * sg (fun k => X (m + k) * ep (bn i) k) (List.range e) := by
    rw [← sg_mul]
    refine sg_congr fun k _ => ?_
    unfold wlA
    rw [if_neg (by omega), Nat.add_sub_cancel_left, E.mul_assoc, E.mul_comm (ep _ _)]
  have e3 : wlV m e X i = sg (fun k => X (m + k) * ep (bn i) k) (List.range e) + ep (bn i) e := by
    unfold wlV
    rw [lst_sg, sg_up1]
    congr 1
    · refine sg_congr fun k hk => ?_
      unfold wlS
      rw [if_pos (List.mem_range.mp hk)]
    · unfold wlS
      rw [if_neg (Nat.lt_irrefl _), E.one_mul]
  rw [sg_both, e1, e2, e3, E.mul_add]
  unfold wlF
  generalize pv (lst X m) (bn i) = A
  generalize V i * sg (fun k => X (m + k) * ep (bn i) k) (List.range e) = B
  generalize V i * ep (bn i) e = C
  constructor
  · intro h
    rw [← h, E.add_comm A, ← E.add_assoc, E.add_self, E.zero_add]
  · intro h
    rw [h, E.add_comm B C, E.add_assoc, E.add_self, E.add_zero]

/-- If a polynomial's row is near, there is a solution. -/
theorem wl_some {n k e : Nat} {V : Nat → E} {f : List E} (hk : 1 ≤ k) (he : n ≤ 2 * e + k + 1) (hf : NearF n k V f) : ∃ X, Solves (wlA (e + k) V) n (e + k + e) (wlF e V) X := by
  obtain ⟨h1, h2⟩ := hf
  obtain ⟨L, hL⟩ : ∃ L, ((List.range n).filter fun i => (pv f (bn i)).v != (V i).v) = L := ⟨_, rfl⟩
  have hLl : L.length ≤ e := by
    have : ms (fun t => pv f (bn t)) V (List.range n) = L.length := by rw [← hL]; rfl
    omega
  obtain ⟨s, hs⟩ : ∃ s, np (fun j => bn (pa L j)) e = s := ⟨_, rfl⟩
  have sl : s.length = e + 1 := by rw [← hs]; exact np_length _ _
  have s1 : cf s e = 1 := by rw [← hs]; exact np_last _ _
  have s0 : ∀ i, i < n → pv f (bn i) = V i ∨ pv s (bn i) = 0 := fun i hi => by
    by_cases h : (pv f (bn i)).v = (V i).v
    · exact .inl (E.ext h)
    · right
      have hm : i ∈ L := by rw [← hL]; exact List.mem_filter.mpr ⟨List.mem_range.mpr hi, by simpa using h⟩
      obtain ⟨j, hj, e2⟩ := List.getElem_of_mem hm
      rw [← hs, np_pv]
      refine pd_none (k := j) ?_ e (by omega)
      rw [pa_eq hj, e2, E.add_self]
  have q := welch_some (x := bn) (v := V) s0
  have ql : (mu s f).length ≤ e + k := by
    have := mu_length s f e (k - 1) (by omega) (by omega)
    omega
  refine ⟨fun j => if j < e + k then cf (mu s f) j else cf s (j - (e + k)), fun i hi => (wl_at _ _ _ _ _).mpr ?_⟩
  have p1 : pv (lst (fun j => if j < e + k then cf (mu s f) j else cf s (j - (e + k))) (e + k)) (bn i) = pv (mu s f) (bn i) := by
    refine pv_same (fun j => ?_) _
    rw [lst_cf]
    by_cases h : j < e + k
    · rw [if_pos h, if_pos h]
    · rw [if_neg h, cf_over (by omega)]
  have p2 : wlV (e + k) e (fun j => if j < e + k then cf (mu s f) j else cf s (j - (e + k))) i = pv s (bn i) := by
    unfold wlV
    refine pv_same (fun j => ?_) _
    rw [lst_cf]
    by_cases h : j < e + 1
    · rw [if_pos h]
      unfold wlS
      by_cases h2 : j < e
      · rw [if_pos h2]
        show (if e + k + j < e + k then _ else cf s (e + k + j - (e + k))) = _
        rw [if_neg (by omega), Nat.add_sub_cancel_left]
      · have : j = e := by omega
        rw [if_neg h2, this, s1]
    · rw [if_neg h, cf_over (by omega)]
  rw [p1, p2]
  exact q i hi

/-- The locator is not 0 at all but e places. -/
theorem wl_cnt (m e n : Nat) (X : Nat → E) (hn : n ≤ 256) : n ≤ cnt (wlH m e X) n + e := by
  refine Classical.byContradiction fun hc => ?_
  obtain ⟨Z, hZ⟩ : ∃ Z, ((List.range n).filter fun i => !wlH m e X i) = Z := ⟨_, rfl⟩
  have hl : cnt (wlH m e X) n + Z.length = n := by
    have h0 : ∀ l : List Nat, (l.filter (wlH m e X)).length + (l.filter fun i => !wlH m e X i).length = l.length := by
      intro l
      induction l with
      | nil => rfl
      | cons a l ih =>
        by_cases h : wlH m e X a = true
        · rw [List.filter_cons_of_pos h, List.filter_cons_of_neg (by simp [h]), List.length_cons, List.length_cons]; omega
        · rw [List.filter_cons_of_neg h, List.filter_cons_of_pos (by simpa using h), List.length_cons, List.length_cons]; omega
    have := h0 (List.range n)
    rw [List.length_range, hZ] at this
    exact this
  have hnd : Z.Nodup := by rw [← hZ]; exact List.nodup_range.filter _
  have hZm : ∀ i ∈ Z, i < n ∧ wlV m e X i = 0 := fun i hi => by
    rw [← hZ] at hi
    obtain ⟨h1, h2⟩ := List.mem_filter.mp hi
    refine ⟨List.mem_range.mp h1, ?_⟩
    unfold wlH at h2
    simp at h2
    exact E.ext h2
  have h2 := none_of_roots (e + 1) (lst (wlS m e X) (e + 1)) (by rw [lst_length]; exact Nat.le_refl _) (fun j => bn (pa Z j)) (fun i k hki hi e2 => by
    have a1 : i < Z.length := by omega
    have a2 : k < Z.length := by omega
    have b1 := (hZm _ (pa_mem a1)).1
    have b2 := (hZm _ (pa_mem a2)).1
    have := bn_inj (by omega) (by omega) e2
    rw [pa_eq a1, pa_eq a2] at this
    exact List.pairwise_iff_getElem.mp hnd k i a2 a1 hki this.symm) (fun i hi => (hZm _ (pa_mem (by omega))).2) e
  rw [lst_cf, if_pos (Nat.lt_succ_self e)] at h2
  unfold wlS at h2
  rw [if_neg (Nat.lt_irrefl _)] at h2
  exact E.one_ne h2

/-- Where the locator is not 0 a near row is right. -/
theorem wl_right {n k e : Nat} {V X : Nat → E} {f : List E} (hk : 1 ≤ k) (hn : n ≤ 256) (he : 2 * e + k ≤ n) (he2 : n ≤ 2 * e + k + 1) (hf : NearF n k V f) (hX : Solves (wlA (e + k) V) n (e + k + e) (wlF e V) X) (i : Nat) (hi : i < n) (hH : wlH (e + k) e X i = true) : V i = pv f (bn i) := by
  obtain ⟨h1, h2⟩ := hf
  have h3 := welch_all (f := f) (s := lst (wlS (e + k) e X) (e + 1)) (q := lst X (e + k)) (x := bn) (v := V) (k := k) (e := e) (n := n) (by rw [lst_length]; exact Nat.le_refl _) (bn_le hn) (by omega) (fun i hi => (wl_at _ _ _ _ _).mp (hX i hi)) (by
    have := mu_length (lst (wlS (e + k) e X) (e + 1)) f e (k - 1) (by rw [lst_length]; exact Nat.le_refl _) (by omega)
    omega) (bn i)
  have h4 := (wl_at _ _ _ _ _).mp (hX i hi)
  rw [h4] at h3
  change V i * wlV (e + k) e X i = wlV (e + k) e X i * pv f (bn i) at h3
  have h5 : wlV (e + k) e X i ≠ 0 := fun e2 => by
    unfold wlH at hH
    rw [e2] at hH
    exact absurd rfl (of_decide_eq_true hH)
  have h6 : wlV (e + k) e X i * (V i + pv f (bn i)) = 0 := by rw [E.mul_add, ← h3, E.mul_comm, E.add_self]
  rcases E.none h6 with h | h
  · exact absurd h h5
  · exact add_eq h

/-- What is right there is near. -/
theorem wl_near {n k m e : Nat} {V X : Nat → E} {f : List E} (hn : n ≤ 256) (he : 2 * e + k ≤ n) (hf : f.length ≤ k) (h : ∀ i, i < n → wlH m e X i = true → V i = pv f (bn i)) : NearF n k V f := by
  refine ⟨hf, ?_⟩
  have h1 := wl_cnt m e n X hn
  have h2 := ms_eqs (fun t => pv f (bn t)) V (List.range n)
  rw [List.length_range] at h2
  have h3 : cnt (wlH m e X) n ≤ (eqs (fun t => pv f (bn t)) V (List.range n)).length := by
    unfold cnt eqs
    rw [← List.countP_eq_length_filter, ← List.countP_eq_length_filter]
    refine List.countP_mono_left fun i hi hh => ?_
    rw [h i (List.mem_range.mp hi) hh]
    exact beq_self_eq_true _
  omega

end Go.Proofs.Ytjccpfpldbjcbaa

namespace Go.Proofs.Ytjccpfpldbjcbaa
open Go.RowKit
open Gf

/-- A slice of L rows in block g: the first i rows are made (C bytes), row i is v at the moment, all behind it are nil. What is made lies between lo and lim. -/
def MkT (e : TypeId) (w : World) (base g L C i : Nat) (M : Nat → Nat → E) (v : Value) (lo lim : Nat) : Prop :=
  ∃ (us : List Value) (gs : Nat → Nat), us.length = L ∧ g < lo ∧ lo ≤ lim ∧ RowV e w base (.slice (some ⟨g, 0, none⟩) L L) us ∧
    (∀ r, r < i → lo ≤ gs r ∧ gs r < lim ∧ (∀ k, k < C → w.cell? ⟨gs r, k, none⟩ = some (.int .u8 (((M r k).v : Nat) : Int))) ∧ ∃ c, nthV us r = .slice (some ⟨gs r, 0, none⟩) C c ∧ C ≤ c ∧ c ≤ maxLen) ∧
    (i < L → nthV us i = v) ∧ ∀ r, i < r → r < L → nthV us r = .slice none 0 0

theorem nthV_rep {L r : Nat} {u : Value} (h : r < L) : nthV (List.replicate L u) r = u := by rw [nthV_eq (by simpa using h)]; simp

theorem MkT.start {e : TypeId} {w : World} {base g L : Nat} (h : RowV e w base (.slice (some ⟨g, 0, none⟩) L L) (List.replicate L (.slice none 0 0))) (C : Nat) (M : Nat → Nat → E) {lo lim : Nat} (hg : g < lo) (hl : lo ≤ lim) : MkT e w base g L C 0 M (.slice none 0 0) lo lim :=
  ⟨_, fun _ => 0, List.length_replicate, hg, hl, h, fun _ hr => absurd hr (Nat.not_lt_zero _), fun h => nthV_rep h, fun _ _ h => nthV_rep h⟩
theorem MkT.less {e : TypeId} {w : World} {base g L C i lo lim lim2 : Nat} {M : Nat → Nat → E} {v : Value} (h : MkT e w base g L C i M v lo lim) (hl : lim ≤ lim2) : MkT e w base g L C i M v lo lim2 := by
  obtain ⟨us, gs, h1, h2, h3, h4, h5, h6⟩ := h
  refine ⟨us, gs, h1, h2, by omega, h4, fun r hr => ?_, h6⟩
  obtain ⟨k1, k2, k3⟩ := h5 r hr
  exact ⟨k1, by omega, k3⟩
theorem MkT.ex {e : TypeId} {w w2 : World} {base g L C i lo lim : Nat} {M : Nat → Nat → E} {v : Value} (h : MkT e w base g L C i M v lo lim) (hx : Ex w w2) : MkT e w2 base g L C i M v lo lim := by
  obtain ⟨us, gs, h1, h2, h2b, h3, h4, h5, h6⟩ := h
  refine ⟨us, gs, h1, h2, h2b, h3.ex hx, fun r hr => ?_, h5, h6⟩
  obtain ⟨k1, k2, k3, k4⟩ := h4 r hr
  exact ⟨k1, k2, fun k hk => hx.cell (k3 k hk), k4⟩
theorem MkT.lo {e : TypeId} {w : World} {base g L C i lo lim : Nat} {M : Nat → Nat → E} {v : Value} (h : MkT e w base g L C i M v lo lim) : g < lo ∧ lo ≤ lim := by
  obtain ⟨_, _, _, h2, h3, _⟩ := h
  exact ⟨h2, h3⟩
/-- A block grows that is none of it. -/
theorem MkT.grown {e : TypeId} {w w2 : World} {base g L C i lo lim : Nat} {M : Nat → Nat → E} {v : Value} {o : Option Nat} (h : MkT e w base g L C i M v lo lim) (hg : w.grownBy w2 o) (ho : ∀ b, o = some b → lim ≤ b ∨ b < lo ∧ b ≠ g) : MkT e w2 base g L C i M v lo lim := by
  obtain ⟨us, gs, h1, h2, h2b, h3, h4, h5, h6⟩ := h
  refine ⟨us, gs, h1, h2, h2b, h3.kept hg (.inr fun e2 => ?_), fun r hr => ?_, h5, h6⟩
  · rcases ho g e2.symm with h7 | h7
    · omega
    · exact h7.2 rfl
  · obtain ⟨k1, k2, k3, k4⟩ := h4 r hr
    exact ⟨k1, k2, fun k hk => hg.cell (k3 k hk) fun e2 => by
      rcases ho (gs r) e2.symm with h7 | h7
      · omega
      · omega, k4⟩
theorem MkT.cell {e : TypeId} {w : World} {base g L C i lo lim : Nat} {M : Nat → Nat → E} {v : Value} (h : MkT e w base g L C i M v lo lim) (hi : i < L) : w.cell? ⟨g, i, none⟩ = some v ∧ w.frozen? ⟨g, i, none⟩ = false ∧ base ≤ g ∧ g < lo := by
  obtain ⟨us, gs, h1, h1b, _, h2, _, h5, _⟩ := h
  rcases h2.form with ⟨h3, _⟩ | ⟨g2, cap2, h3, g3, g4, _, _, hc, hf⟩
  · cases h3
  · simp only [Value.slice.injEq, Option.some.injEq, Addr.mk.injEq, and_true] at h3
    obtain ⟨rfl, _⟩ := h3
    exact ⟨by rw [hc i (by omega), h5 hi], hf i, g3, h1b⟩
/-- The header is stored. -/
theorem MkT.put {e : TypeId} {w : World} {base g L C i lo lim : Nat} {M : Nat → Nat → E} {v : Value} (h : MkT e w base g L C i M v lo lim) (u : Value) : MkT e (w.setCell ⟨g, i, none⟩ u) base g L C i M u lo lim := by
  obtain ⟨us, gs, h1, h2, h2b, h3, h4, h5, h6⟩ := h
  refine ⟨us.set i u, gs, by rw [List.length_set]; exact h1, h2, h2b, (h3.set h1.symm i u).1, fun r hr => ?_, fun hi => ?_, fun r hr hr2 => ?_⟩
  · obtain ⟨k1, k2, k3, k4⟩ := h4 r hr
    refine ⟨k1, k2, fun k hk => ?_, ?_⟩
    · rw [World.cell?_setCell_other _ _ _ _ (addr_ne' (.inl (by omega)))]
      exact k3 k hk
    · by_cases hrl : r < us.length
      · rw [nthV_set hrl, if_neg (by omega)]; exact k4
      · obtain ⟨c, e2, _⟩ := k4
        unfold nthV at e2
        rw [List.getD_eq_getElem?_getD, List.getElem?_eq_none (by omega)] at e2
        cases e2
  · rw [nthV_set (by omega), if_pos rfl]
  · rw [nthV_set (by omega), if_neg (by omega)]; exact h6 r hr hr2
/-- The row is done. -/
theorem MkT.next {e eu : TypeId} {w : World} {base g L C i lo lim lim2 : Nat} {M : Nat → Nat → E} {v : Value} {F : Nat → E} (h : MkT e w base g L C i M v lo lim) (hi : i < L) (hrow : Row eu .u8 w lim v (bl F C)) (hC : 1 ≤ C) (hM : ∀ k, k < C → M i k = F k) (hl : w.heap.size ≤ lim2) : MkT e w base g L C (i + 1) M (.slice none 0 0) lo lim2 := by
  have hbl := bl_length F C
  rcases hrow.form with ⟨_, hn⟩ | ⟨b, c, rfl, g1, g2, g3, g4, g5, g6⟩
  · rw [hn] at hbl; simp at hbl; omega
  rw [hbl] at g3 g5 h
  obtain ⟨us, gs, h1, h2, h2b, h3, h4, h5, h6⟩ := h
  refine ⟨us, fun r => if r = i then b else gs r, h1, h2, by omega, h3, fun r hr => ?_, fun h => h6 (i + 1) (by omega) h, fun r hr hr2 => h6 r (by omega) hr2⟩
  by_cases e2 : r = i
  · subst e2
    dsimp only
    rw [if_pos rfl]
    refine ⟨by omega, by omega, fun k hk => ?_, c, h5 hi, g3, g4⟩
    rw [g5 k hk, bl_nth hk, hM k hk]
  · dsimp only
    rw [if_neg e2]
    obtain ⟨k1, k2, k3, k4⟩ := h4 r (by omega)
    exact ⟨by omega, by omega, k3, k4⟩
theorem MkT.readsT {e : TypeId} {w : World} {base g L C lo lim : Nat} {M : Nat → Nat → E} {v : Value} (h : MkT e w base g L C L M v lo lim) : ReadsT w (some ⟨g, 0, none⟩) L C M := by
  obtain ⟨us, gs, h1, h2, _, h3, h4, _, _⟩ := h
  rcases h3.form with ⟨h5, _⟩ | ⟨g2, cap2, h5, g3, g4, _, _, hc, hf⟩
  · cases h5
  simp only [Value.slice.injEq, Option.some.injEq, Addr.mk.injEq, and_true] at h5
  obtain ⟨rfl, _⟩ := h5
  refine ⟨g, 0, rfl, fun r hr => ?_⟩
  obtain ⟨k1, k2, k3, c, k4, k5, k6⟩ := h4 r hr
  exact ⟨gs r, 0, c, by rw [Nat.zero_add, hc r (by omega), k4], k5, k6, fun k hk => by rw [Nat.zero_add]; exact k3 k hk⟩

theorem set_grown (w : World) (g i : Nat) (u : Value) : w.grownBy (w.setCell ⟨g, i, none⟩ u) (some g) := ((Mo1.refl g w).set i u).1
theorem MkT.setFar {e : TypeId} {w : World} {base g L C i lo lim : Nat} {M : Nat → Nat → E} {v : Value} (h : MkT e w base g L C i M v lo lim) {b : Nat} (j : Nat) (u : Value) (hb : b < lo) (hne : b ≠ g) : MkT e (w.setCell ⟨b, j, none⟩ u) base g L C i M v lo lim :=
  h.grown (set_grown w b j u) fun b2 e2 => by cases e2; exact .inr ⟨hb, hne⟩
theorem Row.setFar {e : TypeId} {k : IntKind} {w : World} {base b : Nat} {v : Value} {xs : List Int} (h : Row e k w base v xs) (j : Nat) (u : Value) (hb : b < base) : Row e k (w.setCell ⟨b, j, none⟩ u) base v xs :=
  h.kept (set_grown w b j u) (.inr fun e2 => by have := (h.lt b e2).1; omega)

/-- Two slices made, in whatever order. -/
def Both (eT : TypeId) (w wx : World) (G g n C : Nat) (M : Nat → Nat → E) : Prop := G ≠ g ∧ w.heap.size ≤ G ∧ w.heap.size ≤ g ∧ g < wx.heap.size ∧ MkT eT wx w.heap.size G n C 0 M (.slice none 0 0) wx.heap.size wx.heap.size ∧ RowB wx g n (fun _ => 0) ∧ Ex w wx
theorem rep_row {eu : TypeId} {w : World} {base g n c : Nat} (h1 : 1 ≤ n) (h : Row eu .u8 w base (.slice (some ⟨g, 0, none⟩) n c) (List.replicate n 0)) : RowB w g n (fun _ => 0) := by
  have e : List.replicate n (0 : Int) = bl (fun _ => 0) n := by
    unfold bl
    refine (List.eq_replicate_iff.mpr ⟨by simp, fun b hb => ?_⟩).symm
    obtain ⟨_, _, rfl⟩ := List.mem_map.mp hb
    rfl
  rw [e] at h
  obtain ⟨g2, c2, he, _, _, _, _, hb⟩ := h.rowB h1
  simp only [Value.slice.injEq, Option.some.injEq, Addr.mk.injEq, and_true] at he
  rw [he.1]
  exact hb
theorem both1 {eT eu : TypeId} {w wd w6 w5 : World} {n C c : Nat} {M : Nat → Nat → E} (h1 : 1 ≤ n) (hd : Ex w wd) (h6 : RowV eT w6 w.heap.size (.slice (some ⟨wd.heap.size, 0, none⟩) n n) (List.replicate n (.slice none 0 0))) (g6 : wd.grownBy w6 none)
    (h5 : Row eu .u8 w5 w.heap.size (.slice (some ⟨w6.heap.size, 0, none⟩) n c) (List.replicate n 0)) (g5 : w6.grownBy w5 none) : Both eT w w5 wd.heap.size w6.heap.size n C M := by
  have x6 : Ex wd w6 := ex_grown (Ex.refl _) g6 fun k hk => by cases hk
  have x5 : Ex w6 w5 := ex_grown (Ex.refl _) g5 fun k hk => by cases hk
  have l6 := (h6.lt wd.heap.size rfl).2
  have l5 := (h5.lt w6.heap.size rfl).2
  have s1 := hd.size
  have s2 := x6.size
  exact ⟨by omega, by omega, by omega, l5, MkT.start (h6.ex x5) C M (by omega) (Nat.le_refl _), rep_row h1 h5, (hd.trans x6).trans x5⟩
theorem both2 {eT eu : TypeId} {w wd w6 w5 : World} {n C c : Nat} {M : Nat → Nat → E} (h1 : 1 ≤ n) (hd : Ex w wd) (h5 : Row eu .u8 w5 w.heap.size (.slice (some ⟨wd.heap.size, 0, none⟩) n c) (List.replicate n 0)) (g5 : wd.grownBy w5 none)
    (h6 : RowV eT w6 w.heap.size (.slice (some ⟨w5.heap.size, 0, none⟩) n n) (List.replicate n (.slice none 0 0))) (g6 : w5.grownBy w6 none) : Both eT w w6 w5.heap.size wd.heap.size n C M := by
  have x5 : Ex wd w5 := ex_grown (Ex.refl _) g5 fun k hk => by cases hk
  have x6 : Ex w5 w6 := ex_grown (Ex.refl _) g6 fun k hk => by cases hk
  have l6 := (h6.lt w5.heap.size rfl).2
  have l5 := (h5.lt wd.heap.size rfl).2
  have s1 := hd.size
  have s2 := x5.size
  exact ⟨by omega, by omega, by omega, by omega, MkT.start h6 C M (by omega) (Nat.le_refl _), (rep_row h1 h5).ex h1 x6, (hd.trans x5).trans x6⟩

theorem RowB.far {w w2 : World} {g C : Nat} {F : Nat → E} {o : Option Nat} (h : RowB w g C F) (hC : 1 ≤ C) (hg : w.grownBy w2 o) (hne : some g ≠ o) : RowB w2 g C F :=
  ⟨fun k hk => hg.cell (h.1 k hk) hne, fun k => (hg.frozen_far ⟨g, k, none⟩ (World.block_lt_of_cell? w ⟨g, 0, none⟩ (h.1 0 (by omega))) hne).trans (h.2 k)⟩
theorem RowB.setFar {w : World} {g C : Nat} {F : Nat → E} (h : RowB w g C F) {a : Addr} (u : Value) (hne : a.block ≠ g) : RowB (w.setCell a u) g C F :=
  ⟨fun k hk => by rw [World.cell?_setCell_other _ _ _ _ (fun e => hne (by rw [e]))]; exact h.1 k hk, fun k => by rw [World.frozen?_setCell]; exact h.2 k⟩

section
variable {P : Program} {w : World} {ops : Array Oper} {rest : List Oper} {o : Oper} {a : Act} {Q : Exit → Act → World → Prop}
/-- append of a row of bytes to nil. -/
theorem wpList_append_bytes (hgd : o.guard = none) (s x : Operand) (t : TypeId) (ho : o.op = .call { callee := .builtin .append, args := #[s, x], argTypes := #[t, t] })
    (e : TypeId) (bytes : Nat) (ht : P.underlying t = some (.slice e)) (hinfo : (P.info? e).map (fun i => (i.zero, i.size, i.bytes)) = some (some (.int .u8 0), 1, bytes))
    (hs : a.eval s = .slice none 0 0) (b off m c : Nat) (F : Nat → E) (hx : a.eval x = .slice (some ⟨b, off, none⟩) m c) (hr : ∀ k, k < m → w.cell? ⟨b, off + k, none⟩ = some (.int .u8 (((F k).v : Nat) : Int)))
    (h63 : m ≤ maxLen) (hbytes : m * bytes ≤ 140737488355328)
    (h : ∀ v' w', Row e .u8 w' w.heap.size v' (bl F m) → w.grownBy w' none → wpList P ops Q rest (a.put o.dst v') w') : wpList P ops Q (o :: rest) a w := by
  have hl := bl_length F m
  refine wpList_append_ints hgd s x t ho w.heap.size e .u8 bytes ht hinfo (.slice none 0 0) [] hs (Row.nil _ _ _ _) (some ⟨b, off, none⟩) c (bl F m) (by rw [hl]; exact hx) (fun h => by cases h) (.inr ⟨b, off, rfl, fun k hk => by rw [hl] at hk; rw [bl_nth hk]; exact hr k hk⟩) (by simp [hl]; exact h63) (by simp [hl]; exact hbytes) (Nat.le_refl _) ?_
  intro v' w' h1 h2 _
  exact h v' w' h1 h2
/-- append of one byte to a row that just fits its block: a row of its own. -/
theorem wpList_append_full (hgd : o.guard = none) (s x : Operand) (t : TypeId) (ho : o.op = .call { callee := .builtin .append, args := #[s, x], argTypes := #[t, t] })
    (e : TypeId) (k : IntKind) (bytes : Nat) (ht : P.underlying t = some (.slice e)) (hinfo : (P.info? e).map (fun i => (i.zero, i.size, i.bytes)) = some (some (.int k 0), 1, bytes))
    (b0 off n : Nat) (F : Nat → Int) (hs : a.eval s = .slice (some ⟨b0, off, none⟩) n n) (hF : ∀ j, j < n → w.cell? ⟨b0, off + j, none⟩ = some (.int k (F j))) (d : Int) (b : Nat) (hx : a.eval x = .slice (some ⟨b, 0, none⟩) 1 1) (hb : w.cell? ⟨b, 0, none⟩ = some (.int k d))
    (h63 : n + 1 ≤ maxLen) (hbytes : (n + 1) * bytes ≤ 140737488355328)
    (h : ∀ v' w', Row e k w' w.heap.size v' (fl n F ++ [d]) → w.grownBy w' none → wpList P ops Q rest (a.put o.dst v') w') : wpList P ops Q (o :: rest) a w := by
  obtain ⟨i, hi, hz, hsz, hby⟩ := info_parts hinfo
  have hl : (fl n F).length = n := by simp [fl]
  refine wpList_append_grows w hgd s x t ho e i _ 1 bytes ht hi hz hsz hby rfl (by decide) (some ⟨b0, off, none⟩) n n ((fl n F).map (Value.int k)) hs (fun h => by cases h) (by rw [List.length_map, hl, Nat.mul_one]) ?_ ⟨b, 0, none⟩ 1 1 [.int k d] hx rfl ?_ (by intro u hu; simp at hu; subst hu; rfl) (by omega) h63 hbytes ?_
  · intro p hp j u hj
    cases hp
    have hjn : j < n := by
      have := (List.getElem?_eq_some_iff.mp hj).1
      rw [List.length_map, hl] at this
      exact this
    rw [List.getElem?_map, List.getElem?_eq_getElem (by omega)] at hj
    simp at hj
    subst hj
    rw [Addr.add_lit, hF j hjn]
    simp [fl]
  · intro j u hj
    match j, hj with
    | 0, hj => simp at hj; subst hj; exact hb
  · intro v' w' h1 h2
    refine h v' w' ?_ h2
    unfold Row
    rw [List.length_append, hl]
    simpa using h1
end

end Go.Proofs.Ytjccpfpldbjcbaa

namespace Go.Proofs.Ytjccpfpldbjcbaa
open Go.RowKit
open Gf

set_option maxRecDepth 100000 in
set_option maxHeartbeats 1000000 in
theorem weCheck_any (n ca : Nat) (a : Option Addr) (k : Int) (w : World) (hn : n ≤ 9223372036854775807) :
    Calls Try.prog 8 #[.slice a n ca, .int .i64 k] w (Says (.int .i64 (weE n k)) w) := by
  by_cases h1 : 12 < n
  · have e : weE n k = 2 := by unfold weE; rw [if_pos h1]
    rw [e]
    clear e
    go_enter Try.func8, Try.ntmps8
    go_wp2
    go_ret
    exact ⟨rfl, Ex.refl _⟩
  · by_cases h2 : k < 1 ∨ (n : Int) < k
    · have e : weE n k = 1 := by unfold weE; rw [if_neg h1, if_pos h2]
      rw [e]
      clear e
      by_cases h3 : k < 1
      · clear h2
        go_enter Try.func8, Try.ntmps8
        go_wp2
        go_ret
        exact ⟨rfl, Ex.refl _⟩
      · have h4 : (n : Int) < k := by omega
        clear h2
        go_enter Try.func8, Try.ntmps8
        go_wp2
        go_ret
        exact ⟨rfl, Ex.refl _⟩
    · have e : weE n k = 0 := by unfold weE; rw [if_neg h1, if_neg h2]
      have h3 : ¬ k < 1 := fun h => h2 (.inl h)
      have h4 : ¬ (n : Int) < k := fun h => h2 (.inr h)
      rw [e]
      clear e h2
      go_enter Try.func8, Try.ntmps8
      go_wp2
      go_ret
      exact ⟨rfl, Ex.refl _⟩

set_option maxRecDepth 100000 in
set_option maxHeartbeats 1000000 in
theorem differences_any (F G : Nat → E) (n c1 c2 : Nat) (a b : Option Addr) (w : World) (hn : n ≤ 12) (h1 : ReadsF w a n F) (h2 : ReadsF w b n G) :
    Calls Try.prog 22 #[.slice a n c1, .slice b n c2] w (Says (.int .i64 ((ms F G (List.range n) : Nat) : Int)) w) := by
  obtain ⟨b1, o1, rfl, k1⟩ := h1
  obtain ⟨b2, o2, rfl, k2⟩ := h2
  have K1 := Lib.hid k1
  have K2 := Lib.hid k2
  clear k1 k2
  go_enter Try.func22, Try.ntmps22
  go_wp2
  go_loopg [5, 9] n (fun t v5 v9 wr => ∃ i c : Nat, i ≤ n ∧ c ≤ i ∧ v5 = .int .i64 (c : Int) ∧ v9 = .int .i64 (i : Int) ∧ Hid (c = ms F G (List.range i)) ∧ Hid (t = n - i) ∧ Ex w wr)
  case atStart => exact ⟨0, 0, by omega, by omega, rfl, rfl, Lib.hid rfl, Lib.hid rfl, Ex.refl _⟩
  case round =>
    obtain ⟨i, c, hi, hc, rfl, rfl, hm, ht, hx⟩ := hrel
    by_cases hlt : i < n
    · have q1 := hx.cell (K1.out i hlt)
      have q2 := hx.cell (K2.out i hlt)
      have HS := Lib.hid (ms_snoc F G i)
      obtain ⟨x, hX⟩ : ∃ x, (F i).v = x := ⟨_, rfl⟩
      obtain ⟨y, hY⟩ : ∃ y, (G i).v = y := ⟨_, rfl⟩
      rw [hX] at q1 HS
      rw [hY] at q2 HS
      have xl : x < 256 := by rw [← hX]; exact (F i).lt
      have yl : y < 256 := by rw [← hY]; exact (G i).lt
      clear hX hY
      by_cases e : x = y
      · have p1 : ((x : Int) != (y : Int)) = false := by rw [e]; simp
        have HM : Hid (c = ms F G (List.range (i + 1))) := Lib.hid (by rw [HS.out, if_pos e, ← hm.out, Nat.add_zero])
        clear e hm
        go_wp2
        go_quiet (fail)
        go_wp2
        go_roundg (n - (i + 1))
        case measure => have := ht.out; omega
        case rel => exact ⟨i + 1, c, by omega, by omega, rfl, by go_num, HM, Lib.hid rfl, by first | exact hx.drewN _ | exact hx⟩
      · have p1 : ((x : Int) != (y : Int)) = true := bne_iff_ne.mpr (by omega)
        have HM : Hid (c + 1 = ms F G (List.range (i + 1))) := Lib.hid (by rw [HS.out, if_neg e, ← hm.out])
        clear e hm
        go_wp2
        go_quiet (fail)
        go_wp2
        go_roundg (n - (i + 1))
        case measure => have := ht.out; omega
        case rel => exact ⟨i + 1, c + 1, by omega, by omega, by go_num, by go_num, HM, Lib.hid rfl, by first | exact hx.drewN _ | exact hx⟩
    · have e : i = n := by omega
      subst e
      have HE := Lib.hid hm.out
      clear hm
      go_wp2
      go_ret
      exact ⟨by rw [← HE.out]; rfl, hx⟩

set_option maxRecDepth 100000 in
set_option maxHeartbeats 1000000 in
theorem positions_any (n : Nat) (w : World) (h1 : 1 ≤ n) (hn : n ≤ 12) :
    Calls Try.prog 40 #[.int .i64 (n : Int)] w (fun e w2 => ∃ g, e = .returned (.slice (some ⟨g, 0, none⟩) n n) ∧ Hid (ReadsF w2 (some ⟨g, 0, none⟩) n bn) ∧ Ex w w2) := by
  go_enter Try.func40, Try.ntmps40
  go_wp2_with (at_make; refine wpList_make_ints rfl _ _ 22 rfl w.heap.size 5 .u8 1 Try.underlying22 info_u8R _ _ n rfl rfl (by omega) (by unfold maxLen; omega) (Nat.le_refl _) ?_; intro w2 hown2 hgrow2
               have HX2 := Lib.hid (ex_grown (Ex.refl w) hgrow2 fun k hk => by cases hk)
               have HF2 : Hid (RowB w2 w.heap.size n (fun _ => 0)) := Lib.hid (by
                 have e : List.replicate n (0 : Int) = bl (fun _ => 0) n := by rw [bl_fl, fl_zero]; rfl
                 rw [e] at hown2
                 obtain ⟨g, c, he, _, _, _, _, hb⟩ := hown2.rowB h1
                 simp only [Value.slice.injEq, Option.some.injEq, Addr.mk.injEq, and_true] at he
                 rw [he.1]
                 exact hb)
               clear hown2 hgrow2)
  obtain ⟨g, hg⟩ : ∃ g, w.heap.size = g := ⟨_, rfl⟩
  rw [hg] at HF2
  have hwg : w.heap.size ≤ g := by omega
  rw [hg]
  clear hg
  go_loopg [9] n (fun t v9 wr => ∃ i : Nat, i ≤ n ∧ v9 = .int .i64 (i : Int) ∧ Hid (RowB wr g n (fun j => if j < i then bn j else 0)) ∧ Hid (t = n - i) ∧ Ex w wr)
  case atStart => exact ⟨0, by omega, rfl, Lib.hid (HF2.out.congr fun j _ => by rw [if_neg (by omega)]), Lib.hid rfl, HX2.out⟩
  case round =>
    obtain ⟨i, hi, rfl, hR, ht, hx⟩ := hrel
    by_cases hlt : i < n
    · have m1 := hR.out.1 i hlt
      have m2 := hR.out.2 i
      dsimp only at m1
      rw [if_neg (Nat.lt_irrefl i)] at m1
      have hb : (((bn i).v : Nat) : Int) = (i : Int) := by rw [bn_v (by omega)]
      have HR2 : Hid (RowB (wr.setCell ⟨g, i, none⟩ (.int .u8 (i : Int))) g n (fun j => if j < i + 1 then bn j else 0)) := Lib.hid (by
        have := hR.out.set hlt (bn i)
        rw [hb] at this
        exact this.congr fun j _ => by
          unfold updF
          by_cases e : j = i
          · subst e; rw [if_pos rfl, if_pos (by omega)]
          · rw [if_neg e]
            dsimp only
            by_cases e2 : j < i
            · rw [if_pos e2, if_pos (by omega)]
            · rw [if_neg e2, if_neg (by omega)])
      have HX2 := Lib.hid (hx.setCell (p := ⟨g, i, none⟩) hwg (.int .u8 (i : Int)))
      clear hR hb
      go_wp2
      go_roundg (n - (i + 1))
      case measure => have := ht.out; omega
      case rel => exact ⟨i + 1, by omega, by go_num, HR2, Lib.hid rfl, HX2.out⟩
    · have e : i = n := by omega
      subst e
      have HE : Hid (ReadsF wr (some ⟨g, 0, none⟩) i bn) := Lib.hid ⟨g, 0, rfl, fun k hk => by
        have := hR.out.1 k hk
        dsimp only at this
        rw [if_pos hk] at this
        rw [Nat.zero_add]
        exact this⟩
      clear hR HF2
      go_wp2
      go_ret
      exact ⟨g, rfl, HE, hx⟩

set_option maxRecDepth 100000 in
set_option maxHeartbeats 1000000 in
theorem value_any (S : Nat → E) (z : E) (L C c1 c2 : Nat) (a b : Option Addr) (w : World) (hL : L ≤ C) (hC : C ≤ 20) (h1 : ReadsF w a L S) (h2 : ReadsF w b C (ep z)) :
    Calls Try.prog 42 #[.slice a L c1, .slice b C c2] w (Says (.int .u8 (((pv (lst S L) z).v : Nat) : Int)) w) := by
  obtain ⟨b1, o1, rfl, k1⟩ := h1
  obtain ⟨b2, o2, rfl, k2⟩ := h2
  have K1 := Lib.hid k1
  have K2 := Lib.hid k2
  have HMU := Lib.hid fun (x y : E) w2 => fmul_any x.v y.v w2 x.lt y.lt
  clear k1 k2
  go_enter Try.func42, Try.ntmps42
  go_wp2
  go_loopg [5, 10] L (fun t v5 v10 wr => ∃ (i : Nat) (X : E), i ≤ L ∧ v5 = .int .u8 ((X.v : Nat) : Int) ∧ v10 = .int .i64 (i : Int) ∧ Hid (X = pv (lst S i) z) ∧ Hid (t = L - i) ∧ Ex w wr)
  case atStart => exact ⟨0, 0, by omega, rfl, rfl, Lib.hid rfl, Lib.hid rfl, Ex.refl _⟩
  case round =>
    obtain ⟨i, X, hi, rfl, rfl, hX, ht, hx⟩ := hrel
    by_cases hlt : i < L
    · have hiC : i < C := by omega
      have q1 := hx.cell (K1.out i hlt)
      have q2 := hx.cell (K2.out i hiC)
      have HN : Hid (X + S i * ep z i = pv (lst S (i + 1)) z) := Lib.hid (by rw [hX.out, lst_sg, lst_sg, sg_up1])
      obtain ⟨P, hP⟩ : ∃ P, S i = P := ⟨_, rfl⟩
      obtain ⟨Q, hQ⟩ : ∃ Q, ep z i = Q := ⟨_, rfl⟩
      rw [hP] at q1 HN
      rw [hQ] at q2 HN
      have Pl := P.lt
      have Ql := Q.lt
      have Xl := X.lt
      have HT := Lib.hid fun w2 => HMU.out P Q w2
      have XX := xor_u8_nat X.v (gm P.v Q.v) X.lt (gm_lt P.lt)
      have XY : Hid (bits .xor .u8 ((X.v : Nat) : Int) ((gm P.v Q.v : Nat) : Int) = (((X + P * Q).v : Nat) : Int)) := Lib.hid XX
      clear hP hQ hX
      go_wp2_with (go_at_call 48; (with_reducible refine (HT.out _).mono ?_); rintro e w6 ⟨rfl, hw6⟩)
      go_roundg (L - (i + 1))
      case measure => have := ht.out; omega
      case rel => exact ⟨i + 1, X + P * Q, by omega, by first | exact congrArg (Value.int .u8) XY.out | rfl, by go_num, HN, Lib.hid rfl, hx.trans hw6⟩
    · have e : i = L := by omega
      subst e
      have HE := Lib.hid hX.out
      clear hX
      go_wp2
      go_ret
      exact ⟨by rw [← HE.out]; rfl, hx⟩

end Go.Proofs.Ytjccpfpldbjcbaa

namespace Go.Proofs.Ytjccpfpldbjcbaa
open Go.RowKit
open Gf

theorem cell_oneT2 (w : World) (x : Value) (T : TypeId) : (w.alloc (.cells #[x] T)).cell? ⟨w.heap.size, 0, none⟩ = some x := by simp

/-- What equations answers. -/
def Eqns (n m e : Nat) (V : Nat → E) (w : World) (en : Ending) (w2 : World) : Prop := ∃ G g, en = .returned (.tuple #[.slice (some ⟨G, 0, none⟩) n n, .slice (some ⟨g, 0, none⟩) n n]) ∧ Hid (ReadsT w2 (some ⟨G, 0, none⟩) n (m + e) (wlA m V)) ∧ Hid (ReadsF w2 (some ⟨g, 0, none⟩) n (wlF e V)) ∧ Ex w w2

set_option maxRecDepth 100000 in
set_option maxHeartbeats 4000000 in
theorem equations_any (V : Nat → E) (n m e ca cp : Nat) (a ap : Option Addr) (w : World) (h1 : 1 ≤ n) (hn : n ≤ 12) (hem : e < m) (hm : m + e ≤ 12) (ha : ReadsF w a n V) (hp : ReadsT w ap n m (fun r t => ep (bn r) t)) :
    Calls Try.prog 41 #[.slice a n ca, .slice ap n cp, .int .i64 (e : Int)] w (Eqns n m e V w) := by
  obtain ⟨ba, oa, rfl, ka⟩ := ha
  obtain ⟨bp, op, rfl, kp⟩ := hp
  have KA := Lib.hid ka
  have KP := Lib.hid kp
  have HMU := Lib.hid fun (x y : E) w2 => fmul_any x.v y.v w2 x.lt y.lt
  clear ka kp
  go_enter Try.func41, Try.ntmps41
  go_upto_region 1 with fail
  have hd : Ex w w.drew := (Ex.refl w).drew
  haveI : Nonempty (Kp (fun w2 => Ex w w2)) := ⟨⟨w, Ex.refl w⟩⟩
  go_cut [8, 9] (fun v8 v9 wx => ∃ G g, v8 = .slice (some ⟨G, 0, none⟩) n n ∧ v9 = .slice (some ⟨g, 0, none⟩) n n ∧ Hid (Both 22 w wx G g n (m + e) (wlA m V)))
  case first =>
    refine wp_region_scr (fun w2 => ∃ x : Kp (fun w2 => Ex w w2), w2 = x.val) (.take 0 (.take 1 (.take 3 (.take 4 (.two 2 (.take 6 (.one 5 (.take 7 (.fin)))) 5 (.one 2 (.take 6 (.take 7 (.fin))))))))) (by kernel_rfl) (by kernel_rfl) (by intro _ _ d _ _ h; cases d <;> exact h) ⟨⟨_, (by first | exact hd | exact hx6 | exact hx5 | exact hd.trans hx6 | exact hd.trans hx5)⟩, rfl⟩ ?_
    generalize w.drew = wd at hd ⊢
    simp only [fillS, List.getD_cons_zero, List.getD_cons_succ]
    repeat' (first
      | ((with_reducible refine wpScr_pure ?_); go_big_quiet_step (fail); (with_reducible refine scrQ_on ?_))
      | ((with_reducible refine wpScr_turn ?_); intro K hK; go_wp2_with (first | fail |(at_make; refine wpList_make_values rfl _ _ 38 rfl w.heap.size 22 (.slice none 0 0) rfl 24 Try.underlying38 info_bytes _ _ n rfl rfl (by omega) (by unfold maxLen; omega) (by first | exact hd.size | exact hx5.size) ?_; intro w6 hown6 hgrow6; have hx6 : Ex w w6 := (by first | exact ex_grown hd hgrow6 (fun k hk => by cases hk) | exact ex_grown hx5 hgrow6 (fun k hk => by cases hk)); have HO6 := Lib.hid hown6; have HG6 := Lib.hid hgrow6; clear hown6 hgrow6) | (at_make; refine wpList_make_ints rfl _ _ 22 rfl w.heap.size 5 .u8 1 Try.underlying22 info_u8R _ _ n rfl rfl (by omega) (by unfold maxLen; omega) (by first | exact hd.size | exact hx6.size) ?_; intro w5 hown5 hgrow5; have hx5 : Ex w w5 := (by first | exact ex_grown hd hgrow5 (fun k hk => by cases hk) | exact ex_grown hx6 hgrow5 (fun k hk => by cases hk)); have HO5 := Lib.hid hown5; have HG5 := Lib.hid hgrow5; clear hown5 hgrow5)); refine hK _ _ ⟨⟨_, (by first | exact hd | exact hx6 | exact hx5 | exact hd.trans hx6 | exact hd.trans hx5)⟩, rfl⟩ ?_; clear hK K)
      | (with_reducible refine wpScr_two ?_ ?_)
      | (with_reducible refine wpScr_three ?_ ?_ ?_)
      | (with_reducible refine wpScr_nil ?_))
    all_goals go_wp2
    all_goals go_meet
    all_goals first
      | exact ⟨_, _, rfl, rfl, Lib.hid (both1 h1 hd HO6.out HG6.out HO5.out HG5.out)⟩
      | exact ⟨_, _, rfl, rfl, Lib.hid (both2 h1 hd HO5.out HG5.out HO6.out HG6.out)⟩
  case rest =>
  obtain ⟨G, g, rfl, rfl, hB⟩ := hcut
  rename World => w1
  obtain ⟨hGg, hwG, hwg, hg1, hM1, hR1, hx1⟩ := hB.out
  have HM1 := Lib.hid hM1
  have HR1 := Lib.hid hR1
  have HX1 := Lib.hid hx1
  obtain ⟨lo, hlo⟩ : ∃ lo, w1.heap.size = lo := ⟨_, rfl⟩
  rw [hlo] at HM1 hg1
  have HL1 : Hid (lo ≤ w1.heap.size) := Lib.hid (by omega)
  clear hM1 hR1 hx1 hB hd hlo
  go_wp2
  go_loopg [22] n (fun t v22 wr => ∃ (i lim : Nat), i ≤ n ∧ v22 = .int .i64 (i : Int) ∧ Hid (MkT 22 wr w.heap.size G n (m + e) i (wlA m V) (.slice none 0 0) lo lim) ∧ Hid (RowB wr g n (fun j => if j < i then wlF e V j else 0)) ∧ Hid (lim ≤ wr.heap.size) ∧ Hid (t = n - i) ∧ Ex w wr)
  case atStart => exact ⟨0, lo, by omega, rfl, HM1, Lib.hid (HR1.out.congr fun j _ => by rw [if_neg (by omega)]), HL1, Lib.hid rfl, HX1.out⟩
  case round =>
    obtain ⟨i, lim, hi, rfl, hM, hR, hlim, ht, hx⟩ := hrel
    clear HM1 HR1 HX1 HL1
    rename World => wo
    by_cases hlt : i < n
    · obtain ⟨br, orr, cr, q0, q1, q2, q3⟩ := KP.out i hlt
      have q0 := hx.cell q0
      have HQ3 := Lib.hid q3
      have HMl := Lib.hid (hM.out.less hlim.out)
      obtain ⟨m1, m2, _, m3⟩ := HMl.out.cell hlt
      have HE1 : Hid (∀ k, k < m → wo.cell? ⟨br, orr + k, none⟩ = some (.int .u8 (((ep (bn i) k).v : Nat) : Int))) := Lib.hid fun k hk => hx.cell (q3 k hk)
      unfold maxLen at q2
      clear q3 hM
      go_upto_region 6 with (at_builtin; refine wpList_append_bytes rfl _ _ 22 rfl 5 1 Try.underlying22 info_u8R rfl br orr m cr (ep (bn i)) rfl HE1.out (by unfold maxLen; omega) (by omega) ?_; intro v7 w7 hown7 hgrow7
                             have HX7 := Lib.hid (ex_grown hx hgrow7 fun k hk => by cases hk)
                             have HR7 := Lib.hid (hR.out.far h1 hgrow7 (fun e2 => by cases e2))
                             have HM7 := Lib.hid (HMl.out.grown hgrow7 fun b hb => by cases hb)
                             obtain ⟨n1, n2, _, _⟩ := HM7.out.cell hlt
                             have HO7 := Lib.hid hown7
                             obtain ⟨gr0, cr0, rfl, o1, o2, o3, o4, o5⟩ := hown7.rowB (by omega)
                             clear hown7 hgrow7 m1 m2)
      obtain ⟨y1, y2⟩ := HMl.out.lo
      have hgG : g < lo := hg1
      have HM8 := Lib.hid (HM7.out.put (.slice (some ⟨gr0, 0, none⟩) m cr0))
      have HO8 : Hid (Row 5 .u8 (w7.setCell ⟨G, i, none⟩ (.slice (some ⟨gr0, 0, none⟩) m cr0)) wo.heap.size (.slice (some ⟨gr0, 0, none⟩) m cr0) (bl (wlA m V i) m)) := Lib.hid (by
        have e9 : bl (ep (bn i)) m = bl (wlA m V i) m := List.map_congr_left fun k hk => by unfold wlA; rw [if_pos (List.mem_range.mp hk)]
        rw [← e9]
        exact HO7.out.setFar i _ (by omega))
      have HR8 := Lib.hid (HR7.out.setFar (a := ⟨G, i, none⟩) (.slice (some ⟨gr0, 0, none⟩) m cr0) hGg)
      have HX8 := Lib.hid (HX7.out.setCell (p := ⟨G, i, none⟩) hwG (.slice (some ⟨gr0, 0, none⟩) m cr0))
      obtain ⟨w8, hw8⟩ : ∃ w8, w7.setCell ⟨G, i, none⟩ (.slice (some ⟨gr0, 0, none⟩) m cr0) = w8 := ⟨_, rfl⟩
      rw [hw8] at HM8 HO8 HR8 HX8 ⊢
      obtain ⟨L0, hL0⟩ : ∃ L0, wo.heap.size = L0 := ⟨_, rfl⟩
      rw [hL0] at HM8 HO8 y2
      have HWL : Hid (w.heap.size ≤ L0) := Lib.hid (by have := hx.size; omega)
      clear hw8 HM7 HO7 HR7 HX7 n1 n2 o1 o2 o3 o4 o5 hR HMl HE1 hL0 q0 hlim
      rename World => w8'
      go_wp2
      go_loopg [40] e (fun t2 v40 wr2 => ∃ (j gr cr2 : Nat), j ≤ e ∧ v40 = .int .i64 (j : Int) ∧ Hid (MkT 22 wr2 w.heap.size G n (m + e) i (wlA m V) (.slice (some ⟨gr, 0, none⟩) (m + j) cr2) lo L0) ∧ Hid (Row 5 .u8 wr2 L0 (.slice (some ⟨gr, 0, none⟩) (m + j) cr2) (bl (wlA m V i) (m + j))) ∧ Hid (RowB wr2 g n (fun j => if j < i then wlF e V j else 0)) ∧ Hid (t2 = e - j) ∧ Ex w wr2)
      case atStart => exact ⟨0, gr0, cr0, by omega, rfl, HM8, HO8, HR8, Lib.hid rfl, HX8.out⟩
      case round =>
        obtain ⟨j, gr, cr2, hj, rfl, hM2, hO2, hR2, ht2, hx2⟩ := hrel
        clear HM8 HO8 HR8 HX8
        obtain ⟨m1, m2, _, _⟩ := hM2.out.cell hlt
        have q5 := hx2.cell (KA.out i hlt)
        have HV : Hid (∀ t, t < e → wlA m V i (m + t) = V i * ep (bn i) t) := Lib.hid fun t _ => by unfold wlA; rw [if_neg (by omega), Nat.add_sub_cancel_left]
        have HW : Hid (wlF e V i = V i * ep (bn i) e) := Lib.hid rfl
        obtain ⟨Y, hY⟩ : ∃ Y, V i = Y := ⟨_, rfl⟩
        rw [hY] at q5 HV HW
        have HQA : Hid (∀ w2, Ex w w2 → w2.cell? ⟨ba, oa + i, none⟩ = some (.int .u8 ((Y.v : Nat) : Int))) := Lib.hid fun w2 h => by rw [← hY]; exact h.cell (KA.out i hlt)
        have Yl := Y.lt
        have k2 : ∀ x : Kp (fun w2 => Ex wr w2), x.val.cell? ⟨ba, oa + i, none⟩ = some (.int .u8 ((Y.v : Nat) : Int)) := fun x => x.ok.cell q5
        haveI : Nonempty (Kp (fun w2 => Ex wr w2)) := ⟨⟨wr, Ex.refl wr⟩⟩
        have hd : Ex wr wr.drew := (Ex.refl wr).drew
        clear hY
        by_cases hjt : j < e
        · have q4 := hx2.cell (HQ3.out j (by omega))
          have HV1 := Lib.hid (HV.out j hjt)
          obtain ⟨X, hX⟩ : ∃ X, ep (bn i) j = X := ⟨_, rfl⟩
          rw [hX] at q4 HV1
          have Xl := X.lt
          have HT := Lib.hid fun w2 => HMU.out Y X w2
          have k1 : ∀ x : Kp (fun x => x.cell? ⟨G, i, none⟩ = some (.slice (some ⟨gr, 0, none⟩) (m + j) cr2) ∧ x.cell? ⟨ba, oa + i, none⟩ = some (.int .u8 ((Y.v : Nat) : Int))), x.val.cell? ⟨G, i, none⟩ = some (.slice (some ⟨gr, 0, none⟩) (m + j) cr2) := fun x => x.ok.1
          have k3 : ∀ x : Kp (fun x => x.cell? ⟨G, i, none⟩ = some (.slice (some ⟨gr, 0, none⟩) (m + j) cr2) ∧ x.cell? ⟨ba, oa + i, none⟩ = some (.int .u8 ((Y.v : Nat) : Int))), x.val.cell? ⟨ba, oa + i, none⟩ = some (.int .u8 ((Y.v : Nat) : Int)) := fun x => x.ok.2
          haveI : Nonempty (Kp (fun x => x.cell? ⟨G, i, none⟩ = some (.slice (some ⟨gr, 0, none⟩) (m + j) cr2) ∧ x.cell? ⟨ba, oa + i, none⟩ = some (.int .u8 ((Y.v : Nat) : Int)))) := ⟨⟨wr, m1, q5⟩⟩
          have HBL : Hid (bl (wlA m V i) (m + j) ++ [((gm Y.v X.v : Nat) : Int)] = bl (wlA m V i) (m + (j + 1))) := Lib.hid (by
            have := bl_snoc (wlA m V i) (m + j)
            rw [HV1.out] at this
            exact this)
          have hgrL := (hO2.out.lt gr rfl).1
          have HL0 : Hid (L0 ≤ wr.heap.size) := Lib.hid (by have := hO2.out.lt gr rfl; omega)
          have HM1 := Lib.hid m1
          have HQ5 := Lib.hid q5
          clear hX k2 m1 q5
          go_upto_region 9 with fail
          refine wp_region_scrT (fun w2 => ∃ x : Kp (fun x => x.cell? ⟨G, i, none⟩ = some (.slice (some ⟨gr, 0, none⟩) (m + j) cr2) ∧ x.cell? ⟨ba, oa + i, none⟩ = some (.int .u8 ((Y.v : Nat) : Int))), w2 = x.val) 14 (.take 0 (.take 1 (.take 2 (.take 3 (.take 4 (.take 5 (.take 6 (.take 7 (.take 8 (.take 9 (.take 10 (.one 11 (.one 12 (.one 13 (.fin))))))))))))))) (by kernel_rfl) (by kernel_rfl) (by intro _ _ d _ _ h; cases d <;> exact h) ⟨⟨_, (by first | exact ⟨hd.cell HM1.out, hd.cell HQ5.out⟩ | exact ⟨(hd.trans hw6).cell HM1.out, (hd.trans hw6).cell HQ5.out⟩ | exact ⟨HX6.out.cell HM1.out, HX6.out.cell HQ5.out⟩ | exact HK7.out)⟩, rfl⟩ ?_
          simp only [fillS, List.getD_cons_zero, List.getD_cons_succ]
          repeat' (first
            | ((with_reducible refine wpScr_pure ?_); go_big_quiet_step (fail); (with_reducible refine scrQ_on ?_))
            | ((with_reducible refine wpScr_turn ?_); intro K hK; go_wp2_with (first | fail |(go_at_call 48; (with_reducible refine (HT.out _).mono ?_); rintro en w6 ⟨rfl, hw6⟩; have HX6 := Lib.hid ((hd.trans hw6).alloc (.cells #[.int .u8 ((gm Y.v X.v : Nat) : Int)] 5)); have c1 := cell_oneT2 w6 (.int .u8 ((gm Y.v X.v : Nat) : Int)) 5) | (at_builtin; refine wpList_append_int rfl _ _ 22 rfl L0 5 .u8 1 Try.underlying22 info_u8R (.slice (some ⟨gr, 0, none⟩) (m + j) cr2) (bl (wlA m V i) (m + j)) rfl (hO2.out.ex HX6.out) ((gm Y.v X.v : Nat) : Int) w6.heap.size rfl c1 (by rw [bl_length]; unfold maxLen; omega) (by rw [bl_length]; omega) (by have h7 := HX6.out.size; have h8 := HL0.out; omega) ?_; intro v7 w7 hown7 hgrow7 _; rw [HBL.out] at hown7; have HO7 := Lib.hid hown7; have HX7 := Lib.hid (ex_grown (hx2.trans HX6.out) hgrow7 fun b hb => by cases hb; show w.heap.size ≤ gr; have := HWL.out; omega); have HM7 := Lib.hid ((hM2.out.ex HX6.out).grown hgrow7 fun b hb => by cases hb; exact .inl hgrL); have HR7 := Lib.hid ((hR2.out.ex h1 HX6.out).far h1 hgrow7 fun e2 => by have e3 : g = gr := Option.some.inj e2; omega); have HC7 := Lib.hid (HM7.out.cell hlt); have HK7 : Hid (w7.cell? ⟨G, i, none⟩ = some (.slice (some ⟨gr, 0, none⟩) (m + j) cr2) ∧ w7.cell? ⟨ba, oa + i, none⟩ = some (.int .u8 ((Y.v : Nat) : Int))) := Lib.hid ⟨HC7.out.1, HQA.out w7 HX7.out⟩; obtain ⟨gr7, cr7, rfl, _⟩ := hown7.rowB (by omega); clear hown7 hgrow7)); refine hK _ _ ⟨⟨_, (by first | exact ⟨hd.cell HM1.out, hd.cell HQ5.out⟩ | exact ⟨(hd.trans hw6).cell HM1.out, (hd.trans hw6).cell HQ5.out⟩ | exact ⟨HX6.out.cell HM1.out, HX6.out.cell HQ5.out⟩ | exact HK7.out)⟩, rfl⟩ ?_; clear hK K)
            | (with_reducible refine wpScr_two ?_ ?_)
            | (with_reducible refine wpScr_three ?_ ?_ ?_)
            | (with_reducible refine wpScr_nil ?_))
          all_goals simp only [tailQ, List.drop_succ_cons, List.drop_zero]
          have n1 := HC7.out.1
          have n2 := HC7.out.2.1
          clear k1 k3 hd hw6 hM2 hO2 hR2 q4 HX6 HC7 HK7
          go_wp2
          go_roundg (e - (j + 1))
          case measure => have := ht2.out; omega
          case rel => exact ⟨j + 1, gr7, cr7, by omega, by go_num, Lib.hid (HM7.out.put _), Lib.hid (HO7.out.setFar i _ (by omega)), Lib.hid (HR7.out.setFar (a := ⟨G, i, none⟩) _ hGg), Lib.hid rfl, HX7.out.setCell (p := ⟨G, i, none⟩) hwG _⟩
        · have e2 : j = e := by omega
          subst e2
          have q4 := hx2.cell (HQ3.out j (by omega))
          obtain ⟨X, hX⟩ : ∃ X, ep (bn i) j = X := ⟨_, rfl⟩
          rw [hX] at q4 HW
          have Xl := X.lt
          have HT := Lib.hid fun w2 => HMU.out Y X w2
          have k1 : ∀ x : Kp (fun w2 => Ex wr w2), x.val.cell? ⟨br, orr + j, none⟩ = some (.int .u8 ((X.v : Nat) : Int)) := fun x => x.ok.cell q4
          have hgrL := hO2.out.lt gr rfl
          clear hX HV
          go_upto_region 11 with fail
          refine wp_region_scrT (fun w2 => ∃ x : Kp (fun w2 => Ex wr w2), w2 = x.val) 12 (.take 0 (.take 1 (.take 2 (.take 3 (.take 4 (.take 5 (.take 6 (.take 7 (.take 8 (.take 9 (.one 10 (.take 11 (.fin))))))))))))) (by kernel_rfl) (by kernel_rfl) (by intro _ _ d _ _ h; cases d <;> exact h) ⟨⟨_, (by first | exact hd | exact hd.trans hw6)⟩, rfl⟩ ?_
          simp only [fillS, List.getD_cons_zero, List.getD_cons_succ]
          repeat' (first
            | ((with_reducible refine wpScr_pure ?_); go_big_quiet_step (fail); (with_reducible refine scrQ_on ?_))
            | ((with_reducible refine wpScr_turn ?_); intro K hK; go_wp2_with (first | fail |(go_at_call 48; (with_reducible refine (HT.out _).mono ?_); rintro en w6 ⟨rfl, hw6⟩)); refine hK _ _ ⟨⟨_, (by first | exact hd | exact hd.trans hw6)⟩, rfl⟩ ?_; clear hK K)
            | (with_reducible refine wpScr_two ?_ ?_)
            | (with_reducible refine wpScr_three ?_ ?_ ?_)
            | (with_reducible refine wpScr_nil ?_))
          all_goals simp only [tailQ, List.drop_succ_cons, List.drop_zero]
          have HX6 := Lib.hid (hd.trans hw6)
          have HO6 := Lib.hid (hO2.out.ex HX6.out)
          have HM6 := Lib.hid (hM2.out.ex HX6.out)
          have HR6 := Lib.hid (hR2.out.ex h1 HX6.out)
          have n1 := HR6.out.1 i hlt
          have n2 := HR6.out.2 i
          dsimp only at n1
          rw [if_neg (Nat.lt_irrefl i)] at n1
          have HRN : Hid (RowB (w6.setCell ⟨g, i, none⟩ (.int .u8 ((gm Y.v X.v : Nat) : Int))) g n (fun t => if t < i + 1 then wlF j V t else 0)) := Lib.hid ((HR6.out.set hlt (Y * X)).congr fun t _ => by
            unfold updF
            by_cases e2 : t = i
            · subst e2; rw [if_pos rfl, if_pos (by omega), HW.out]
            · rw [if_neg e2]
              dsimp only
              by_cases e3 : t < i
              · rw [if_pos e3, if_pos (by omega)]
              · rw [if_neg e3, if_neg (by omega)])
          have HMN : Hid (MkT 22 (w6.setCell ⟨g, i, none⟩ (.int .u8 ((gm Y.v X.v : Nat) : Int))) w.heap.size G n (m + j) (i + 1) (wlA m V) (.slice none 0 0) lo (w6.setCell ⟨g, i, none⟩ (.int .u8 ((gm Y.v X.v : Nat) : Int))).heap.size) := Lib.hid ((HM6.out.setFar i _ hgG (Ne.symm hGg)).next hlt (HO6.out.setFar i _ (by omega)) (by omega) (fun _ _ => rfl) (Nat.le_refl _))
          have HXN := Lib.hid ((hx2.trans HX6.out).setCell (p := ⟨g, i, none⟩) hwg (.int .u8 ((gm Y.v X.v : Nat) : Int)))
          clear k1 k2 hd hw6 hM2 hO2 hR2 q4 q5 m1 m2 HO6 HM6 HR6 HX6
          go_wp2
          go_roundg (n - (i + 1))
          case measure => have := ht.out; omega
          case rel => exact ⟨i + 1, _, by omega, by go_num, HMN, HRN, Lib.hid (Nat.le_refl _), Lib.hid rfl, HXN.out⟩
    · have e2 : i = n := by omega
      subst e2
      have HT := Lib.hid hM.out.readsT
      have HF : Hid (ReadsF wo (some ⟨g, 0, none⟩) i (wlF e V)) := Lib.hid ⟨g, 0, rfl, fun k hk => by
        have := hR.out.1 k hk
        dsimp only at this
        rw [if_pos hk] at this
        rw [Nat.zero_add]
        exact this⟩
      clear hM hR
      go_wp2
      go_ret2
      exact ⟨G, g, rfl, HT, HF, hx⟩

end Go.Proofs.Ytjccpfpldbjcbaa

namespace Go.Proofs.Ytjccpfpldbjcbaa
open Go.RowKit
open Gf

theorem info_cellW : (Try.prog.info? 47).map (fun i => (i.zero, i.size, i.bytes)) = some (some (.agg #[.bool false, .int .u8 0]), 2, 2) := by kernel_rfl

/-- What trusted needs of what it calls, with the arguments as they are spelt. -/
theorem pow_pos (n m : Nat) (k e : Nat) (g : Nat) (w : World) (h1 : 1 ≤ n) (hn : n ≤ 12) (hm : e + k = m) (hm1 : 1 ≤ m) (hm2 : m ≤ 12) (h : ReadsF w (some ⟨g, 0, none⟩) n bn) :
    Calls Try.prog 16 #[.slice (some ⟨g, 0, none⟩) n n, .int .i64 ((e : Int) + (k : Int))] w (Tab2 n m (fun r t => ep (bn r) t) w) := by
  have := powersW.wide (F := bn) (L := n) (n := m) (a := some ⟨g, 0, none⟩) (ca := n) (w := w) h1 hn (Nat.le_refl _) (by omega) hm1 hm2 (fun i j hj hi => bn_apart (k := n) (by omega) i j hj hi) h
  rw [← hm, Int.natCast_add] at this
  rwa [← hm]

set_option maxRecDepth 100000 in
set_option maxHeartbeats 4000000 in
theorem trusted_none (V : Nat → E) (n m k e ca : Nat) (a : Option Addr) (w : World) (h1 : 1 ≤ n) (hn : n ≤ 12) (hk : 1 ≤ k) (hkn : k ≤ n) (he : ((n : Int) - (k : Int)) / 2 = (e : Int)) (hm : e + k = m) (ha : ReadsF w a n V) (hs : ¬ ∃ X, Solves (wlA m V) n (m + e) (wlF e V) X) :
    Calls Try.prog 21 #[.slice a n ca, .int .i64 (k : Int)] w (Says (.tuple #[.slice none 0 0, .int .i64 4]) w) := by
  have hme : m + e ≤ n := by omega
  have HPO := Lib.hid fun w2 => positions_any n w2 h1 hn
  have HPW := Lib.hid fun g w2 h => pow_pos n m k e g w2 h1 hn hm (by omega) (by omega) h
  have HEQ := Lib.hid fun ap cp w2 (x : Ex w w2) h => equations_any V n m e ca cp a ap w2 h1 hn (by omega) (by omega) (ha.ex x) h
  have HSO := Lib.hid fun G g w2 (h : ReadsT w2 (some ⟨G, 0, none⟩) n (m + e) (wlA m V)) (h2 : ReadsF w2 (some ⟨g, 0, none⟩) n (wlF e V)) => solC.none (ca := n) (cb := n) h1 hn (by omega) (by omega) h h2 hs
  clear ha hs
  go_enter Try.func21, Try.ntmps21
  go_wp2_with (first
    | (go_at_call 40; (with_reducible refine (HPO.out _).mono ?_); rintro en w2 ⟨g, rfl, hr2, hw2⟩)
    | (go_at_call 16; (with_reducible refine (HPW.out _ _ hr2.out).mono ?_); rintro en w3 ⟨ap, cp, rfl, hcp, ht3, hw3⟩
       have hx3 := hw2.trans hw3)
    | (go_at_call 41; (with_reducible refine (HEQ.out _ _ _ hx3 ht3.out).mono ?_); rintro en w4 ⟨G, g4, rfl, ht4, hr4, hw4⟩
       have hx4 := hx3.trans hw4)
    | (go_at_call 17; (with_reducible refine (HSO.out _ _ _ ht4.out hr4.out).mono ?_); rintro en w5 ⟨a5, c5, rfl, hw5⟩))
  go_ret2
  exact ⟨rfl, hx4.trans hw5⟩

set_option maxRecDepth 100000 in
set_option maxHeartbeats 4000000 in
theorem trusted_walk (V X : Nat → E) (n m k e ca : Nat) (a : Option Addr) (w : World) (h1 : 1 ≤ n) (hn : n ≤ 12) (hk : 1 ≤ k) (hkn : k ≤ n) (he : ((n : Int) - (k : Int)) / 2 = (e : Int)) (hm : e + k = m) (ha : ReadsF w a n V)
    (hs : ∀ {a b : Option Addr} {ca cb : Nat} {w : World}, ReadsT w a n (m + e) (wlA m V) → ReadsF w b n (wlF e V) → Calls Try.prog 17 #[.slice a n ca, .slice b n cb] w (VecX (m + e) X w)) :
    Calls Try.prog 21 #[.slice a n ca, .int .i64 (k : Int)] w (fun en w2 => ∃ gc, en = .returned (.tuple #[.slice (some ⟨gc, 0, none⟩) n n, .int .i64 0]) ∧ Hid (ReadsC w2 (some ⟨gc, 0, none⟩) n (wlH m e X) (fun i => (V i).v)) ∧ Ex w w2) := by
  have hme : m + e ≤ n := by omega
  have HPO := Lib.hid fun w2 => positions_any n w2 h1 hn
  have HPW := Lib.hid fun g w2 h => pow_pos n m k e g w2 h1 hn hm (by omega) (by omega) h
  have HEQ := Lib.hid fun ap cp w2 (x : Ex w w2) h => equations_any V n m e ca cp a ap w2 h1 hn (by omega) (by omega) (ha.ex x) h
  have HSO := Lib.hid fun G g w2 (h : ReadsT w2 (some ⟨G, 0, none⟩) n (m + e) (wlA m V)) (h2 : ReadsF w2 (some ⟨g, 0, none⟩) n (wlF e V)) => hs (ca := n) (cb := n) h h2
  obtain ⟨ba, oa, rfl, ka⟩ := ha
  have KA := Lib.hid ka
  have HEK := Lib.hid (show (e : Int) + (k : Int) = (m : Int) by omega)
  clear ka hs
  go_enter Try.func21, Try.ntmps21
  go_upto_region 9 with (first
    | (go_at_call 40; (with_reducible refine (HPO.out _).mono ?_); rintro en w2 ⟨g, rfl, hr2, hw2⟩)
    | (go_at_call 16; (with_reducible refine (HPW.out _ _ hr2.out).mono ?_); rintro en w3 ⟨ap, cp, rfl, hcp, ht3, hw3⟩
       have hx3 := hw2.trans hw3)
    | (go_at_call 41; (with_reducible refine (HEQ.out _ _ _ hx3 ht3.out).mono ?_); rintro en w4 ⟨G, g4, rfl, ht4, hr4, hw4⟩
       have hx4 := hx3.trans hw4)
    | (go_at_call 17; (with_reducible refine (HSO.out _ _ _ ht4.out hr4.out).mono ?_); rintro en w5 ⟨b5, rfl, hr5, hw5⟩
       have hx5 := hx4.trans hw5))
  go_cut [12] (fun v12 wx => ∃ (gl cl : Nat), v12 = .slice (some ⟨gl, 0, none⟩) (e + 1) cl ∧ Hid (∀ j, j < e + 1 → wx.cell? ⟨gl, j, none⟩ = some (.int .u8 (((wlS m e X j).v : Nat) : Int))) ∧ Ex w5 wx)
  case first =>
    have hek := HEK.out
    have h9 : ((m + e : Nat) : Int) - (m : Int) = (e : Int) := by omega
    have c1 := cell_oneT2 w5 (.int .u8 1) 5
    have hx5a : Ex w5 (w5.alloc (.cells #[.int .u8 1] 5)) := (Ex.refl w5).alloc _
    have HXA := Lib.hid hx5a
    have HF : Hid (fl e (fun j => (((X (m + j)).v : Nat) : Int)) ++ [1] = bl (wlS m e X) (e + 1)) := Lib.hid (by
      rw [← bl_snoc]
      have e1 : wlS m e X e = 1 := by unfold wlS; rw [if_neg (Nat.lt_irrefl _)]
      rw [e1]
      congr 1
      refine List.map_congr_left fun j hj => ?_
      unfold wlS
      rw [if_pos (List.mem_range.mp hj)])
    have HC5 : Hid (∀ j, j < e → (w5.alloc (.cells #[.int .u8 1] 5)).cell? ⟨b5, m + j, none⟩ = some (.int .u8 (((X (m + j)).v : Nat) : Int))) := Lib.hid fun j hj => hx5a.cell (hr5.out (m + j) (by omega))
    clear hr5 hr4 ht4 ht3 hr2 HPO HPW HEQ HSO
    by_cases h0 : e = 0
    · subst h0
      obtain rfl : k = m := by omega
      go_wp2_with (at_builtin; refine wpList_append_full rfl _ _ 22 rfl 5 .u8 1 Try.underlying22 info_u8R b5 0 0 (fun j => (((X (k + j)).v : Nat) : Int)) rfl (fun j hj => by omega) 1 w5.heap.size rfl c1 (by unfold maxLen; omega) (by omega) ?_
                   intro v6 w6 hown6 hgrow6
                   rw [HF.out] at hown6
                   obtain ⟨gl, cl, rfl, _, _, _, _, hb6⟩ := hown6.rowB (by omega)
                   have HB6 := Lib.hid hb6.1
                   have HX6 := Lib.hid (ex_grown HXA.out hgrow6 fun k hk => by cases hk)
                   clear hown6 hgrow6 hb6)
      go_meet
      exact ⟨gl, cl, rfl, HB6, HX6.out⟩
    · go_wp2_with (at_builtin; refine wpList_append_full rfl _ _ 22 rfl 5 .u8 1 Try.underlying22 info_u8R b5 m e (fun j => (((X (m + j)).v : Nat) : Int)) rfl HC5.out 1 w5.heap.size rfl c1 (by unfold maxLen; omega) (by omega) ?_
                   intro v6 w6 hown6 hgrow6
                   rw [HF.out] at hown6
                   obtain ⟨gl, cl, rfl, _, _, _, _, hb6⟩ := hown6.rowB (by omega)
                   have HB6 := Lib.hid hb6.1
                   have HX6 := Lib.hid (ex_grown HXA.out hgrow6 fun k hk => by cases hk)
                   clear hown6 hgrow6 hb6)
      go_meet
      exact ⟨gl, cl, rfl, HB6, HX6.out⟩
  case rest =>
  obtain ⟨gl, cl, rfl, HS, hx6⟩ := hcut
  rename World => w6
  have HT6 := Lib.hid (ht3.out.ex ((hw4.trans hw5).trans hx6))
  have HX6 := Lib.hid (hx5.trans hx6)
  have hlx := HX6.out.size
  clear hr5 hr4 ht4 ht3 hr2 HPO HPW HEQ HSO hw2 hw3 hw4 hw5 hx3 hx4 hx5 hx6
  go_wp2_with (at_make; refine wpList_make_cels rfl _ _ 45 rfl 47 2 Try.underlying45 info_cellW _ _ n rfl rfl (by omega) (by unfold maxLen; omega) ?_
               intro w7 hown7 hgrow7
               have HX7 := Lib.hid (ex_grown (Ex.refl w6) hgrow7 fun k hk => by cases hk)
               have HC7 := Lib.hid hown7
               clear hown7 hgrow7)
  obtain ⟨gc, hgc⟩ : ∃ gc, w6.heap.size = gc := ⟨_, rfl⟩
  rw [hgc] at HC7 ⊢
  have hwc : w.heap.size ≤ gc := by omega
  have hw6c : w6.heap.size ≤ gc := by omega
  have HX70 := Lib.hid (HX6.out.trans HX7.out)
  clear hgc
  go_loopg [62] n (fun t v62 wr => ∃ i : Nat, i ≤ n ∧ v62 = .int .i64 (i : Int) ∧ Hid (CelB wr gc n (fun j => decide (j < i) && wlH m e X j) (fun j => if j < i then (V j).v else 0)) ∧ Hid (t = n - i) ∧ Hid (Ex w6 wr) ∧ Ex w wr)
  case atStart => exact ⟨0, by omega, rfl, Lib.hid (HC7.out.congr (fun j _ => by rw [decide_eq_false (by omega)]; rfl) (fun j _ => by rw [if_neg (by omega)])), Lib.hid rfl, HX7, HX70.out⟩
  case round =>
    obtain ⟨i, hi, rfl, hC, ht, hx6, hx⟩ := hrel
    clear HC7 HX70 HX7
    by_cases hlt : i < n
    · obtain ⟨bp, op, eq, kp⟩ := HT6.out
      subst eq
      obtain ⟨br, orr, cr, q0, q1, q2, q3⟩ := kp i hlt
      have q0 := hx6.out.cell q0
      have q5 := hx.cell (KA.out i hlt)
      unfold maxLen at q2
      have HVA : Hid (∀ w2, Ex wr w2 → Calls Try.prog 42 #[.slice (some ⟨gl, 0, none⟩) (e + 1) cl, .slice (some ⟨br, orr, none⟩) m cr] w2 (Says (.int .u8 (((wlV m e X i).v : Nat) : Int)) w2)) := Lib.hid fun w2 x =>
        value_any (wlS m e X) (bn i) (e + 1) m cl cr (some ⟨gl, 0, none⟩) (some ⟨br, orr, none⟩) w2 (by omega) (by omega) ⟨gl, 0, rfl, fun j hj => by rw [Nat.zero_add]; exact x.cell (hx6.out.cell (HS.out j hj))⟩ ⟨br, orr, rfl, fun j hj => x.cell (hx6.out.cell (q3 j hj))⟩
      have HH : Hid (wlH m e X i = decide ((wlV m e X i).v ≠ 0)) := Lib.hid rfl
      obtain ⟨Z, hZ⟩ : ∃ Z, wlV m e X i = Z := ⟨_, rfl⟩
      rw [hZ] at HVA HH
      obtain ⟨Y, hY⟩ : ∃ Y, V i = Y := ⟨_, rfl⟩
      have HY := Lib.hid hY
      rw [hY] at q5
      have Yl := Y.lt
      have Zl := Z.lt
      have HNEW : Hid (∀ w2 b, Ex wr w2 → wlH m e X i = b → CelB ((w2.setCell ⟨gc, i * 2, none⟩ (.bool b)).setCell ⟨gc, i * 2 + 1, none⟩ (.int .u8 ((Y.v : Nat) : Int))) gc n (fun j => decide (j < i + 1) && wlH m e X j) (fun j => if j < i + 1 then (V j).v else 0)) := Lib.hid fun w2 b x hb =>
        ((hC.out.ex h1 x).set hlt b Y.v).congr (fun j _ => by
          by_cases e2 : j = i
          · subst e2; rw [if_pos rfl, decide_eq_true (by omega), Bool.true_and, hb]
          · rw [if_neg e2]
            by_cases e3 : j < i
            · rw [decide_eq_true e3, decide_eq_true (by omega)]
            · rw [decide_eq_false e3, decide_eq_false (by omega)]) (fun j _ => by
          by_cases e2 : j = i
          · subst e2; rw [if_pos rfl, if_pos (by omega), HY.out]
          · rw [if_neg e2]
            by_cases e3 : j < i
            · rw [if_pos e3, if_pos (by omega)]
            · rw [if_neg e3, if_neg (by omega)])
      clear hZ hY q3 kp
      by_cases hz : Z.v ≠ 0
      · have p1 : (((Z.v : Nat) : Int) != 0) = true := bne_iff_ne.mpr (by omega)
        have HN := Lib.hid fun w2 x => HNEW.out w2 true x (by rw [HH.out]; exact decide_eq_true hz)
        clear HNEW HH
        go_wp2_with (go_at_call 42; (with_reducible refine (HVA.out _ (Ex.refl _)).mono ?_); rintro en w8 ⟨rfl, hw8⟩
                     have HC8 := Lib.hid (hC.out.ex h1 hw8)
                     have s0 := (HC8.out.1 i hlt).1
                     have s1 := (HC8.out.1 i hlt).2
                     have f0 := HC8.out.2 (i * 2)
                     have f1 := HC8.out.2 (i * 2 + 1)
                     have HX8 := Lib.hid (((hx.trans hw8).setCell (p := ⟨gc, i * 2, none⟩) hwc (.bool true)).setCell (p := ⟨gc, i * 2 + 1, none⟩) hwc (.int .u8 ((Y.v : Nat) : Int)))
                     have HX9 := Lib.hid (((hx6.out.trans hw8).setCell (p := ⟨gc, i * 2, none⟩) hw6c (.bool true)).setCell (p := ⟨gc, i * 2 + 1, none⟩) hw6c (.int .u8 ((Y.v : Nat) : Int)))
                     have HC9 := Lib.hid (HN.out w8 hw8))
        go_roundg (n - (i + 1))
        case measure => have := ht.out; omega
        case rel => exact ⟨i + 1, by omega, by go_num, HC9, Lib.hid rfl, HX9, HX8.out⟩
      · have p1 : (((Z.v : Nat) : Int) != 0) = false := by simp; omega
        have HN := Lib.hid fun w2 x => HNEW.out w2 false x (by rw [HH.out]; exact decide_eq_false hz)
        clear HNEW HH
        go_wp2_with (go_at_call 42; (with_reducible refine (HVA.out _ (Ex.refl _)).mono ?_); rintro en w8 ⟨rfl, hw8⟩
                     have HC8 := Lib.hid (hC.out.ex h1 hw8)
                     have s0 := (HC8.out.1 i hlt).1
                     have s1 := (HC8.out.1 i hlt).2
                     have f0 := HC8.out.2 (i * 2)
                     have f1 := HC8.out.2 (i * 2 + 1)
                     have HX8 := Lib.hid (((hx.trans hw8).setCell (p := ⟨gc, i * 2, none⟩) hwc (.bool false)).setCell (p := ⟨gc, i * 2 + 1, none⟩) hwc (.int .u8 ((Y.v : Nat) : Int)))
                     have HX9 := Lib.hid (((hx6.out.trans hw8).setCell (p := ⟨gc, i * 2, none⟩) hw6c (.bool false)).setCell (p := ⟨gc, i * 2 + 1, none⟩) hw6c (.int .u8 ((Y.v : Nat) : Int)))
                     have HC9 := Lib.hid (HN.out w8 hw8))
        go_roundg (n - (i + 1))
        case measure => have := ht.out; omega
        case rel => exact ⟨i + 1, by omega, by go_num, HC9, Lib.hid rfl, HX9, HX8.out⟩
    · have e2 : i = n := by omega
      subst e2
      have HE : Hid (ReadsC wr (some ⟨gc, 0, none⟩) i (wlH m e X) (fun j => (V j).v)) := Lib.hid (hC.out.congr (fun j hj => by rw [decide_eq_true hj, Bool.true_and]) (fun j hj => by rw [if_pos hj])).reads
      clear hC
      go_wp2
      go_ret2
      exact ⟨gc, rfl, HE, hx⟩

set_option maxRecDepth 100000 in
set_option maxHeartbeats 1000000 in
theorem weMend_no (n ca : Nat) (a : Option Addr) (k : Int) (w : World) (hn : n ≤ 9223372036854775807) (h : weE n k ≠ 0) :
    Calls Try.prog 7 #[.slice a n ca, .int .i64 k] w (Says (.tuple #[.slice none 0 0, .int .i64 0, .int .i64 (weE n k)]) w) := by
  have HCK := Lib.hid fun w2 => weCheck_any n ca a k w2 hn
  obtain ⟨c, hc⟩ : ∃ c, weE n k = c := ⟨_, rfl⟩
  rw [hc] at HCK h ⊢
  have hb : (c != 0) = true := by simpa using h
  clear h hc
  go_enter Try.func7, Try.ntmps7
  go_wp2_with (go_at_call 8; (with_reducible refine (HCK.out _).mono ?_); rintro e w2 ⟨rfl, hw2⟩)
  go_ret3
  exact ⟨rfl, hw2⟩

set_option maxRecDepth 100000 in
set_option maxHeartbeats 1000000 in
/-- There is no solution, or what it trusts is of no code row. -/
theorem weMend_none (V : Nat → E) (n k ca : Nat) (a : Option Addr) (w : World) (hk : 1 ≤ k) (hkn : k ≤ n) (hn : n ≤ 12) (ha : ReadsF w a n V) (hf : ∀ f, ¬ NearF n k V f) :
    Calls Try.prog 7 #[.slice a n ca, .int .i64 (k : Int)] w (Says (.tuple #[.slice none 0 0, .int .i64 0, .int .i64 4]) w) := by
  have HCK := Lib.hid fun w2 => weCheck_any n ca a k w2 (by omega)
  rw [weE_zero.mpr ⟨hn, by omega, by omega⟩] at HCK
  obtain ⟨e, he⟩ : ∃ e, (n - k) / 2 = e := ⟨_, rfl⟩
  have he2 : ((n : Int) - (k : Int)) / 2 = (e : Int) := by omega
  by_cases hs : ∃ X, Solves (wlA (e + k) V) n (e + k + e) (wlF e V) X
  · obtain ⟨X, hX, hSo⟩ := msol_some (A := wlA (e + k) V) (F := wlF e V) (R := n) (C := e + k + e) (by omega) hn (by omega) (by omega) hs
    have HTR := Lib.hid fun w2 (x : Ex w w2) => trusted_walk V X n (e + k) k e ca a w2 (by omega) hn hk hkn he2 rfl (ha.ex x) hSo
    have hcn := wl_cnt (e + k) e n X (by omega)
    have HME := Lib.hid fun gc w2 (h : ReadsC w2 (some ⟨gc, 0, none⟩) n (wlH (e + k) e X) (fun i => (V i).v)) => mendC.sum (k := k) (ca := n) (Nat.le_refl _) (by omega) h (fun i => (V i).lt) (by omega) hk hkn (by omega) (fun F => Classical.byContradiction fun hc => by
      obtain ⟨f, f1, _, f3⟩ := cr_poly F (k := k) (by omega)
      refine hf f (wl_near (m := e + k) (e := e) (X := X) (by omega) (by omega) f1 fun i hi hH => Classical.byContradiction fun hne => hc ⟨i, hi, hH, fun e2 => hne ?_⟩)
      rw [← f3]
      exact E.ext e2)
    clear ha hf hs hX hSo hcn he he2
    go_enter Try.func7, Try.ntmps7
    go_wp2_with (first
      | (go_at_call 8; (with_reducible refine (HCK.out _).mono ?_); rintro en w2 ⟨rfl, hw2⟩)
      | (go_at_call 21; (with_reducible refine (HTR.out _ hw2).mono ?_); rintro en w3 ⟨gc, rfl, hr3, hw3⟩)
      | (go_at_call 20; (with_reducible refine (HME.out _ _ hr3.out).mono ?_); rintro en w4 ⟨a4, c4, rfl, hw4⟩))
    go_ret3
    exact ⟨rfl, (hw2.trans hw3).trans hw4⟩
  · have HTR := Lib.hid fun w2 (x : Ex w w2) => trusted_none V n (e + k) k e ca a w2 (by omega) hn hk hkn he2 rfl (ha.ex x) hs
    clear ha hf hs he he2
    go_enter Try.func7, Try.ntmps7
    go_wp2_with (first
      | (go_at_call 8; (with_reducible refine (HCK.out _).mono ?_); rintro en w2 ⟨rfl, hw2⟩)
      | (go_at_call 21; (with_reducible refine (HTR.out _ hw2).mono ?_); rintro en w3 ⟨rfl, hw3⟩))
    go_ret3
    exact ⟨rfl, hw2.trans hw3⟩

set_option maxRecDepth 100000 in
set_option maxHeartbeats 1000000 in
theorem weMend_some (V : Nat → E) (f : List E) (n k ca : Nat) (a : Option Addr) (w : World) (hk : 1 ≤ k) (hkn : k ≤ n) (hn : n ≤ 12) (ha : ReadsF w a n V) (hf : NearF n k V f) :
    Calls Try.prog 7 #[.slice a n ca, .int .i64 (k : Int)] w (VecM n (pr f) (ms (pr f) V (List.range n)) w) := by
  have HCK := Lib.hid fun w2 => weCheck_any n ca a k w2 (by omega)
  rw [weE_zero.mpr ⟨hn, by omega, by omega⟩] at HCK
  obtain ⟨e, he⟩ : ∃ e, (n - k) / 2 = e := ⟨_, rfl⟩
  have he2 : ((n : Int) - (k : Int)) / 2 = (e : Int) := by omega
  have hs : ∃ X, Solves (wlA (e + k) V) n (e + k + e) (wlF e V) X := wl_some hk (by omega) hf
  obtain ⟨X, hX, hSo⟩ := msol_some (A := wlA (e + k) V) (F := wlF e V) (R := n) (C := e + k + e) (by omega) hn (by omega) (by omega) hs
  have HTR := Lib.hid fun w2 (x : Ex w w2) => trusted_walk V X n (e + k) k e ca a w2 (by omega) hn hk hkn he2 rfl (ha.ex x) hSo
  have hcn := wl_cnt (e + k) e n X (by omega)
  have hcr : cr k (pr f) = pr f := funext fun t => cr_of (by omega) hf.1 (fun i _ => rfl) t
  have HME := Lib.hid fun gc w2 (h : ReadsC w2 (some ⟨gc, 0, none⟩) n (wlH (e + k) e X) (fun i => (V i).v)) => mendC.ok (k := k) (ca := n) (F := pr f) (Nat.le_refl _) (by omega) h (fun i => (V i).lt) (by omega) hk hkn (by omega) (fun i hi hH => by
    rw [hcr]
    exact congrArg E.v (wl_right hk (by omega) (by omega) (by omega) hf hX i hi hH))
  rw [hcr] at HME
  have HDI := Lib.hid fun b c2 w2 (x : Ex w w2) h2 => differences_any (pr f) V n c2 ca b a w2 hn h2 (ha.ex x)
  obtain ⟨M, hM⟩ : ∃ M, ms (pr f) V (List.range n) = M := ⟨_, rfl⟩
  rw [hM] at HDI ⊢
  clear ha hf hs hX hSo hcn he he2 hM hcr
  go_enter Try.func7, Try.ntmps7
  go_wp2_with (first
    | (go_at_call 8; (with_reducible refine (HCK.out _).mono ?_); rintro en w2 ⟨rfl, hw2⟩)
    | (go_at_call 21; (with_reducible refine (HTR.out _ hw2).mono ?_); rintro en w3 ⟨gc, rfl, hr3, hw3⟩)
    | (go_at_call 20; (with_reducible refine (HME.out _ _ hr3.out).mono ?_); rintro en w4 ⟨a4, c4, rfl, hc4, hr4, hw4⟩
       have hx4 := (hw2.trans hw3).trans hw4)
    | (go_at_call 22; (with_reducible refine (HDI.out _ _ _ hx4 hr4.out).mono ?_); rintro en w5 ⟨rfl, hw5⟩))
  go_ret3
  exact ⟨_, _, rfl, hc4, Lib.hid (hr4.out.ex hw5), hx4.trans hw5⟩

theorem weCheckC : WeCheckC := ⟨fun {z a la ca k w} _ h1 h2 _ _ => weCheck_any la ca a k w (by omega)⟩
theorem weMendC : WeMendC := by
  refine ⟨fun {z a la ca k w} _ h1 h2 _ _ _ h => ?_, fun {V n k a ca w f} h1 h2 h3 _ _ h6 h7 => weMend_some V f n k ca a w h1 h2 h3 h6 h7, fun {V n k a ca w} h1 h2 h3 _ _ h6 h7 => ?_⟩
  · exact (weMend_no la ca a k w (by omega) h).mono fun _ _ h => ⟨none, 0, h.1, h.2⟩
  · exact (weMend_none V n k ca a w h1 h2 h3 h6 h7).mono fun _ _ h => ⟨none, 0, h.1, h.2⟩

end Go.Proofs.Ytjccpfpldbjcbaa
