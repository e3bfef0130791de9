/-
  Several texts in one:
  - Tables that package matrix makes: a row lent out of a table in the making; one column, the unit, two tables side by side, the product.
  - Mul of package matrix, and two tables side by side.
  - Two tables side by side; errors of Mul.
  - What the elimination of package matrix comes to: ranks, determinants, inverses, solutions. No Go in sight.
  - Rank, Det and Inverse of package matrix.
-/
import Derived.Test.YtebijjigjlcjdaaGmc
import Derived.Test.YtebijjigjlcjdaaGmk
import Derived.Deep.CutRange
import Derived.Deep.DeepCutAuto
import Derived.Test.YtebijjigjlcjdaaMcReduce
import Derived.Test.YtebijjigjlcjdaaMatUndone
namespace Go.Proofs.Ytebijjigjlcjdaa
open Go.RowKit
open Gf

theorem setCell_mo1 (w : World) (g i : Nat) (u : Value) : Mo1 g w (w.setCell ⟨g, i, none⟩ u) := (Mo1.refl g w).set i u

/-- A row of a table in the making, lent out and given back. -/
theorem OwnP.lend {e : TypeId} {w : World} {base g L C i r : Nat} {M : Nat → Nat → E} (h : OwnP e w base g L C i M) (hr : r < i) (hi : i ≤ L) : ∃ gr c, w.cell? ⟨g, r, none⟩ = some (.slice (some ⟨gr, 0, none⟩) C c) ∧ C ≤ c ∧ c ≤ maxLen ∧ base ≤ gr ∧ gr ≠ g ∧ RowB w gr C (M r) ∧
    ∀ w2 F, Mo1 gr w w2 → RowB w2 gr C F → OwnP e w2 base g L C i (fun s => if s = r then F else M s) := by
  obtain ⟨us, gs, h1, h2, h3, h4⟩ := h
  obtain ⟨k1, k2, k3, k4, k5, c, k6, k7, k8⟩ := h4 r hr
  have hform := h2.form
  rcases hform with ⟨h5, _⟩ | ⟨g2, cap2, h5, g3, g4, _, _, hc, hf⟩
  · cases h5
  simp only [Value.slice.injEq, Option.some.injEq, Addr.mk.injEq, and_true] at h5
  obtain ⟨rfl, _⟩ := h5
  have hc1 := hc r (by omega)
  rw [k6] at hc1
  refine ⟨gs r, c, hc1, k7, k8, k1, k3, ⟨k5, k4⟩, fun w2 F hm hF => ⟨us, gs, h1, h2.kept hm.1 (.inr fun e2 => k3 (Option.some.inj e2).symm), h3, fun s hs => ?_⟩⟩
  obtain ⟨m1, m2, m3, m4, m5, m6⟩ := h4 s hs
  refine ⟨m1, Nat.lt_of_lt_of_le m2 hm.size, m3, ?_, ?_, m6⟩
  · by_cases e2 : s = r
    · subst e2; exact hF.2
    · have hne : gs s ≠ gs r := by
        rcases Nat.lt_or_gt_of_ne e2 with h | h
        · exact h3 s r h hr
        · exact (h3 r s h hs).symm
      exact fun k => (hm.frozen (a := ⟨gs s, k, none⟩) m2 hne).trans (m4 k)
  · by_cases e2 : s = r
    · subst e2; simp only [if_true]; exact hF.1
    · have hne : gs s ≠ gs r := by
        rcases Nat.lt_or_gt_of_ne e2 with h | h
        · exact h3 s r h hr
        · exact (h3 r s h hs).symm
      simp only [if_neg e2]
      exact fun k hk => hm.cell (m5 k hk) hne

theorem OwnP.readsT {e : TypeId} {w : World} {base g L C : Nat} {M : Nat → Nat → E} (h : OwnP e w base g L C L M) (hL : 1 ≤ L) : ReadsT w (some ⟨g, 0, none⟩) L C M := by
  obtain ⟨a, cap, e2, _, _, h2⟩ := h.own.reads hL
  simp only [Value.slice.injEq] at e2
  rw [e2.1]
  exact h2

/-- A table made. -/
def Made (R C : Nat) (M : Nat → Nat → E) (w : World) (e : Ending) (w2 : World) : Prop := ∃ G, e = .returned (.slice (some ⟨G, 0, none⟩) R R) ∧ Hid (ReadsT w2 (some ⟨G, 0, none⟩) R C M) ∧ Ex w w2

end Go.Proofs.Ytebijjigjlcjdaa

namespace Go.Proofs.Ytebijjigjlcjdaa
open Go.RowKit
open Gf

theorem sg_last' (F : Nat → E) (k : Nat) : sg F (List.range (k + 1)) = sg F (List.range k) + F k := by
  rw [List.range_succ, sg_append]
  show _ + (F k + 0) = _
  rw [E.add_zero]

end Go.Proofs.Ytebijjigjlcjdaa

namespace Go.Proofs.Ytebijjigjlcjdaa
open Go.RowKit
open Gf

/-- A, and B right of it. -/
def sideBy (A B : Nat → Nat → E) (C : Nat) : Nat → Nat → E := fun i j => if j < C then A i j else B i (j - C)
theorem sideBy_row (A B : Nat → Nat → E) (C D i : Nat) : bl (A i) C ++ bl (B i) D = bl (sideBy A B C i) (C + D) := by
  unfold bl
  rw [List.range_add, List.map_append, List.map_map]
  congr 1
  · refine List.map_congr_left fun k hk => ?_
    have := List.mem_range.mp hk
    unfold sideBy
    rw [if_pos this]
  · refine List.map_congr_left fun k _ => ?_
    show _ = (((sideBy A B C i (C + k)).v : Nat) : Int)
    unfold sideBy
    rw [if_neg (by omega), Nat.add_sub_cancel_left]

theorem bl_reads {w : World} {F : Nat → E} {b o C : Nat} (h : ∀ k, k < C → w.cell? ⟨b, o + k, none⟩ = some (.int .u8 (((F k).v : Nat) : Int))) : Reads w .u8 (some ⟨b, o, none⟩) (bl F C) :=
  .inr ⟨b, o, rfl, fun j hj => by rw [bl_length] at hj; rw [bl_nth hj]; exact h j hj⟩

end Go.Proofs.Ytebijjigjlcjdaa

namespace Go.Proofs.Ytebijjigjlcjdaa
open Go.RowKit
open Gf

theorem ldr_jor {A M M2 : Nat → Nat → E} {R C c : Nat} {P P2 : List (Nat × Nat)} {d d2 : E} (h : JorD A M R C c P d) (hc : c < C) (he : ldr R c (M, P, d) = (M2, P2, d2)) : JorD A M2 R C (c + 1) P2 d2 := by
  obtain ⟨p, hp⟩ : ∃ p, P.length = p := ⟨_, rfl⟩
  rcases firstP_cases (fun i => decide ((M (p + i) c).v ≠ 0)) (R - p) with ⟨hf, hn⟩ | ⟨k, hk, hf, hy, _⟩
  · rw [ldr_none hp hf] at he
    simp only [Prod.mk.injEq] at he
    obtain ⟨rfl, rfl, rfl⟩ := he
    refine h.skip fun i h1 h2 => ?_
    rw [hp] at h1
    have := hn (i - p) (by omega)
    rw [show p + (i - p) = i by omega] at this
    refine E.ext ?_
    show (M i c).v = 0
    simpa using this
  · obtain ⟨X, hX⟩ : ∃ X, M (p + k) c = X := ⟨_, rfl⟩
    have hX0 : X ≠ 0 := fun e => by
      rw [hX, e] at hy
      exact absurd hy (by decide)
    rw [ldr_some hp hf hX] at he
    simp only [Prod.mk.injEq] at he
    obtain ⟨rfl, rfl, rfl⟩ := he
    have h3 := h.swap (N := fun i j => M (sw p (p + k) i) j) (r := p) (s := p + k) (by omega) (by omega) (by omega) (by omega) fun _ _ _ => rfl
    have hM3 : M (sw p (p + k) p) c = X := by
      rw [show sw p (p + k) p = p + k by unfold sw; rw [if_pos rfl]]
      exact hX
    have h5 := h3.step (N := lin (unR (fun i j => M (sw p (p + k) i) j) p X) p c R) hp (by omega) hc (by rw [hM3]; exact hX0) fun r hr j hj => by
      rw [hM3]
      by_cases e : r = p
      · subst e
        rw [lin_at _ r c (.inr rfl), if_pos rfl]
        unfold unR
        rw [if_pos rfl]
      · have h5 : ∀ M4 : Nat → Nat → E, lin M4 p c R r j = M4 r j + M4 p j * M4 r c := fun M4 => by unfold lin; rw [if_pos ⟨e, hr⟩]
        rw [h5, if_neg e]
        unfold unR
        rw [if_neg e, if_pos rfl]
    rw [hM3] at h5
    exact h5

/-- The inverse, as it stands right of the unit. -/
theorem side_inv {A M : Nat → Nat → E} {n : Nat} {P : List (Nat × Nat)} (h : Jor (sideBy A un n) M n (n + n) n P) (hl : P.length = n) : InvOf A (fun i j => M i (n + j)) n := by
  have hal := h.al
  rw [List.range_add] at hal
  have := Al.undo (A := A) (B := fun i j => M i (n + j)) List.nodup_range (u := fun j => n + j) hal
    (fun i _ j hj => by unfold sideBy; rw [if_pos (List.mem_range.mp hj)])
    (fun i _ j _ => by
      unfold sideBy
      rw [if_neg (by omega), Nat.add_sub_cancel_left]
      rfl)
    (fun i hi j hj => h.unit hl i (List.mem_range.mp hi) j (List.mem_range.mp hj)) (fun i _ j _ => rfl)
  exact ⟨fun i hi j hj => this.2 i (List.mem_range.mpr hi) j (List.mem_range.mpr hj), fun i hi j hj => this.1 i (List.mem_range.mpr hi) j (List.mem_range.mpr hj)⟩

theorem side_det (A B : Nat → Nat → E) (n : Nat) : det (sideBy A B n) n = det A n := det_congr fun i _ j hj => by unfold sideBy; rw [if_pos hj]

/-- The solution: the last column at the pivots' places. -/
def solX (M : Nat → Nat → E) (l : List Nat) (C : Nat) : Nat → Nat → E
  | 0 => fun _ => 0
  | i + 1 => updF (solX M l C i) (l.getD i 0) (M i C)

theorem solX_not (M : Nat → Nat → E) (l : List Nat) (C : Nat) : ∀ i, i ≤ l.length → ∀ j, j ∉ l → solX M l C i j = 0 := by
  intro i
  induction i with
  | zero => intro _ j _; rfl
  | succ i ih =>
    intro hi j hj
    have hne : j ≠ l.getD i 0 := fun e => hj (by rw [e, List.getD_eq_getElem?_getD, List.getElem?_eq_getElem (by omega)]; exact List.getElem_mem _)
    show updF (solX M l C i) (l.getD i 0) (M i C) j = 0
    unfold updF
    rw [if_neg hne]
    exact ih (by omega) j hj
theorem solX_at (M : Nat → Nat → E) (l : List Nat) (C : Nat) (hl : l.Pairwise (· < ·)) : ∀ i, i ≤ l.length → ∀ k, k < i → solX M l C i (l.getD k 0) = M k C := by
  intro i
  induction i with
  | zero => intro _ k hk; omega
  | succ i ih =>
    intro hi k hk
    show updF (solX M l C i) (l.getD i 0) (M i C) (l.getD k 0) = M k C
    unfold updF
    by_cases e : k = i
    · subst e; rw [if_pos rfl]
    · have hne : l.getD k 0 ≠ l.getD i 0 := by
        have h4 := List.pairwise_iff_getElem.mp hl k i (by omega) (by omega) (by omega)
        rw [List.getD_eq_getElem?_getD, List.getD_eq_getElem?_getD, List.getElem?_eq_getElem (by omega), List.getElem?_eq_getElem (by omega)]
        show l[k] ≠ l[i]
        omega
      rw [if_neg hne]
      exact ih (by omega) k (by omega)

theorem side_sol {A M : Nat → Nat → E} {F : Nat → E} {R C : Nat} {P : List (Nat × Nat)} (h : Jor (sideBy A (fun i _ => F i) C) M R (C + 1) C P) (h0 : ∀ i, P.length ≤ i → i < R → M i C = 0) : Solves A R C F (solX M (P.map (·.2)) C P.length) := by
  intro r hr
  have hl : (P.map (·.2)).length = P.length := List.length_map ..
  have := h.sol h0 (solX M (P.map (·.2)) C P.length) (fun a ha => by
    have h1 := h.lt ha
    have e2 := Jor.at h h1
    obtain ⟨i, hi, ea⟩ := List.mem_iff_getElem.mp ha
    have e3 : (P.map (·.1))[i]? = some i := by rw [h.rows]; simp [hi]
    rw [List.getElem?_map, List.getElem?_eq_getElem hi, ea] at e3
    have e4 : a.1 = i := Option.some.inj e3
    rw [e4] at e2 ⊢
    rw [List.getElem?_eq_getElem hi, ea] at e2
    have e5 := congrArg Prod.snd (Option.some.inj e2)
    rw [e5]
    exact solX_at M _ C h.cols P.length (by omega) i hi) (fun j hj => solX_not M _ C P.length (by omega) j hj) r hr
  rw [sg_congr (H := fun k => sideBy A (fun i _ => F i) C r k * solX M (P.map (·.2)) C P.length k) fun k hk => by
    show A r k * _ = _
    unfold sideBy
    rw [if_pos (List.mem_range.mp hk)], this]
  unfold sideBy
  rw [if_neg (by omega)]
theorem side_none {A M : Nat → Nat → E} {F : Nat → E} {R C : Nat} {P : List (Nat × Nat)} (h : Jor (sideBy A (fun i _ => F i) C) M R (C + 1) C P) {i : Nat} (h1 : P.length ≤ i) (hi : i < R) (h2 : M i C ≠ 0) : ¬ ∃ X, Solves A R C F X := by
  rintro ⟨X, hX⟩
  refine h.none h1 hi h2 ⟨X, fun r hr => ?_⟩
  rw [sg_congr (H := fun k => A r k * X k) fun k hk => by
    show sideBy A (fun i _ => F i) C r k * _ = _
    unfold sideBy
    rw [if_pos (List.mem_range.mp hk)], hX r hr]
  unfold sideBy
  rw [if_neg (by omega)]

end Go.Proofs.Ytebijjigjlcjdaa

namespace Go.Proofs.Ytebijjigjlcjdaa
open Go.RowKit
open Gf

end Go.Proofs.Ytebijjigjlcjdaa
