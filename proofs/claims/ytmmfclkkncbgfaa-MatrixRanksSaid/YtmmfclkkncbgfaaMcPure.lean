/-
  What the elimination of package matrix comes to: ranks, determinants, inverses, solutions. No Go in sight.
-/
import Derived.Test.YtmmfclkkncbgfaaMcReduce
import Derived.Test.YtmmfclkkncbgfaaMcBeside
namespace Go.Proofs.Ytmmfclkkncbgfaa
open Go.RowKit
open Gf

theorem ldr_jor {A M M2 : Nat → Nat → E} {R C c : Nat} {P P2 : List (Nat × Nat)} {d d2 : E} (h : JorD A M R C c P d) (hc : c < C) (he : ldr R c (M, P, d) = (M2, P2, d2)) : JorD A M2 R C (c + 1) P2 d2 := by
  obtain ⟨p, hp⟩ : ∃ p, P.length = p := ⟨_, rfl⟩
  rcases firstP_cases (fun i => decide ((M (p + i) c).v ≠ 0)) (R - p) with ⟨hf, hn⟩ | ⟨k, hk, hf, hy, _⟩
  · rw [ldr_none hp hf] at he
    simp only [Prod.mk.injEq] at he
    obtain ⟨rfl, rfl, rfl⟩ := he
    refine h.skip fun i h1 h2 => ?_
    rw [hp] at h1
    have := hn (i - p) (by omega)
    rw [show p + (i - p) = i by omega] at this
    refine E.ext ?_
    show (M i c).v = 0
    simpa using this
  · obtain ⟨X, hX⟩ : ∃ X, M (p + k) c = X := ⟨_, rfl⟩
    have hX0 : X ≠ 0 := fun e => by
      rw [hX, e] at hy
      exact absurd hy (by decide)
    rw [ldr_some hp hf hX] at he
    simp only [Prod.mk.injEq] at he
    obtain ⟨rfl, rfl, rfl⟩ := he
    have h3 := h.swap (N := fun i j => M (sw p (p + k) i) j) (r := p) (s := p + k) (by omega) (by omega) (by omega) (by omega) fun _ _ _ => rfl
    have hM3 : M (sw p (p + k) p) c = X := by
      rw [show sw p (p + k) p = p + k by unfold sw; rw [if_pos rfl]]
      exact hX
    have h5 := h3.step (N := lin (unR (fun i j => M (sw p (p + k) i) j) p X) p c R) hp (by omega) hc (by rw [hM3]; exact hX0) fun r hr j hj => by
      rw [hM3]
      by_cases e : r = p
      · subst e
        rw [lin_at _ r c (.inr rfl), if_pos rfl]
        unfold unR
        rw [if_pos rfl]
      · have h5 : ∀ M4 : Nat → Nat → E, lin M4 p c R r j = M4 r j + M4 p j * M4 r c := fun M4 => by unfold lin; rw [if_pos ⟨e, hr⟩]
        rw [h5, if_neg e]
        unfold unR
        rw [if_neg e, if_pos rfl]
    rw [hM3] at h5
    exact h5

theorem redu_jor (A : Nat → Nat → E) (R C : Nat) : ∀ (c : Nat) (M : Nat → Nat → E) (P : List (Nat × Nat)) (d : E), c ≤ C → redu A R c = (M, P, d) → JorD A M R C c P d := by
  intro c
  induction c with
  | zero =>
    intro M P d _ h
    have : (A, ([] : List (Nat × Nat)), (1 : E)) = (M, P, d) := h
    simp only [Prod.mk.injEq] at this
    obtain ⟨rfl, rfl, rfl⟩ := this
    exact JorD.start A R C
  | succ c ih =>
    intro M P d hc h
    obtain ⟨M1, P1, d1, h1⟩ : ∃ M1 P1 d1, redu A R c = (M1, P1, d1) := ⟨_, _, _, rfl⟩
    have h2 : ldr R c (redu A R c) = (M, P, d) := h
    rw [h1] at h2
    exact ldr_jor (ih M1 P1 d1 (by omega) h1) (by omega) h2

/-- The inverse, as it stands right of the unit. -/
theorem side_inv {A M : Nat → Nat → E} {n : Nat} {P : List (Nat × Nat)} (h : Jor (sideBy A un n) M n (n + n) n P) (hl : P.length = n) : InvOf A (fun i j => M i (n + j)) n := by
  have hal := h.al
  rw [List.range_add] at hal
  have := Al.undo (A := A) (B := fun i j => M i (n + j)) List.nodup_range (u := fun j => n + j) hal
    (fun i _ j hj => by unfold sideBy; rw [if_pos (List.mem_range.mp hj)])
    (fun i _ j _ => by
      unfold sideBy
      rw [if_neg (by omega), Nat.add_sub_cancel_left]
      rfl)
    (fun i hi j hj => h.unit hl i (List.mem_range.mp hi) j (List.mem_range.mp hj)) (fun i _ j _ => rfl)
  exact ⟨fun i hi j hj => this.2 i (List.mem_range.mpr hi) j (List.mem_range.mpr hj), fun i hi j hj => this.1 i (List.mem_range.mpr hi) j (List.mem_range.mpr hj)⟩

theorem side_det (A B : Nat → Nat → E) (n : Nat) : det (sideBy A B n) n = det A n := det_congr fun i _ j hj => by unfold sideBy; rw [if_pos hj]

/-- The solution: the last column at the pivots' places. -/
def solX (M : Nat → Nat → E) (l : List Nat) (C : Nat) : Nat → Nat → E
  | 0 => fun _ => 0
  | i + 1 => updF (solX M l C i) (l.getD i 0) (M i C)

theorem solX_not (M : Nat → Nat → E) (l : List Nat) (C : Nat) : ∀ i, i ≤ l.length → ∀ j, j ∉ l → solX M l C i j = 0 := by
  intro i
  induction i with
  | zero => intro _ j _; rfl
  | succ i ih =>
    intro hi j hj
    have hne : j ≠ l.getD i 0 := fun e => hj (by rw [e, List.getD_eq_getElem?_getD, List.getElem?_eq_getElem (by omega)]; exact List.getElem_mem _)
    show updF (solX M l C i) (l.getD i 0) (M i C) j = 0
    unfold updF
    rw [if_neg hne]
    exact ih (by omega) j hj
theorem solX_at (M : Nat → Nat → E) (l : List Nat) (C : Nat) (hl : l.Pairwise (· < ·)) : ∀ i, i ≤ l.length → ∀ k, k < i → solX M l C i (l.getD k 0) = M k C := by
  intro i
  induction i with
  | zero => intro _ k hk; omega
  | succ i ih =>
    intro hi k hk
    show updF (solX M l C i) (l.getD i 0) (M i C) (l.getD k 0) = M k C
    unfold updF
    by_cases e : k = i
    · subst e; rw [if_pos rfl]
    · have hne : l.getD k 0 ≠ l.getD i 0 := by
        have h4 := List.pairwise_iff_getElem.mp hl k i (by omega) (by omega) (by omega)
        rw [List.getD_eq_getElem?_getD, List.getD_eq_getElem?_getD, List.getElem?_eq_getElem (by omega), List.getElem?_eq_getElem (by omega)]
        show l[k] ≠ l[i]
        omega
      rw [if_neg hne]
      exact ih (by omega) k (by omega)

theorem side_sol {A M : Nat → Nat → E} {F : Nat → E} {R C : Nat} {P : List (Nat × Nat)} (h : Jor (sideBy A (fun i _ => F i) C) M R (C + 1) C P) (h0 : ∀ i, P.length ≤ i → i < R → M i C = 0) : Solves A R C F (solX M (P.map (·.2)) C P.length) := by
  intro r hr
  have hl : (P.map (·.2)).length = P.length := List.length_map ..
  have := h.sol h0 (solX M (P.map (·.2)) C P.length) (fun a ha => by
    have h1 := h.lt ha
    have e2 := Jor.at h h1
    obtain ⟨i, hi, ea⟩ := List.mem_iff_getElem.mp ha
    have e3 : (P.map (·.1))[i]? = some i := by rw [h.rows]; simp [hi]
    rw [List.getElem?_map, List.getElem?_eq_getElem hi, ea] at e3
    have e4 : a.1 = i := Option.some.inj e3
    rw [e4] at e2 ⊢
    rw [List.getElem?_eq_getElem hi, ea] at e2
    have e5 := congrArg Prod.snd (Option.some.inj e2)
    rw [e5]
    exact solX_at M _ C h.cols P.length (by omega) i hi) (fun j hj => solX_not M _ C P.length (by omega) j hj) r hr
  rw [sg_congr (H := fun k => sideBy A (fun i _ => F i) C r k * solX M (P.map (·.2)) C P.length k) fun k hk => by
    show A r k * _ = _
    unfold sideBy
    rw [if_pos (List.mem_range.mp hk)], this]
  unfold sideBy
  rw [if_neg (by omega)]
theorem side_none {A M : Nat → Nat → E} {F : Nat → E} {R C : Nat} {P : List (Nat × Nat)} (h : Jor (sideBy A (fun i _ => F i) C) M R (C + 1) C P) {i : Nat} (h1 : P.length ≤ i) (hi : i < R) (h2 : M i C ≠ 0) : ¬ ∃ X, Solves A R C F X := by
  rintro ⟨X, hX⟩
  refine h.none h1 hi h2 ⟨X, fun r hr => ?_⟩
  rw [sg_congr (H := fun k => A r k * X k) fun k hk => by
    show sideBy A (fun i _ => F i) C r k * _ = _
    unfold sideBy
    rw [if_pos (List.mem_range.mp hk)], hX r hr]
  unfold sideBy
  rw [if_neg (by omega)]

end Go.Proofs.Ytmmfclkkncbgfaa
