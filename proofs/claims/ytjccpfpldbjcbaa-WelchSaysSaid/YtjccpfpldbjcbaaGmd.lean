/-
  Several texts in one:
  - Tables that package matrix makes: a row lent out of a table in the making; one column, the unit, two tables side by side, the product.
  - Mul of package matrix, and two tables side by side.
  - Two tables side by side; errors of Mul.
  - What the elimination of package matrix comes to: ranks, determinants, inverses, solutions. No Go in sight.
  - Rank, Det and Inverse of package matrix.
-/
import Derived.Test.YtjccpfpldbjcbaaGmc
import Derived.Test.YtjccpfpldbjcbaaGmk
import Derived.Deep.CutRange
import Derived.Deep.DeepCutAuto
import Derived.Test.YtjccpfpldbjcbaaMcReduce
import Derived.Test.YtjccpfpldbjcbaaMatUndone
namespace Go.Proofs.Ytjccpfpldbjcbaa
open Go.RowKit
open Gf

theorem setCell_mo1 (w : World) (g i : Nat) (u : Value) : Mo1 g w (w.setCell ⟨g, i, none⟩ u) := (Mo1.refl g w).set i u

/-- A row of a table in the making, lent out and given back. -/
theorem OwnP.lend {e : TypeId} {w : World} {base g L C i r : Nat} {M : Nat → Nat → E} (h : OwnP e w base g L C i M) (hr : r < i) (hi : i ≤ L) : ∃ gr c, w.cell? ⟨g, r, none⟩ = some (.slice (some ⟨gr, 0, none⟩) C c) ∧ C ≤ c ∧ c ≤ maxLen ∧ base ≤ gr ∧ gr ≠ g ∧ RowB w gr C (M r) ∧
    ∀ w2 F, Mo1 gr w w2 → RowB w2 gr C F → OwnP e w2 base g L C i (fun s => if s = r then F else M s) := by
  obtain ⟨us, gs, h1, h2, h3, h4⟩ := h
  obtain ⟨k1, k2, k3, k4, k5, c, k6, k7, k8⟩ := h4 r hr
  have hform := h2.form
  rcases hform with ⟨h5, _⟩ | ⟨g2, cap2, h5, g3, g4, _, _, hc, hf⟩
  · cases h5
  simp only [Value.slice.injEq, Option.some.injEq, Addr.mk.injEq, and_true] at h5
  obtain ⟨rfl, _⟩ := h5
  have hc1 := hc r (by omega)
  rw [k6] at hc1
  refine ⟨gs r, c, hc1, k7, k8, k1, k3, ⟨k5, k4⟩, fun w2 F hm hF => ⟨us, gs, h1, h2.kept hm.1 (.inr fun e2 => k3 (Option.some.inj e2).symm), h3, fun s hs => ?_⟩⟩
  obtain ⟨m1, m2, m3, m4, m5, m6⟩ := h4 s hs
  refine ⟨m1, Nat.lt_of_lt_of_le m2 hm.size, m3, ?_, ?_, m6⟩
  · by_cases e2 : s = r
    · subst e2; exact hF.2
    · have hne : gs s ≠ gs r := by
        rcases Nat.lt_or_gt_of_ne e2 with h | h
        · exact h3 s r h hr
        · exact (h3 r s h hs).symm
      exact fun k => (hm.frozen (a := ⟨gs s, k, none⟩) m2 hne).trans (m4 k)
  · by_cases e2 : s = r
    · subst e2; simp only [if_true]; exact hF.1
    · have hne : gs s ≠ gs r := by
        rcases Nat.lt_or_gt_of_ne e2 with h | h
        · exact h3 s r h hr
        · exact (h3 r s h hs).symm
      simp only [if_neg e2]
      exact fun k hk => hm.cell (m5 k hk) hne

theorem OwnP.readsT {e : TypeId} {w : World} {base g L C : Nat} {M : Nat → Nat → E} (h : OwnP e w base g L C L M) (hL : 1 ≤ L) : ReadsT w (some ⟨g, 0, none⟩) L C M := by
  obtain ⟨a, cap, e2, _, _, h2⟩ := h.own.reads hL
  simp only [Value.slice.injEq] at e2
  rw [e2.1]
  exact h2

/-- A table made. -/
def Made (R C : Nat) (M : Nat → Nat → E) (w : World) (e : Ending) (w2 : World) : Prop := ∃ G, e = .returned (.slice (some ⟨G, 0, none⟩) R R) ∧ Hid (ReadsT w2 (some ⟨G, 0, none⟩) R C M) ∧ Ex w w2

set_option maxHeartbeats 1000000 in
theorem columnOf_any (F : Nat → E) (R : Nat) (a : Option Addr) (ca : Nat) (w : World) (hR : 1 ≤ R) (hR2 : R ≤ 20) (ha : ReadsF w a R F) :
    Calls Try.prog 34 #[.slice a R ca] w (Made R 1 (fun i _ => F i) w) := by
  obtain ⟨bA, oA, rfl, hA⟩ := ha
  have HA := Lib.hid hA
  clear hA
  go_enter Try.func34, Try.ntmps34
  go_wp2_with (at_make; refine wpList_make_values rfl _ _ 38 rfl w.heap.size 22 (.slice none 0 0) rfl 24 Try.underlying38 info_bytes _ _ R rfl rfl (by omega) (by unfold maxLen; omega) (Nat.le_refl _) ?_; intro w6 hown6 hgrow6
               have HP6 := Lib.hid (OwnP.start (by simp) hown6 1 (fun i _ => F i))
               have HX6 := Lib.hid (ex_grown (Ex.refl w) hgrow6 fun k hk => by cases hk)
               clear hown6 hgrow6)
  go_loopg [10] R (fun k vi wr => ∃ i : Nat, i ≤ R ∧ vi = .int .i64 (i : Int) ∧ Hid (OwnP 22 wr w.heap.size w.heap.size R 1 i (fun i _ => F i)) ∧ Hid (k = R - i) ∧ Ex w wr)
  case atStart => exact ⟨0, by omega, rfl, HP6, Lib.hid rfl, HX6.out⟩
  case round =>
    obtain ⟨i, hi, rfl, hP, hk, hx⟩ := hrel
    clear HP6 HX6
    by_cases hlt : i < R
    · have q1 := hx.cell (HA.out i hlt)
      obtain ⟨X, hX⟩ : ∃ X, F i = X := ⟨_, rfl⟩
      have HX := Lib.hid hX
      rw [hX] at q1
      have xl := X.lt
      have HRW : Hid (Row 5 .u8 (wr.alloc (.cells #[.int .u8 ((X.v : Nat) : Int)] 5)) wr.heap.size (.slice (some ⟨wr.heap.size, 0, none⟩) 1 1) (bl (fun _ => X) 1)) := Lib.hid (row_new 5 .u8 wr wr.heap.size (Nat.le_refl _) [((X.v : Nat) : Int)] _ rfl (by unfold maxLen; simp))
      have HXw := Lib.hid ((Ex.refl wr).alloc (.cells #[.int .u8 ((X.v : Nat) : Int)] 5))
      obtain ⟨⟨u8, c8⟩, f8, g1, _⟩ := (hP.out.ex HXw.out).cell hlt
      clear hX
      go_wp2
      go_roundg (R - (i + 1))
      case measure => have := hk.out; omega
      case rel => exact ⟨i + 1, by omega, by go_num, Lib.hid ((hP.out.set HXw.out HRW.out (by omega) hlt hx.size).congr fun r _ k _ => by
        by_cases h : r = i
        · subst h; rw [if_pos rfl, HX.out]
        · rw [if_neg h]), Lib.hid rfl, (hx.trans HXw.out).setCell (p := ⟨w.heap.size, i, none⟩) (Nat.le_refl _) _⟩
    · have e : R = i := by omega
      subst e
      have HT := Lib.hid (hP.out.readsT hR)
      clear hP
      go_wp2
      go_ret
      exact ⟨_, rfl, HT, hx⟩

end Go.Proofs.Ytjccpfpldbjcbaa

namespace Go.Proofs.Ytjccpfpldbjcbaa
open Go.RowKit
open Gf

theorem sg_last' (F : Nat → E) (k : Nat) : sg F (List.range (k + 1)) = sg F (List.range k) + F k := by
  rw [List.range_succ, sg_append]
  show _ + (F k + 0) = _
  rw [E.add_zero]

end Go.Proofs.Ytjccpfpldbjcbaa

namespace Go.Proofs.Ytjccpfpldbjcbaa
open Go.RowKit
open Gf

/-- A, and B right of it. -/
def sideBy (A B : Nat → Nat → E) (C : Nat) : Nat → Nat → E := fun i j => if j < C then A i j else B i (j - C)
theorem sideBy_row (A B : Nat → Nat → E) (C D i : Nat) : bl (A i) C ++ bl (B i) D = bl (sideBy A B C i) (C + D) := by
  unfold bl
  rw [List.range_add, List.map_append, List.map_map]
  congr 1
  · refine List.map_congr_left fun k hk => ?_
    have := List.mem_range.mp hk
    unfold sideBy
    rw [if_pos this]
  · refine List.map_congr_left fun k _ => ?_
    show _ = (((sideBy A B C i (C + k)).v : Nat) : Int)
    unfold sideBy
    rw [if_neg (by omega), Nat.add_sub_cancel_left]

theorem bl_reads {w : World} {F : Nat → E} {b o C : Nat} (h : ∀ k, k < C → w.cell? ⟨b, o + k, none⟩ = some (.int .u8 (((F k).v : Nat) : Int))) : Reads w .u8 (some ⟨b, o, none⟩) (bl F C) :=
  .inr ⟨b, o, rfl, fun j hj => by rw [bl_length] at hj; rw [bl_nth hj]; exact h j hj⟩

set_option maxRecDepth 100000 in
set_option maxHeartbeats 2000000 in
theorem beside_any {A B : Nat → Nat → E} {R C D : Nat} {a b : Option Addr} {ca cb : Nat} {w : World} (hR : 1 ≤ R) (hR2 : R ≤ 20) (hC : 1 ≤ C) (hC2 : C ≤ 20) (_ : 1 ≤ D) (hD2 : D ≤ 20) (ha : ReadsT w a R C A) (hb : ReadsT w b R D B) :
    Calls Try.prog 33 #[.slice a R ca, .slice b R cb] w (Made R (C + D) (sideBy A B C) w) := by
  obtain ⟨bA, oA, _, _, _, rfl, _⟩ := ha.at (r := 0) (by omega)
  obtain ⟨bB, oB, _, _, _, rfl, _⟩ := hb.at (r := 0) (by omega)
  have HA := Lib.hid ha
  have HB := Lib.hid hb
  clear ha hb
  go_enter Try.func33, Try.ntmps33
  go_wp2_with (at_make; refine wpList_make_values rfl _ _ 38 rfl w.heap.size 22 (.slice none 0 0) rfl 24 Try.underlying38 info_bytes _ _ R rfl rfl (by omega) (by unfold maxLen; omega) (Nat.le_refl _) ?_; intro w6 hown6 hgrow6
               have HP6 := Lib.hid (OwnP.start (by simp) hown6 (C + D) (sideBy A B C))
               have HX6 := Lib.hid (ex_grown (Ex.refl w) hgrow6 fun k hk => by cases hk)
               clear hown6 hgrow6)
  go_loopg [12] R (fun k vi wr => ∃ i : Nat, i ≤ R ∧ vi = .int .i64 (i : Int) ∧ Hid (OwnP 22 wr w.heap.size w.heap.size R (C + D) i (sideBy A B C)) ∧ Hid (k = R - i) ∧ Ex w wr)
  case atStart => exact ⟨0, by omega, rfl, HP6, Lib.hid rfl, HX6.out⟩
  case round =>
    obtain ⟨i, hi, rfl, hP, hk, hx⟩ := hrel
    clear HP6 HX6
    by_cases hlt : i < R
    · obtain ⟨bA2, oA2, bAi, oAi, cAi, eA, hAi, hAic, hAim, hAik⟩ := HA.out.at hlt
      obtain ⟨rfl, rfl⟩ : bA = bA2 ∧ oA = oA2 := by have := congrArg (fun x => (x.getD ⟨0, 0, none⟩ : Addr)) eA; simp at this; exact this
      obtain ⟨bB2, oB2, bBi, oBi, cBi, eB, hBi, hBic, hBim, hBik⟩ := HB.out.at hlt
      obtain ⟨rfl, rfl⟩ : bB = bB2 ∧ oB = oB2 := by have := congrArg (fun x => (x.getD ⟨0, 0, none⟩ : Addr)) eB; simp at this; exact this
      have k1 : ∀ x : Kp (fun w2 => Ex wr w2), x.val.cell? ⟨bA, oA + i, none⟩ = some (.slice (some ⟨bAi, oAi, none⟩) C cAi) := fun x => x.ok.cell (hx.cell hAi)
      have k2 : ∀ x : Kp (fun w2 => Ex wr w2), x.val.cell? ⟨bB, oB + i, none⟩ = some (.slice (some ⟨bBi, oBi, none⟩) D cBi) := fun x => x.ok.cell (hx.cell hBi)
      have HCC : Hid (∀ w2, Ex wr w2 → Calls Try.prog 51 #[.slice (some ⟨w2.heap.size, 0, none⟩) 2 2] (w2.alloc (.cells #[.slice (some ⟨bAi, oAi, none⟩) C cAi, .slice (some ⟨bBi, oBi, none⟩) D cBi] 22)) (fun e w3 => ∃ v : Value, e = .returned v ∧ Hid (Row 5 .u8 w3 w2.heap.size v (bl (sideBy A B C i) (C + D))) ∧ Ex w2 w3)) := Lib.hid fun w2 k =>
        concat_bytes_at (bl (A i) C) (bl (B i) D) _ C D w2.heap.size _ _ cAi cBi w2 (sideBy_row A B C D i) rfl (bl_length _ _) (bl_length _ _) (by omega) (by omega) (bl_reads fun k2 hk2 => (hx.trans k).cell (hAik k2 hk2)) (bl_reads fun k2 hk2 => (hx.trans k).cell (hBik k2 hk2)) (fun h => by cases h) (fun h => by cases h)
      haveI : Nonempty (Kp (fun w2 => Ex wr w2)) := ⟨⟨wr, Ex.refl wr⟩⟩
      have hd : Ex wr wr.drew := (Ex.refl wr).drew
      clear eA hAi hAik eB hBi hBik
      go_wp2
      refine wp_region_scrT (fun w2 => ∃ x : Kp (fun w2 => Ex wr w2), w2 = x.val) 13 (.take 0 (.take 1 (.take 2 (.take 3 (.take 4 (.take 5 (.take 6 (.take 7 (.take 8 (.take 9 (.one 10 (.one 11 (.take 12 (.fin)))))))))))))) (by kernel_rfl) (by kernel_rfl) (by intro _ _ d _ _ h; cases d <;> exact h) ⟨⟨_, (by first | exact hd | exact hd.trans hw7 | exact hd.alloc _)⟩, rfl⟩ ?_
      generalize wr.drew = wd at hd ⊢
      simp only [fillS, List.getD_cons_zero, List.getD_cons_succ]
      repeat' (first
        | ((with_reducible refine wpScr_pure ?_); go_big_quiet_step (fail); (with_reducible refine scrQ_on ?_))
        | ((with_reducible refine wpScr_turn ?_); intro K hK; go_wp2_with (first | fail |(go_at_call 51; (with_reducible refine (HCC.out _ hd).mono ?_); rintro e w7 ⟨v7, rfl, hrow7, hw7⟩)); refine hK _ _ ⟨⟨_, (by first | exact hd | exact hd.trans hw7 | exact hd.alloc _)⟩, rfl⟩ ?_; clear hK K)
        | (with_reducible refine wpScr_two ?_ ?_)
        | (with_reducible refine wpScr_three ?_ ?_ ?_)
        | (with_reducible refine wpScr_nil ?_))
      all_goals simp only [tailQ, List.drop_succ_cons, List.drop_zero]
      have HX7 := Lib.hid (hd.trans hw7)
      have HR7 := Lib.hid (hrow7.out.less hd.size)
      obtain ⟨⟨u8, c8⟩, f8, g1, _⟩ := (hP.out.ex HX7.out).cell hlt
      obtain ⟨ar8, cr8, e8, _⟩ := HR7.out.reads
      rw [bl_length] at e8
      subst e8
      clear k1 k2
      go_wp2
      go_roundg (R - (i + 1))
      case measure => have := hk.out; omega
      case rel => exact ⟨i + 1, by omega, by go_num, Lib.hid ((hP.out.set HX7.out HR7.out (by omega) hlt hx.size).congr fun r _ k _ => by by_cases h : r = i <;> simp [h]), Lib.hid rfl, (hx.trans HX7.out).setCell (p := ⟨w.heap.size, i, none⟩) (Nat.le_refl _) _⟩
    · have e : R = i := by omega
      subst e
      have HT := Lib.hid (hP.out.readsT hR)
      clear hP
      go_wp2
      go_ret
      exact ⟨_, rfl, HT, hx⟩

end Go.Proofs.Ytjccpfpldbjcbaa

namespace Go.Proofs.Ytjccpfpldbjcbaa
open Go.RowKit
open Gf

theorem ldr_jor {A M M2 : Nat → Nat → E} {R C c : Nat} {P P2 : List (Nat × Nat)} {d d2 : E} (h : JorD A M R C c P d) (hc : c < C) (he : ldr R c (M, P, d) = (M2, P2, d2)) : JorD A M2 R C (c + 1) P2 d2 := by
  obtain ⟨p, hp⟩ : ∃ p, P.length = p := ⟨_, rfl⟩
  rcases firstP_cases (fun i => decide ((M (p + i) c).v ≠ 0)) (R - p) with ⟨hf, hn⟩ | ⟨k, hk, hf, hy, _⟩
  · rw [ldr_none hp hf] at he
    simp only [Prod.mk.injEq] at he
    obtain ⟨rfl, rfl, rfl⟩ := he
    refine h.skip fun i h1 h2 => ?_
    rw [hp] at h1
    have := hn (i - p) (by omega)
    rw [show p + (i - p) = i by omega] at this
    refine E.ext ?_
    show (M i c).v = 0
    simpa using this
  · obtain ⟨X, hX⟩ : ∃ X, M (p + k) c = X := ⟨_, rfl⟩
    have hX0 : X ≠ 0 := fun e => by
      rw [hX, e] at hy
      exact absurd hy (by decide)
    rw [ldr_some hp hf hX] at he
    simp only [Prod.mk.injEq] at he
    obtain ⟨rfl, rfl, rfl⟩ := he
    have h3 := h.swap (N := fun i j => M (sw p (p + k) i) j) (r := p) (s := p + k) (by omega) (by omega) (by omega) (by omega) fun _ _ _ => rfl
    have hM3 : M (sw p (p + k) p) c = X := by
      rw [show sw p (p + k) p = p + k by unfold sw; rw [if_pos rfl]]
      exact hX
    have h5 := h3.step (N := lin (unR (fun i j => M (sw p (p + k) i) j) p X) p c R) hp (by omega) hc (by rw [hM3]; exact hX0) fun r hr j hj => by
      rw [hM3]
      by_cases e : r = p
      · subst e
        rw [lin_at _ r c (.inr rfl), if_pos rfl]
        unfold unR
        rw [if_pos rfl]
      · have h5 : ∀ M4 : Nat → Nat → E, lin M4 p c R r j = M4 r j + M4 p j * M4 r c := fun M4 => by unfold lin; rw [if_pos ⟨e, hr⟩]
        rw [h5, if_neg e]
        unfold unR
        rw [if_neg e, if_pos rfl]
    rw [hM3] at h5
    exact h5

theorem redu_jor (A : Nat → Nat → E) (R C : Nat) : ∀ (c : Nat) (M : Nat → Nat → E) (P : List (Nat × Nat)) (d : E), c ≤ C → redu A R c = (M, P, d) → JorD A M R C c P d := by
  intro c
  induction c with
  | zero =>
    intro M P d _ h
    have : (A, ([] : List (Nat × Nat)), (1 : E)) = (M, P, d) := h
    simp only [Prod.mk.injEq] at this
    obtain ⟨rfl, rfl, rfl⟩ := this
    exact JorD.start A R C
  | succ c ih =>
    intro M P d hc h
    obtain ⟨M1, P1, d1, h1⟩ : ∃ M1 P1 d1, redu A R c = (M1, P1, d1) := ⟨_, _, _, rfl⟩
    have h2 : ldr R c (redu A R c) = (M, P, d) := h
    rw [h1] at h2
    exact ldr_jor (ih M1 P1 d1 (by omega) h1) (by omega) h2

/-- The inverse, as it stands right of the unit. -/
theorem side_inv {A M : Nat → Nat → E} {n : Nat} {P : List (Nat × Nat)} (h : Jor (sideBy A un n) M n (n + n) n P) (hl : P.length = n) : InvOf A (fun i j => M i (n + j)) n := by
  have hal := h.al
  rw [List.range_add] at hal
  have := Al.undo (A := A) (B := fun i j => M i (n + j)) List.nodup_range (u := fun j => n + j) hal
    (fun i _ j hj => by unfold sideBy; rw [if_pos (List.mem_range.mp hj)])
    (fun i _ j _ => by
      unfold sideBy
      rw [if_neg (by omega), Nat.add_sub_cancel_left]
      rfl)
    (fun i hi j hj => h.unit hl i (List.mem_range.mp hi) j (List.mem_range.mp hj)) (fun i _ j _ => rfl)
  exact ⟨fun i hi j hj => this.2 i (List.mem_range.mpr hi) j (List.mem_range.mpr hj), fun i hi j hj => this.1 i (List.mem_range.mpr hi) j (List.mem_range.mpr hj)⟩

theorem side_det (A B : Nat → Nat → E) (n : Nat) : det (sideBy A B n) n = det A n := det_congr fun i _ j hj => by unfold sideBy; rw [if_pos hj]

/-- The solution: the last column at the pivots' places. -/
def solX (M : Nat → Nat → E) (l : List Nat) (C : Nat) : Nat → Nat → E
  | 0 => fun _ => 0
  | i + 1 => updF (solX M l C i) (l.getD i 0) (M i C)

theorem solX_not (M : Nat → Nat → E) (l : List Nat) (C : Nat) : ∀ i, i ≤ l.length → ∀ j, j ∉ l → solX M l C i j = 0 := by
  intro i
  induction i with
  | zero => intro _ j _; rfl
  | succ i ih =>
    intro hi j hj
    have hne : j ≠ l.getD i 0 := fun e => hj (by rw [e, List.getD_eq_getElem?_getD, List.getElem?_eq_getElem (by omega)]; exact List.getElem_mem _)
    show updF (solX M l C i) (l.getD i 0) (M i C) j = 0
    unfold updF
    rw [if_neg hne]
    exact ih (by omega) j hj
theorem solX_at (M : Nat → Nat → E) (l : List Nat) (C : Nat) (hl : l.Pairwise (· < ·)) : ∀ i, i ≤ l.length → ∀ k, k < i → solX M l C i (l.getD k 0) = M k C := by
  intro i
  induction i with
  | zero => intro _ k hk; omega
  | succ i ih =>
    intro hi k hk
    show updF (solX M l C i) (l.getD i 0) (M i C) (l.getD k 0) = M k C
    unfold updF
    by_cases e : k = i
    · subst e; rw [if_pos rfl]
    · have hne : l.getD k 0 ≠ l.getD i 0 := by
        have h4 := List.pairwise_iff_getElem.mp hl k i (by omega) (by omega) (by omega)
        rw [List.getD_eq_getElem?_getD, List.getD_eq_getElem?_getD, List.getElem?_eq_getElem (by omega), List.getElem?_eq_getElem (by omega)]
        show l[k] ≠ l[i]
        omega
      rw [if_neg hne]
      exact ih (by omega) k (by omega)

theorem side_sol {A M : Nat → Nat → E} {F : Nat → E} {R C : Nat} {P : List (Nat × Nat)} (h : Jor (sideBy A (fun i _ => F i) C) M R (C + 1) C P) (h0 : ∀ i, P.length ≤ i → i < R → M i C = 0) : Solves A R C F (solX M (P.map (·.2)) C P.length) := by
  intro r hr
  have hl : (P.map (·.2)).length = P.length := List.length_map ..
  have := h.sol h0 (solX M (P.map (·.2)) C P.length) (fun a ha => by
    have h1 := h.lt ha
    have e2 := Jor.at h h1
    obtain ⟨i, hi, ea⟩ := List.mem_iff_getElem.mp ha
    have e3 : (P.map (·.1))[i]? = some i := by rw [h.rows]; simp [hi]
    rw [List.getElem?_map, List.getElem?_eq_getElem hi, ea] at e3
    have e4 : a.1 = i := Option.some.inj e3
    rw [e4] at e2 ⊢
    rw [List.getElem?_eq_getElem hi, ea] at e2
    have e5 := congrArg Prod.snd (Option.some.inj e2)
    rw [e5]
    exact solX_at M _ C h.cols P.length (by omega) i hi) (fun j hj => solX_not M _ C P.length (by omega) j hj) r hr
  rw [sg_congr (H := fun k => sideBy A (fun i _ => F i) C r k * solX M (P.map (·.2)) C P.length k) fun k hk => by
    show A r k * _ = _
    unfold sideBy
    rw [if_pos (List.mem_range.mp hk)], this]
  unfold sideBy
  rw [if_neg (by omega)]
theorem side_none {A M : Nat → Nat → E} {F : Nat → E} {R C : Nat} {P : List (Nat × Nat)} (h : Jor (sideBy A (fun i _ => F i) C) M R (C + 1) C P) {i : Nat} (h1 : P.length ≤ i) (hi : i < R) (h2 : M i C ≠ 0) : ¬ ∃ X, Solves A R C F X := by
  rintro ⟨X, hX⟩
  refine h.none h1 hi h2 ⟨X, fun r hr => ?_⟩
  rw [sg_congr (H := fun k => A r k * X k) fun k hk => by
    show sideBy A (fun i _ => F i) C r k * _ = _
    unfold sideBy
    rw [if_pos (List.mem_range.mp hk)], hX r hr]
  unfold sideBy
  rw [if_neg (by omega)]

end Go.Proofs.Ytjccpfpldbjcbaa

namespace Go.Proofs.Ytjccpfpldbjcbaa
open Go.RowKit
open Gf

/-- reduce, where it is known what comes. -/
theorem reduce_at {A M : Nat → Nat → E} {R C n p : Nat} {P : List (Nat × Nat)} {d : E} {a : Option Addr} {ca : Nat} {w : World} (hR : 1 ≤ R) (hR2 : R ≤ 20) (hC : 1 ≤ C) (hC2 : C ≤ 40) (hn : n ≤ C) (ha : ReadsT w a R C A) (hS : redu A R n = (M, P, d)) (hp : P.length = p) :
    Calls Try.prog 32 #[.slice a R ca, .int .i64 (n : Int)] w (fun e w2 => ∃ (G cl : Nat) (al : Option Addr), e = .returned (.tuple #[.agg #[.slice (some ⟨G, 0, none⟩) R R, .slice al p cl, .int .u8 ((d.v : Nat) : Int)], .int .i64 0]) ∧ Hid (ReadsT w2 (some ⟨G, 0, none⟩) R C M) ∧ Hid (Reads w2 .i64 al (intsOf (P.map (·.2))) ∧ ∀ w3 b, b < w.heap.size → Mo1 b w2 w3 → ReadsT w3 (some ⟨G, 0, none⟩) R C M ∧ Reads w3 .i64 al (intsOf (P.map (·.2)))) ∧ Hid (p ≤ cl ∧ cl ≤ 9223372036854775807) ∧ Ex w w2) := by
  subst hp
  refine (reduce_any A R C n a ca w hR hR2 hC hC2 hn ha).mono ?_
  rintro e w2 ⟨G, cl, al, M2, P2, d2, rfl, h1, _, h3, h4, hx⟩
  have h1 := hS.symm.trans h1.out
  simp only [Prod.mk.injEq] at h1
  obtain ⟨rfl, rfl, rfl⟩ := h1
  exact ⟨G, cl, al, rfl, h3, Lib.hid h4.out.1, Lib.hid h4.out.2, hx⟩

set_option maxRecDepth 100000 in
set_option maxHeartbeats 1000000 in
theorem mrank_ok {A : Nat → Nat → E} {R C r : Nat} {a : Option Addr} {ca : Nat} {w : World} (hR : 1 ≤ R) (hR2 : R ≤ 12) (hC : 1 ≤ C) (hC2 : C ≤ 12) (ha : ReadsT w a R C A) (hr : Rk A (List.range R) (List.range C) r) :
    Calls Try.prog 18 #[.slice a R ca] w (Says (.tuple #[.int .i64 (r : Int), .int .i64 0]) w) := by
  obtain ⟨M, P, d, hS⟩ : ∃ M P d, redu A R C = (M, P, d) := ⟨_, _, _, rfl⟩
  have hJ := redu_jor A R C C M P d (Nat.le_refl _) hS
  have hp : P.length = r := (hJ.jor.rank (Nat.le_refl _)).uniq hr
  have hrR : r ≤ R := by rw [← hp]; exact hJ.jor.few
  have dl := d.lt
  obtain ⟨bA, oA, bA0, oA0, cA0, rfl, hA0, hA0c, hA0m, _⟩ := ha.at (r := 0) (by omega)
  rw [Nat.add_zero] at hA0
  have HCA := Lib.hid (mcheck_ok hR hR2 hC hC2 ha ca)
  have HRD := Lib.hid fun w2 (k : Ex w w2) => reduce_at (ca := ca) hR (by omega) hC (by omega) (Nat.le_refl C) (ha.ex k) hS hp
  clear ha hr hJ hS hp
  go_enter Try.func18, Try.ntmps18
  go_wp2_with (first
    | (go_at_call 31; (with_reducible refine (HCA.out).mono ?_); rintro e w1 ⟨rfl, hw1⟩; have q1 := hw1.cell hA0)
    | (go_at_call 32; (with_reducible refine (HRD.out _ hw1).mono ?_); rintro e w2 ⟨G, cl, al, rfl, _, _, hcl, hw2⟩))
  go_ret2
  exact ⟨rfl, (hw1.trans hw2).alloc _⟩

set_option maxHeartbeats 1000000 in
theorem mrank_no {m : List (List Int)} {a : Option Addr} {la ca : Nat} {w : World} (ha : IsMat .u8 w a la ca m) (h : tabE m ≠ 0) :
    Calls Try.prog 18 #[.slice a la ca] w (Says (.tuple #[.int .i64 0, .int .i64 (tabE m)]) w) := by
  have HCA := Lib.hid (checkC.any ha)
  obtain ⟨t, ht⟩ : ∃ t, tabE m = t := ⟨_, rfl⟩
  rw [ht] at HCA h ⊢
  have q2 : (t != 0) = true := by simpa using h
  clear ht h ha
  go_enter Try.func18, Try.ntmps18
  go_wp2_with (go_at_call 31; (with_reducible refine (HCA.out).mono ?_); rintro e w1 ⟨rfl, hw1⟩)
  go_ret2
  exact ⟨rfl, hw1⟩
theorem rankC : RankC := ⟨mrank_no, mrank_ok⟩

end Go.Proofs.Ytjccpfpldbjcbaa
