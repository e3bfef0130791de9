/-
  Tables that package matrix makes: a row lent out of a table in the making; one column, the unit, two tables side by side, the product.
-/
import Derived.Test.YtmmfclkkncbgfaaMcCheck
import Derived.Test.YtmmfclkkncbgfaaConcatB
import Derived.Deep.CutRange
import Derived.Deep.DeepCutAuto
namespace Go.Proofs.Ytmmfclkkncbgfaa
open Go.RowKit
open Gf

theorem setCell_mo1 (w : World) (g i : Nat) (u : Value) : Mo1 g w (w.setCell ⟨g, i, none⟩ u) := (Mo1.refl g w).set i u

/-- A row of a table in the making, lent out and given back. -/
theorem OwnP.lend {e : TypeId} {w : World} {base g L C i r : Nat} {M : Nat → Nat → E} (h : OwnP e w base g L C i M) (hr : r < i) (hi : i ≤ L) : ∃ gr c, w.cell? ⟨g, r, none⟩ = some (.slice (some ⟨gr, 0, none⟩) C c) ∧ C ≤ c ∧ c ≤ maxLen ∧ base ≤ gr ∧ gr ≠ g ∧ RowB w gr C (M r) ∧
    ∀ w2 F, Mo1 gr w w2 → RowB w2 gr C F → OwnP e w2 base g L C i (fun s => if s = r then F else M s) := by
  obtain ⟨us, gs, h1, h2, h3, h4⟩ := h
  obtain ⟨k1, k2, k3, k4, k5, c, k6, k7, k8⟩ := h4 r hr
  have hform := h2.form
  rcases hform with ⟨h5, _⟩ | ⟨g2, cap2, h5, g3, g4, _, _, hc, hf⟩
  · cases h5
  simp only [Value.slice.injEq, Option.some.injEq, Addr.mk.injEq, and_true] at h5
  obtain ⟨rfl, _⟩ := h5
  have hc1 := hc r (by omega)
  rw [k6] at hc1
  refine ⟨gs r, c, hc1, k7, k8, k1, k3, ⟨k5, k4⟩, fun w2 F hm hF => ⟨us, gs, h1, h2.kept hm (.inr fun e2 => k3 (Option.some.inj e2).symm), h3, fun s hs => ?_⟩⟩
  obtain ⟨m1, m2, m3, m4, m5, m6⟩ := h4 s hs
  refine ⟨m1, Nat.lt_of_lt_of_le m2 hm.size, m3, ?_, ?_, m6⟩
  · by_cases e2 : s = r
    · subst e2; exact hF.2
    · have hne : gs s ≠ gs r := by
        rcases Nat.lt_or_gt_of_ne e2 with h | h
        · exact h3 s r h hr
        · exact (h3 r s h hs).symm
      exact fun k => (hm.frozen (a := ⟨gs s, k, none⟩) m2 hne).trans (m4 k)
  · by_cases e2 : s = r
    · subst e2; simp only [if_true]; exact hF.1
    · have hne : gs s ≠ gs r := by
        rcases Nat.lt_or_gt_of_ne e2 with h | h
        · exact h3 s r h hr
        · exact (h3 r s h hs).symm
      simp only [if_neg e2]
      exact fun k hk => hm.cell (m5 k hk) hne

theorem OwnP.readsT {e : TypeId} {w : World} {base g L C : Nat} {M : Nat → Nat → E} (h : OwnP e w base g L C L M) (hL : 1 ≤ L) : ReadsT w (some ⟨g, 0, none⟩) L C M := by
  obtain ⟨a, cap, e2, _, _, h2⟩ := h.own.reads hL
  simp only [Value.slice.injEq] at e2
  rw [e2.1]
  exact h2

/-- A table made. -/
def Made (R C : Nat) (M : Nat → Nat → E) (w : World) (e : Ending) (w2 : World) : Prop := ∃ G, e = .returned (.slice (some ⟨G, 0, none⟩) R R) ∧ Hid (ReadsT w2 (some ⟨G, 0, none⟩) R C M) ∧ Ex w w2

set_option maxHeartbeats 1000000 in
theorem columnOf_any (F : Nat → E) (R : Nat) (a : Option Addr) (ca : Nat) (w : World) (hR : 1 ≤ R) (hR2 : R ≤ 20) (ha : ReadsF w a R F) :
    Calls Try.prog 42 #[.slice a R ca] w (Made R 1 (fun i _ => F i) w) := by
  obtain ⟨bA, oA, rfl, hA⟩ := ha
  have HA := Lib.hid hA
  clear hA
  go_enter Try.func42, Try.ntmps42
  go_wp2_with (at_make; refine wpList_make_values rfl _ _ 22 rfl w.heap.size 32 (.slice none 0 0) rfl 24 Try.underlying22 info_bytes _ _ R rfl rfl (by omega) (by unfold maxLen; omega) (Nat.le_refl _) ?_; intro w6 hown6 hgrow6
               have HP6 := Lib.hid (OwnP.start (by simp) hown6 1 (fun i _ => F i))
               have HX6 := Lib.hid (ex_grown (Ex.refl w) hgrow6 fun k hk => by cases hk)
               clear hown6 hgrow6)
  go_loopg [10] R (fun k vi wr => ∃ i : Nat, i ≤ R ∧ vi = .int .i64 (i : Int) ∧ Hid (OwnP 32 wr w.heap.size w.heap.size R 1 i (fun i _ => F i)) ∧ Hid (k = R - i) ∧ Ex w wr)
  case atStart => exact ⟨0, by omega, rfl, HP6, Lib.hid rfl, HX6.out⟩
  case round =>
    obtain ⟨i, hi, rfl, hP, hk, hx⟩ := hrel
    clear HP6 HX6
    by_cases hlt : i < R
    · have q1 := hx.cell (HA.out i hlt)
      obtain ⟨X, hX⟩ : ∃ X, F i = X := ⟨_, rfl⟩
      have HX := Lib.hid hX
      rw [hX] at q1
      have xl := X.lt
      have HRW : Hid (Row 5 .u8 (wr.alloc (.cells #[.int .u8 ((X.v : Nat) : Int)] 5)) wr.heap.size (.slice (some ⟨wr.heap.size, 0, none⟩) 1 1) (bl (fun _ => X) 1)) := Lib.hid (row_new 5 .u8 wr wr.heap.size (Nat.le_refl _) [((X.v : Nat) : Int)] _ rfl (by unfold maxLen; simp))
      have HXw := Lib.hid ((Ex.refl wr).alloc (.cells #[.int .u8 ((X.v : Nat) : Int)] 5))
      obtain ⟨⟨u8, c8⟩, f8, g1, _⟩ := (hP.out.ex HXw.out).cell hlt
      clear hX
      go_wp2
      go_roundg (R - (i + 1))
      case measure => have := hk.out; omega
      case rel => exact ⟨i + 1, by omega, by go_num, Lib.hid ((hP.out.set HXw.out HRW.out (by omega) hlt hx.size).congr fun r _ k _ => by
        by_cases h : r = i
        · subst h; rw [if_pos rfl, HX.out]
        · rw [if_neg h]), Lib.hid rfl, (hx.trans HXw.out).setCell (p := ⟨w.heap.size, i, none⟩) (Nat.le_refl _) _⟩
    · have e : R = i := by omega
      subst e
      have HT := Lib.hid (hP.out.readsT hR)
      clear hP
      go_wp2
      go_ret
      exact ⟨_, rfl, HT, hx⟩

set_option maxHeartbeats 1000000 in
theorem identity_any (n : Nat) (w : World) (hn : 1 ≤ n) (hn2 : n ≤ 20) :
    Calls Try.prog 41 #[.int .i64 (n : Int)] w (Made n n un w) := by
  go_enter Try.func41, Try.ntmps41
  go_wp2_with (at_make; refine wpList_make_values rfl _ _ 22 rfl w.heap.size 32 (.slice none 0 0) rfl 24 Try.underlying22 info_bytes _ _ n rfl rfl (by omega) (by unfold maxLen; omega) (Nat.le_refl _) ?_; intro w6 hown6 hgrow6
               have HP6 := Lib.hid (OwnP.start (by simp) hown6 n (un))
               have HX6 := Lib.hid (ex_grown (Ex.refl w) hgrow6 fun k hk => by cases hk)
               clear hown6 hgrow6)
  go_loopg [9] n (fun k vi wr => ∃ i : Nat, i ≤ n ∧ vi = .int .i64 (i : Int) ∧ Hid (OwnP 32 wr w.heap.size w.heap.size n n i un) ∧ Hid (k = n - i) ∧ Ex w wr)
  case atStart => exact ⟨0, by omega, rfl, HP6, Lib.hid rfl, HX6.out⟩
  case round =>
    obtain ⟨i, hi, rfl, hP, hk, hx⟩ := hrel
    clear HP6 HX6
    by_cases hlt : i < n
    · go_upto_region 6 with (at_make; refine wpList_make_ints rfl _ _ 32 rfl wr.heap.size 5 .u8 1 Try.underlying32 info_u8 _ _ n rfl rfl (by omega) (by unfold maxLen; omega) (Nat.le_refl _) ?_; intro w7 hown7 hgrow7
                             have HX7 := Lib.hid (ex_grown (Ex.refl wr) hgrow7 fun k hk => by cases hk)
                             have HR7 : Hid (Row 5 .u8 w7 wr.heap.size (.slice (some ⟨wr.heap.size, 0, none⟩) n n) (bl (fun _ => 0) n)) := Lib.hid (by
                               rw [show bl (fun _ => (0 : E)) n = List.replicate n 0 from by
                                 unfold bl
                                 refine List.eq_replicate_iff.mpr ⟨by simp, fun b hb => ?_⟩
                                 obtain ⟨_, _, rfl⟩ := List.mem_map.mp hb
                                 rfl]
                               exact hown7)
                             obtain ⟨⟨u8, c8⟩, f8, g1, _⟩ := (hP.out.ex HX7.out).cell hlt
                             clear hown7 hgrow7)
      have HP8 := Lib.hid (hP.out.set HX7.out HR7.out hn hlt hx.size)
      have HX8 := Lib.hid ((hx.trans HX7.out).setCell (p := ⟨w.heap.size, i, none⟩) (Nat.le_refl _) (.slice (some ⟨wr.heap.size, 0, none⟩) n n))
      obtain ⟨w8, hw8⟩ : ∃ w8, w7.setCell ⟨w.heap.size, i, none⟩ (.slice (some ⟨wr.heap.size, 0, none⟩) n n) = w8 := ⟨_, rfl⟩
      rw [hw8] at HP8 HX8
      obtain ⟨gr, c, l1, l2, l3, l4, l5, l6, l7⟩ := HP8.out.lend (Nat.lt_succ_self i) (by omega)
      have m1 := l6.1 i hlt
      have m2 := l6.2 i
      unfold maxLen at l3
      have HP9 := Lib.hid (l7 _ (updF (fun _ => 0) i 1) (setCell_mo1 w8 gr i (.int .u8 1)) ((l6.congr (H := fun _ => 0) fun k _ => by rw [if_pos rfl]).set hlt 1))
      have HX9 := Lib.hid (HX8.out.setCell (p := ⟨gr, i, none⟩) l4 (.int .u8 1))
      clear l6 l7 HP8 HX8 HR7 c8 f8
      go_wp2
      go_roundg (n - (i + 1))
      case measure => have := hk.out; omega
      case rel => exact ⟨i + 1, by omega, by go_num, Lib.hid (HP9.out.congr fun r _ k _ => by
        by_cases h : r = i
        · subst h
          rw [if_pos rfl]
          unfold updF un
          by_cases e : k = r
          · rw [if_pos e, if_pos e.symm]
          · rw [if_neg e, if_neg (Ne.symm e)]
        · rw [if_neg h, if_neg h]), Lib.hid rfl, HX9.out⟩
    · have e : n = i := by omega
      subst e
      have HT := Lib.hid (hP.out.readsT hn)
      clear hP
      go_wp2
      go_ret
      exact ⟨_, rfl, HT, hx⟩

end Go.Proofs.Ytmmfclkkncbgfaa
