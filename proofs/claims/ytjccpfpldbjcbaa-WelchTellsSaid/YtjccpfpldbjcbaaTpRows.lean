/-
  TopRows, by contracts.
-/
import Derived.Test.YtjccpfpldbjcbaaTpRowM
import Derived.Test.YtjccpfpldbjcbaaTpBase
import Derived.Test.YtjccpfpldbjcbaaGrb
import Derived.Test.YtjccpfpldbjcbaaGwe
import Derived.Test.YtjccpfpldbjcbaaGrs
import Derived.Test.YtjccpfpldbjcbaaGmj
import Derived.Test.YtjccpfpldbjcbaaGgd
import Derived.Test.YtjccpfpldbjcbaaCloneB
import Derived.Test.YtjccpfpldbjcbaaGnu
import Derived.Deep.CutRange
import Derived.Deep.DeepCutAuto
namespace Go.Proofs.Ytjccpfpldbjcbaa
open Go.RowKit
open Gf

theorem RowB.moT {w w2 : World} {g C c : Nat} {F : Nat → E} (h : RowB w g C F) (hC : 1 ≤ C) (hm : Mo1 c w w2) (hne : g ≠ c) : RowB w2 g C F :=
  ⟨fun k hk => hm.cell (h.1 k hk) hne, fun k => (hm.frozen (a := ⟨g, k, none⟩) (World.block_lt_of_cell? w ⟨g, 0, none⟩ (h.1 0 (by omega))) hne).trans (h.2 k)⟩
theorem cnt_but : ∀ (n p : Nat), cnt (fun i => decide (i ≠ p)) n = if p < n then n - 1 else n
  | 0, p => by simp [cnt]
  | n + 1, p => by
    rw [cnt_succ, cnt_but n p]
    by_cases e : n = p
    · subst e
      rw [if_neg (by simp), if_neg (Nat.lt_irrefl n), if_pos (Nat.lt_succ_self n)]
      omega
    · rw [if_pos (decide_eq_true e)]
      by_cases h : p < n
      · rw [if_pos h, if_pos (by omega)]; omega
      · rw [if_neg h, if_neg (by omega)]

theorem cell_oneT (w : World) (x : Value) (T : TypeId) : (w.alloc (.cells #[x] T)).cell? ⟨w.heap.size, 0, none⟩ = some x := by simp
theorem info_cellT : (Try.prog.info? 47).map (fun i => (i.zero, i.size, i.bytes)) = some (some (.agg #[.bool false, .int .u8 0]), 2, 2) := by kernel_rfl

set_option maxRecDepth 100000 in
set_option maxHeartbeats 4000000 in
theorem topRows_of (HP : RePutC) (HW : PowersW) (HS : SolC) (HR : RankC) (HM : MendC) (HE : WeMendC) (a : Option Addr) (la ca : Nat) (z : List Int) (more lost at' by' : Int) (w : World)
    (ha : IsInts .u8 1 w a la ca z) (_ : I64 more) (_ : I64 lost) (_ : I64 at') (hby : 0 ≤ by' ∧ by' ≤ 255) :
    Calls Try.prog 6 #[.slice a la ca, .int .i64 more, .int .i64 lost, .int .i64 at', .int .u8 by'] w (Says (.bool true) w) := by
  have HY := Lib.hid fun w => works_yes HP w
  have hla : la ≤ 140737488351232 := by have := ha.2.1; have := ha.2.2.1; omega
  by_cases h0 : 1 ≤ la ∧ la ≤ 8
  · obtain ⟨l1, l8⟩ := h0
    have hca := ha.2.1
    have hca2 : ca ≤ 9223372036854775807 := by have := ha.2.2.1; omega
    obtain ⟨m, hm⟩ : ∃ m : Nat, more % 3 = (m : Int) := ⟨(more % 3).toNat, by have := Int.emod_nonneg more (b := 3) (by decide); omega⟩
    have hm3 : m ≤ 2 := by have := Int.emod_lt_of_pos more (b := 3) (by decide); omega
    have HW3 : Hid (∀ w, Calls Try.prog 14 #[.int .i64 more, .int .i64 3] w (fun e w' => e = .returned (.int .i64 (m : Int)) ∧ w = w')) := Lib.hid fun w => by
      have := within_any more 3 w (by decide) (by decide)
      rwa [hm] at this
    obtain ⟨n, hn⟩ : ∃ n, la + 2 + m = n := ⟨_, rfl⟩
    have hnI : (la : Int) + 2 + (m : Int) = (n : Int) := by omega
    have hn12 : n ≤ 12 := by omega
    have hln : la + 2 ≤ n := by omega
    obtain ⟨D0, hD0⟩ : ∃ F : Nat → E, (fun k => eo (nth z k)) = F := ⟨_, rfl⟩
    have hv := ha.vecF l1
    rw [hD0] at hv
    have HPA := Lib.hid fun w2 (k : Ex w w2) => HP.own (k := la) (n := n) l1 (by omega) (by omega) hca hca2 (hv.ex k)
    have g1 : ((la : Int) == 0) = false := beq_eq_false_iff_ne.mpr (by omega)
    have g2 : decide (8 < (la : Int)) = false := decide_eq_false (by omega)
    go_enter Try.func6, Try.ntmps6
    go_upto_region 4 with (first
      | (go_at_call 15; (with_reducible refine (HY.out _).mono ?_); rintro e w1 ⟨rfl, hw1⟩)
      | (go_at_call 14; (with_reducible refine (HW3.out _).mono ?_); rintro e w' ⟨rfl, rfl⟩))
    obtain ⟨R, hR0⟩ : ∃ R, cr la D0 = R := ⟨_, rfl⟩
    obtain ⟨XF, hXF⟩ := row_sum D0 (k := la) (by omega)
    obtain ⟨XS, _, HSO0⟩ := HS.ok (A := fun r k => ep (bn r) k) (F := R) (R := n) (C := la) (by omega) hn12 l1 (by omega) ⟨XF, fun i _ => by rw [← hR0]; exact hXF i⟩
    have HSO := Lib.hid fun a2 b2 c2 d2 w2 h k => HSO0 (a := a2) (b := b2) (ca := c2) (cb := d2) (w := w2) h k
    have HRK := Lib.hid fun a2 c2 w2 h => HR.ok (a := a2) (ca := c2) (w := w2) (by omega) hn12 l1 (by omega) h (rk_vander (n := n) (k := la) (by omega) (by omega))
    have HPO := Lib.hid fun a2 c2 w2 h1 h2 h3 => HW.wide (F := bn) (L := n) (n := la) (a := a2) (ca := c2) (w := w2) (by omega) hn12 h1 h2 l1 (by omega) (bn_apart (k := n) (by omega)) h3
    obtain ⟨AT, hAT⟩ : ∃ A : Nat → Nat → E, (fun r k => ep (bn r) k) = A := ⟨_, rfl⟩
    rw [hAT] at HSO HRK HPO
    obtain ⟨LO, hLO⟩ : ∃ LO : Nat, lost % (n : Int) = (LO : Int) := ⟨(lost % (n : Int)).toNat, by have := Int.emod_nonneg lost (b := (n : Int)) (by omega); omega⟩
    have hLOn : LO < n := by have := Int.emod_lt_of_pos lost (b := (n : Int)) (by omega); omega
    have HWL : Hid (∀ w, Calls Try.prog 14 #[.int .i64 lost, .int .i64 (n : Int)] w (fun e w' => e = .returned (.int .i64 (LO : Int)) ∧ w = w')) := Lib.hid fun w => by
      have := within_any lost n w (by omega) (by omega)
      rwa [hLO] at this
    obtain ⟨P, hP⟩ : ∃ P : Nat, at' % (n : Int) = (P : Int) := ⟨(at' % (n : Int)).toNat, by have := Int.emod_nonneg at' (b := (n : Int)) (by omega); omega⟩
    have hPn : P < n := by have := Int.emod_lt_of_pos at' (b := (n : Int)) (by omega); omega
    have HWA : Hid (∀ w, Calls Try.prog 14 #[.int .i64 at', .int .i64 (n : Int)] w (fun e w' => e = .returned (.int .i64 (P : Int)) ∧ w = w')) := Lib.hid fun w => by
      have := within_any at' n w (by omega) (by omega)
      rwa [hP] at this
    obtain ⟨T, hT⟩ : ∃ T : E, eo by' = T := ⟨_, rfl⟩
    have hTv : by' = ((T.v : Nat) : Int) := by rw [← hT]; exact (eo_v hby.1 hby.2).symm
    subst hTv
    have HCL := Lib.hid fun g c w (h : RowB w g n R) => clone_bytes R n g 0 c w (by omega) (by omega) (fun k hk => by rw [Nat.zero_add]; exact h.1 k hk)
    have HEQ := Lib.hid fun a2 c2 a3 c3 w2 (h1 : ReadsF w2 a2 n R) (h2 : ReadsF w2 a3 n R) => equal_rows (ca := c2) (cb := c3) (by omega) h1 h2
    have HME := Lib.hid fun a2 c2 w2 H B h1 h2 h3 h4 h5 h6 => HM.ok (n := n) (k := la) (F := D0) (a := a2) (ca := c2) (w := w2) (H := H) (B := B) h1 h2 h3 h4 (by omega) l1 (by omega) h5 h6
    obtain ⟨f, hnf, hfr⟩ := one_near D0 (k := la) (n := n) (p := P) (R P + T) (by omega) hln hPn
    have hcnt := one_count D0 (k := la) (n := n) (p := P) (R P + T) hPn
    have hpr : pr f = cr la D0 := funext fun t => hfr t
    have HWM := Lib.hid fun a2 c2 w2 h1 h2 h3 => HE.some (a := a2) (ca := c2) (w := w2) l1 (by omega) hn12 h1 h2 h3 hnf
    rw [hpr, hcnt] at HWM
    rw [hR0] at HPA HME HWM
    have hXY := xor_u8_nat (R P).v T.v (R P).lt T.lt
    have HXY : bits .xor .u8 (((R P).v : Nat) : Int) ((T.v : Nat) : Int) = (((R P + T).v : Nat) : Int) := hXY
    have HT0 : Hid ((R P).v = (R P + T).v ↔ T.v = 0) := Lib.hid ⟨fun h => by
      have h1 : R P = R P + T := E.ext h
      have h2 := congrArg (fun x => R P + x) h1
      simp only [← E.add_assoc, E.add_self, E.zero_add] at h2
      rw [← h2]; rfl, fun h => by
      have h1 : T = 0 := E.ext h
      rw [h1, E.add_zero]⟩
    obtain ⟨S, hS⟩ : ∃ S, R P + T = S := ⟨_, rfl⟩
    rw [hS] at HXY HWM HT0
    have Sl := S.lt
    have Tl := T.lt
    have Rl := (R P).lt
    clear hXY hS hT hby hP hLO hAT HSO0 hXF hpr hcnt hnf hfr HP HW HS HR HM HE ha hv hm hn hnI
    go_wp2_with (go_at_call 12; (with_reducible refine (HPA.out _ hw1).mono ?_); rintro e w2 ⟨g2, c2, rfl, hc2, hR2, _, hw2⟩)
    have HX2 := Lib.hid (hw1.trans hw2)
    have hg2 : g2 < w2.heap.size := World.block_lt_of_cell? w2 ⟨g2, 0, none⟩ (hR2.out.2.1 0 (by omega))
    have hgw : w.heap.size ≤ g2 := by have := hR2.out.1; have := hw1.size; omega
    have HRR : Hid (RowB w2 g2 n R) := Lib.hid hR2.out.2
    clear hw1 hw2 hR2 HPA HW3 HY
    go_loopg [14, 64] n (fun m v14 v64 wr => ∃ (i : Nat) (v : Value), i ≤ n ∧ v14 = v ∧ v64 = .int .i64 (i : Int) ∧ Hid (Row 5 .u8 wr w2.heap.size v (bl bn i)) ∧ Hid (m = n - i) ∧ Ex w2 wr)
    case atStart => exact ⟨0, _, by omega, rfl, rfl, Lib.hid (Row.nil _ _ _ _), Lib.hid rfl, Ex.refl _⟩
    case round =>
      obtain ⟨i, v, hi, rfl, rfl, hRow, hm, hx⟩ := hrel
      by_cases hlt : i < n
      · have HBL : Hid (bl bn i ++ [(i : Int)] = bl bn (i + 1)) := Lib.hid (by
          have := bl_snoc bn i
          rw [bn_v (by omega)] at this
          exact this)
        have c1' := cell_oneT wr (.int .u8 (i : Int)) 5
        have HXw := Lib.hid (hx.alloc (.cells #[.int .u8 (i : Int)] 5))
        have HRA := Lib.hid (hRow.out.ex ((Ex.refl wr).alloc (.cells #[.int .u8 (i : Int)] 5)))
        go_wp2_with (at_builtin; refine wpList_append_int rfl _ _ 22 rfl w2.heap.size 5 .u8 1 Try.underlying22 info_u8 _ (bl bn i) rfl HRA.out (i : Int) wr.heap.size rfl c1' (by rw [bl_length]; unfold maxLen; omega) (by rw [bl_length]; omega) HXw.out.size ?_
                     intro v1 w3 hown3 hgrow3 hat3
                     have HX3 := Lib.hid (HRA.out.grown HXw.out hgrow3)
                     rw [HBL.out] at hown3
                     have HR3 := Lib.hid hown3
                     clear hown3 hgrow3 hat3 c1')
        go_roundg (n - (i + 1))
        case measure => have := hm.out; omega
        case rel => exact ⟨i + 1, _, by omega, rfl, by go_num, HR3, Lib.hid rfl, HX3.out⟩
      · have e : i = n := by omega
        subst e
        obtain ⟨gx, cx, rfl, _, _, h3, h4, h5⟩ := hRow.out.rowB (by omega)
        unfold maxLen at h4
        have HXR : Hid (ReadsF wr (some ⟨gx, 0, none⟩) i bn) := Lib.hid ⟨gx, 0, rfl, fun k hk => by rw [Nat.zero_add]; exact h5.1 k hk⟩
        have HXq := Lib.hid hx
        have HRF : Hid (∀ w3, Ex wr w3 → ReadsF w3 (some ⟨g2, 0, none⟩) i R) := Lib.hid fun w3 h => ⟨g2, 0, rfl, fun k hk => by rw [Nat.zero_add]; exact (hx.trans h).cell (HRR.out.1 k hk)⟩
        clear hRow h5 hx hm
        rename World => wq
        go_upto_region 19 with (first
          | (go_at_call 16; (with_reducible refine (HPO.out _ _ _ h3 h4 HXR.out).mono ?_); rintro e w3 ⟨a3, c3, rfl, hc3, hT3, hw3⟩)
          | (go_at_call 17; (with_reducible refine (HSO.out _ _ _ _ _ hT3.out (HRF.out _ hw3)).mono ?_); rintro e w4 ⟨a4, c4, rfl, hc4, hr4, hw4⟩)
          | (go_at_call 18; (with_reducible refine (HRK.out _ _ _ (hT3.out.ex hw4)).mono ?_); rintro e w5 ⟨rfl, hw5⟩)
          | (go_at_call 19; refine (tgood_zeros 3 (by omega) _ rfl _ _).mono ?_; rintro e w6 ⟨rfl, hw6⟩)
          | (go_at_call 14; (with_reducible refine (HWL.out _).mono ?_); rintro e w' ⟨rfl, rfl⟩)
          | (go_at_call 14; (with_reducible refine (HWA.out _).mono ?_); rintro e w' ⟨rfl, rfl⟩))
        have HX6 := Lib.hid ((((HXq.out.trans hw3).trans hw4).trans hw5).trans hw6)
        have HR6 : Hid (RowB w6 g2 i R) := Lib.hid (HRR.out.ex (by omega) HX6.out)
        have hg26 : g2 < w6.heap.size := by have := HX6.out.size; omega
        clear hw3 hw4 hw5 hw6 hT3 hr4 HXR HRF HXq HRR HPO HSO HRK HWL HWA hc3 hc4
        go_upto_region 21 with (first
          | (at_make; refine wpList_make_cels rfl _ _ 45 rfl 47 2 Try.underlying45 info_cellT _ _ i rfl rfl (by omega) (by unfold maxLen; omega) ?_
             intro w7 hown7 hgrow7
             have HX7 := Lib.hid (ex_grown (Ex.refl w6) hgrow7 fun k hk => by cases hk)
             have HC7 := Lib.hid hown7
             clear hown7 hgrow7)
          | (go_at_call 13; (with_reducible refine (HCL.out _ _ _ (HR6.out.ex (by omega) HX7.out)).mono ?_); rintro e w8 ⟨v8, rfl, hr8, hw8⟩
             obtain ⟨gb, cb, rfl, hgb1, hgb2, hcb1, hcb2, hrb⟩ := hr8.out.rowB (by omega)
             unfold maxLen at hcb2))
        have HB8 := Lib.hid hrb
        have HC8 := Lib.hid (HC7.out.ex (by omega) hw8)
        have HX8 := Lib.hid (HX7.out.trans hw8)
        have hs7 : w6.heap.size < w7.heap.size := World.block_lt_of_cell? w7 ⟨w6.heap.size, 0 * 2, none⟩ (HC7.out.1 0 (by omega)).1
        obtain ⟨gc, hgc⟩ : ∃ gc, w6.heap.size = gc := ⟨_, rfl⟩
        rw [hgc] at HC8 hs7 hg26 ⊢
        have hwc : w.heap.size ≤ gc := by have := HX2.out.size; have := HX6.out.size; omega
        have hne1 : gb ≠ gc := by omega
        have hne2 : g2 ≠ gc := by omega
        have pb := HB8.out.1 P hPn
        have pf := HB8.out.2 P
        have HB9 : Hid (RowB (w8.setCell ⟨gb, P, none⟩ (.int .u8 ((S.v : Nat) : Int))) gb i (fun t => if t = P then S else R t)) := Lib.hid (HB8.out.set hPn S)
        have HX9 : Hid (Ex w6 (w8.setCell ⟨gb, P, none⟩ (.int .u8 ((S.v : Nat) : Int)))) := Lib.hid (HX8.out.setCell (p := ⟨gb, P, none⟩) (by show w6.heap.size ≤ gb; omega) _)
        have HC9 : Hid (CelB (w8.setCell ⟨gb, P, none⟩ (.int .u8 ((S.v : Nat) : Int))) gc i (fun j => decide (j ≠ LO ∧ j < 0)) (fun j => if j ≠ LO ∧ j < 0 then (R j).v else 0)) := Lib.hid ⟨fun j hj => by
            have := HC8.out.1 j hj
            rw [World.cell?_setCell_other _ _ _ _ (addr_ne' (.inl hne1)), World.cell?_setCell_other _ _ _ _ (addr_ne' (.inl hne1))]
            dsimp only
            rw [decide_eq_false (by omega), if_neg (by omega)]
            exact this, fun j => by rw [World.frozen?_setCell]; exact HC8.out.2 j⟩
        clear hr8 hrb hw8 HC7 HX7 HCL
        go_upto_region 22 with fail
        generalize w8.setCell ⟨gb, P, none⟩ (.int .u8 ((S.v : Nat) : Int)) = w9 at *
        clear HB8 HC8 HX8 pb pf
        have HR9 : Hid (RowB w9 g2 i R) := Lib.hid (HR6.out.ex (by omega) HX9.out)
        have HXA := Lib.hid ((HX2.out.trans HX6.out).trans HX9.out)
        clear HR6 HX6 HX9 HX2
        go_wp2
        go_loopg [129] i (fun m v129 wr => ∃ j : Nat, j ≤ i ∧ v129 = .int .i64 (j : Int) ∧ Hid (CelB wr gc i (fun t => decide (t ≠ LO ∧ t < j)) (fun t => if t ≠ LO ∧ t < j then (R t).v else 0)) ∧ Hid (m = i - j) ∧ Hid (Mo1 gc w9 wr))
        case atStart => exact ⟨0, by omega, rfl, HC9, Lib.hid rfl, Lib.hid (Mo1.refl _ _)⟩
        case round =>
          obtain ⟨j, hj, rfl, hC, hm, hmo⟩ := hrel
          by_cases hji : j < i
          · by_cases hjl : j = LO
            · subst hjl
              have HCN : Hid (CelB wr gc i (fun t => decide (t ≠ j ∧ t < j + 1)) (fun t => if t ≠ j ∧ t < j + 1 then (R t).v else 0)) := Lib.hid (hC.out.congr (fun t _ => decide_eq_decide.mpr (by omega)) (fun t _ => by
                by_cases e : t ≠ j ∧ t < j
                · rw [if_pos e, if_pos (by omega)]
                · rw [if_neg e, if_neg (by omega)]))
              clear hC
              go_wp2
              go_roundg (i - (j + 1))
              case measure => have := hm.out; omega
              case rel => exact ⟨j + 1, by omega, by go_num, HCN, Lib.hid rfl, hmo⟩
            · have g3 : ((j : Int) != (LO : Int)) = true := bne_iff_ne.mpr (by omega)
              have pr1 := (HR9.out.moT (by omega) hmo.out hne2).1 j hji
              have q0 := (hC.out.1 j hji).1
              have q1 := (hC.out.1 j hji).2
              have f0 := hC.out.2 (j * 2)
              have f1 := hC.out.2 (j * 2 + 1)
              have rl := (R j).lt
              have HCN0 := hC.out.set hji true (R j).v
              have HCN : Hid (CelB ((wr.setCell ⟨gc, j * 2, none⟩ (.bool true)).setCell ⟨gc, j * 2 + 1, none⟩ (.int .u8 (((R j).v : Nat) : Int))) gc i (fun t => decide (t ≠ LO ∧ t < j + 1)) (fun t => if t ≠ LO ∧ t < j + 1 then (R t).v else 0)) := Lib.hid (HCN0.congr (fun t _ => by
                  by_cases e : t = j
                  · subst e; rw [if_pos rfl, decide_eq_true (by omega)]
                  · rw [if_neg e]; exact decide_eq_decide.mpr (by omega)) (fun t _ => by
                  by_cases e : t = j
                  · subst e; rw [if_pos rfl, if_pos (by omega)]
                  · rw [if_neg e]
                    by_cases e2 : t ≠ LO ∧ t < j
                    · rw [if_pos e2, if_pos (by omega)]
                    · rw [if_neg e2, if_neg (by omega)]))
              have HMN : Hid (Mo1 gc w9 ((wr.setCell ⟨gc, j * 2, none⟩ (.bool true)).setCell ⟨gc, j * 2 + 1, none⟩ (.int .u8 (((R j).v : Nat) : Int)))) := Lib.hid ((hmo.out.set (j * 2) _).set (j * 2 + 1) _)
              dsimp only at q0 q1
              clear HCN0
              go_wp2
              go_roundg (i - (j + 1))
              case measure => have := hm.out; omega
              case rel => exact ⟨j + 1, by omega, by go_num, HCN, Lib.hid rfl, HMN⟩
          · have e : j = i := by omega
            subst e
            have HCF : Hid (ReadsC wr (some ⟨gc, 0, none⟩) j (fun t => decide (t ≠ LO)) (fun t => if t ≠ LO then (R t).v else 0)) := Lib.hid (hC.out.congr (fun t ht => decide_eq_decide.mpr (by omega)) (fun t ht => by
              by_cases e : t ≠ LO
              · rw [if_pos e, if_pos ⟨e, ht⟩]
              · rw [if_neg e, if_neg (fun h => e h.1)])).reads
            have HBW : Hid (RowB wr gb j (fun t => if t = P then S else R t)) := Lib.hid (HB9.out.moT (by omega) hmo.out hne1)
            have HRW : Hid (RowB wr g2 j R) := Lib.hid (HR9.out.moT (by omega) hmo.out hne2)
            have HXW := Lib.hid (Mo1.ex HXA.out hmo.out hwc)
            have hcb := cnt_but j LO
            rw [if_pos hLOn] at hcb
            have HMEC := Lib.hid (HME.out (some ⟨gc, 0, none⟩) j wr (fun t => decide (t ≠ LO)) (fun t => if t ≠ LO then (R t).v else 0) (Nat.le_refl _) (by omega) HCF.out (fun t => by
              by_cases e : t ≠ LO
              · rw [if_pos e]; exact (R t).lt
              · rw [if_neg e]; decide) (by rw [hcb]; omega) (fun t _ h => by
              have e : t ≠ LO := of_decide_eq_true h
              rw [if_pos e]))
            have HBR : Hid (∀ w3, Ex wr w3 → ReadsF w3 (some ⟨gb, 0, none⟩) j (fun t => if t = P then S else R t)) := Lib.hid fun w3 h => ⟨gb, 0, rfl, fun k hk => by rw [Nat.zero_add]; exact h.cell (HBW.out.1 k hk)⟩
            have HRR2 : Hid (∀ w3, Ex wr w3 → ReadsF w3 (some ⟨g2, 0, none⟩) j R) := Lib.hid fun w3 h => ⟨g2, 0, rfl, fun k hk => by rw [Nat.zero_add]; exact h.cell (HRW.out.1 k hk)⟩
            have hc2' := hc2.out
            clear hC hmo hm HCF HBW HRW HXA HME HB9 HC9 HR9 hcb
            by_cases hT9 : T.v = 0
            · have q9 : (((T.v : Nat) : Int) == 0) = true := by rw [hT9]; rfl
              rw [if_pos (HT0.out.mpr hT9)] at HWM
              clear HT0
              go_wp2_with (first
                | (go_at_call 20; (with_reducible refine (HMEC.out).mono ?_); rintro e w10 ⟨aa, ca3, rfl, hca3, hra, hw10⟩)
                | (go_at_call 7; (with_reducible refine (HWM.out _ _ _ hcb1 hcb2 (HBR.out _ hw10)).mono ?_); rintro e w11 ⟨ab, cb3, rfl, hcb3, hrb3, hw11⟩)
                | (go_at_call 19; refine (tgood_zeros 2 (by omega) _ rfl _ _).mono ?_; rintro e w12 ⟨rfl, hw12⟩
                   have hx12 := (hw10.trans hw11).trans hw12)
                | (go_at_call 10; (with_reducible refine (HEQ.out _ _ _ _ _ (hra.out.ex (hw11.trans hw12)) (HRR2.out _ hx12)).mono ?_); rintro e w13 ⟨rfl, hw13⟩)
                | (go_at_call 10; (with_reducible refine (HEQ.out _ _ _ _ _ (hrb3.out.ex (hw12.trans hw13)) (HRR2.out _ (hx12.trans hw13))).mono ?_); rintro e w14 ⟨rfl, hw14⟩))
              go_ret
              exact ⟨by first | rfl | simp, ((HXW.out.trans hx12).trans hw13).trans hw14⟩
            · have q9 : (((T.v : Nat) : Int) == 0) = false := beq_eq_false_iff_ne.mpr (by omega)
              rw [if_neg (fun h => hT9 (HT0.out.mp h))] at HWM
              clear HT0
              go_wp2_with (first
                | (go_at_call 20; (with_reducible refine (HMEC.out).mono ?_); rintro e w10 ⟨aa, ca3, rfl, hca3, hra, hw10⟩)
                | (go_at_call 7; (with_reducible refine (HWM.out _ _ _ hcb1 hcb2 (HBR.out _ hw10)).mono ?_); rintro e w11 ⟨ab, cb3, rfl, hcb3, hrb3, hw11⟩)
                | (go_at_call 19; refine (tgood_zeros 2 (by omega) _ rfl _ _).mono ?_; rintro e w12 ⟨rfl, hw12⟩
                   have hx12 := (hw10.trans hw11).trans hw12)
                | (go_at_call 10; (with_reducible refine (HEQ.out _ _ _ _ _ (hra.out.ex (hw11.trans hw12)) (HRR2.out _ hx12)).mono ?_); rintro e w13 ⟨rfl, hw13⟩)
                | (go_at_call 10; (with_reducible refine (HEQ.out _ _ _ _ _ (hrb3.out.ex (hw12.trans hw13)) (HRR2.out _ (hx12.trans hw13))).mono ?_); rintro e w14 ⟨rfl, hw14⟩))
              go_ret
              exact ⟨by first | rfl | simp, ((HXW.out.trans hx12).trans hw13).trans hw14⟩
  · by_cases h8 : 8 < la
    · clear ha HP HW HS HR HM HE h0
      go_enter Try.func6, Try.ntmps6
      go_wp2_with (first
        | (go_at_call 15; (with_reducible refine (HY.out _).mono ?_); rintro e w1 ⟨rfl, hw1⟩)
        | (go_at_call 15; (with_reducible refine (HY.out _).mono ?_); rintro e w2 ⟨rfl, hw2⟩))
      go_ret
      exact ⟨rfl, (by repeat (first | assumption | exact Ex.refl _ | refine Ex.trans ?_ (by assumption)))⟩
    · obtain rfl : la = 0 := by omega
      clear ha HP HW HS HR HM HE h0 h8
      go_enter Try.func6, Try.ntmps6
      go_wp2_with (first
        | (go_at_call 15; (with_reducible refine (HY.out _).mono ?_); rintro e w1 ⟨rfl, hw1⟩)
        | (go_at_call 15; (with_reducible refine (HY.out _).mono ?_); rintro e w2 ⟨rfl, hw2⟩))
      go_ret
      exact ⟨rfl, (by repeat (first | assumption | exact Ex.refl _ | refine Ex.trans ?_ (by assumption)))⟩

end Go.Proofs.Ytjccpfpldbjcbaa
