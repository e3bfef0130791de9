/-
  LinearSays, by contracts.
-/
import Derived.Test.YtgmhbkfjabmkgaaLnDual
import Derived.Test.YtgmhbkfjabmkgaaGro
namespace Go.Proofs.Ytgmhbkfjabmkgaa
open Go.RowKit
open Ln

theorem wn_snoc (n : Nat) (l : List Nat) (x j : Nat) : wn n (l ++ [x]) j = wn n l j + if on n x = j then 1 else 0 := by
  rw [wn_count, wn_count, List.filter_append, List.length_append]
  by_cases h : on n x = j
  · rw [if_pos h, List.filter_cons_of_pos (by simpa using h)]
    simp
  · rw [if_neg h, List.filter_cons_of_neg (by simpa using h)]
    simp
theorem wn_take {n : Nat} {W : List Nat} {i x : Nat} (hi : i < W.length) (hx : W.getD i 0 = x) (j : Nat) : wn n (W.take (i + 1)) j = wn n (W.take i) j + if on n x = j then 1 else 0 := by
  rw [← wn_snoc, List.take_add_one, List.getElem?_eq_getElem hi, ← hx, List.getD_eq_getElem?_getD, List.getElem?_eq_getElem hi]
  rfl
theorem wn_le (n : Nat) (l : List Nat) (j : Nat) : wn n l j ≤ l.length := by
  rw [wn_count]
  have := List.length_filter_le (fun w => on n w == j) l
  omega

theorem int_equal {xs ys : List Int} {a b : Option Addr} {n m ca cb : Nat} {w : World} (hn : xs.length = n) (hm : ys.length = m) (hl : n ≤ maxLen) (hl2 : m ≤ maxLen) (hr : Reads w .i64 a xs) (hr2 : Reads w .i64 b ys) (r : Bool) (hrr : decide (xs = ys) = r) :
    Calls Try.prog 21 #[.slice a n ca, .slice b m cb] w (Says (.bool r) w) := by
  subst hn; subst hm
  exact ints_equal xs ys a b ca cb w hl hl2 hr hr2 r hrr

theorem info_i64 : (Try.prog.info? 3).map (fun i => (i.zero, i.size, i.bytes)) = some (some (.int .i64 0), 1, 8) := by kernel_rfl

set_option maxRecDepth 100000 in
set_option maxHeartbeats 4000000 in
theorem linearSays_of (HK : LCheckC) (HW : WordsC) (HB : BaseC) (HT : WeightsC) (HF : FarC) (n : Int) (a : Option Addr) (la ca : Nat) (z : List Int) (w : World) (hn : I64 n) (ha : IsInts .u16 2 w a la ca z) :
    Calls Try.prog 3 #[.int .i64 n, .slice a la ca] w (Says (.bool true) w) := by
  have HWE := Lib.hid fun w2 (k : Ex w w2) => wordErr_any (ha.ex k) hn
  have HCK := Lib.hid fun w2 (k : Ex w w2) => HK.any (ha.ex k) (wf_int hn)
  by_cases h0 : lnE n z = 0
  · rw [h0] at HWE HCK
    obtain ⟨m, l, rfl, hm, hl, m1, m12, hlL, la6, hac, hcb, hlt, hz, hr⟩ := ln_in ha h0
    have hS := cw_small m12 hlt
    have hW64 := cw_64 hlL la6 hlt
    have hcd := cw_cd hlt
    have hB12 := bs_le hcd (show m ≤ 16 by omega)
    obtain ⟨D, E, HFA, hcase⟩ : ∃ D E : Int, Hid (∀ w2, Ex w w2 → Calls Try.prog 13 #[.int .i64 (m : Int), .slice a la ca] w2 (Says (.tuple #[.int .i64 D, .int .i64 E]) w2)) ∧ (((cw m l).length = 1 ∧ D = 0 ∧ E = 4) ∨ ((cw m l).length ≠ 1 ∧ E = 0 ∧ ∃ d : Nat, D = (d : Int) ∧ IsFar m (cw m l) d)) := by
      by_cases h1 : (cw m l).length ≤ 1
      · have hp := List.length_pos_of_mem hcd.zero
        exact ⟨0, 4, Lib.hid fun w2 k => HF.one m1 m12 hlL la6 hac hcb hlt h1 (hr.ex k), .inl ⟨by omega, rfl, rfl⟩⟩
      · obtain ⟨d, hd⟩ := far_some hcd (by omega)
        exact ⟨d, 0, Lib.hid fun w2 k => HF.ok m1 m12 hlL la6 hac hcb hlt hd (hr.ex k), .inr ⟨by omega, rfl, d, rfl, hd⟩⟩
    obtain ⟨W, hWW⟩ : ∃ W, cw m l = W := ⟨_, rfl⟩
    obtain ⟨N, hN⟩ : ∃ N, (il W).length = N := ⟨_, rfl⟩
    obtain ⟨bx, hbx⟩ : ∃ xs, il (bs W) = xs := ⟨_, rfl⟩
    obtain ⟨B, hB⟩ : ∃ B, bx.length = B := ⟨_, rfl⟩
    have hB2 : B ≤ 12 := by rw [← hB, ← hbx, il_length, ← hWW]; omega
    rw [hWW] at hcase hS hW64 hcd
    have hN2 : W.length = N := by rw [← hN, il_length]
    have hp : 1 ≤ N := by rw [← hN2]; exact List.length_pos_of_mem hcd.zero
    rw [hN2] at hcase hW64
    have HWO := Lib.hid (HW.ok (xs := il W) (M := N) m1 m12 hlL la6 hac hcb hlt (by rw [hWW]) hN hr)
    have HBA := Lib.hid fun w2 (k : Ex w w2) => HB.ok (xs := bx) (M := B) m1 m12 hlL la6 hac hcb hlt (by rw [hWW]; exact hbx) hB (hr.ex k)
    have HWT := Lib.hid fun w2 (k : Ex w w2) => HT.ok (xs := wts m W) (M := m + 1) m1 m12 hlL la6 hac hcb hlt (by rw [hWW]) (wts_length m W) (hr.ex k)
    have HAW := Lib.hid fun w2 (k : Ex w w2) => allWords_any (n := m) (ca := ca) m12 hlL la6 hlt (by rw [hWW]) hN (hr.ex k)
    have HB1 := Lib.hid fun w2 a2 c2 (h : Reads w2 .u16 a2 (il W)) => baseOf_any (ca := c2) hN2 (by omega) hS hbx hB h
    have HSA := Lib.hid fun w2 a2 c2 a3 c3 (h : Reads w2 .u16 a2 bx) (k : Reads w2 .u16 a3 bx) => word_same (ca := c2) (cb := c3) hB hB (by unfold maxLen; omega) (by unfold maxLen; omega) h k true (by simp)
    have HEW := Lib.hid fun w2 a2 c2 a3 c3 (h : Reads w2 .u16 a2 (il W)) (k : Reads w2 .u16 a3 (il W)) => word_equal (ca := c2) (cb := c3) hN hN (by unfold maxLen; omega) (by unfold maxLen; omega) h k true (by simp)
    have HEI := Lib.hid fun w2 a2 c2 a3 c3 (h : Reads w2 .i64 a2 (wts m W)) (k : Reads w2 .i64 a3 (wts m W)) => int_equal (ca := c2) (cb := c3) (wts_length m W) (wts_length m W) (by unfold maxLen; omega) (by unfold maxLen; omega) h k true (by simp)
    have HON := Lib.hid fun x w2 (h : x < 65536) => ones_any x w2 h
    have HXS : Hid (∀ i, i < N → W.getD i 0 < 65536 ∧ nth (il W) i = ((W.getD i 0 : Nat) : Int) ∧ on 16 (W.getD i 0) = on m (W.getD i 0) ∧ ∀ j, wn m (W.take (i + 1)) j = wn m (W.take i) j + if on m (W.getD i 0) = j then 1 else 0) := Lib.hid fun i hi => by
      have e : W.getD i 0 = W[i]'(by omega) := by rw [List.getD_eq_getElem?_getD, List.getElem?_eq_getElem (by omega)]; rfl
      refine ⟨by rw [e]; exact hS _ (List.getElem_mem _), by rw [il_nth (by omega), e], ?_, wn_take (by omega) rfl⟩
      rw [e]
      exact on_up m 16 _ (hcd.lt _ (List.getElem_mem _)) (by omega)
    have HNL := Lib.hid hN
    have HNT : Hid (W.take N = W) := Lib.hid (by rw [← hN2]; exact List.take_length)
    have HCA := Lib.hid hcase
    clear ha hn HK HW HB HT HF h0 hm hl hlt hz hr hS hcd hB12 hWW hbx hB hN hN2 hlL hcase
    go_enter Try.func3, Try.ntmps3
    go_upto_region 11 with (first
      | (go_at_call 10; (with_reducible refine (HWO.out).mono ?_); rintro e w1 ⟨a1, c1, rfl, hc1, hR1, hw1⟩)
      | (go_at_call 11; (with_reducible refine (HBA.out _ hw1).mono ?_); rintro e w2 ⟨a2, c2, rfl, hc2, hR2, hw2⟩
         have hx2 := hw1.trans hw2)
      | (go_at_call 12; (with_reducible refine (HWT.out _ hx2).mono ?_); rintro e w3 ⟨a3, c3, rfl, hc3, hR3, hw3⟩
         have hx3 := hx2.trans hw3)
      | (go_at_call 13; (with_reducible refine (HFA.out _ hx3).mono ?_); rintro e w4 ⟨rfl, hw4⟩
         have hx4 := hx3.trans hw4)
      | (go_at_call 14; (with_reducible refine (HWE.out _ hx4).mono ?_); rintro e w5 ⟨rfl, hw5⟩
         have hx5 := hx4.trans hw5)
      | (go_at_call 15; (with_reducible refine (HCK.out _ hx5).mono ?_); rintro e w6 ⟨rfl, hw6⟩
         have hx6 := hx5.trans hw6)
      | (go_at_call 16; (with_reducible refine (HAW.out _ hx6).mono ?_); rintro e w7 ⟨a7, c7, rfl, hc7, hR7, hw7⟩
         have hx7 := hx6.trans hw7))
    have HR1 := Lib.hid (hR1.out.ex (((((hw2.trans hw3).trans hw4).trans hw5).trans hw6).trans hw7))
    have HR2 := Lib.hid (hR2.out.ex ((((hw3.trans hw4).trans hw5).trans hw6).trans hw7))
    have HR3 := Lib.hid (hR3.out.ex (((hw4.trans hw5).trans hw6).trans hw7))
    have HX7 := Lib.hid hx7
    have HR7 := Lib.hid hR7.out
    rcases hR7.out with h | ⟨gW, oW, rfl, hcW⟩
    · have := congrArg List.length h
      rw [HNL.out] at this
      have : N = 0 := this
      omega
    have HCW : Hid (∀ i, i < N → w7.cell? ⟨gW, oW + i, none⟩ = some (.int .u16 ((W.getD i 0 : Nat) : Int))) := Lib.hid fun i hi => by
      rw [hcW i (by rw [HNL.out]; exact hi), (HXS.out i hi).2.1]
    clear hR1 hR2 hR3 hR7 hw1 hw2 hw3 hw4 hw5 hw6 hw7 hx2 hx3 hx4 hx5 hx6 hx7 hcW
    go_upto_region 12 with (at_make; go_loud (refine wpList_make_ints rfl _ _ 26 rfl w7.heap.size 3 .i64 8 Try.underlying26 info_i64 .i64 .i64 (m + 1) (by show Value.int .i64 ((m : Int) + 1) = Value.int .i64 ((m + 1 : Nat) : Int); simp) (by show Value.int .i64 ((m : Int) + 1) = Value.int .i64 ((m + 1 : Nat) : Int); simp) (by omega) (by unfold maxLen; omega) (Nat.le_refl _) ?_); intro w8 hown8 hgrow8
                            rw [fl_zero] at hown8
                            have HX8 := Lib.hid (ex_grown (Ex.refl w7) hgrow8 fun k hk => by cases hk)
                            have HR8 := Lib.hid hown8
                            clear hown8 hgrow8)
    obtain ⟨g, hg⟩ : ∃ g, w7.heap.size = g := ⟨_, rfl⟩
    have HG := Lib.hid hg
    rw [hg] at HR8 ⊢
    clear hg
    go_wp2
    go_loopg [93] N (fun k v93 wr => ∃ i : Nat, i ≤ N ∧ v93 = .int .i64 (i : Int) ∧ Hid (Row 3 .i64 wr g (.slice (some ⟨g, 0, none⟩) (m + 1) (m + 1)) (fl (m + 1) (wn m (W.take i)))) ∧ Hid (k = N - i) ∧ Ex w7 wr)
    case atStart => exact ⟨0, by omega, rfl, HR8, Lib.hid rfl, HX8.out⟩
    case round =>
      obtain ⟨i, hi, rfl, hRow, hk, hx⟩ := hrel
      by_cases hlt : i < N
      · obtain ⟨s1, s2, s3, s4⟩ := HXS.out i hlt
        have q1 := hx.cell (HCW.out i hlt)
        have hb := wn_le m (W.take i)
        have hb0 := wn_nonneg m (W.take i)
        obtain ⟨x, hxx⟩ : ∃ x, W.getD i 0 = x := ⟨_, rfl⟩
        rw [hxx] at q1 s1 s3 s4
        obtain ⟨o, ho⟩ : ∃ o, on m x = o := ⟨_, rfl⟩
        have hom : o ≤ m := by rw [← ho]; exact on_le m x
        have HO := Lib.hid fun w2 => HON.out x w2 s1
        rw [s3, ho] at HO
        obtain ⟨_, _, hcf, hfr⟩ := hRow.out.flat
        have HCF := Lib.hid hcf
        have HFR := Lib.hid hfr
        have hvb : 0 ≤ wn m (W.take i) o ∧ wn m (W.take i) o ≤ 64 := by
          have := hb o
          rw [List.length_take] at this
          exact ⟨hb0 o, by omega⟩
        obtain ⟨v, hv⟩ : ∃ v, wn m (W.take i) o = v := ⟨_, rfl⟩
        rw [hv] at hvb
        have HV := Lib.hid hv
        have HS4 := Lib.hid s4
        have HOO := Lib.hid ho
        clear hcf hfr hxx s2 s3 s4 ho hb hb0 hv
        go_wp2_with (go_at_call 17; (with_reducible refine (HO.out _).mono ?_); rintro e w9 ⟨rfl, hw9⟩
                     have hx9 := hx.trans hw9
                     have q2 := hw9.cell (HCF.out o (by omega))
                     rw [HV.out] at q2
                     have hfz : w9.frozen? ⟨g, o, none⟩ = false := (Below.frozen (p := ⟨g, o, none⟩) hw9 (World.block_lt_of_cell? wr ⟨g, o, none⟩ (HCF.out o (by omega)))).trans (HFR.out o)
                     have HR9 := hRow.out.ex hw9
                     have HS0 := HR9.flset o (v + 1)
                     have HX10 := Lib.hid (ex_grown hx9 HS0.2 (by intro k hk; cases hk; rw [HG.out]; exact Nat.le_refl _))
                     have hS1 := HS0.1
                     rw [fl_congr (H := wn m (W.take (i + 1))) fun t _ => by
                       rw [HS4.out, HOO.out]
                       by_cases e : t = o
                       · subst e; rw [upd_at, if_pos rfl, HV.out]
                       · rw [upd_ne e, if_neg (fun e2 => e e2.symm)]; omega] at hS1
                     have HS1 := Lib.hid hS1
                     clear HR9 HS0 hS1)
        go_roundg (N - (i + 1))
        case measure => have := hk.out; omega
        case rel => exact ⟨i + 1, by omega, by go_num, HS1, Lib.hid rfl, HX10.out⟩
      · have e : i = N := by omega
        subst e
        have hrow := hRow.out
        rw [HNT.out] at hrow
        have HRD : Hid (Reads wr .i64 (some ⟨g, 0, none⟩) (wts m W)) := Lib.hid hrow.read
        have HRW1 := Lib.hid (HR1.out.ex hx)
        have HRW2 := Lib.hid (HR2.out.ex hx)
        have HRW3 := Lib.hid (HR3.out.ex hx)
        have HRW7 := Lib.hid (HR7.out.ex hx)
        have HFL : Hid (∀ j, j < m + 1 → wr.cell? ⟨g, j, none⟩ = some (.int .i64 (wn m W j))) := Lib.hid hrow.flat.2.2.1
        have HXR := Lib.hid (HX7.out.trans hx)
        clear hrow hRow hx HR1 HR2 HR3 HR7 HCW HX8 HR8 hk
        go_upto_region 19 with (first
          | (go_at_call 18; (with_reducible refine (HEW.out _ _ _ _ _ HRW1.out HRW7.out).mono ?_); rintro e w10 ⟨rfl, hw10⟩
             have HR10 := Lib.hid (HRW7.out.ex hw10))
          | (go_at_call 20; (with_reducible refine (HB1.out _ _ _ HR10.out).mono ?_); rintro e w11 ⟨a11, c11, rfl, hc11, hR11, hw11⟩
             have HR2b := Lib.hid (HRW2.out.ex (hw10.trans hw11)))
          | (go_at_call 19; (with_reducible refine (HSA.out _ _ _ _ _ HR2b.out hR11.out).mono ?_); rintro e w12 ⟨rfl, hw12⟩
             have hx12 := (hw10.trans hw11).trans hw12
             have HR3b := Lib.hid (HRW3.out.ex hx12)
             have HR8b := Lib.hid (HRD.out.ex hx12))
          | (go_at_call 21; (with_reducible refine (HEI.out _ _ _ _ _ HR3b.out HR8b.out).mono ?_); rintro e w13 ⟨rfl, hw13⟩
             have hx13 := hx12.trans hw13))
        have HXE := Lib.hid (HXR.out.trans hx13)
        rcases HCA.out with ⟨e1, rfl, rfl⟩ | ⟨e1, rfl, d, rfl, hf1, hf2, wd, hf3, hf4, hf5⟩
        · have g1 : ((i : Int) == 1) = true := by rw [e1]; rfl
          go_wp2
          go_ret
          exact ⟨rfl, HXE.out⟩
        · have g1 : ((i : Int) == 1) = false := beq_eq_false_iff_ne.mpr (by omega)
          have hdm : d ≤ m := by rw [← hf5]; exact on_le m wd
          have HFL2 : Hid (∀ j, j < m + 1 → w13.cell? ⟨g, j, none⟩ = some (.int .i64 (wn m W j))) := Lib.hid fun j hj => hx13.cell (HFL.out j hj)
          have HZ : Hid (∀ j, 1 ≤ j → j < d → wn m W j = 0) := Lib.hid fun j h1 h2 => by
            have hnn := wn_nonneg m W j
            rcases Int.lt_trichotomy (wn m W j) 0 with h | h | h
            · omega
            · exact h
            · obtain ⟨x, hx1, hx2⟩ := wn_pos.mp h
              have hx0 : x ≠ 0 := fun e => by rw [e, on_zero] at hx2; omega
              have := hf1 x hx1 hx0
              omega
          have HP : Hid (wn m W d ≠ 0) := Lib.hid (by have := wn_pos.mpr ⟨wd, hf3, hf5⟩; omega)
          clear hf1 hf3 hf4 hf5
          go_wp2
          go_loopg [18] (d - 1) (fun k v18 wr => ∃ j : Nat, 1 ≤ j ∧ j ≤ d ∧ v18 = .int .i64 (j : Int) ∧ Hid (k = d - j) ∧ w13 = wr)
          case atStart => exact ⟨1, by omega, hf2, rfl, Lib.hid rfl, rfl⟩
          case round =>
            obtain ⟨j, hj1, hjd, rfl, hk3, rfl⟩ := hrel
            have q1 := HFL2.out j (by omega)
            by_cases hjt : j < d
            · rw [HZ.out j hj1 hjt] at q1
              go_wp2
              go_roundg (d - (j + 1))
              case measure => have := hk3.out; omega
              case rel => exact ⟨j + 1, by omega, by omega, by go_num, Lib.hid rfl, rfl⟩
            · have e : j = d := by omega
              subst e
              have hx0 := HP.out
              obtain ⟨X, hX⟩ : ∃ X, wn m W j = X := ⟨_, rfl⟩
              rw [hX] at q1 hx0
              have g2 : (X == 0) = false := beq_eq_false_iff_ne.mpr hx0
              clear hX hx0
              go_wp2
              go_ret
              exact ⟨by simp, HXE.out⟩
  · have HW1 := Lib.hid (HW.no ha (wf_int hn) h0)
    have HB1 := Lib.hid fun w2 (k : Ex w w2) => HB.no (ha.ex k) (wf_int hn) h0
    have HT1 := Lib.hid fun w2 (k : Ex w w2) => HT.no (ha.ex k) (wf_int hn) h0
    have HF1 := Lib.hid fun w2 (k : Ex w w2) => HF.no (ha.ex k) (wf_int hn) h0
    obtain ⟨t, ht⟩ : ∃ t, lnE n z = t := ⟨_, rfl⟩
    rw [ht] at HW1 HB1 HT1 HF1 HWE HCK h0
    have q2 : (t != 0) = true := by simpa using h0
    have q3 : (t != t) = false := by simp
    have q4 : (t == t) = true := by simp
    clear ha hn HK HW HB HT HF ht h0
    go_enter Try.func3, Try.ntmps3
    go_wp2_with (first
      | (go_at_call 10; (with_reducible refine (HW1.out).mono ?_); rintro e w1 ⟨a1, c1, rfl, hw1⟩)
      | (go_at_call 11; (with_reducible refine (HB1.out _ hw1).mono ?_); rintro e w2 ⟨a2, c2, rfl, hw2⟩
         have hx2 := hw1.trans hw2)
      | (go_at_call 12; (with_reducible refine (HT1.out _ hx2).mono ?_); rintro e w3 ⟨a3, c3, rfl, hw3⟩
         have hx3 := hx2.trans hw3)
      | (go_at_call 13; (with_reducible refine (HF1.out _ hx3).mono ?_); rintro e w4 ⟨rfl, hw4⟩
         have hx4 := hx3.trans hw4)
      | (go_at_call 14; (with_reducible refine (HWE.out _ hx4).mono ?_); rintro e w5 ⟨rfl, hw5⟩
         have hx5 := hx4.trans hw5)
      | (go_at_call 15; (with_reducible refine (HCK.out _ hx5).mono ?_); rintro e w6 ⟨rfl, hw6⟩
         have hx6 := hx5.trans hw6))
    go_ret
    exact ⟨rfl, hx6⟩

end Go.Proofs.Ytgmhbkfjabmkgaa
