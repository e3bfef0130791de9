/-
  wholekeep.words and fars; LinearClosed, by contracts.
-/
import Derived.Test.YtgmhbkfjabmkgaaLnDual
import Derived.Test.YtgmhbkfjabmkgaaGro
import Derived.Test.YtgmhbkfjabmkgaaGnu
namespace Go.Proofs.Ytgmhbkfjabmkgaa
open Go.RowKit
open Ln

theorem cw_35 : cw 3 [3, 5] = [0, 3, 5, 6] := by decide +kernel
theorem bs_35 : bs (cw 3 [3, 5]) = [5, 3] := by rw [cw_35]; decide +kernel
theorem lt_35 : ∀ x ∈ [3, 5], x < 2 ^ 3 := by decide
theorem far_35 : IsFar 3 (cw 3 [3, 5]) 2 := by
  rw [cw_35]
  exact ⟨fun w hw => by
    have : ∀ w ∈ [0, 3, 5, 6], w ≠ 0 → 2 ≤ on 3 w := by decide +kernel
    exact this w hw, by decide, 3, by decide, by decide, by decide +kernel⟩

/-- {3, 5} -/
theorem lit_35 (w : World) (T : TypeId) : Reads (w.alloc (.cells #[.int .u16 3, .int .u16 5] T)) .u16 (some ⟨w.heap.size, 0, none⟩) (il [3, 5]) :=
  (row_new T .u16 w w.heap.size (Nat.le_refl _) [3, 5] _ rfl (by decide)).read

set_option maxRecDepth 100000 in
set_option maxHeartbeats 1000000 in
theorem words_yes (HW : WordsC) (HB : BaseC) (w : World) : Calls Try.prog 24 #[] w (Says (.bool true) w) := by
  have H1 : Hid (∀ w, Calls Try.prog 10 #[.int .i64 3, .slice (some ⟨w.heap.size, 0, none⟩) 2 2] (w.alloc (.cells #[.int .u16 3, .int .u16 5] 33)) (Vec3 .u16 4 [0, 3, 5, 6] w)) := Lib.hid fun w => by
    have := HW.ok (n := 3) (L := 2) (M := 4) (l := [3, 5]) (xs := [0, 3, 5, 6]) (ca := 2) (by omega) (by omega) rfl (by omega) (by omega) (by omega) lt_35 (by rw [cw_35]; rfl) rfl (lit_35 w 33)
    exact this.mono fun e w2 ⟨a2, c2, h1, h2, h3, h4⟩ => ⟨a2, c2, h1, h2, h3, ((Ex.refl w).alloc _).trans h4⟩
  have H2 : Hid (∀ w, Calls Try.prog 11 #[.int .i64 3, .slice (some ⟨w.heap.size, 0, none⟩) 2 2] (w.alloc (.cells #[.int .u16 3, .int .u16 5] 33)) (Vec3 .u16 2 [5, 3] w)) := Lib.hid fun w => by
    have := HB.ok (n := 3) (L := 2) (M := 2) (l := [3, 5]) (xs := [5, 3]) (ca := 2) (by omega) (by omega) rfl (by omega) (by omega) (by omega) lt_35 (by rw [bs_35]; rfl) rfl (lit_35 w 33)
    exact this.mono fun e w2 ⟨a2, c2, h1, h2, h3, h4⟩ => ⟨a2, c2, h1, h2, h3, ((Ex.refl w).alloc _).trans h4⟩
  have H3 : Hid (∀ w a2 c2, Reads w .u16 a2 [0, 3, 5, 6] → Calls Try.prog 18 #[.slice a2 4 c2, .slice (some ⟨w.heap.size, 0, none⟩) 4 4] (w.alloc (.cells #[.int .u16 0, .int .u16 3, .int .u16 5, .int .u16 6] 33)) (Says (.bool true) w)) := Lib.hid fun w a2 c2 h =>
    (word_equal (xs := [0, 3, 5, 6]) (ys := [0, 3, 5, 6]) rfl rfl (by decide) (by decide) (h.ex ((Ex.refl w).alloc _)) (row_new 33 .u16 w w.heap.size (Nat.le_refl _) [0, 3, 5, 6] _ rfl (by decide)).read true (by decide)).mono fun e w2 ⟨h1, h2⟩ => ⟨h1, ((Ex.refl w).alloc _).trans h2⟩
  have H4 : Hid (∀ w a2 c2, Reads w .u16 a2 [5, 3] → Calls Try.prog 18 #[.slice a2 2 c2, .slice (some ⟨w.heap.size, 0, none⟩) 2 2] (w.alloc (.cells #[.int .u16 5, .int .u16 3] 33)) (Says (.bool true) w)) := Lib.hid fun w a2 c2 h =>
    (word_equal (xs := [5, 3]) (ys := [5, 3]) rfl rfl (by decide) (by decide) (h.ex ((Ex.refl w).alloc _)) (row_new 33 .u16 w w.heap.size (Nat.le_refl _) [5, 3] _ rfl (by decide)).read true (by decide)).mono fun e w2 ⟨h1, h2⟩ => ⟨h1, ((Ex.refl w).alloc _).trans h2⟩
  go_enter Try.func24, Try.ntmps24
  go_wp2_with (first
    | (go_at_call 10; (with_reducible refine (H1.out _).mono ?_); rintro e w1 ⟨a1, c1, rfl, hc1, hR1, hw1⟩)
    | (go_at_call 11; (with_reducible refine (H2.out _).mono ?_); rintro e w2 ⟨a2, c2, rfl, hc2, hR2, hw2⟩
       have HR1 := Lib.hid (hR1.out.ex hw2))
    | (go_at_call 18; (with_reducible refine (H3.out _ _ _ HR1.out).mono ?_); rintro e w3 ⟨rfl, hw3⟩
       have HR2 := Lib.hid (hR2.out.ex hw3)
       clear HR1)
    | (go_at_call 18; (with_reducible refine (H4.out _ _ _ HR2.out).mono ?_); rintro e w4 ⟨rfl, hw4⟩))
  go_ret
  exact ⟨rfl, ((hw1.trans hw2).trans hw3).trans hw4⟩

set_option maxRecDepth 100000 in
set_option maxHeartbeats 1000000 in
theorem fars_yes (HF : FarC) (HW : WordsC) (HB : BaseC) (w : World) : Calls Try.prog 28 #[] w (Says (.bool true) w) := by
  have H1 : Hid (∀ w, Calls Try.prog 13 #[.int .i64 3, .slice (some ⟨w.heap.size, 0, none⟩) 2 2] (w.alloc (.cells #[.int .u16 3, .int .u16 5] 33)) (Says (.tuple #[.int .i64 2, .int .i64 0]) w)) := Lib.hid fun w => by
    have := HF.ok (n := 3) (L := 2) (d := 2) (l := [3, 5]) (ca := 2) (by omega) (by omega) rfl (by omega) (by omega) (by omega) lt_35 far_35 (lit_35 w 33)
    exact this.mono fun e w2 ⟨h1, h4⟩ => ⟨h1, ((Ex.refl w).alloc _).trans h4⟩
  have H2 := Lib.hid fun w => words_yes HW HB w
  go_enter Try.func28, Try.ntmps28
  go_wp2_with (first
    | (go_at_call 13; (with_reducible refine (H1.out _).mono ?_); rintro e w1 ⟨rfl, hw1⟩)
    | (go_at_call 24; (with_reducible refine (H2.out _).mono ?_); rintro e w2 ⟨rfl, hw2⟩))
  go_ret
  exact ⟨rfl, hw1.trans hw2⟩

theorem shl_nat {k N : Nat} (h : 2 ^ k = N) (hN : N ≤ 4611686018427387904) : wrap64 ((2 : Int) ^ k) = (N : Int) := by
  rw [show ((2 : Int) ^ k) = ((2 ^ k : Nat) : Int) by rw [Int.natCast_pow]; rfl, h]
  exact IntWalk.wrap64_in _ (by omega)

set_option maxRecDepth 100000 in
set_option maxHeartbeats 2000000 in
theorem linearClosed_of (HW : WordsC) (HB : BaseC) (n : Int) (a : Option Addr) (la ca : Nat) (z : List Int) (i k : Int) (w : World) (hn : I64 n) (ha : IsInts .u16 2 w a la ca z) :
    Calls Try.prog 5 #[.int .i64 n, .slice a la ca, .int .i64 i, .int .i64 k] w (Says (.bool true) w) := by
  have HY := Lib.hid fun w => words_yes HW HB w
  by_cases h0 : lnE n z = 0
  · obtain ⟨m, l, rfl, hm, hl, m1, m12, hlL, la6, hac, hcb, hlt, hz, hr⟩ := ln_in ha h0
    have hS := cw_small m12 hlt
    have hW64 := cw_64 hlL la6 hlt
    have hcd := cw_cd hlt
    have hwo := bs_words hcd (show m ≤ 16 by omega)
    have hbl := bs_lt hcd (show m ≤ 16 by omega)
    have hcb2 := cw_bs hcd (show m ≤ 16 by omega) (cw_lt m l)
    have hhd := cw_head hlt (List.length_pos_of_mem hcd.zero)
    have hgd0 : (cw m l).getD 0 0 = 0 := by rw [List.getD_eq_getElem?_getD, List.getElem?_eq_getElem (List.length_pos_of_mem hcd.zero), hhd]; rfl
    obtain ⟨W, hWW⟩ : ∃ W, cw m l = W := ⟨_, rfl⟩
    obtain ⟨N, hN⟩ : ∃ N, (il W).length = N := ⟨_, rfl⟩
    obtain ⟨bx, hbx⟩ : ∃ xs, il (bs W) = xs := ⟨_, rfl⟩
    obtain ⟨B, hB⟩ : ∃ B, bx.length = B := ⟨_, rfl⟩
    rw [hWW] at hS hW64 hcd hwo hbl hcb2 hgd0
    clear hhd
    have hN2 : W.length = N := by rw [← hN, il_length]
    have hB2 : (bs W).length = B := by rw [← hB, ← hbx, il_length]
    rw [hN2] at hW64 hwo
    rw [hB2] at hwo
    have hp : 1 ≤ N := by rw [hwo]; exact Nat.pow_pos (by decide)
    have hB6 : B ≤ 6 := by
      rw [hwo] at hW64
      exact (Nat.pow_le_pow_iff_right (a := 2) (by decide)).mp hW64
    obtain ⟨I, hI⟩ : ∃ I : Nat, i % (N : Int) = (I : Int) := ⟨(i % (N : Int)).toNat, by have := Int.emod_nonneg i (b := (N : Int)) (by omega); omega⟩
    obtain ⟨K, hK⟩ : ∃ K : Nat, k % (N : Int) = (K : Int) := ⟨(k % (N : Int)).toNat, by have := Int.emod_nonneg k (b := (N : Int)) (by omega); omega⟩
    have hIN : I < N := by have := Int.emod_lt_of_pos i (show (0 : Int) < N by omega); omega
    have hKN : K < N := by have := Int.emod_lt_of_pos k (show (0 : Int) < N by omega); omega
    have HI : Hid (∀ w, Calls Try.prog 25 #[.int .i64 i, .int .i64 (N : Int)] w (fun e w' => e = .returned (.int .i64 (I : Int)) ∧ w = w')) := Lib.hid fun w => by
      have := within_any i (N : Int) w (by omega) (by omega)
      rwa [hI] at this
    have HK : Hid (∀ w, Calls Try.prog 25 #[.int .i64 k, .int .i64 (N : Int)] w (fun e w' => e = .returned (.int .i64 (K : Int)) ∧ w = w')) := Lib.hid fun w => by
      have := within_any k (N : Int) w (by omega) (by omega)
      rwa [hK] at this
    have hat : ∀ j, j < N → W.getD j 0 ∈ W ∧ nth (il W) j = ((W.getD j 0 : Nat) : Int) := fun j hj => by
      rw [il_nth (by omega), List.getD_eq_getElem?_getD, List.getElem?_eq_getElem (by omega)]
      exact ⟨List.getElem_mem _, rfl⟩
    obtain ⟨x, hx⟩ : ∃ x, W.getD I 0 = x := ⟨_, rfl⟩
    obtain ⟨y, hy⟩ : ∃ y, W.getD K 0 = y := ⟨_, rfl⟩
    have hxW := (hat I hIN).1
    have hyW := (hat K hKN).1
    rw [hx] at hxW
    rw [hy] at hyW
    have hmem : bits .xor .u16 (x : Int) (y : Int) ∈ il W := by
      rw [xor_u16_nat x y (hS x hxW) (hS y hyW)]
      exact List.mem_map.mpr ⟨_, hcd.xor x hxW y hyW, rfl⟩
    have x16 := hS x hxW
    have y16 := hS y hyW
    have g1 : ((N : Int) == wrap64 (2 ^ B)) = true := by rw [shl_nat hwo.symm (by omega)]; exact beq_self_eq_true _
    have HWO := Lib.hid fun w2 (k : Ex w w2) => HW.ok (xs := il W) (M := N) m1 m12 hlL la6 hac hcb hlt (by rw [hWW]) hN (hr.ex k)
    have HBA := Lib.hid fun w2 (k : Ex w w2) => HB.ok (xs := bx) (M := B) m1 m12 hlL la6 hac hcb hlt (by rw [hWW]; exact hbx) hB (hr.ex k)
    have HW2 := Lib.hid fun w2 a2 c2 (h1 : B ≤ c2) (h2 : c2 ≤ 9223372036854775807) (h : Reads w2 .u16 a2 bx) => HW.ok (l := bs W) (xs := il W) (M := N) m1 m12 hB2 hB6 h1 h2 hbl (by rw [hcb2]) hN (by rw [hbx]; exact h)
    have HCO := Lib.hid fun w2 a2 c2 (h : Reads w2 .u16 a2 (il W)) => word_contains (bits .xor .u16 (x : Int) (y : Int)) (il W) a2 c2 N w2 hN (by omega) h true ⟨fun _ => hmem, fun _ => rfl⟩
    have HEQ := Lib.hid fun w2 a2 c2 a3 c3 (h : Reads w2 .u16 a2 (il W)) (k : Reads w2 .u16 a3 (il W)) => word_equal (ca := c2) (cb := c3) hN hN (by unfold maxLen; omega) (by unfold maxLen; omega) h k true (by simp)
    have HAT := Lib.hid hat
    have HG0 := Lib.hid hgd0
    have HX := Lib.hid hx
    have HYK := Lib.hid hy
    have HNL := Lib.hid hN
    have HGZ := Lib.hid (good_zeros 2 (by omega) #[.int .i64 0, .int .i64 0] rfl 23)
    clear ha hn HW HB h0 hm hl hlt hz hr hS hcd hWW hbx hB hN hN2 hlL hwo hbl hcb2 hgd0 hB2 hI hK hat hx hy hxW hyW hmem
    go_enter Try.func5, Try.ntmps5
    go_upto_region 7 with (first
      | (go_at_call 24; (with_reducible refine (HY.out _).mono ?_); rintro e w0 ⟨rfl, hw0⟩)
      | (go_at_call 10; (with_reducible refine (HWO.out _ hw0).mono ?_); rintro e w1 ⟨a1, c1, rfl, hc1, hR1, hw1⟩
         have hx1 := hw0.trans hw1)
      | (go_at_call 11; (with_reducible refine (HBA.out _ hx1).mono ?_); rintro e w2 ⟨a2, c2, rfl, hc2, hR2, hw2⟩
         have hx2 := hx1.trans hw2))
    have HX2 := Lib.hid hx2
    have HR1 := Lib.hid (hR1.out.ex hw2)
    clear hR1 hx1 hx2 hw0 hw1 hw2
    go_upto_region 8 with (first
      | (go_at_call 25; (with_reducible refine (HI.out _).mono ?_); rintro e w' ⟨rfl, rfl⟩)
      | (go_at_call 25; (with_reducible refine (HK.out _).mono ?_); rintro e w' ⟨rfl, rfl⟩))
    go_upto_region 9 with (go_at_call 10; (with_reducible refine (HW2.out _ _ _ hc2.out.1 hc2.out.2 hR2.out).mono ?_); rintro e w3 ⟨a3, c3, rfl, hc3, hR3, hw3⟩)
    have HX3 := Lib.hid (HX2.out.trans hw3)
    have HR13 := Lib.hid (HR1.out.ex hw3)
    clear HX2 HR1 hR2 hw3 hc2 hc3 hc1
    have hR13 := HR13.out
    rcases hR13 with h | ⟨gW, oW, rfl, hcW⟩
    · have := congrArg List.length h
      rw [HNL.out] at this
      have : N = 0 := this
      omega
    have p1 := hcW I (by rw [HNL.out]; exact hIN)
    have p2 := hcW K (by rw [HNL.out]; exact hKN)
    have p3 := hcW 0 (by rw [HNL.out]; omega)
    rw [(HAT.out I hIN).2, HX.out] at p1
    rw [(HAT.out K hKN).2, HYK.out] at p2
    rw [(HAT.out 0 (by omega)).2, HG0.out, Nat.add_zero] at p3
    have k1 : ∀ x' : Kp (fun w2 => Ex w3 w2), x'.val.cell? ⟨gW, oW + I, none⟩ = some (.int .u16 (x : Int)) := fun x' => x'.ok.cell p1
    have k2 : ∀ x' : Kp (fun w2 => Ex w3 w2), x'.val.cell? ⟨gW, oW + K, none⟩ = some (.int .u16 (y : Int)) := fun x' => x'.ok.cell p2
    have k3 : ∀ x' : Kp (fun w2 => Ex w3 w2), x'.val.cell? ⟨gW, oW, none⟩ = some (.int .u16 0) := fun x' => x'.ok.cell p3
    haveI : Nonempty (Kp (fun w2 => Ex w3 w2)) := ⟨⟨w3, Ex.refl w3⟩⟩
    have hd : Ex w3 w3.drew := (Ex.refl w3).drew
    have HR3 := Lib.hid hR3.out
    clear p1 p2 p3 hcW hR3
    refine wp_region_scr (fun w2 => ∃ x : Kp (fun w2 => Ex w3 w2), w2 = x.val) (.take 0 (.take 1 (.one 2 (.one 3 (.take 4 (.take 5 (.take 6 (.take 7 (.take 8 (.take 9 (.take 10 (.take 11 (.take 12 (.take 13 (.take 14 (.one 15 (.take 16 (.take 17 (.take 18 (.take 19 (.take 20 (.take 21 (.take 22 (.take 23 (.take 24 (.take 25 (.take 26 (.take 27 (.take 28 (.take 29 (.take 30 (.take 31 (.take 32 (.take 33 (.one 34 (.take 35 (.take 36 (.fin)))))))))))))))))))))))))))))))))))))) (by kernel_rfl) (by kernel_rfl) (by intro _ _ d _ _ h; cases d <;> exact h) ⟨⟨_, (by first | exact hd | exact hd.alloc _ | exact hd.trans hw4 | exact (hd.trans hw4).trans hw5 | exact ((hd.trans hw4).trans hw5).trans hw6)⟩, rfl⟩ ?_
    generalize w3.drew = wd at hd ⊢
    simp only [fillS, List.getD_cons_zero, List.getD_cons_succ]
    repeat' (first
      | ((with_reducible refine wpScr_pure ?_); go_big_quiet_step (fail); (with_reducible refine scrQ_on ?_))
      | ((with_reducible refine wpScr_turn ?_); intro K hK; go_wp2_with (first | fail |(go_at_call 26; (refine (HGZ.out _).mono ?_); rintro e w4 ⟨rfl, hw4⟩) | (go_at_call 27; (with_reducible refine (HCO.out _ _ _ (HR13.out.ex (hd.trans hw4))).mono ?_); rintro e w5 ⟨rfl, hw5⟩) | (go_at_call 18; (with_reducible refine (HEQ.out _ _ _ _ _ (HR3.out.ex ((hd.trans hw4).trans hw5)) (HR13.out.ex ((hd.trans hw4).trans hw5))).mono ?_); rintro e w6 ⟨rfl, hw6⟩)); refine hK _ _ ⟨⟨_, (by first | exact hd | exact hd.alloc _ | exact hd.trans hw4 | exact (hd.trans hw4).trans hw5 | exact ((hd.trans hw4).trans hw5).trans hw6)⟩, rfl⟩ ?_; clear hK K)
      | (with_reducible refine wpScr_two ?_ ?_)
      | (with_reducible refine wpScr_three ?_ ?_ ?_)
      | (with_reducible refine wpScr_nil ?_))
    go_wp2
    go_ret
    exact ⟨rfl, (((HX3.out.trans hd).trans hw4).trans hw5).trans hw6⟩
  · have HW1 := Lib.hid fun w2 (k : Ex w w2) => HW.no (ha.ex k) (wf_int hn) h0
    have HB1 := Lib.hid fun w2 (k : Ex w w2) => HB.no (ha.ex k) (wf_int hn) h0
    obtain ⟨t, ht⟩ : ∃ t, lnE n z = t := ⟨_, rfl⟩
    rw [ht] at HW1 HB1 h0
    have q2 : (t != 0) = true := by simpa using h0
    have q4 : (t == t) = true := by simp
    clear ha hn HW HB ht h0
    go_enter Try.func5, Try.ntmps5
    go_wp2_with (first
      | (go_at_call 24; (with_reducible refine (HY.out _).mono ?_); rintro e w0 ⟨rfl, hw0⟩)
      | (go_at_call 10; (with_reducible refine (HW1.out _ hw0).mono ?_); rintro e w1 ⟨a1, c1, rfl, hw1⟩
         have hx1 := hw0.trans hw1)
      | (go_at_call 11; (with_reducible refine (HB1.out _ hx1).mono ?_); rintro e w2 ⟨a2, c2, rfl, hw2⟩))
    go_ret
    exact ⟨rfl, hx1.trans hw2⟩

end Go.Proofs.Ytgmhbkfjabmkgaa
