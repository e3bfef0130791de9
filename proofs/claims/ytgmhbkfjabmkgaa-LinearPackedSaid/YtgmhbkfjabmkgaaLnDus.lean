/-
  LinearDuals, by contracts.
-/
import Derived.Test.YtgmhbkfjabmkgaaLnKeep
import Derived.Deep.CutRange
import Derived.Deep.DeepCutAuto
namespace Go.Proofs.Ytgmhbkfjabmkgaa
open Go.RowKit
open Ln

theorem dual_35 : bs (du 3 (cw 3 [3, 5])) = [7] := by rw [cw_35]; decide +kernel

theorem entered_d1 : Entered Try.prog 30 := fun _ _ => by kernel_rfl
theorem entered_d2 : Entered Try.prog 31 := fun _ _ => by kernel_rfl

set_option maxHeartbeats 1000000 in
theorem d2_any (x y bx : Nat) (w : World) (hx : x < 65536) (hy : y < 65536) (hbx : w.cell? ⟨bx, 0, none⟩ = some (.int .u16 (x : Int))) (he : on 16 (x &&& y) % 2 = 0) :
    Calls Try.prog 31 (#[.int .u16 (y : Int)] ++ #[.pointer (some ⟨bx, 0, none⟩)]) w (Says (.bool false) w) := by
  have hlt : x &&& y < 2 ^ 16 := Nat.and_lt_two_pow _ (by omega)
  have ho := on_le 16 (x &&& y)
  have HO : Hid (∀ w, Calls Try.prog 17 #[.int .i64 (wrap64 (bits .and .u16 (x : Int) (y : Int)))] w (Says (.int .i64 ((on 16 (x &&& y) : Nat) : Int)) w)) := Lib.hid fun w => by
    rw [and_u16_nat x y hx hy, IntWalk.wrap64_in _ (by omega)]
    exact ones_any (x &&& y) w (by omega)
  obtain ⟨o, hoo⟩ : ∃ o, on 16 (x &&& y) = o := ⟨_, rfl⟩
  rw [hoo] at HO ho he
  have g1 : ((o : Int) % 2 == 1) = false := beq_eq_false_iff_ne.mpr (by omega)
  clear hoo hlt
  go_enter Try.func31, Try.ntmps31
  go_wp2_with (go_at_call 17; (with_reducible refine (HO.out _).mono ?_); rintro e w2 ⟨rfl, hw2⟩)
  go_ret
  exact ⟨rfl, hw2⟩

set_option maxHeartbeats 1000000 in
theorem d1_any (x pb : Nat) (V : List Nat) (B cb : Nat) (b : Option Addr) (w : World) (hx : x < 65536) (hV : V.length = B) (hB : B ≤ 4096) (hV16 : ∀ y ∈ V, y < 65536) (hpb : w.cell? ⟨pb, 0, none⟩ = some (.slice b B cb)) (hr : Reads w .u16 b (il V)) (he : ∀ y ∈ V, on 16 (x &&& y) % 2 = 0) :
    Calls Try.prog 30 (#[.int .u16 (x : Int)] ++ #[.pointer (some ⟨pb, 0, none⟩)]) w (Says (.bool false) w) := by
  have HX := Lib.hid ((Ex.refl w).alloc (.cells #[.int .u16 (x : Int)] 33))
  have hq := HX.out.cell hpb
  have hb1 := box_one w (.int .u16 (x : Int)) 33
  have hany : anyP (fun _ => false) B = false := anyP_no fun _ _ => rfl
  have HCF : Hid (Calls Try.prog 29 #[.slice b B cb, .func (.func 31) #[] #[.pointer (some ⟨w.heap.size, 0, none⟩)]] (w.alloc (.cells #[.int .u16 (x : Int)] 33)) (Says (.bool false) (w.alloc (.cells #[.int .u16 (x : Int)] 33)))) := Lib.hid (by
    rw [← hany]
    refine wrds_contains 31 #[.pointer (some ⟨w.heap.size, 0, none⟩)] (fun _ => false) (fun i => .int .u16 (nth (il V) i)) B b cb _ (by unfold maxLen; omega) (ReadsV.of (hr.ex HX.out) (by rw [il_length]; exact hV)) entered_d2 fun i hi w6 k => ?_
    have hi2 : i < V.length := by omega
    dsimp only
    rw [il_nth hi2]
    exact d2_any x _ w.heap.size w6 hx (hV16 _ (List.getElem_mem _)) (k.cell hb1) (he _ (List.getElem_mem _)))
  clear hpb hr hV hV16 he hany hb1
  go_enter Try.func30, Try.ntmps30
  go_wp2_with (go_at_call 29; (with_reducible refine (HCF.out).mono ?_); rintro e w2 ⟨rfl, hw2⟩)
  go_ret
  exact ⟨rfl, HX.out.trans hw2⟩

set_option maxRecDepth 100000 in
set_option maxHeartbeats 2000000 in
theorem linearDuals_of (HD : DualC) (HW : WordsC) (HB : BaseC) (n : Int) (a : Option Addr) (la ca : Nat) (z : List Int) (w : World) (hn : I64 n) (ha : IsInts .u16 2 w a la ca z) :
    Calls Try.prog 8 #[.int .i64 n, .slice a la ca] w (Says (.bool true) w) := by
  have HY := Lib.hid fun w => words_yes HW HB w
  have H1 : Hid (∀ w, Calls Try.prog 22 #[.int .i64 3, .slice (some ⟨w.heap.size, 0, none⟩) 2 2] (w.alloc (.cells #[.int .u16 3, .int .u16 5] 33)) (Vec3 .u16 1 [7] w)) := Lib.hid fun w => by
    have := HD.ok (n := 3) (L := 2) (M := 1) (l := [3, 5]) (xs := [7]) (ca := 2) (by omega) (by omega) rfl (by omega) (by omega) (by omega) lt_35 (by rw [bs_35]; decide) (by rw [dual_35]; rfl) rfl (lit_35 w 33)
    exact this.mono fun e w2 ⟨a2, c2, h1, h2, h3, h4⟩ => ⟨a2, c2, h1, h2, h3, ((Ex.refl w).alloc _).trans h4⟩
  have H3 : Hid (∀ w a2 c2, Reads w .u16 a2 [7] → Calls Try.prog 18 #[.slice a2 1 c2, .slice (some ⟨w.heap.size, 0, none⟩) 1 1] (w.alloc (.cells #[.int .u16 7] 33)) (Says (.bool true) w)) := Lib.hid fun w a2 c2 h =>
    (word_equal (xs := [7]) (ys := [7]) rfl rfl (by decide) (by decide) (h.ex ((Ex.refl w).alloc _)) (row_new 33 .u16 w w.heap.size (Nat.le_refl _) [7] _ rfl (by decide)).read true (by decide)).mono fun e w2 ⟨h1, h2⟩ => ⟨h1, ((Ex.refl w).alloc _).trans h2⟩
  by_cases h0 : lnE n z = 0
  · by_cases h1 : duE n z = 0
    · obtain ⟨m, l, rfl, hm, hl, m1, m12, hlL, la6, hac, hcb, hlt, hz, hr⟩ := ln_in ha h0
      have hW64 := cw_64 hlL la6 hlt
      have hcd := cw_cd hlt
      have hwlt := cw_lt m l
      have h16 : m ≤ 16 := by omega
      have hdu : m - (bs (cw m l)).length ≤ 6 := by
        unfold duE at h1
        rw [if_neg (by simpa using h0), Int.toNat_natCast, ← hl] at h1
        by_cases h : 6 < (m : Int) - ((bs (cw m l)).length : Int)
        · rw [if_pos h] at h1; cases h1
        · omega
      obtain ⟨W, hWW⟩ : ∃ W, cw m l = W := ⟨_, rfl⟩
      rw [hWW] at hdu hcd hW64 hwlt
      have hboth := bs_both hcd h16
      have hback := du_back hcd hwlt
      have hlen := bs_words hcd h16
      have hbl := bs_lt hcd h16
      have hdl := bs_lt (du_cd m W) h16
      have hcwd := cw_bs (du_cd m W) h16 (du_lt m W)
      have hB6 : (bs W).length ≤ 6 := by
        rw [hlen] at hW64
        exact (Nat.pow_le_pow_iff_right (a := 2) (by decide)).mp hW64
      obtain ⟨hD1, hD2⟩ := du_small m12 W
      obtain ⟨dx, hdx⟩ : ∃ xs, il (bs (du m W)) = xs := ⟨_, rfl⟩
      obtain ⟨D, hD⟩ : ∃ D, dx.length = D := ⟨_, rfl⟩
      obtain ⟨bx, hbx⟩ : ∃ xs, il (bs W) = xs := ⟨_, rfl⟩
      obtain ⟨B, hB⟩ : ∃ B, bx.length = B := ⟨_, rfl⟩
      obtain ⟨ux, hux⟩ : ∃ xs, il (du m W) = xs := ⟨_, rfl⟩
      obtain ⟨U, hU⟩ : ∃ U, ux.length = U := ⟨_, rfl⟩
      have hB2 : (bs W).length = B := by rw [← hB, ← hbx, il_length]
      have hDl : (bs (du m W)).length = D := by rw [← hD, ← hdx, il_length]
      have hUl : (du m W).length = U := by rw [← hU, ← hux, il_length]
      rw [hB2] at hboth hdu hB6
      rw [hDl] at hboth
      have HDU := Lib.hid fun w2 (k : Ex w w2) => HD.ok (xs := dx) (M := D) m1 m12 hlL la6 hac hcb hlt (by rw [hWW, hB2]; exact hdu) (by rw [hWW]; exact hdx) hD (hr.ex k)
      have HBA := Lib.hid fun w2 (k : Ex w w2) => HB.ok (xs := bx) (M := B) m1 m12 hlL la6 hac hcb hlt (by rw [hWW]; exact hbx) hB (hr.ex k)
      have HD2 := Lib.hid fun w2 a2 c2 (h1 : D ≤ c2) (h2 : c2 ≤ 9223372036854775807) (h : Reads w2 .u16 a2 dx) => HD.ok (l := bs (du m W)) (xs := bx) (M := B) m1 m12 hDl (by omega) h1 h2 hdl (by rw [hcwd, hDl]; omega) (by rw [hcwd, hback]; exact hbx) hB (by rw [hdx]; exact h)
      have HW2 := Lib.hid fun w2 a2 c2 (h1 : D ≤ c2) (h2 : c2 ≤ 9223372036854775807) (h : Reads w2 .u16 a2 dx) => HW.ok (l := bs (du m W)) (xs := ux) (M := U) m1 m12 hDl (by omega) h1 h2 hdl (by rw [hcwd]; exact hux) hU (by rw [hdx]; exact h)
      have HCF : Hid (∀ w2 a2 c2 b2 c3 pb, Reads w2 .u16 a2 ux → Reads w2 .u16 b2 bx → w2.cell? ⟨pb, 0, none⟩ = some (.slice b2 B c3) → Calls Try.prog 29 #[.slice a2 U c2, .func (.func 30) #[] #[.pointer (some ⟨pb, 0, none⟩)]] w2 (Says (.bool false) w2)) := Lib.hid fun w2 a2 c2 b2 c3 pb hra hrb hpb => by
        have hany : anyP (fun _ => false) U = false := anyP_no fun _ _ => rfl
        rw [← hany]
        refine wrds_contains 30 #[.pointer (some ⟨pb, 0, none⟩)] (fun _ => false) (fun i => .int .u16 (nth ux i)) U a2 c2 _ (by unfold maxLen; omega) (ReadsV.of hra hU) entered_d1 fun i hi w6 k => ?_
        have hi2 : i < (du m W).length := by omega
        dsimp only
        rw [← hux, il_nth hi2]
        refine d1_any _ pb (bs W) B c3 b2 w6 (hD1 _ (List.getElem_mem _)) hB2 (by omega) (fun y hy => ?_) (k.cell hpb) (by rw [hbx]; exact hrb.ex k) fun y hy => ?_
        · have := hbl y hy
          have : 2 ^ m ≤ 2 ^ 12 := Nat.pow_le_pow_right (by decide) m12
          omega
        · have hx := mem_du.mp (List.getElem_mem hi2)
          have hyW := bs_mem hcd h16 y hy
          unfold Ev at hx
          have h3 := List.all_eq_true.mp hx.2 y hyW
          have h4 : on m (y &&& (du m W)[i]) % 2 = 0 := by simpa using h3
          rw [Nat.and_comm, on_up m 16 _ (Nat.and_lt_two_pow _ hx.1) h16]
          exact h4
      have HEQ := Lib.hid fun w2 a2 c2 a3 c3 (h : Reads w2 .u16 a2 bx) (k : Reads w2 .u16 a3 bx) => word_equal (ca := c2) (cb := c3) hB hB (by unfold maxLen; omega) (by unfold maxLen; omega) h k true (by simp)
      have HGZ := Lib.hid (good_zeros 2 (by omega) #[.int .i64 0, .int .i64 0] rfl 23)
      have g1 : ((B : Int) + (D : Int) != (m : Int)) = false := by
        rw [show (B : Int) + (D : Int) = (m : Int) by omega]; simp
      have hBD : B ≤ 12 ∧ D ≤ 12 := ⟨by omega, by omega⟩
      obtain ⟨hB12, hD12⟩ := hBD
      clear ha hn HD HW HB h0 h1 hm hl hlt hz hr hcd hW64 hwlt hdu hWW hboth hback hlen hbl hdl hcwd hD1 hD2 hdx hD hbx hB hux hU hB2 hDl hUl hlL
      go_enter Try.func8, Try.ntmps8
      go_upto_region 8 with (first
        | (go_at_call 22; (with_reducible refine (H1.out _).mono ?_); rintro e w0 ⟨a0, c0, rfl, hc0, hR0, hw0⟩
           clear H1)
        | (go_at_call 18; (with_reducible refine (H3.out _ _ _ hR0.out).mono ?_); rintro e w1 ⟨rfl, hw1⟩
           have hx1 := hw0.trans hw1)
        | (go_at_call 24; (with_reducible refine (HY.out _).mono ?_); rintro e w2 ⟨rfl, hw2⟩
           have hx2 := hx1.trans hw2)
        | (go_at_call 22; (with_reducible refine (HDU.out _ hx2).mono ?_); rintro e w3 ⟨a3, c3, rfl, hc3, hR3, hw3⟩
           have hx3 := hx2.trans hw3)
        | (go_at_call 11; (with_reducible refine (HBA.out _ hx3).mono ?_); rintro e w4 ⟨a4, c4, rfl, hc4, hR4, hw4⟩
           have hx4 := hx3.trans hw4
           have hbox := box_one w4 (.slice a4 B c4) 22
           have hXb := (Ex.refl w4).alloc (.cells #[.slice a4 B c4] 22)
           have HR3 := Lib.hid ((hR3.out.ex hw4).ex hXb)
           have HR4 := Lib.hid (hR4.out.ex hXb)
           have HX5 := Lib.hid (hx4.trans hXb)
           have hcap := hc3.out))
      clear hR0 hR3 hR4 hx1 hx2 hx3 hx4 hw0 hw1 hw2 hw3 hw4
      go_upto_region 9 with (go_at_call 22; (with_reducible refine (HD2.out _ _ _ hcap.1 hcap.2 HR3.out).mono ?_); rintro e w6 ⟨a6, c6, rfl, hc6, hR6, hw6⟩)
      go_upto_region 10 with (go_at_call 10; (with_reducible refine (HW2.out _ _ _ hcap.1 hcap.2 (HR3.out.ex hw6)).mono ?_); rintro e w7 ⟨a7, c7, rfl, hc7, hR7, hw7⟩)
      have hx67 := hw6.trans hw7
      have hbox7 := hx67.cell hbox
      have HR47 := Lib.hid (HR4.out.ex hx67)
      have HR67 := Lib.hid (hR6.out.ex hw7)
      have HX7 := Lib.hid (HX5.out.trans hx67)
      clear hbox
      go_upto_region 12 with (first
        | (go_at_call 26; (refine (HGZ.out _).mono ?_); rintro e w8 ⟨rfl, hw8⟩
           have hbox8 := hw8.cell hbox7)
        | (go_at_call 29; (with_reducible refine (HCF.out _ _ _ _ _ _ (hR7.out.ex hw8) (HR47.out.ex hw8) hbox8).mono ?_); rintro e w9 ⟨rfl, hw9⟩
           have hbox9 := hw9.cell hbox8
           have hx9 := hw8.trans hw9
           have HR49 := Lib.hid (HR47.out.ex hx9)
           have HR69 := Lib.hid (HR67.out.ex hx9)))
      go_wp2_with (go_at_call 18; (with_reducible refine (HEQ.out _ _ _ _ _ HR69.out HR49.out).mono ?_); rintro e w10 ⟨rfl, hw10⟩)
      go_ret
      exact ⟨rfl, (HX7.out.trans hx9).trans hw10⟩
    · have hdz : duE n z = 2 := by
        unfold duE at h1 ⊢
        rw [if_neg (by simpa using h0)] at h1 ⊢
        split at h1
        · rename_i h; rw [if_pos h]
        · exact absurd rfl h1
      have HDN := Lib.hid fun w2 (k : Ex w w2) => HD.no (ha.ex k) (wf_int hn) h1
      rw [hdz] at HDN
      obtain ⟨m, l, rfl, hm, hl, m1, m12, hlL, la6, hac, hcb, hlt, hz, hr⟩ := ln_in ha h0
      obtain ⟨bx, hbx⟩ : ∃ xs, il (bs (cw m l)) = xs := ⟨_, rfl⟩
      obtain ⟨B, hB⟩ : ∃ B, bx.length = B := ⟨_, rfl⟩
      have HBA := Lib.hid fun w2 (k : Ex w w2) => HB.ok (xs := bx) (M := B) m1 m12 hlL la6 hac hcb hlt hbx hB (hr.ex k)
      clear ha hn HD HW HB h0 h1 hdz hm hl hlt hz hr hbx hB hlL
      go_enter Try.func8, Try.ntmps8
      go_wp2_with (first
        | (go_at_call 22; (with_reducible refine (H1.out _).mono ?_); rintro e w0 ⟨a0, c0, rfl, hc0, hR0, hw0⟩
           clear H1)
        | (go_at_call 18; (with_reducible refine (H3.out _ _ _ hR0.out).mono ?_); rintro e w1 ⟨rfl, hw1⟩
           have hx1 := hw0.trans hw1)
        | (go_at_call 24; (with_reducible refine (HY.out _).mono ?_); rintro e w2 ⟨rfl, hw2⟩
           have hx2 := hx1.trans hw2)
        | (go_at_call 22; (with_reducible refine (HDN.out _ hx2).mono ?_); rintro e w3 ⟨a3, c3, rfl, hw3⟩
           have hx3 := hx2.trans hw3)
        | (go_at_call 11; (with_reducible refine (HBA.out _ hx3).mono ?_); rintro e w4 ⟨a4, c4, rfl, hc4, hR4, hw4⟩
           have hx4 := hx3.trans hw4
           have hXb := (Ex.refl w4).alloc (.cells #[.slice a4 B c4] 22)))
      go_ret
      exact ⟨rfl, hx4.trans hXb⟩
  · have he : duE n z = lnE n z := by unfold duE; rw [if_pos h0]
    have HDN := Lib.hid fun w2 (k : Ex w w2) => HD.no (ha.ex k) (wf_int hn) (by rw [he]; exact h0)
    rw [he] at HDN
    have HB1 := Lib.hid fun w2 (k : Ex w w2) => HB.no (ha.ex k) (wf_int hn) h0
    obtain ⟨t, ht⟩ : ∃ t, lnE n z = t := ⟨_, rfl⟩
    rw [ht] at HDN HB1 h0
    have q2 : (t != 0) = true := by simpa using h0
    clear ha hn HD HW HB he ht h0
    go_enter Try.func8, Try.ntmps8
    go_wp2_with (first
      | (go_at_call 22; (with_reducible refine (H1.out _).mono ?_); rintro e w0 ⟨a0, c0, rfl, hc0, hR0, hw0⟩
         clear H1)
      | (go_at_call 18; (with_reducible refine (H3.out _ _ _ hR0.out).mono ?_); rintro e w1 ⟨rfl, hw1⟩
         have hx1 := hw0.trans hw1)
      | (go_at_call 24; (with_reducible refine (HY.out _).mono ?_); rintro e w2 ⟨rfl, hw2⟩
         have hx2 := hx1.trans hw2)
      | (go_at_call 22; (with_reducible refine (HDN.out _ hx2).mono ?_); rintro e w3 ⟨a3, c3, rfl, hw3⟩
         have hx3 := hx2.trans hw3)
      | (go_at_call 11; (with_reducible refine (HB1.out _ hx3).mono ?_); rintro e w4 ⟨a4, c4, rfl, hw4⟩
         have hx4 := hx3.trans hw4
         have hXb := (Ex.refl w4).alloc (.cells #[.slice a4 0 c4] 22)))
    go_ret
    exact ⟨rfl, hx4.trans hXb⟩

end Go.Proofs.Ytgmhbkfjabmkgaa
