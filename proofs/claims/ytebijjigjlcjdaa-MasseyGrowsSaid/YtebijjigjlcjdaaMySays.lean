/-
  MasseySays, by contracts.
-/
import Derived.Test.YtebijjigjlcjdaaMyHg
import Derived.Test.YtebijjigjlcjdaaMyLeast
import Derived.Test.YtebijjigjlcjdaaClones
import Derived.Test.YtebijjigjlcjdaaGuard
namespace Go.Proofs.Ytebijjigjlcjdaa
open Go.RowKit
open My

namespace My
theorem myE_fl {M : Nat} (R : Nat → Bool) (h : M ≤ 60) : myE (Go.Proofs.Ytebijjigjlcjdaa.fl M fun t => bw (R t)) = 0 := by
  rw [myE_zero, fl_length]
  exact ⟨h, fun i hi => by rw [fl_nth hi]; exact (bw_two _).2⟩
/-- The bits behind, moved to the front. -/
theorem nx_shift (s r : Nat → Bool) (L d : Nat) : nx (fun t => s (d + t)) r L L = nx s r L (d + L) := by
  unfold nx
  refine xs_congr L fun k hk => ?_
  show (r k && s (d + (L - 1 - k))) = _
  rw [show d + (L - 1 - k) = d + L - 1 - k by omega]
end My

set_option maxRecDepth 100000 in
set_option maxHeartbeats 4000000 in
theorem masseySays_of (HR : MyRuleC) (HN : MyNextC) (HC : MyCheckC) (a : Option Addr) (la ca : Nat) (z : List Int) (b : Option Addr) (lb cb : Nat) (y : List Int) (w : World) (ha : IsInts .u8 1 w a la ca z) (hb : IsInts .u8 1 w b lb cb y) :
    Calls Try.prog 3 #[.slice a la ca, .slice b lb cb] w (Says (.bool true) w) := by
  have hzl := ha.1
  have hyl := hb.1
  have hca := ha.2.1
  have hcb := hb.2.1
  have hnil := ha.2.2.2.2.1
  have hca2 : ca ≤ 9223372036854775807 := by have := ha.2.2.1; omega
  have hcb2 : cb ≤ 9223372036854775807 := by have := hb.2.2.1; omega
  have hla : la ≤ 140737488351232 := by have := ha.2.2.1; omega
  have hlb : lb ≤ 140737488351232 := by have := hb.2.2.1; omega
  have HCH := Lib.hid fun w2 (k : Ex w w2) => HC.all (ha.ex k)
  have HB1 := Lib.hid fun w2 (k : Ex w w2) => bitsErr_any z a la ca w2 hzl (by unfold maxLen; omega) (ha.2.2.2.1.ex k)
  have HB3 := Lib.hid fun w2 (k : Ex w w2) => bitsErr_any y b lb cb w2 hyl (by unfold maxLen; omega) (hb.2.2.2.1.ex k)
  by_cases hz : myE z = 0
  · obtain ⟨h60, hBits⟩ := ha.bits hz
    have HRU := Lib.hid fun w2 (k : Ex w w2) => HR.ok h60 hca hca2 (hBits.ex k)
    have HA := Lib.hid fun w2 (k : Ex w w2) => hBits.ex k
    obtain ⟨B, hB⟩ : ∃ B, bf z = B := ⟨_, rfl⟩
    rw [hB] at HRU HA
    rw [hz] at HCH HB1
    have HBR := Lib.hid fun (M : Nat) (R : Nat → Bool) (a3 : Option Addr) (c3 : Nat) (w2 : World) (hM : M ≤ 60) (h : ReadsB w2 a3 M R) => by
      have := bitsErr_any _ a3 M c3 w2 (fl_length M _) (by unfold maxLen; omega) h.reads
      rwa [myE_fl R hM] at this
    have HHG := Lib.hid fun (M : Nat) (R : Nat → Bool) (w2 : World) (k : Ex w w2) (h1 : Gen B R M la) (h2 : ∀ N q, Gen B q N la → M ≤ N) => hangs_any B la M a ca w2 h60 (HA.out w2 k) ⟨R, h1⟩ h2
    have HMK := Lib.hid fun (M : Nat) (R : Nat → Bool) (a3 : Option Addr) (c3 : Nat) (w2 : World) (k : Ex w w2) (hM : M ≤ 60) (h : ReadsB w2 a3 M R) (h1 : Gen B R M la) => makes_any B R la M a a3 ca c3 w2 (by omega) (by omega) (HA.out w2 k) h true (by simp [h1])
    by_cases he : nxE z y = 0
    · obtain ⟨_, hy, hle⟩ := nxE_zero.mp he
      rw [hzl, hyl] at hle
      obtain ⟨hb60, hBits2⟩ := hb.bits hy
      rw [hB] at hBits
      obtain ⟨R2, hR2⟩ : ∃ R2, bf y = R2 := ⟨_, rfl⟩
      rw [hR2] at hBits2
      rw [hy] at HB3
      have HNX := Lib.hid fun w2 (k : Ex w w2) => HN.ok h60 hca hca2 hle hcb hcb2 (hBits.ex k) (hBits2.ex k)
      have HA2 := Lib.hid fun w2 (k : Ex w w2) => hBits2.ex k
      have hbx := bw_two (nx B R2 lb la)
      obtain ⟨X, hX⟩ : ∃ X, nx B R2 lb la = X := ⟨_, rfl⟩
      rw [hX] at HNX hbx
      have HX := Lib.hid hX
      obtain ⟨x, hx⟩ : ∃ x, bw X = x := ⟨_, rfl⟩
      rw [hx] at HNX hbx
      have HXx := Lib.hid hx
      obtain ⟨x0, x1⟩ := hbx
      clear HR HN HC ha hb hz hzl hyl hy hBits hBits2 hB hR2 he hX hx
      go_enter Try.func3, Try.ntmps3
      go_upto_region 15 with (first
        | (go_at_call 7; (with_reducible refine (HNX.out _ (Ex.refl _)).mono ?_); rintro e w1 ⟨rfl, hw1⟩)
        | (go_at_call 8; (with_reducible refine (HRU.out _ hw1).mono ?_); rintro e w2 ⟨M, R, a3, c3, rfl, hc3, hR3, hG3, hm3, hw2⟩
           have hx2 := hw1.trans hw2
           have hM60 := Nat.le_trans (hm3.out la (fun _ => false) (Gen.full _ _ _)) h60)
        | (go_at_call 9; (with_reducible refine (HB1.out _ hx2).mono ?_); rintro e w3 ⟨rfl, hw3⟩
           have hx3 := hx2.trans hw3
           clear HB1)
        | (go_at_call 10; (with_reducible refine (HCH.out _ hx3).mono ?_); rintro e w4 ⟨rfl, hw4⟩
           have hx4 := hx3.trans hw4)
        | (go_at_call 9; (with_reducible refine (HBR.out M R _ _ _ hM60 (hR3.out.ex (hw3.trans hw4))).mono ?_); rintro e w5 ⟨rfl, hw5⟩
           have hx5 := hx4.trans hw5
           clear HBR)
        | (go_at_call 11; (with_reducible refine (HHG.out M R _ hx5 hG3.out hm3.out).mono ?_); rintro e w6 ⟨rfl, hw6⟩
           have hx6 := hx5.trans hw6)
        | (go_at_call 12; (with_reducible refine (HMK.out M R _ _ _ hx6 hM60 (hR3.out.ex ((hw3.trans hw4).trans (hw5.trans hw6))) hG3.out).mono ?_); rintro e w7 ⟨rfl, hw7⟩
           have hx7 := hx6.trans hw7)
        | (go_at_call 9; (with_reducible refine (HB3.out _ hx7).mono ?_); rintro e w8 ⟨rfl, hw8⟩
           have hx8 := hx7.trans hw8))
      clear HCH HRU HHG HMK HNX HB3 hw1 hw2 hw3 hw4 hw5 hw6 hw7 hw8 hR3 hG3 hm3
      have HCL := Lib.hid fun (a' : Option Addr) (c' n : Nat) (C : Nat → Bool) (w2 : World) (hn : n ≤ 60) (h : ReadsB w2 a' n C) (h2 : a' = none → c' = 0) => by
        have := clone_byts (fl n fun t => bw (C t)) a' c' w2 (by rw [fl_length]; omega) h.reads h2
        rwa [fl_length] at this
      by_cases h0 : la = 0
      · have hb0 : lb = 0 := by omega
        subst h0
        subst hb0
        have HCA := Lib.hid (HCL.out a ca 0 B w8 (by omega) (.inl rfl) hnil)
        have HXn : Hid (X = nx B R2 0 0) := Lib.hid HX.out.symm
        have HGM : Hid (Gen (upB (B) 0 X) R2 0 (0 + 1)) := Lib.hid (Gen.more (Gen.full _ _ _) fun _ => HXn.out)
        have HFL := Lib.hid (fl_upB (B) 0 X)
        have hln := fl_length (0 + 1) fun t => bw (upB (B) 0 X t)
        have hl0 := fl_length 0 fun t => bw ((B) t)
        rw [HXx.out] at HFL
        have HX8 := Lib.hid hx8
        have HMA := Lib.hid fun (a3 : Option Addr) (c3 : Nat) (w2 : World) (k : Ex w w2) (h : ReadsB w2 a3 (0 + 1) (upB (B) 0 X)) => makes_any _ R2 (0 + 1) 0 a3 b c3 cb w2 (by omega) (by omega) h (HA2.out w2 k) true (by simp [HGM.out])
        have HRB : Hid (∀ (w2 : World) (a3 : Option Addr), Reads w2 .u8 a3 (fl (0 + 1) fun t => bw (upB (B) 0 X t)) → ReadsB w2 a3 (0 + 1) (upB (B) 0 X)) := Lib.hid fun w2 a3 h => ReadsB.fl h
        obtain ⟨D, hD⟩ : ∃ D, upB (B) 0 X = D := ⟨_, rfl⟩
        rw [hD] at HFL hln HMA HRB
        obtain ⟨C0, hC0⟩ : ∃ C0, (fl 0 fun t => bw ((B) t)) = C0 := ⟨_, rfl⟩
        rw [hC0] at HFL HCA hl0
        obtain ⟨D0, hD0⟩ : ∃ D0, (fl (0 + 1) fun t => bw (D t)) = D0 := ⟨_, rfl⟩
        rw [hD0] at HFL hln HRB
        clear HGM hD hC0 hx8 hD0
        go_wp2_with (first
          | (go_at_call 13; (with_reducible refine (HCA.out).mono ?_); rintro e w9 ⟨v9, rfl, hrow9, hw9⟩
             have c1 := box_one w9 (.int .u8 x) 5
             have HXw := Lib.hid (hw9.alloc (.cells #[.int .u8 x] 5))
             have HRA := Lib.hid (hrow9.out.ex ((Ex.refl w9).alloc (.cells #[.int .u8 x] 5))))
          | (at_builtin; refine wpList_wanted (by rfl) ?_; refine wpList_append_int rfl _ _ 22 rfl w8.heap.size 5 .u8 1 Try.underlying22 info_byt _ C0 rfl HRA.out x w9.heap.size rfl c1 (by unfold maxLen; omega) (by omega) HXw.out.size ?_
             intro v1 w10 hown10 hgrow10 hat10
             have HX10 := Lib.hid (HRA.out.grown HXw.out hgrow10)
             rw [HFL.out] at hown10
             obtain ⟨a10, c10, rfl, hc10, hrd10⟩ := Row.hands hown10 hln
             clear hown10 hgrow10 hat10 c1)
          | (go_at_call 12; (with_reducible refine (HMA.out _ _ _ (HX8.out.trans HX10.out) (HRB.out _ _ hrd10.out)).mono ?_); rintro e w11 ⟨rfl, hw11⟩))
        go_ret
        exact ⟨rfl, (HX8.out.trans HX10.out).trans hw11⟩
      · rcases HA.out w8 hx8 with h | ⟨g, o, rfl, hcell⟩
        · exact absurd h h0
        obtain ⟨d, hd⟩ : ∃ d, la - lb = d := ⟨_, rfl⟩
        have hdl : la - d = lb := by omega
        by_cases hcd : ca = d
        · have hb0 : lb = 0 := by omega
          subst hb0
          have HCA := Lib.hid (HCL.out (some ⟨g, o, none⟩) 0 0 (fun t => B (d + t)) w8 (by omega) (.inl rfl) (fun h => by cases h))
          have HXn : Hid (X = nx (fun t => B (d + t)) R2 0 0) := Lib.hid (by rw [nx_shift, show d + 0 = la by omega]; exact HX.out.symm)
          obtain rfl : d = la := by omega
          subst hcd
          clear hcell hd hdl
          have HGM : Hid (Gen (upB (fun t => B (ca + t)) 0 X) R2 0 (0 + 1)) := Lib.hid (Gen.more (Gen.full _ _ _) fun _ => HXn.out)
          have HFL := Lib.hid (fl_upB (fun t => B (ca + t)) 0 X)
          have hln := fl_length (0 + 1) fun t => bw (upB (fun t => B (ca + t)) 0 X t)
          have hl0 := fl_length 0 fun t => bw ((fun t => B (ca + t)) t)
          rw [HXx.out] at HFL
          have HX8 := Lib.hid hx8
          have HMA := Lib.hid fun (a3 : Option Addr) (c3 : Nat) (w2 : World) (k : Ex w w2) (h : ReadsB w2 a3 (0 + 1) (upB (fun t => B (ca + t)) 0 X)) => makes_any _ R2 (0 + 1) 0 a3 b c3 cb w2 (by omega) (by omega) h (HA2.out w2 k) true (by simp [HGM.out])
          have HRB : Hid (∀ (w2 : World) (a3 : Option Addr), Reads w2 .u8 a3 (fl (0 + 1) fun t => bw (upB (fun t => B (ca + t)) 0 X t)) → ReadsB w2 a3 (0 + 1) (upB (fun t => B (ca + t)) 0 X)) := Lib.hid fun w2 a3 h => ReadsB.fl h
          obtain ⟨D, hD⟩ : ∃ D, upB (fun t => B (ca + t)) 0 X = D := ⟨_, rfl⟩
          rw [hD] at HFL hln HMA HRB
          obtain ⟨C0, hC0⟩ : ∃ C0, (fl 0 fun t => bw ((fun t => B (ca + t)) t)) = C0 := ⟨_, rfl⟩
          rw [hC0] at HFL HCA hl0
          obtain ⟨D0, hD0⟩ : ∃ D0, (fl (0 + 1) fun t => bw (D t)) = D0 := ⟨_, rfl⟩
          rw [hD0] at HFL hln HRB
          clear HGM hD hC0 hx8 hD0
          go_wp2_with (first
            | (go_at_call 13; (with_reducible refine (HCA.out).mono ?_); rintro e w9 ⟨v9, rfl, hrow9, hw9⟩
               have c1 := box_one w9 (.int .u8 x) 5
               have HXw := Lib.hid (hw9.alloc (.cells #[.int .u8 x] 5))
               have HRA := Lib.hid (hrow9.out.ex ((Ex.refl w9).alloc (.cells #[.int .u8 x] 5))))
            | (at_builtin; refine wpList_wanted (by rfl) ?_; refine wpList_append_int rfl _ _ 22 rfl w8.heap.size 5 .u8 1 Try.underlying22 info_byt _ C0 rfl HRA.out x w9.heap.size rfl c1 (by unfold maxLen; omega) (by omega) HXw.out.size ?_
               intro v1 w10 hown10 hgrow10 hat10
               have HX10 := Lib.hid (HRA.out.grown HXw.out hgrow10)
               rw [HFL.out] at hown10
               obtain ⟨a10, c10, rfl, hc10, hrd10⟩ := Row.hands hown10 hln
               clear hown10 hgrow10 hat10 c1)
            | (go_at_call 12; (with_reducible refine (HMA.out _ _ _ (HX8.out.trans HX10.out) (HRB.out _ _ hrd10.out)).mono ?_); rintro e w11 ⟨rfl, hw11⟩))
          go_ret
          exact ⟨rfl, (HX8.out.trans HX10.out).trans hw11⟩
        · have HCA := Lib.hid (HCL.out (some ⟨g, o + d, none⟩) (ca - d) lb (fun t => B (d + t)) w8 (by omega) (.inr ⟨g, o + d, rfl, fun t ht => by rw [← hcell _ (show d + t < la by omega), Nat.add_assoc]⟩) (fun h => by cases h))
          have HXn : Hid (X = nx (fun t => B (d + t)) R2 lb lb) := Lib.hid (by rw [nx_shift, show d + lb = la by omega]; exact HX.out.symm)
          clear hcell
          have HGM : Hid (Gen (upB (fun t => B (d + t)) lb X) R2 lb (lb + 1)) := Lib.hid (Gen.more (Gen.full _ _ _) fun _ => HXn.out)
          have HFL := Lib.hid (fl_upB (fun t => B (d + t)) lb X)
          have hln := fl_length (lb + 1) fun t => bw (upB (fun t => B (d + t)) lb X t)
          have hl0 := fl_length lb fun t => bw ((fun t => B (d + t)) t)
          rw [HXx.out] at HFL
          have HX8 := Lib.hid hx8
          have HMA := Lib.hid fun (a3 : Option Addr) (c3 : Nat) (w2 : World) (k : Ex w w2) (h : ReadsB w2 a3 (lb + 1) (upB (fun t => B (d + t)) lb X)) => makes_any _ R2 (lb + 1) lb a3 b c3 cb w2 (by omega) (by omega) h (HA2.out w2 k) true (by simp [HGM.out])
          have HRB : Hid (∀ (w2 : World) (a3 : Option Addr), Reads w2 .u8 a3 (fl (lb + 1) fun t => bw (upB (fun t => B (d + t)) lb X t)) → ReadsB w2 a3 (lb + 1) (upB (fun t => B (d + t)) lb X)) := Lib.hid fun w2 a3 h => ReadsB.fl h
          obtain ⟨D, hD⟩ : ∃ D, upB (fun t => B (d + t)) lb X = D := ⟨_, rfl⟩
          rw [hD] at HFL hln HMA HRB
          obtain ⟨C0, hC0⟩ : ∃ C0, (fl lb fun t => bw ((fun t => B (d + t)) t)) = C0 := ⟨_, rfl⟩
          rw [hC0] at HFL HCA hl0
          obtain ⟨D0, hD0⟩ : ∃ D0, (fl (lb + 1) fun t => bw (D t)) = D0 := ⟨_, rfl⟩
          rw [hD0] at HFL hln HRB
          clear HGM hD hC0 hx8 hD0
          go_wp2_with (first
            | (go_at_call 13; (with_reducible refine (HCA.out).mono ?_); rintro e w9 ⟨v9, rfl, hrow9, hw9⟩
               have c1 := box_one w9 (.int .u8 x) 5
               have HXw := Lib.hid (hw9.alloc (.cells #[.int .u8 x] 5))
               have HRA := Lib.hid (hrow9.out.ex ((Ex.refl w9).alloc (.cells #[.int .u8 x] 5))))
            | (at_builtin; refine wpList_wanted (by rfl) ?_; refine wpList_append_int rfl _ _ 22 rfl w8.heap.size 5 .u8 1 Try.underlying22 info_byt _ C0 rfl HRA.out x w9.heap.size rfl c1 (by unfold maxLen; omega) (by omega) HXw.out.size ?_
               intro v1 w10 hown10 hgrow10 hat10
               have HX10 := Lib.hid (HRA.out.grown HXw.out hgrow10)
               rw [HFL.out] at hown10
               obtain ⟨a10, c10, rfl, hc10, hrd10⟩ := Row.hands hown10 hln
               clear hown10 hgrow10 hat10 c1)
            | (go_at_call 12; (with_reducible refine (HMA.out _ _ _ (HX8.out.trans HX10.out) (HRB.out _ _ hrd10.out)).mono ?_); rintro e w11 ⟨rfl, hw11⟩))
          go_ret
          exact ⟨rfl, (HX8.out.trans HX10.out).trans hw11⟩
    · have HNX := Lib.hid (HN.no (w := w) ha hb he)
      have hcase : (myE y = 2 ∧ nxE z y = 2) ∨ (myE y = 1 ∧ nxE z y = 1) ∨ (myE y = 0 ∧ la < lb ∧ nxE z y = 7) := by
        unfold nxE at he ⊢
        rw [if_neg (by simp [hz])] at he ⊢
        rcases myE_three y with h | ⟨_, h⟩ | ⟨_, h⟩
        · rw [if_neg (by simp [h])] at he ⊢
          by_cases h7 : z.length < y.length
          · rw [if_pos h7]; exact .inr (.inr ⟨h, by omega, rfl⟩)
          · rw [if_neg h7] at he; exact absurd rfl he
        · rw [h]; exact .inl ⟨rfl, rfl⟩
        · rw [h]; exact .inr (.inl ⟨rfl, rfl⟩)
      clear HR HN HC ha hb hz hzl hyl hBits hB he hnil
      rcases hcase with ⟨e1, e2⟩ | ⟨e1, e2⟩ | ⟨e1, hlt, e2⟩
      all_goals
        rw [e1] at HB3
        rw [e2] at HNX
        clear e1 e2
        go_enter Try.func3, Try.ntmps3
        go_wp2_with (first
          | (go_at_call 7; (with_reducible refine (HNX.out).mono ?_); rintro e w1 ⟨rfl, hw1⟩)
          | (go_at_call 8; (with_reducible refine (HRU.out _ hw1).mono ?_); rintro e w2 ⟨M, R, a3, c3, rfl, hc3, hR3, hG3, hm3, hw2⟩
             have hx2 := hw1.trans hw2
             have hM60 := Nat.le_trans (hm3.out la (fun _ => false) (Gen.full _ _ _)) h60)
          | (go_at_call 9; (with_reducible refine (HB1.out _ hx2).mono ?_); rintro e w3 ⟨rfl, hw3⟩
             have hx3 := hx2.trans hw3
             clear HB1)
          | (go_at_call 10; (with_reducible refine (HCH.out _ hx3).mono ?_); rintro e w4 ⟨rfl, hw4⟩
             have hx4 := hx3.trans hw4)
          | (go_at_call 9; (with_reducible refine (HBR.out M R _ _ _ hM60 (hR3.out.ex (hw3.trans hw4))).mono ?_); rintro e w5 ⟨rfl, hw5⟩
             have hx5 := hx4.trans hw5
             clear HBR)
          | (go_at_call 11; (with_reducible refine (HHG.out M R _ hx5 hG3.out hm3.out).mono ?_); rintro e w6 ⟨rfl, hw6⟩
             have hx6 := hx5.trans hw6)
          | (go_at_call 12; (with_reducible refine (HMK.out M R _ _ _ hx6 hM60 (hR3.out.ex ((hw3.trans hw4).trans (hw5.trans hw6))) hG3.out).mono ?_); rintro e w7 ⟨rfl, hw7⟩
             have hx7 := hx6.trans hw7)
          | (go_at_call 9; (with_reducible refine (HB3.out _ hx7).mono ?_); rintro e w8 ⟨rfl, hw8⟩
             have hx8 := hx7.trans hw8))
        go_ret
        exact ⟨rfl, hx8⟩
  · have HNX := Lib.hid (HN.no (w := w) ha hb (fun h => hz (nxE_zero.mp h).1))
    have HRN := Lib.hid fun w2 (k : Ex w w2) => HR.no (ha.ex k) hz
    have hnx : nxE z y = myE z := by unfold nxE; rw [if_pos hz]
    rw [hnx] at HNX
    have hcase : myE z = 2 ∨ myE z = 1 := by
      rcases myE_three z with h | ⟨_, h⟩ | ⟨_, h⟩
      · exact absurd h hz
      · exact .inl h
      · exact .inr h
    clear HR HN HC ha hb hzl hyl hnil hnx hz HB3
    rcases hcase with e1 | e1
    all_goals
      rw [e1] at HB1 HNX HRN HCH
      clear e1
      go_enter Try.func3, Try.ntmps3
      go_wp2_with (first
        | (go_at_call 7; (with_reducible refine (HNX.out).mono ?_); rintro e w1 ⟨rfl, hw1⟩)
        | (go_at_call 8; (with_reducible refine (HRN.out _ hw1).mono ?_); rintro e w2 ⟨a3, c3, rfl, hw2⟩
           have hx2 := hw1.trans hw2)
        | (go_at_call 9; (with_reducible refine (HB1.out _ hx2).mono ?_); rintro e w3 ⟨rfl, hw3⟩
           have hx3 := hx2.trans hw3)
        | (go_at_call 10; (with_reducible refine (HCH.out _ hx3).mono ?_); rintro e w4 ⟨rfl, hw4⟩))
      go_ret
      exact ⟨rfl, hx3.trans hw4⟩

end Go.Proofs.Ytebijjigjlcjdaa
