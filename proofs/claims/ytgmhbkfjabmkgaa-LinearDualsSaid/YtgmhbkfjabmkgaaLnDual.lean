/-
  LinearDual, by contracts.
-/
import Derived.Test.YtgmhbkfjabmkgaaLnWds
import Derived.Test.YtgmhbkfjabmkgaaLnCr
import Derived.Test.YtgmhbkfjabmkgaaWordIn
namespace Go.Proofs.Ytgmhbkfjabmkgaa
open Go.RowKit
open Ln

theorem cw_small {n : Nat} {l : List Nat} (h12 : n ≤ 12) (hl : ∀ x ∈ l, x < 2 ^ n) : ∀ x ∈ cw n l, x < 65536 := fun x hx => by
  have := (cw_cd hl).lt x hx
  have : 2 ^ n ≤ 2 ^ 12 := Nat.pow_le_pow_right (by decide) h12
  omega
theorem cw_64 {n L : Nat} {l : List Nat} (hL : l.length = L) (h6 : L ≤ 6) (hl : ∀ x ∈ l, x < 2 ^ n) : (cw n l).length ≤ 64 := by
  have := cw_le hl
  rw [hL] at this
  exact Nat.le_trans this (Nat.le_trans (Nat.pow_le_pow_right (n := 2) (by decide) h6) (by decide))
theorem du_small {n : Nat} (h12 : n ≤ 12) (W : List Nat) : (∀ x ∈ du n W, x < 65536) ∧ (du n W).length ≤ 4096 := by
  have h : 2 ^ n ≤ 2 ^ 12 := Nat.pow_le_pow_right (by decide) h12
  constructor
  · intro x hx
    have := (mem_du.mp hx).1
    omega
  · have := List.length_filter_le (Ev n W) (List.range (2 ^ n))
    rw [List.length_range] at this
    unfold du
    omega

set_option maxRecDepth 100000 in
set_option maxHeartbeats 2000000 in
theorem linearDual_of (HD : DualC) (n : Int) (a : Option Addr) (la ca : Nat) (z : List Int) (w : World) (hn : I64 n) (ha : IsInts .u16 2 w a la ca z) :
    Calls Try.prog 4 #[.int .i64 n, .slice a la ca] w (Says (.bool true) w) := by
  have HWE := Lib.hid fun w2 (k : Ex w w2) => wordErr_any (ha.ex k) hn
  by_cases h0 : lnE n z = 0
  · rw [h0] at HWE
    by_cases h1 : duE n z = 0
    · obtain ⟨m, l, rfl, hm, hl, m1, m12, hlL, la6, hac, hcb, hlt, hz, hr⟩ := ln_in ha h0
      have hdu : (m : Int) - ((bs (cw m l)).length : Int) ≤ 6 := by
        unfold duE at h1
        rw [if_neg (by simpa using h0), Int.toNat_natCast, ← hl] at h1
        by_cases h : 6 < (m : Int) - ((bs (cw m l)).length : Int)
        · rw [if_pos h] at h1; cases h1
        · omega
      have hW := cw_small m12 hlt
      have hW64 := cw_64 hlL la6 hlt
      obtain ⟨hD1, hD2⟩ := du_small m12 (cw m l)
      have hB12 := bs_le (cw_cd hlt) (show m ≤ 16 by omega)
      obtain ⟨W, hWW⟩ : ∃ W, cw m l = W := ⟨_, rfl⟩
      obtain ⟨xs, hxs⟩ : ∃ xs, il (bs (du m W)) = xs := ⟨_, rfl⟩
      obtain ⟨M, hM⟩ : ∃ M, xs.length = M := ⟨_, rfl⟩
      obtain ⟨N, hN⟩ : ∃ N, (il W).length = N := ⟨_, rfl⟩
      obtain ⟨B, hB⟩ : ∃ B, (il (bs W)).length = B := ⟨_, rfl⟩
      obtain ⟨D, hD⟩ : ∃ D, (il (du m W)).length = D := ⟨_, rfl⟩
      rw [hWW] at hdu hW hW64 hD1 hD2 hB12
      have hN2 : W.length = N := by rw [← hN, il_length]
      have hDl : (du m W).length = D := by rw [← hD, il_length]
      have hB2 : (bs W).length = B := by rw [← hB, il_length]
      have hMm : M ≤ 12 := by
        rw [← hM, ← hxs, il_length]
        have := bs_le (du_cd m W) (by omega)
        omega
      rw [hB2] at hdu hB12
      have HDU := Lib.hid (HD.ok (xs := xs) (M := M) m1 m12 hlL la6 hac hcb hlt (by rw [hWW, hB2]; omega) (by rw [hWW]; exact hxs) hM hr)
      have HAW := Lib.hid fun w2 (k : Ex w w2) => allWords_any (n := m) (ca := ca) m12 hlL la6 hlt (by rw [hWW]) hN (hr.ex k)
      have HB1 := Lib.hid fun w2 a2 c2 (h : Reads w2 .u16 a2 (il W)) => baseOf_any (ca := c2) hN2 (by omega) hW rfl hB h
      have HCR := Lib.hid fun w2 a2 c2 (h : Reads w2 .u16 a2 (il W)) => crosswise_any (ca := c2) m12 hN2 (by omega) hW rfl hD h
      have HB2 := Lib.hid fun w2 a2 c2 (h : Reads w2 .u16 a2 (il (du m W))) => baseOf_any (ca := c2) hDl (by omega) hD1 hxs hM h
      have HSA := Lib.hid fun w2 a2 c2 a3 c3 (h : Reads w2 .u16 a2 xs) (k : Reads w2 .u16 a3 xs) => word_same (ca := c2) (cb := c3) hM hM (by unfold maxLen; omega) (by unfold maxLen; omega) h k true (by simp)
      have g1 : decide (6 < (m : Int) - (B : Int)) = false := decide_eq_false (by omega)
      clear ha hn HD h0 h1 hm hl hlt hz hr hW hD1 hWW hxs hM hN hB hD hN2 hDl hB2 hlL
      go_enter Try.func4, Try.ntmps4
      go_wp2_with (first
        | (go_at_call 22; (with_reducible refine (HDU.out).mono ?_); rintro e w1 ⟨a1, c1, rfl, hc1, hR1, hw1⟩)
        | (go_at_call 14; (with_reducible refine (HWE.out _ hw1).mono ?_); rintro e w2 ⟨rfl, hw2⟩
           have hx2 := hw1.trans hw2)
        | (go_at_call 16; (with_reducible refine (HAW.out _ hx2).mono ?_); rintro e w3 ⟨a3, c3, rfl, hc3, hR3, hw3⟩)
        | (go_at_call 20; (with_reducible refine (HB1.out _ _ _ hR3.out).mono ?_); rintro e w4 ⟨a4, c4, rfl, hc4, hR4, hw4⟩
           have HR34 := Lib.hid (hR3.out.ex hw4)
           clear HB1)
        | (go_at_call 23; (with_reducible refine (HCR.out _ _ _ HR34.out).mono ?_); rintro e w5 ⟨a5, c5, rfl, hc5, hR5, hw5⟩)
        | (go_at_call 20; (with_reducible refine (HB2.out _ _ _ hR5.out).mono ?_); rintro e w6 ⟨a6, c6, rfl, hc6, hR6, hw6⟩
           have HR16 := Lib.hid (hR1.out.ex ((((hw2.trans hw3).trans hw4).trans hw5).trans hw6)))
        | (go_at_call 19; (with_reducible refine (HSA.out _ _ _ _ _ HR16.out hR6.out).mono ?_); rintro e w7 ⟨rfl, hw7⟩))
      go_ret
      exact ⟨rfl, (((((hx2.trans hw3).trans hw4).trans hw5).trans hw6).trans hw7)⟩
    · have HDN := Lib.hid (HD.no ha (wf_int hn) h1)
      obtain ⟨m, l, rfl, hm, hl, m1, m12, hlL, la6, hac, hcb, hlt, hz, hr⟩ := ln_in ha h0
      have he : duE (m : Int) z = 2 := by
        unfold duE at h1 ⊢
        rw [if_neg (by simpa using h0)] at h1 ⊢
        split at h1
        · rename_i h; rw [if_pos h]
        · exact absurd rfl h1
      have hdu : 6 < (m : Int) - ((bs (cw m l)).length : Int) := by
        unfold duE at he
        rw [if_neg (by simpa using h0), Int.toNat_natCast, ← hl] at he
        split at he
        · assumption
        · cases he
      rw [he] at HDN
      have hW := cw_small m12 hlt
      have hW64 := cw_64 hlL la6 hlt
      have hB12 := bs_le (cw_cd hlt) (show m ≤ 16 by omega)
      obtain ⟨W, hWW⟩ : ∃ W, cw m l = W := ⟨_, rfl⟩
      obtain ⟨N, hN⟩ : ∃ N, (il W).length = N := ⟨_, rfl⟩
      obtain ⟨B, hB⟩ : ∃ B, (il (bs W)).length = B := ⟨_, rfl⟩
      rw [hWW] at hdu hW hW64 hB12
      have hN2 : W.length = N := by rw [← hN, il_length]
      have hB2 : (bs W).length = B := by rw [← hB, il_length]
      rw [hB2] at hdu hB12
      have HAW := Lib.hid fun w2 (k : Ex w w2) => allWords_any (n := m) (ca := ca) m12 hlL la6 hlt (by rw [hWW]) hN (hr.ex k)
      have HB1 := Lib.hid fun w2 a2 c2 (h : Reads w2 .u16 a2 (il W)) => baseOf_any (ca := c2) hN2 (by omega) hW rfl hB h
      have g1 : decide (6 < (m : Int) - (B : Int)) = true := decide_eq_true (by omega)
      clear ha hn HD h0 h1 he hm hl hlt hz hr hW hWW hN hB hN2 hB2 hlL
      go_enter Try.func4, Try.ntmps4
      go_wp2_with (first
        | (go_at_call 22; (with_reducible refine (HDN.out).mono ?_); rintro e w1 ⟨a1, c1, rfl, hw1⟩)
        | (go_at_call 14; (with_reducible refine (HWE.out _ hw1).mono ?_); rintro e w2 ⟨rfl, hw2⟩
           have hx2 := hw1.trans hw2)
        | (go_at_call 16; (with_reducible refine (HAW.out _ hx2).mono ?_); rintro e w3 ⟨a3, c3, rfl, hc3, hR3, hw3⟩)
        | (go_at_call 20; (with_reducible refine (HB1.out _ _ _ hR3.out).mono ?_); rintro e w4 ⟨a4, c4, rfl, hc4, hR4, hw4⟩))
      go_ret
      exact ⟨rfl, (hx2.trans hw3).trans hw4⟩
  · have he : duE n z = lnE n z := by unfold duE; rw [if_pos h0]
    have HDN := Lib.hid (HD.no ha (wf_int hn) (by rw [he]; exact h0))
    rw [he] at HDN
    obtain ⟨t, ht⟩ : ∃ t, lnE n z = t := ⟨_, rfl⟩
    rw [ht] at HDN HWE h0
    have q2 : (t != 0) = true := by simpa using h0
    clear ha hn HD he ht h0
    go_enter Try.func4, Try.ntmps4
    go_wp2_with (first
      | (go_at_call 22; (with_reducible refine (HDN.out).mono ?_); rintro e w1 ⟨a1, c1, rfl, hw1⟩)
      | (go_at_call 14; (with_reducible refine (HWE.out _ hw1).mono ?_); rintro e w2 ⟨rfl, hw2⟩))
    go_ret
    exact ⟨by simp, hw1.trans hw2⟩

end Go.Proofs.Ytgmhbkfjabmkgaa
