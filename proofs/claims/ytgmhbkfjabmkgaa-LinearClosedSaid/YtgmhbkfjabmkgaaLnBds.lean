/-
  LinearBounds, by contracts.
-/
import Derived.Test.YtgmhbkfjabmkgaaLnKeep
namespace Go.Proofs.Ytgmhbkfjabmkgaa
open Go.RowKit
open Ln

/-- What the bounds say, in the law's words. -/
theorem bounds_of {n d k : Nat} {W : List Nat} (h : Cd n W) (hf : IsFar n W d) (hk : W.length = 2 ^ k) : 1 ≤ k ∧ 1 ≤ d ∧ d ≤ n ∧ d + k ≤ n + 1 ∧ d * (2 ^ k - 1) ≤ n * 2 ^ (k - 1) ∧ gr k d ≤ n := by
  obtain ⟨h1, h2, w, h3, h4, h5⟩ := hf
  have hdn : d ≤ n := by rw [← h5]; exact on_le n w
  have hk1 : 1 ≤ k := by
    rcases Nat.eq_zero_or_pos k with e | e
    · subst e
      rw [Nat.pow_zero] at hk
      exact absurd (far_none h (by omega) w h3) h4
    · exact e
  refine ⟨hk1, h2, hdn, ?_, ?_, h.griesmer h1 (by omega)⟩
  · have := h.singleton h1 h2 hdn
    rw [hk] at this
    have := (Nat.pow_le_pow_iff_right (a := 2) (by decide)).mp this
    omega
  · have h6 := h.plotkin h1
    rw [hk] at h6
    obtain ⟨j, rfl⟩ : ∃ j, k = j + 1 := ⟨k - 1, by omega⟩
    rw [Nat.add_sub_cancel]
    have hp : 1 ≤ 2 ^ j := Nat.pow_pos (by decide)
    rw [Nat.pow_succ] at h6 ⊢
    generalize 2 ^ j = q at h6 hp ⊢
    have e1 : (d : Int) * (((q * 2 : Nat) : Int) - 1) = ((d * (q * 2 - 1) : Nat) : Int) := by rw [Int.natCast_mul d, Int.natCast_sub (by omega)]; rfl
    have e2 : (n : Int) * ((q * 2 : Nat) : Int) = 2 * ((n * q : Nat) : Int) := by rw [← Int.natCast_mul, ← Nat.mul_assoc]; omega
    rw [e1, e2] at h6
    omega

set_option maxRecDepth 100000 in
set_option maxHeartbeats 2000000 in
theorem linearBounds_of (HF : FarC) (HW : WordsC) (HB : BaseC) (n : Int) (a : Option Addr) (la ca : Nat) (z : List Int) (w : World) (hn : I64 n) (ha : IsInts .u16 2 w a la ca z) :
    Calls Try.prog 6 #[.int .i64 n, .slice a la ca] w (Says (.bool true) w) := by
  have HY := Lib.hid fun w => fars_yes HF HW HB w
  by_cases h0 : lnE n z = 0
  · obtain ⟨m, l, rfl, hm, hl, m1, m12, hlL, la6, hac, hcb, hlt, hz, hr⟩ := ln_in ha h0
    have hW64 := cw_64 hlL la6 hlt
    have hcd := cw_cd hlt
    have hwo := bs_words hcd (show m ≤ 16 by omega)
    obtain ⟨bx, hbx⟩ : ∃ xs, il (bs (cw m l)) = xs := ⟨_, rfl⟩
    obtain ⟨B, hB⟩ : ∃ B, bx.length = B := ⟨_, rfl⟩
    have hB2 : (bs (cw m l)).length = B := by rw [← hB, ← hbx, il_length]
    have HBA := Lib.hid fun w2 (k : Ex w w2) => HB.ok (xs := bx) (M := B) m1 m12 hlL la6 hac hcb hlt hbx hB (hr.ex k)
    rw [hB2] at hwo
    by_cases h1 : (cw m l).length ≤ 1
    · have HFA := Lib.hid fun w2 (k : Ex w w2) => HF.one m1 m12 hlL la6 hac hcb hlt h1 (hr.ex k)
      clear ha hn HF HW HB h0 hm hl hlt hz hr hcd hwo hbx hB hB2 hlL h1 hW64
      go_enter Try.func6, Try.ntmps6
      go_wp2_with (first
        | (go_at_call 28; (with_reducible refine (HY.out _).mono ?_); rintro e w0 ⟨rfl, hw0⟩)
        | (go_at_call 13; (with_reducible refine (HFA.out _ hw0).mono ?_); rintro e w1 ⟨rfl, hw1⟩
           have hx1 := hw0.trans hw1)
        | (go_at_call 11; (with_reducible refine (HBA.out _ hx1).mono ?_); rintro e w2 ⟨a2, c2, rfl, hc2, hR2, hw2⟩))
      go_ret
      exact ⟨rfl, hx1.trans hw2⟩
    · obtain ⟨d, hd⟩ := far_some hcd (by omega)
      have HFA := Lib.hid fun w2 (k : Ex w w2) => HF.ok m1 m12 hlL la6 hac hcb hlt hd (hr.ex k)
      obtain ⟨b1, b2, b3, b4, b5, b6⟩ := bounds_of hcd hd hwo
      have hB6 : B ≤ 6 := by
        rw [hwo] at hW64
        exact (Nat.pow_le_pow_iff_right (a := 2) (by decide)).mp hW64
      obtain ⟨N, hN⟩ : ∃ N, 2 ^ B = N := ⟨_, rfl⟩
      obtain ⟨Q, hQ⟩ : ∃ Q, 2 ^ (B - 1) = Q := ⟨_, rfl⟩
      have hN64 : N ≤ 64 := by rw [← hN]; exact Nat.le_trans (Nat.pow_le_pow_right (n := 2) (by decide) hB6) (by decide)
      have hQ64 : Q ≤ 32 := by rw [← hQ]; exact Nat.le_trans (Nat.pow_le_pow_right (n := 2) (by decide) (show B - 1 ≤ 5 by omega)) (by decide)
      have hN1 : 1 ≤ N := by rw [← hN]; exact Nat.pow_pos (by decide)
      have hs1 : wrap64 ((2 : Int) ^ B) = (N : Int) := shl_nat hN (by omega)
      have hs2 : (2 : Int) ^ (B - 1) = (Q : Int) := by rw [← hQ, Int.natCast_pow]; rfl
      rw [hN, hQ] at b5
      have HGR := Lib.hid b6
      clear ha hn HF HW HB h0 hm hl hlt hz hr hcd hwo hbx hB hB2 hlL h1 hW64 hd hN hQ b6
      go_enter Try.func6, Try.ntmps6
      go_upto_region 8 with (first
        | (go_at_call 28; (with_reducible refine (HY.out _).mono ?_); rintro e w0 ⟨rfl, hw0⟩)
        | (go_at_call 13; (with_reducible refine (HFA.out _ hw0).mono ?_); rintro e w1 ⟨rfl, hw1⟩
           have hx1 := hw0.trans hw1)
        | (go_at_call 11; (with_reducible refine (HBA.out _ hx1).mono ?_); rintro e w2 ⟨a2, c2, rfl, hc2, hR2, hw2⟩
           have hx2 := hx1.trans hw2))
      have z1 : decide ((B : Int) < 1) = false := decide_eq_false (by omega)
      have z2 : decide ((d : Int) < 1) = false := decide_eq_false (by omega)
      have z3 : decide ((m : Int) - (B : Int) + 1 < (d : Int)) = false := decide_eq_false (by omega)
      have z4 : decide (wrap64 ((m : Int) * (Q : Int)) < wrap64 ((d : Int) * ((N : Int) - 1))) = false := decide_eq_false (by
        have e1 : (d : Int) * ((N : Int) - 1) = ((d * (N - 1) : Nat) : Int) := by rw [Int.natCast_mul d, Int.natCast_sub (by omega)]; rfl
        have e2 : (m : Int) * (Q : Int) = ((m * Q : Nat) : Int) := (Int.natCast_mul m Q).symm
        have u1 : m * Q ≤ 12 * 32 := Nat.mul_le_mul (by omega) hQ64
        rw [e1, e2, IntWalk.wrap64_in _ (by omega), IntWalk.wrap64_in _ (by omega)]
        omega)
      clear b5
      refine wp_region_wo (by kernel_rfl) (by kernel_rfl) ?_
      repeat (go_big_quiet_step (fail))
      refine wpQuiet_nil ?_
      rintro _ ⟨⟨w3, hw3⟩, rfl⟩
      have HX3 := Lib.hid (hx2.trans hw3)
      go_wp2
      go_loopg [10, 11, 65] B (fun k v10 v11 v65 wr => ∃ i s p : Nat, i ≤ B ∧ s ≤ 12 ∧ p ≤ 12 ∧ v10 = .int .i64 (s : Int) ∧ v11 = .int .i64 (p : Int) ∧ v65 = .int .i64 (i : Int) ∧ Hid (s + gr (B - i) p = gr B d) ∧ Hid (k = B - i) ∧ Ex w wr)
      case atStart => exact ⟨0, 0, d, by omega, by omega, by omega, rfl, rfl, rfl, Lib.hid (by rw [Nat.zero_add]; rfl), Lib.hid rfl, HX3.out⟩
      case round =>
        obtain ⟨i, s, p, hi, hs, hp, rfl, rfl, rfl, hg, hk, hx⟩ := hrel
        by_cases hlt : i < B
        · have hst : Hid (s + p + gr (B - (i + 1)) ((p + 1) / 2) = gr B d) := Lib.hid (by
            have := hg.out
            rw [show B - i = B - (i + 1) + 1 by omega, gr] at this
            omega)
          have hle : s + p ≤ 12 := by have := hst.out; have := HGR.out; omega
          go_wp2
          go_roundg (B - (i + 1))
          case measure => have := hk.out; omega
          case rel => exact ⟨i + 1, s + p, (p + 1) / 2, by omega, hle, by omega, by go_num, congrArg (Value.int .i64) (by omega), by go_num, hst, Lib.hid rfl, hx⟩
        · have e : i = B := by omega
          subst e
          have hsn : s ≤ m := by
            have := hg.out
            have := HGR.out
            omega
          go_wp2
          go_ret
          exact ⟨by simp, hx⟩
  · have HF1 := Lib.hid fun w2 (k : Ex w w2) => HF.no (ha.ex k) (wf_int hn) h0
    have HB1 := Lib.hid fun w2 (k : Ex w w2) => HB.no (ha.ex k) (wf_int hn) h0
    obtain ⟨t, ht⟩ : ∃ t, lnE n z = t := ⟨_, rfl⟩
    rw [ht] at HF1 HB1 h0
    have q2 : (t != 0) = true := by simpa using h0
    clear ha hn HF HW HB ht h0
    go_enter Try.func6, Try.ntmps6
    go_wp2_with (first
      | (go_at_call 28; (with_reducible refine (HY.out _).mono ?_); rintro e w0 ⟨rfl, hw0⟩)
      | (go_at_call 13; (with_reducible refine (HF1.out _ hw0).mono ?_); rintro e w1 ⟨rfl, hw1⟩
         have hx1 := hw0.trans hw1)
      | (go_at_call 11; (with_reducible refine (HB1.out _ hx1).mono ?_); rintro e w2 ⟨a2, c2, rfl, hw2⟩))
    go_ret
    exact ⟨rfl, hx1.trans hw2⟩

end Go.Proofs.Ytgmhbkfjabmkgaa
