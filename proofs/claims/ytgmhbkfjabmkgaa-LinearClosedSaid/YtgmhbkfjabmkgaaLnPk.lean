/-
  LinearPacked, by contracts.
-/
import Derived.Test.YtgmhbkfjabmkgaaLnKeep
import Derived.Test.YtgmhbkfjabmkgaaGma
namespace Go.Proofs.Ytgmhbkfjabmkgaa
open Go.RowKit
open Ln Dd Rs Bi

/-- So many words differ from one in fewer than i places. -/
def pk (n i : Nat) : Int := sm (fun i => ((ch n i : Nat) : Int)) (List.range i)
theorem pk_zero (n : Nat) : pk n 0 = 0 := rfl
theorem pk_step (n i : Nat) : pk n (i + 1) = pk n i + ((ch n i : Nat) : Int) := by
  unfold pk
  rw [List.range_succ, sm_append]
  simp [sm]
theorem pk_bound {n : Nat} (hn : n ≤ 60) : ∀ i, 0 ≤ pk n i ∧ pk n i ≤ (i : Int) * 118264581564861424 := by
  intro i
  induction i with
  | zero => rw [pk_zero]; exact ⟨Int.le_refl _, by omega⟩
  | succ i ih =>
    have := ch_bound (n := n) (k := i) hn
    rw [pk_step]
    omega

set_option maxRecDepth 100000 in
set_option maxHeartbeats 2000000 in
theorem linearPacked_of (HF : FarC) (HW : WordsC) (HB : BaseC) (n : Int) (a : Option Addr) (la ca : Nat) (z : List Int) (w : World) (hn : I64 n) (ha : IsInts .u16 2 w a la ca z) :
    Calls Try.prog 7 #[.int .i64 n, .slice a la ca] w (Says (.bool true) w) := by
  have HY := Lib.hid fun w => fars_yes HF HW HB w
  by_cases h0 : lnE n z = 0
  · obtain ⟨m, l, rfl, hm, hl, m1, m12, hlL, la6, hac, hcb, hlt, hz, hr⟩ := ln_in ha h0
    have hW64 := cw_64 hlL la6 hlt
    have hcd := cw_cd hlt
    obtain ⟨N, hN⟩ : ∃ N, (il (cw m l)).length = N := ⟨_, rfl⟩
    have hN2 : (cw m l).length = N := by rw [← hN, il_length]
    have HWO := Lib.hid fun w2 (k : Ex w w2) => HW.ok (xs := il (cw m l)) (M := N) m1 m12 hlL la6 hac hcb hlt rfl hN (hr.ex k)
    by_cases h1 : (cw m l).length ≤ 1
    · have HFA := Lib.hid fun w2 (k : Ex w w2) => HF.one m1 m12 hlL la6 hac hcb hlt h1 (hr.ex k)
      clear ha hn HF HW HB h0 hm hl hlt hz hr hcd hN hN2 hlL h1 hW64
      go_enter Try.func7, Try.ntmps7
      go_wp2_with (first
        | (go_at_call 28; (with_reducible refine (HY.out _).mono ?_); rintro e w0 ⟨rfl, hw0⟩)
        | (go_at_call 13; (with_reducible refine (HFA.out _ hw0).mono ?_); rintro e w1 ⟨rfl, hw1⟩
           have hx1 := hw0.trans hw1)
        | (go_at_call 10; (with_reducible refine (HWO.out _ hx1).mono ?_); rintro e w2 ⟨a2, c2, rfl, hc2, hR2, hw2⟩))
      go_ret
      exact ⟨rfl, hx1.trans hw2⟩
    · obtain ⟨d, hd⟩ := far_some hcd (by omega)
      have HFA := Lib.hid fun w2 (k : Ex w w2) => HF.ok m1 m12 hlL la6 hac hcb hlt hd (hr.ex k)
      have hdm : d ≤ m := by
        obtain ⟨_, _, wd, _, _, h5⟩ := hd
        rw [← h5]; exact on_le m wd
      have hd1 := hd.2.1
      obtain ⟨t, ht⟩ : ∃ t, (d - 1) / 2 = t := ⟨_, rfl⟩
      have hpk := hcd.packed hd.1 (t := t) (by omega)
      rw [hN2] at hpk
      obtain ⟨Q, hQ⟩ : ∃ Q, 2 ^ m = Q := ⟨_, rfl⟩
      rw [hQ] at hpk
      have hQ2 : Q ≤ 4096 := by rw [← hQ]; exact Nat.le_trans (Nat.pow_le_pow_right (n := 2) (by decide) m12) (by decide)
      have HSH := Lib.hid (shl_nat hQ (by omega))
      have HPK : Hid ((N : Int) * pk m (t + 1) ≤ (Q : Int)) := hpk
      have HN0 : Hid (0 ≤ (N : Int) * pk m (t + 1)) := Lib.hid (Int.mul_nonneg (by omega) (pk_bound (by omega) _).1)
      have HT : Hid (((d : Int) - 1) / 2 = (t : Int)) := Lib.hid (by omega)
      clear ha hn HF HW HB h0 hm hl hlt hz hr hcd hN hN2 hlL h1 hd hpk hQ
      go_enter Try.func7, Try.ntmps7
      go_wp2_with (first
        | (go_at_call 28; (with_reducible refine (HY.out _).mono ?_); rintro e w0 ⟨rfl, hw0⟩)
        | (go_at_call 13; (with_reducible refine (HFA.out _ hw0).mono ?_); rintro e w1 ⟨rfl, hw1⟩
           have hx1 := hw0.trans hw1)
        | (go_at_call 10; (with_reducible refine (HWO.out _ hx1).mono ?_); rintro e w2 ⟨a2, c2, rfl, hc2, hR2, hw2⟩
           have hx2 := hx1.trans hw2))
      go_loopg [9, 10, 38] (t + 1) (fun k v9 v10 v38 wr => ∃ (i : Nat) (s p : Int), i ≤ t + 1 ∧ v9 = .int .i64 s ∧ v10 = .int .i64 p ∧ v38 = .int .i64 (i : Int) ∧ Hid (s = pk m i) ∧ Hid (p = ((ch m i : Nat) : Int)) ∧ Hid (k = t + 1 - i) ∧ w2 = wr)
      case atStart => exact ⟨0, 0, 1, by omega, rfl, rfl, rfl, Lib.hid rfl, Lib.hid (by cases m <;> rfl), Lib.hid rfl, rfl⟩
      case round =>
        obtain ⟨i, s, p, hi, rfl, rfl, rfl, hs, hp, hk, rfl⟩ := hrel
        by_cases hlt : i < t + 1
        · have g1 : decide ((i : Int) < ((d : Int) - 1) / 2 + 1) = true := decide_eq_true (by rw [HT.out]; omega)
          have him : i ≤ m := by omega
          have b1 := pk_bound (n := m) (by omega) i
          have b2 := ch_bound (n := m) (k := i) (by omega)
          have b3 := ch_prod (n := m) (i := i) (by omega) him
          have b4 := ch_div him
          rw [← hp.out] at b3 b4
          have b5 : 0 ≤ s ∧ s ≤ 1000000000000000000 := by
            rw [hs.out]
            have : (i : Int) ≤ 8 := by omega
            exact ⟨b1.1, by omega⟩
          have b6 : 0 ≤ p ∧ p ≤ 118264581564861424 := by rw [hp.out]; omega
          have HS1 : Hid (s + p = pk m (i + 1)) := Lib.hid (by rw [pk_step, hs.out, hp.out])
          have HP1 := Lib.hid b4
          clear b1 b2 b4
          go_wp2
          go_roundg (t + 1 - (i + 1))
          case measure => have := hk.out; omega
          case rel => exact ⟨i + 1, s + p, _, by omega, by go_num, rfl, by go_num, HS1, Lib.hid (by rw [← HP1.out]), Lib.hid rfl, rfl⟩
        · have e : i = t + 1 := by omega
          have g1 : decide ((i : Int) < ((d : Int) - 1) / 2 + 1) = false := decide_eq_false (by rw [HT.out]; omega)
          have b1 := HPK.out
          have b2 := HN0.out
          rw [← e, ← hs.out] at b1 b2
          obtain ⟨X, hX⟩ : ∃ X, (N : Int) * s = X := ⟨_, rfl⟩
          have hXw : wrap64 ((N : Int) * s) = X := by rw [hX]; rw [hX] at b1 b2; exact IntWalk.wrap64_in _ (by omega)
          have g2 : decide (wrap64 ((N : Int) * s) ≤ wrap64 (2 ^ m)) = true := decide_eq_true (by rw [hXw, HSH.out, ← hX]; exact b1)
          clear hXw hX b1 b2
          go_wp2
          go_ret
          exact ⟨by simp, hx2⟩
  · have HF1 := Lib.hid fun w2 (k : Ex w w2) => HF.no (ha.ex k) (wf_int hn) h0
    have HB1 := Lib.hid fun w2 (k : Ex w w2) => HW.no (ha.ex k) (wf_int hn) h0
    obtain ⟨t, ht⟩ : ∃ t, lnE n z = t := ⟨_, rfl⟩
    rw [ht] at HF1 HB1 h0
    have q2 : (t != 0) = true := by simpa using h0
    clear ha hn HF HW HB ht h0
    go_enter Try.func7, Try.ntmps7
    go_wp2_with (first
      | (go_at_call 28; (with_reducible refine (HY.out _).mono ?_); rintro e w0 ⟨rfl, hw0⟩)
      | (go_at_call 13; (with_reducible refine (HF1.out _ hw0).mono ?_); rintro e w1 ⟨rfl, hw1⟩
         have hx1 := hw0.trans hw1)
      | (go_at_call 10; (with_reducible refine (HB1.out _ hx1).mono ?_); rintro e w2 ⟨a2, c2, rfl, hw2⟩))
    go_ret
    exact ⟨rfl, hx1.trans hw2⟩

end Go.Proofs.Ytgmhbkfjabmkgaa
