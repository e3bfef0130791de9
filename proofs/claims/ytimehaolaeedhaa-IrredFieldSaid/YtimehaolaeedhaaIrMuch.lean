/-
  IrredMany, walked.
-/
import Derived.Test.YtimehaolaeedhaaIrRef
import Derived.Test.YtimehaolaeedhaaGpb
namespace Go.Proofs.Ytimehaolaeedhaa
open Go.RowKit
open Pr Po

theorem ir_one {q : Nat} (hp : Prm q) : ((ir q 1).length : Int) = q := by
  have h := irF_sum hp (d := 1) (by omega)
  rw [show Dd.dv 1 = [1] by decide, Int.pow_succ, Int.pow_zero] at h
  simp only [Dd.sm, irF] at h
  omega
theorem ir_two_three : ((ir 2 3).length : Int) = 2 := by
  have hp : Prm ((2 : Nat) : Int) := (pb_iff 2).mp (by decide)
  have h := irF_sum hp (d := 3) (by omega)
  have h1 := ir_one hp
  rw [show Dd.dv 3 = [1, 3] by decide] at h
  simp only [Dd.sm, irF] at h
  omega

theorem cmE_two {p : Int} {n : Nat} (hp : Prm p) (p9 : p ≤ 997) (n1 : 1 ≤ n) (n4 : n < 40) : cmE p n = 0 ∨ cmE p n = 2 := by
  unfold cmE
  rw [if_neg (by rw [fieldE_zero.mpr ⟨hp, p9⟩]; decide), if_neg (by omega)]
  exact pwE_two _ _

theorem count_23 (w : World) : Calls Try.prog 9 #[.int .i64 2, .int .i64 3] w (Says (.tuple #[.int .i64 2, .int .i64 0]) w) := by
  have hp : Prm ((2 : Nat) : Int) := (pb_iff 2).mp (by decide)
  have := count_ok 2 2 3 w rfl (cmE_zero.mpr ⟨hp, by omega, by omega, by omega, by decide⟩)
  rw [ir_two_three] at this
  exact this

set_option maxRecDepth 100000 in
set_option maxHeartbeats 2000000 in
theorem irredMany_walk (n k : Int) (w : World) (_ : I64 n) (hk : I64 k) : Calls Try.prog 5 #[.int .i64 n, .int .i64 k] w (Says (.bool true) w) := by
  obtain ⟨p, hp, p9, hfo⟩ := fieldOf_some n
  have p2 := hp.1
  obtain ⟨q, hq⟩ : ∃ q : Nat, (q : Int) = p := ⟨p.toNat, by omega⟩
  obtain ⟨hk0, hk1⟩ := hk
  have HW := Lib.hid fun w2 => within_any k 6 w2 (by omega) (by omega)
  obtain ⟨T, ht⟩ : ∃ T : Nat, k % 6 = (T : Int) := ⟨(k % 6).toNat, by omega⟩
  have T5 : T ≤ 5 := by omega
  obtain ⟨K, hK⟩ : ∃ K : Nat, T + 1 = K := ⟨_, rfl⟩
  have K1 : 1 ≤ K := by omega
  have K6 : K ≤ 6 := by omega
  rw [ht] at HW
  have HC0 := Lib.hid count_23
  have HPO := Lib.hid polys_yes
  have HFO := Lib.hid hfo
  clear hk0 hk1 ht
  by_cases hE : cmE p K = 0
  · have hle := (cmE_zero.mp hE).2.2.2.2
    rw [Int.toNat_natCast] at hle
    have HCD : Hid (∀ d : Nat, 1 ≤ d → d ≤ K → ∀ (x : Int) (w2 : World), x = d → Calls Try.prog 9 #[.int .i64 p, .int .i64 x] w2 (Says (.tuple #[.int .i64 ((ir q d).length : Int), .int .i64 0]) w2)) := Lib.hid fun d d1 d2 x w2 hx => by
      subst hx
      refine count_ok p q d w2 hq (cmE_zero.mpr ⟨hp, p9, by omega, by omega, ?_⟩)
      rw [Int.toNat_natCast]
      have := pow_grows (p := p) (by omega) d2
      omega
    have HG : Hid (∀ d, d ≤ K → 1 ≤ p ^ d ∧ p ^ d ≤ 1000000) := Lib.hid fun d hd => by
      have h1 := pow_grows (p := p) (by omega) hd
      have h2 := Int.pow_pos (n := p) (m := d) (by omega)
      omega
    have HN : Hid (∀ d, 1 ≤ d → d ≤ K → 1 ≤ ((ir q d).length : Int) ∧ ((ir q d).length : Int) ≤ 1000000) := Lib.hid fun d d1 d2 => by
      subst hq
      have h1 := ir_some hp d1
      have h4 := irF_bound hp d1
      have h5 := HG.out d d2
      unfold irF at h4
      have h6 := Int.mul_le_mul_of_nonneg_right (show (1 : Int) ≤ d by omega) (show (0 : Int) ≤ ((ir q d).length : Int) by omega)
      omega
    have HFB : Hid (∀ d, 1 ≤ d → d ≤ K → (d : Int) * ((ir q d).length : Int) ≤ 1000000) := Lib.hid fun d d1 d2 => by
      subst hq
      have h4 := irF_bound hp d1
      have h5 := HG.out d d2
      unfold irF at h4
      omega
    have HPY : Hid (∀ i, K % (i + 1) = 0 → part (irF q) (i + 1) K = part (irF q) i K + ((i + 1 : Nat) : Int) * ((ir q (i + 1)).length : Int)) := Lib.hid fun i h => part_yes (irF q) K1 h
    have HPN : Hid (∀ i, K % (i + 1) ≠ 0 → part (irF q) (i + 1) K = part (irF q) i K) := Lib.hid fun i h => part_no (irF q) K1 h
    have HP0 : Hid (part (irF q) 0 K = 0) := Lib.hid (part_zero (irF q) K1)
    have HPA : Hid (part (irF q) K K = p ^ K) := Lib.hid (by rw [part_all (irF q) K1 (Nat.le_refl _)]; subst hq; exact irF_sum hp K1)
    have HS := Lib.hid fun i => Int.pow_succ p i
    have H0 : Hid (p ^ 0 = 1) := Lib.hid (Int.pow_zero _)
    obtain ⟨M, hM⟩ : ∃ M : Nat → Int, (fun d => ((ir q d).length : Int)) = M := ⟨_, rfl⟩
    have eM : ∀ d, ((ir q d).length : Int) = M d := fun d => congrFun hM d
    simp only [eM] at HCD HN HFB HPY
    obtain ⟨A, hA⟩ : ∃ A : Nat → Int, (fun d => part (irF q) d K) = A := ⟨_, rfl⟩
    have eA : ∀ d, part (irF q) d K = A d := fun d => congrFun hA d
    simp only [eA] at HPY HPN HP0 HPA
    have HTK : Hid (1 + (T : Int) = (K : Int)) := Lib.hid (by omega)
    have HKT := Lib.hid hK
    clear hfo hp hE hle eM hM eA hA hK
    go_enter Try.func5, Try.ntmps5
    go_wp2_with (first
      | (go_at_call 9; (with_reducible refine (HC0.out _).mono ?_); rintro e w1 ⟨rfl, hw1⟩)
      | (go_at_call 16; (with_reducible refine (HPO.out _).mono ?_); rintro e w2 ⟨rfl, hw2⟩)
      | (go_at_call 17; (with_reducible refine (HFO.out _).mono ?_); rintro e w3 ⟨rfl, hw3⟩)
      | (go_at_call 20; (with_reducible refine (HW.out _).mono ?_); rintro e w4 ⟨rfl, rfl⟩)
      | (go_at_call 9; (with_reducible refine (HCD.out K K1 (Nat.le_refl _) _ _ HTK.out).mono ?_); rintro e w5 ⟨rfl, hw5⟩))
    have HX5 : Hid (Ex w w5) := Lib.hid (by repeat (first | assumption | exact Ex.refl _ | refine Ex.trans ?_ (by assumption)))
    clear hw1 hw2 hw3 hw5
    go_loopg [10, 11, 12] K (fun m v10 v11 v12 wr => ∃ (d : Nat) (al pw : Int), d ≤ K ∧ 0 ≤ al ∧ al ≤ d * 1000000 ∧ 1 ≤ pw ∧ pw ≤ 1000000 ∧ v10 = .int .i64 al ∧ v11 = .int .i64 pw ∧ v12 = .int .i64 ((d : Int) + 1) ∧ Hid (al = A d) ∧ Hid (pw = p ^ d) ∧ Hid (m = K - d) ∧ Ex w wr)
    case atStart => exact ⟨0, 0, 1, by omega, by omega, by omega, by omega, by omega, rfl, rfl, by go_num, Lib.hid HP0.out.symm, Lib.hid H0.out.symm, Lib.hid rfl, HX5.out⟩
    case round =>
      obtain ⟨d, al, pw, hd, a0, a1, p0, p1, rfl, rfl, rfl, hA, hpw, hm, hx⟩ := hrel
      by_cases hlt : d < K
      · have HNP : Hid (pw * p = p ^ (d + 1)) := Lib.hid (by rw [HS.out, hpw.out])
        obtain ⟨y1, y9⟩ := HG.out (d + 1) (by omega)
        rw [← HNP.out] at y1 y9
        have hle2 : (d : Int) + 1 ≤ 1 + (T : Int) := by have := HKT.out; omega
        have HCd := Lib.hid (HCD.out (d + 1) (by omega) (by omega) ((d : Int) + 1) wr (by omega))
        obtain ⟨n1, n9⟩ := HN.out (d + 1) (by omega) (by omega)
        have f9 := HFB.out (d + 1) (by omega) (by omega)
        have HPYd := Lib.hid (HPY.out d)
        have HPNd := Lib.hid (HPN.out d)
        obtain ⟨c, hc⟩ : ∃ c, M (d + 1) = c := ⟨_, rfl⟩
        rw [hc] at HCd n1 n9 f9 HPYd
        have f0 := Int.mul_pos (a := ((d + 1 : Nat) : Int)) (b := c) (by omega) (by omega)
        rw [show ((d + 1 : Nat) : Int) = (d : Int) + 1 by omega] at f0 f9 HPYd
        obtain ⟨y, hy⟩ : ∃ y, ((d : Int) + 1) * c = y := ⟨_, rfl⟩
        have HY := Lib.hid hy
        rw [hy] at f0 f9 HPYd
        clear hc
        have HMK : Hid ((1 + (T : Int)) % ((d : Int) + 1) = ((K % (d + 1) : Nat) : Int)) := Lib.hid (by
          rw [HTK.out, show (d : Int) + 1 = ((d + 1 : Nat) : Int) by omega]
          exact (Int.natCast_emod K (d + 1)).symm)
        by_cases hmod : (1 + (T : Int)) % ((d : Int) + 1) = 0
        · have HAN : Hid (al + y = A (d + 1)) := Lib.hid (by
            rw [HPYd.out (by have := HMK.out; omega), hA.out])
          go_wp2_with (go_at_call 9; (with_reducible refine (HCd.out).mono ?_); rintro e w6 ⟨rfl, hw6⟩)
          go_roundg (K - (d + 1))
          case measure => have := hm.out; omega
          case rel => exact ⟨d + 1, al + y, pw * p, by omega, by omega, by omega, y1, y9, by go_num, rfl, by go_num, HAN, HNP, Lib.hid rfl, hx.trans hw6⟩
        · have hmb : ((1 + (T : Int)) % ((d : Int) + 1) == 0) = false := by simpa using hmod
          have HAN : Hid (al = A (d + 1)) := Lib.hid (by
            rw [HPNd.out (by have := HMK.out; omega), hA.out])
          go_wp2
          go_roundg (K - (d + 1))
          case measure => have := hm.out; omega
          case rel => exact ⟨d + 1, al, pw * p, by omega, by omega, by omega, y1, y9, rfl, rfl, by go_num, HAN, HNP, Lib.hid rfl, hx⟩
      · have e : d = K := by omega
        subst e
        have hnl : ¬ ((d : Int) + 1 ≤ 1 + (T : Int)) := by have := HKT.out; omega
        have HEQ : Hid (al = pw) := Lib.hid (by rw [hA.out, hpw.out, HPA.out])
        obtain rfl := HEQ.out
        go_wp2
        go_ret
        exact ⟨rfl, hx⟩
  · have hE2 : cmE p K = 2 := (cmE_two hp p9 K1 (by omega)).resolve_left hE
    have HCN : Hid (∀ (x : Int) (w2 : World), x = K → Calls Try.prog 9 #[.int .i64 p, .int .i64 x] w2 (Says (.tuple #[.int .i64 0, .int .i64 2]) w2)) := Lib.hid fun x w2 hx => by
      subst hx
      have := count_no p K w2 (by unfold I64; omega) hE
      rwa [hE2] at this
    have HTK : Hid (1 + (T : Int) = (K : Int)) := Lib.hid (by omega)
    have HKT := Lib.hid hK
    clear hfo hp hE hE2 hK
    go_enter Try.func5, Try.ntmps5
    go_wp2_with (first
      | (go_at_call 9; (with_reducible refine (HC0.out _).mono ?_); rintro e w1 ⟨rfl, hw1⟩)
      | (go_at_call 16; (with_reducible refine (HPO.out _).mono ?_); rintro e w2 ⟨rfl, hw2⟩)
      | (go_at_call 17; (with_reducible refine (HFO.out _).mono ?_); rintro e w3 ⟨rfl, hw3⟩)
      | (go_at_call 20; (with_reducible refine (HW.out _).mono ?_); rintro e w4 ⟨rfl, rfl⟩)
      | (go_at_call 9; (with_reducible refine (HCN.out _ _ HTK.out).mono ?_); rintro e w5 ⟨rfl, hw5⟩))
    go_ret
    exact ⟨rfl, (by repeat (first | assumption | exact Ex.refl _ | refine Ex.trans ?_ (by assumption)))⟩

end Go.Proofs.Ytimehaolaeedhaa
