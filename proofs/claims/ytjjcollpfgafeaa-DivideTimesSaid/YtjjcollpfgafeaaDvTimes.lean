/-
  DivideTimes, DividePairs, walked.
-/
import Derived.Test.YtjjcollpfgafeaaDvKeep
namespace Go.Proofs.Ytjjcollpfgafeaa
open Go.RowKit
open Eu Pr Dd

set_option maxRecDepth 100000 in
set_option maxHeartbeats 2000000 in
theorem divideTimes_walk (a b : Int) (w : World) (_ : I64 a) (_ : I64 b) : Calls Try.prog 8 #[.int .i64 a, .int .i64 b] w (Says (.bool true) w) := by
  obtain ⟨A, hA⟩ : ∃ A : Nat, 1 + a % 1000 = (A : Int) := ⟨(1 + a % 1000).toNat, by omega⟩
  obtain ⟨B, hB⟩ : ∃ B : Nat, 1 + b % 1000 = (B : Int) := ⟨(1 + b % 1000).toNat, by omega⟩
  have a1 : 1 ≤ A ∧ A ≤ 1000 := by omega
  have b1 : 1 ≤ B ∧ B ≤ 1000 := by omega
  obtain ⟨a1, a2⟩ := a1
  obtain ⟨b1, b2⟩ := b1
  have ab1 : 1 * 1 ≤ A * B := Nat.mul_le_mul a1 b1
  have ab2 : A * B ≤ 1000 * 1000 := Nat.mul_le_mul a2 b2
  have eAB : (A : Int) * (B : Int) = ((A * B : Nat) : Int) := (Int.natCast_mul A B).symm
  have HGC := Lib.hid fun w => gcd_ok A B w (by omega) (by omega) (by omega) (by omega)
  by_cases hg : G A B = 1
  · have HPA := Lib.hid fun w => phi_of A w a1 (by omega)
    have HPB := Lib.hid fun w => phi_of B w b1 (by omega)
    have HPC := Lib.hid fun w => phi_of (A * B) w (by omega) (by omega)
    have HMA := Lib.hid fun w => moebius_of A w a1 (by omega)
    have HMB := Lib.hid fun w => moebius_of B w b1 (by omega)
    have HMC := Lib.hid fun w => moebius_of (A * B) w (by omega) (by omega)
    have HDA := Lib.hid fun w => divisors_reads A w a1 (by omega)
    have HDB := Lib.hid fun w => divisors_reads B w b1 (by omega)
    have HDC := Lib.hid fun w => divisors_reads (A * B) w (by omega) (by omega)
    rw [ph_times a1 b1 hg, ← eAB] at HPC
    rw [mu_times a1 b1 hg, ← eAB] at HMC
    have hdt := dv_times a1 b1 hg
    rw [← dvZ_length, ← dvZ_length, ← dvZ_length] at hdt
    have p1 := ph_bound a1
    have p2 := ph_bound b1
    have m1 := mu_bound A
    have m2 := mu_bound B
    have l1 := dv_length A
    have l2 := dv_length B
    rw [← dvZ_length] at l1 l2
    obtain ⟨P, hP⟩ : ∃ P, ph A = P := ⟨_, rfl⟩
    obtain ⟨Q, hQ⟩ : ∃ Q, ph B = Q := ⟨_, rfl⟩
    obtain ⟨M, hM⟩ : ∃ M, mu A = M := ⟨_, rfl⟩
    obtain ⟨N, hN⟩ : ∃ N, mu B = N := ⟨_, rfl⟩
    rw [← eAB] at HDC
    obtain ⟨L, hL⟩ : ∃ L, (dvZ A).length = L := ⟨_, rfl⟩
    obtain ⟨K, hK⟩ : ∃ K, (dvZ B).length = K := ⟨_, rfl⟩
    obtain ⟨C, hC⟩ : ∃ C, (dvZ (A * B)).length = C := ⟨_, rfl⟩
    rw [hP] at HPA HPC p1
    rw [hQ] at HPB HPC p2
    rw [hM] at HMA HMC m1
    rw [hN] at HMB HMC m2
    rw [hL] at HDA hdt l1
    rw [hK] at HDB hdt l2
    rw [hC] at HDC hdt
    have q1 := abs_mul_le (a := P) (b := Q) (B := 1000) (C := 1000) (by omega) (by omega) (by omega) (by omega)
    have q2 := abs_mul_le (a := M) (b := N) (B := 1) (C := 1) (by omega) (by omega) (by omega) (by omega)
    have q3 := abs_mul_le (a := (L : Int)) (b := (K : Int)) (B := 1000) (C := 1000) (by omega) (by omega) (by omega) (by omega)
    have q4 := abs_mul_le (a := (A : Int)) (b := (B : Int)) (B := 1000) (C := 1000) (by omega) (by omega) (by omega) (by omega)
    obtain ⟨q11, q12⟩ := q1
    obtain ⟨q21, q22⟩ := q2
    obtain ⟨q31, q32⟩ := q3
    obtain ⟨q41, q42⟩ := q4
    clear hP hQ hM hN hL hK hC eAB ab1 ab2 p1 p2 m1 m2 l1 l2
    go_enter Try.func8, Try.ntmps8
    go_wp2_with (first
      | (go_at_call 26; (with_reducible refine (divides_yes _).mono ?_); rintro e w0 ⟨rfl, hw0⟩)
      | (go_at_call 23; refine (within_any _ _ _ (by omega) (by omega)).mono ?_; rintro e w' ⟨rfl, rfl⟩)
      | (go_at_call 27; (with_reducible refine (HGC.out _).mono ?_); rintro e w1 ⟨rfl, hw1⟩)
      | (go_at_call 13; (with_reducible refine (HPA.out _).mono ?_); rintro e w2 ⟨rfl, hw2⟩)
      | (go_at_call 13; (with_reducible refine (HPB.out _).mono ?_); rintro e w3 ⟨rfl, hw3⟩)
      | (go_at_call 13; (with_reducible refine (HPC.out _).mono ?_); rintro e w4 ⟨rfl, hw4⟩)
      | (go_at_call 14; (with_reducible refine (HMA.out _).mono ?_); rintro e w5 ⟨rfl, hw5⟩)
      | (go_at_call 14; (with_reducible refine (HMB.out _).mono ?_); rintro e w6 ⟨rfl, hw6⟩)
      | (go_at_call 14; (with_reducible refine (HMC.out _).mono ?_); rintro e w7 ⟨rfl, hw7⟩)
      | (go_at_call 12; (with_reducible refine (HDA.out _).mono ?_); rintro e w8 ⟨x1, c1, rfl, hr1, hw8⟩)
      | (go_at_call 12; (with_reducible refine (HDB.out _).mono ?_); rintro e w9 ⟨x2, c2, rfl, hr2, hw9⟩)
      | (go_at_call 12; (with_reducible refine (HDC.out _).mono ?_); rintro e w10 ⟨x3, c3, rfl, hr3, hw10⟩)
      | (go_at_call 25; refine (good_zeros 9 (by omega) _ rfl _ _).mono ?_; rintro e w11 ⟨rfl, hw11⟩))
    go_ret
    exact ⟨by simp, (by repeat (first | assumption | exact Ex.refl _ | refine Ex.trans ?_ (by assumption)))⟩
  · have hgb : (G (A : Int) (B : Int) == 1) = false := by simpa using hg
    clear eAB ab1 ab2
    go_enter Try.func8, Try.ntmps8
    go_wp2_with (first
      | (go_at_call 26; (with_reducible refine (divides_yes _).mono ?_); rintro e w0 ⟨rfl, hw0⟩)
      | (go_at_call 23; refine (within_any _ _ _ (by omega) (by omega)).mono ?_; rintro e w' ⟨rfl, rfl⟩)
      | (go_at_call 27; (with_reducible refine (HGC.out _).mono ?_); rintro e w1 ⟨rfl, hw1⟩))
    go_ret
    exact ⟨rfl, (by repeat (first | assumption | exact Ex.refl _ | refine Ex.trans ?_ (by assumption)))⟩

theorem sq_root {n r : Nat} (h1 : r * r ≤ n) (h2 : n < (r + 1) * (r + 1)) : (∃ s, s * s = n) ↔ r * r = n := by
  constructor
  · rintro ⟨s, rfl⟩
    have h3 : s ≤ r := by
      refine Decidable.byContradiction fun h => ?_
      have : (r + 1) * (r + 1) ≤ s * s := Nat.mul_le_mul (by omega) (by omega)
      omega
    have h4 : r ≤ s := by
      refine Decidable.byContradiction fun h => ?_
      have : (s + 1) * (s + 1) ≤ r * r := Nat.mul_le_mul (by omega) (by omega)
      rw [Nat.succ_mul, Nat.mul_succ] at this
      omega
    have : r = s := by omega
    rw [this]
  · exact fun h => ⟨r, h⟩

/-- What place t of the divisors' row is told of. -/
theorem pair_at {n t : Nat} (hn : 1 ≤ n) (ht : t < (dv n).length) :
    (dv n).length - 1 - t < (dv n).length ∧ (n : Int) % (dat n t : Int) = 0 ∧ (n : Int) / (dat n t : Int) = (dat n ((dv n).length - 1 - t) : Int) := by
  refine ⟨by omega, ?_, ?_⟩
  · have h := (dv_at hn ht).2
    rw [dat_eq ht]
    have := Nat.mod_eq_zero_of_dvd h
    omega
  · have h := dv_pair hn ht
    rw [dat_eq ht, dat_eq (by omega), h]
    omega

theorem dat_lt {n s : Nat} (hs : s + 1 < (dv n).length) : dat n s < dat n (s + 1) := by
  rw [dat_eq hs, dat_eq (by omega)]
  exact lt_at (dv_lt n) _ _ (by omega)

set_option maxRecDepth 100000 in
set_option maxHeartbeats 4000000 in
theorem dividePairs_walk (n : Int) (w : World) (_ : I64 n) : Calls Try.prog 10 #[.int .i64 n] w (Says (.bool true) w) := by
  by_cases h : n < 1 ∨ 1000000 < n
  · have HN := Lib.hid h
    clear h
    go_enter Try.func10, Try.ntmps10
    go_wp2_with (first
      | (go_at_call 26; (with_reducible refine (divides_yes _).mono ?_); rintro e w2 ⟨rfl, hw2⟩)
      | (go_at_call 12; (with_reducible refine (divisors_no _ _ HN.out).mono ?_); rintro e w3 ⟨rfl, hw3⟩))
    go_ret
    exact ⟨rfl, (by repeat (first | assumption | exact Ex.refl _ | refine Ex.trans ?_ (by assumption)))⟩
  · obtain ⟨N, rfl⟩ : ∃ N : Nat, n = N := ⟨n.toNat, by omega⟩
    have h1 : 1 ≤ N := by omega
    have h2 : N ≤ 1000000 := by omega
    have HD := Lib.hid fun w => divisors_reads N w h1 h2
    have HNT := Lib.hid fun t => dvZ_nth2 (n := N) (t := t)
    have HPR := Lib.hid fun t => pair_at (n := N) (t := t) h1
    have HLT := Lib.hid fun t => dat_lt (n := N) (s := t)
    have HDB := Lib.hid fun t => dat_bound (n := N) (t := t) h1
    have HOD := Lib.hid (dv_odd h1)
    have hL2 : (dv N).length ≤ 1000000 := by have := dv_length N; omega
    have HZ := Lib.hid (dvZ_length N)
    clear h
    go_enter Try.func10, Try.ntmps10
    go_wp2_with (first
      | (go_at_call 26; (with_reducible refine (divides_yes _).mono ?_); rintro e w2 ⟨rfl, hw2⟩)
      | (go_at_call 12; (with_reducible refine (HD.out _).mono ?_); rintro e w3 ⟨a, cap, rfl, hr, hw3⟩; rw [HZ.out]))
    have HX3 : Hid (Ex w w3) := Lib.hid (by repeat (first | assumption | exact Ex.refl _ | refine Ex.trans ?_ (by assumption)))
    obtain ⟨L, hL⟩ : ∃ L, (dv N).length = L := ⟨_, rfl⟩
    have HLL := Lib.hid hL
    rw [hL] at HNT hL2 HZ HPR HLT HDB HOD ⊢
    clear hL
    go_loopg [22] L (fun k v22 x => ∃ (t : Nat), t ≤ L ∧ v22 = .int .i64 t ∧ Hid (k = L - t) ∧ Ex w3 x)
    case atStart => exact ⟨0, by omega, rfl, Lib.hid rfl, Ex.refl _⟩
    case round =>
      obtain ⟨t, ht, rfl, hk, hx⟩ := hrel
      have HWr := Lib.hid hx
      by_cases hlt : t < L
      · rcases hr.out with hn | ⟨b, off, rfl, hc⟩
        · have := HZ.out
          rw [hn] at this
          simp at this
          omega
        have HC : Hid (∀ t, t < L → ∀ x : Wo wr, x.val.cell? ⟨b, off + t, none⟩ = some (.int .i64 (dat N t))) := Lib.hid fun t ht x => by
          have := x.ex.cell (hx.cell (hc t (by have := HZ.out; omega)))
          rwa [HNT.out t ht] at this
        have hct := HC.out t hlt ⟨wr, Ex.refl wr⟩
        obtain ⟨hj, hm0, hdd⟩ := HPR.out t hlt
        have hcj := HC.out _ hj
        obtain ⟨e1, e2⟩ := HDB.out _ hj
        obtain ⟨d1, d2⟩ := HDB.out t hlt
        simp only at hct
        by_cases ht0 : t = 0
        · subst ht0
          rw [Nat.add_zero] at hct
          rw [Nat.sub_zero] at hcj hdd hj e1 e2
          obtain ⟨D, hD⟩ : ∃ D, dat N 0 = D := ⟨_, rfl⟩
          obtain ⟨E, hE⟩ : ∃ E, dat N (L - 1) = E := ⟨_, rfl⟩
          rw [hD] at hct hm0 hdd d1 d2
          rw [hE] at hcj hdd e1 e2
          have g1 : decide ((D : Int) < 1) = false := by simp; omega
          have g2 : (((N : Int) % (D : Int)) != 0) = false := by simp [hm0]
          have g3 : ((E : Int) != (N : Int) / (D : Int)) = false := by simp [hdd]
          clear hc hD hE
          go_wp2
          refine wp_region_wo (by kernel_rfl) (by kernel_rfl) ?_
          repeat (go_big_quiet_step (fail))
          refine wpQuiet_nil ?_
          rintro _ ⟨⟨w4, hw4⟩, rfl⟩
          go_wp2
          go_roundg (L - 1)
          case measure => have := hk.out; omega
          case rel => exact ⟨1, by omega, by go_num, Lib.hid rfl, HWr.out.trans hw4⟩
        · obtain ⟨s, rfl⟩ : ∃ s, t = s + 1 := ⟨t - 1, by omega⟩
          have hcs := HC.out s (by omega)
          have hlt2 := HLT.out s (by omega)
          obtain ⟨D, hD⟩ : ∃ D, dat N (s + 1) = D := ⟨_, rfl⟩
          obtain ⟨E, hE⟩ : ∃ E, dat N (L - 1 - (s + 1)) = E := ⟨_, rfl⟩
          obtain ⟨C, hC⟩ : ∃ C, dat N s = C := ⟨_, rfl⟩
          rw [hD] at hct hm0 hdd d1 d2 hlt2
          rw [hE] at hcj hdd e1 e2
          rw [hC] at hcs hlt2
          have g1 : decide ((D : Int) < 1) = false := by simp; omega
          have g2 : (((N : Int) % (D : Int)) != 0) = false := by simp [hm0]
          have g3 : ((E : Int) != (N : Int) / (D : Int)) = false := by simp [hdd]
          have g4 : decide (0 < (s : Int) + 1) = true := decide_eq_true (by omega)
          have g5 : decide ((D : Int) ≤ (C : Int)) = false := by simpa using hlt2
          clear hc hD hE hC
          go_wp2
          refine wp_region_wo (by kernel_rfl) (by kernel_rfl) ?_
          repeat (go_big_quiet_step (fail))
          refine wpQuiet_nil ?_
          rintro _ ⟨⟨w4, hw4⟩, rfl⟩
          go_wp2
          go_roundg (L - (s + 1 + 1))
          case measure => have := hk.out; omega
          case rel => exact ⟨s + 1 + 1, by omega, by go_num, Lib.hid rfl, HWr.out.trans hw4⟩
      · have e : t = L := by omega
        subst e
        go_wp2
        go_loopg [7] 1001 (fun k v7 x => ∃ (r : Nat), r ≤ 1000 ∧ v7 = .int .i64 r ∧ Hid (r * r ≤ N) ∧ Hid (k = 1001 - r) ∧ Ex w3 x)
        case atStart => exact ⟨0, by omega, rfl, Lib.hid (by omega), Lib.hid (by omega), hx⟩
        case round =>
          obtain ⟨r, hr1, rfl, hrr, hkr, hxr⟩ := hrel
          have b0 : (0 : Int) ≤ (r : Int) * r := Int.mul_nonneg (by omega) (by omega)
          have b1 : (r : Int) * r ≤ 1000 * 1000 := Int.mul_le_mul (by omega) (by omega) (by omega) (by omega)
          have c0 : (0 : Int) ≤ ((r : Int) + 1) * ((r : Int) + 1) := Int.mul_nonneg (by omega) (by omega)
          have c1 : ((r : Int) + 1) * ((r : Int) + 1) ≤ 1001 * 1001 := Int.mul_le_mul (by omega) (by omega) (by omega) (by omega)
          by_cases hs : ((r : Int) + 1) * ((r : Int) + 1) ≤ N
          · have hr2 : r ≤ 999 := by
              refine Decidable.byContradiction fun hc => ?_
              have : (1001 : Int) * 1001 ≤ ((r : Int) + 1) * ((r : Int) + 1) := Int.mul_le_mul (by omega) (by omega) (by omega) (by omega)
              omega
            have HS : Hid ((r + 1) * (r + 1) ≤ N) := Lib.hid (by
              have : (((r + 1) * (r + 1) : Nat) : Int) ≤ (N : Int) := by rw [Int.natCast_mul, Int.natCast_add]; exact hs
              omega)
            go_wp2
            go_roundg (1001 - (r + 1))
            case measure => have := hkr.out; omega
            case rel => exact ⟨r + 1, by omega, by go_num, HS, Lib.hid rfl, hxr⟩
          · have HS : Hid (N < (r + 1) * (r + 1)) := Lib.hid (by
              have : ¬ (((r + 1) * (r + 1) : Nat) : Int) ≤ (N : Int) := by rw [Int.natCast_mul, Int.natCast_add]; exact hs
              omega)
            have hq := (HOD.out).trans (sq_root hrr.out HS.out)
            by_cases ho : t % 2 = 1
            · have g1 : ((t : Int) % 2 == 1) = true := by simp; omega
              have g2 : ((r : Int) * r == N) = true := by
                have := hq.mp ho
                rw [← Int.natCast_mul, this]; simp
              clear hq ho
              go_wp2
              go_ret
              exact ⟨by simp, HX3.out.trans hxr⟩
            · have g1 : ((t : Int) % 2 == 1) = false := by simp; omega
              have g2 : ((r : Int) * r == N) = false := by
                have h3 : ¬ r * r = N := fun h => ho (hq.mpr h)
                rw [← Int.natCast_mul]; simp; omega
              clear hq ho
              go_wp2
              go_ret
              exact ⟨by simp, HX3.out.trans hxr⟩

end Go.Proofs.Ytjjcollpfgafeaa
