/-
  TopPrimes, by contracts.
-/
import Derived.Test.YthlnbomapfjphaaDoorTpBase
import Derived.Test.YthlnbomapfjphaaDoorTpPrM
import Derived.Test.YthlnbomapfjphaaDoorPrOne
import Derived.Test.YthlnbomapfjphaaDoorGnu
import Derived.Test.YthlnbomapfjphaaDoorDvMath
import Derived.Test.YthlnbomapfjphaaDoorBiWalks
import Derived.Test.YthlnbomapfjphaaDoorSqRootW
import Derived.Deep.CutRange
import Derived.Deep.DeepCutAuto
import Derived.BigQuiet
namespace Go.Proofs.YthlnbomapfjphaaDoor
open Go.RowKit
open Eu Pr Rs Dd Sq

theorem fac_prime {n : Int} (hp : Prm n) {l : List (Int × Nat)} (h : Fac n l) : l = [(n, 1)] := by
  have h1 := hp.1
  have hnd : ¬ n ∣ 1 := fun hd => by have := Int.le_of_dvd (by omega) hd; omega
  refine Fac.uniq h ⟨⟨h1, Int.dvd_refl n, fun d d1 d2 hd => hp.2 d d1 d2 hd⟩, Nat.le_refl _, 1, by omega, by rw [Int.pow_succ, Int.pow_zero]; omega, hnd, rfl⟩
theorem fac_not {n : Int} (hp : ¬ Prm n) {l : List (Int × Nat)} (h : Fac n l) : ∀ x ∈ l, x.1 ≠ n := fun x hx e => hp (by
  have := (h.dvd x.1 x.2 hx).1
  rwa [e] at this)

set_option maxHeartbeats 1000000 in
theorem powers_far (n m : Nat) (a b : Option Addr) (ca cb : Nat) (w : World) (hne : n ≠ m) :
    Calls Tryd.prog 10 #[.slice a n ca, .slice b m cb] w (Says (.bool false) w) := by
  have g1 : ((n : Int) != (m : Int)) = true := by simp; omega
  go_enter Tryd.func10, Tryd.ntmps10
  go_wp2
  go_ret
  exact .same

set_option maxHeartbeats 1000000 in
theorem powers_one (p q k m : Int) (g h : Nat) (ca cb : Nat) (w : World) (hne : p ≠ q) (h1 : w.cell? ⟨g, 0, none⟩ = some (.int .i64 p)) (h2 : w.cell? ⟨g, 1, none⟩ = some (.int .i64 k)) (h3 : w.cell? ⟨h, 0, none⟩ = some (.int .i64 q)) (h4 : w.cell? ⟨h, 1, none⟩ = some (.int .i64 m)) :
    Calls Tryd.prog 10 #[.slice (some ⟨g, 0, none⟩) 1 ca, .slice (some ⟨h, 0, none⟩) 1 cb] w (Says (.bool false) w) := by
  have g1 : (p == q) = false := beq_eq_false_iff_ne.mpr hne
  have hc0 := cell_wo h1
  have hc1 := cell_wo h2
  have hd0 := cell_wo h3
  have hd1 := cell_wo h4
  clear hne
  go_enter Tryd.func10, Tryd.ntmps10
  go_wp2
  refine wp_loop_rounds 1 ?_
  rw [rounds_succ]
  go_wp2
  refine wp_region_wo (by kernel_rfl) (by kernel_rfl) ?_
  repeat (go_big_quiet_step (fail))
  refine wpQuiet_nil ?_
  rintro _ ⟨⟨w3, hw3⟩, rfl⟩
  clear hc0 hc1 hd0 hd1
  go_wp2
  go_ret
  exact ⟨rfl, hw3⟩

set_option maxRecDepth 100000 in
set_option maxHeartbeats 4000000 in
theorem topPrimes_of (HP : RePutC) (n a : Int) (w : World) (_ : I64 n) (_ : I64 a) (hT : Tab w) : Calls Tryd.prog 3 #[.int .i64 n, .int .i64 a] w (Says (.bool true) w) := by
  have HY := Lib.hid fun w => works_yes HP w
  obtain ⟨N, hN⟩ : ∃ N : Nat, 3 + 2 * (n % 400) = (N : Int) := ⟨(3 + 2 * (n % 400)).toNat, by omega⟩
  obtain ⟨N3, N8, No⟩ : 3 ≤ N ∧ N ≤ 801 ∧ N % 2 = 1 := by omega
  have HIS := Lib.hid fun w => is_ok N w (by omega) (by omega)
  have HFA := Lib.hid fun w => factor_reads N w (by omega) (by omega)
  by_cases hp : Prm N
  · rw [(pb_iff _).mpr hp] at HIS
    have HFL := Lib.hid fun l (h : Fac N l) => fac_prime hp h
    have h2 : N ≠ 2 := by omega
    have HEQ : Hid (∀ (w2 : World) (a2 : Option Addr) (c2 g : Nat), ReadsP w2 a2 c2 [((N : Int), 1)] → ReadsP w2 (some ⟨g, 0, none⟩) 1 [((N : Int), 1)] → Calls Tryd.prog 10 #[.slice a2 1 c2, .slice (some ⟨g, 0, none⟩) 1 1] w2 (Says (.bool true) w2)) := Lib.hid fun w2 a2 c2 g h1 h2 => powers_equal [((N : Int), 1)] a2 _ c2 1 w2 (by simp) h1 h2
    have HLT : Hid (∀ w2 : World, ReadsP (w2.alloc (.cells #[.int .i64 (N : Int), .int .i64 1] 33)) (some ⟨w2.heap.size, 0, none⟩) 1 [((N : Int), 1)]) := Lib.hid fun w2 => .inr ⟨_, rfl, fun i hi => by
      have : i = 0 := by simp at hi; omega
      subst this
      constructor
      · rw [World.cell?_alloc_new]; rfl
      · rw [World.cell?_alloc_new]; rfl⟩
    have HPO := Lib.hid fun w => pow_ok a N N w (by omega) (by omega) (by omega) (by omega)
    have HOF := Lib.hid fun w => of_ok a N w (by omega) (by omega)
    rw [fermat hp] at HPO
    have y0 := Int.emod_nonneg a (b := (N : Int)) (by omega)
    have y1 := Int.emod_lt_of_pos a (b := (N : Int)) (by omega)
    have HWI := Lib.hid fun w2 => within_any a ((N : Int) - 1) w2 (by omega) (by omega)
    obtain ⟨k, hk⟩ : ∃ k : Nat, 1 + a % ((N : Int) - 1) = (k : Int) := ⟨(1 + a % ((N : Int) - 1)).toNat, by have := Int.emod_nonneg a (b := (N : Int) - 1) (by omega); omega⟩
    have hk2 : 1 ≤ k ∧ k < N := by
      have := Int.emod_nonneg a (b := (N : Int) - 1) (by omega)
      have := Int.emod_lt_of_pos a (b := (N : Int) - 1) (by omega)
      omega
    have HBI := Lib.hid fun w => bmod_ok N k N w ⟨by omega, by omega, by omega, by omega, by omega, hp⟩
    rw [Int.emod_eq_zero_of_dvd (prm_dvd_ch hp hk2.1 hk2.2)] at HBI
    obtain ⟨Z, hZ⟩ : ∃ Z, a % ((N : Int) - 1) = Z := ⟨_, rfl⟩
    obtain ⟨Y, hY⟩ : ∃ Y, a % (N : Int) = Y := ⟨_, rfl⟩
    rw [hZ] at HWI hk
    rw [hY] at HPO HOF y0 y1
    have HSY : Hid (∀ (b : Nat) (w : World), Calls Tryd.prog 14 #[.int .i64 (b : Int), .int .i64 (N : Int)] w (Says (.tuple #[.int .i64 (jac b N), .int .i64 0]) w)) := Lib.hid fun b w => by
      have := symbol_ok b N w (by omega) (by omega) (by omega)
      rw [Int.toNat_natCast] at this
      exact this
    have HRT : Hid (∀ b : Nat, 1 ≤ b → b < N → (jac (b : Int) N = 1 ∧ ∃ r : Int, ∀ w, Tab w → Calls Tryd.prog 15 #[.int .i64 (b : Int), .int .i64 (N : Int)] w (Says (.tuple #[.int .i64 r, .int .i64 0]) w)) ∨ (jac (b : Int) N = -1 ∧ ∀ w, Calls Tryd.prog 15 #[.int .i64 (b : Int), .int .i64 (N : Int)] w (Says (.tuple #[.int .i64 0, .int .i64 4]) w))) := Lib.hid fun b b1 b2 => by
      rw [jac_prime hp h2]
      have hnd : ¬ (N : Int) ∣ (b : Int) := small_not b1 b2
      by_cases hs : IsSq (b : Int) N
      · obtain ⟨r, hr⟩ := root_of (by omega) hs
        exact .inl ⟨leg_one.mpr ⟨hnd, hs⟩, r, fun w hT => root_ok b N r w hp (by omega) hr hT⟩
      · exact .inr ⟨leg_minus.mpr hs, fun w => root_none b N w hp (by omega) hs⟩
    have HSQ := Lib.hid fun i => sqs_succ N i
    have HSB := Lib.hid fun i => sqs_bound N i
    have HSH := Lib.hid (sqs_half hp h2)
    have HTA := Lib.hid hT
    clear hZ hY hp hT h2
    go_enter Tryd.func3, Tryd.ntmps3
    go_upto_region 6 with (first
      | (go_at_call 5; refine (within_any _ _ _ (by omega) (by omega)).mono ?_; rintro e w' ⟨rfl, rfl⟩)
      | (go_at_call 6; (with_reducible refine (HIS.out _).mono ?_); rintro e w1 ⟨rfl, hw1⟩)
      | (go_at_call 7; (with_reducible refine (HFA.out _).mono ?_); rintro e w2 ⟨af, cf, lf, rfl, hF, _, hRf, hw2⟩)
      | (go_at_call 8; (with_reducible refine (HY.out _).mono ?_); rintro e w3 ⟨rfl, hw3⟩)
      | (go_at_call 9; refine (tgood_zeros 2 (by omega) _ rfl _ _).mono ?_; rintro e w4 ⟨rfl, hw4⟩))
    have hlf := HFL.out lf hF.out
    subst hlf
    have HX4 := Lib.hid (((hw1.trans hw2).trans hw3).trans hw4)
    have HRF : Hid (ReadsP (w4.alloc (.cells #[.int .i64 (N : Int), .int .i64 1] 33)) af cf [((N : Int), 1)]) := Lib.hid (((hRf.out.ex hw3).ex hw4).ex ((Ex.refl _).alloc _))
    have HRL := Lib.hid (HLT.out w4)
    have HX5 := Lib.hid (HX4.out.alloc (.cells #[.int .i64 (N : Int), .int .i64 1] 33))
    clear hw1 hw2 hw3 hw4 hRf hF HX4
    go_upto_region 16 with (first
      | (go_at_call 10; (with_reducible refine (HEQ.out _ _ _ _ HRF.out HRL.out).mono ?_); rintro e w6 ⟨rfl, hw6⟩)
      | (go_at_call 11; (with_reducible refine (HPO.out _).mono ?_); rintro e w7 ⟨rfl, hw7⟩)
      | (go_at_call 12; (with_reducible refine (HOF.out _).mono ?_); rintro e w8 ⟨rfl, hw8⟩)
      | (go_at_call 5; (with_reducible refine (HWI.out _).mono ?_); rintro e w' ⟨rfl, rfl⟩)
      | (go_at_call 13; (with_reducible refine (HBI.out _).mono ?_); rintro e w9 ⟨rfl, hw9⟩))
    have HX9 := Lib.hid ((((HX5.out.trans hw6).trans hw7).trans hw8).trans hw9)
    have HT9 := Lib.hid (HTA.out.ex HX9.out)
    have HX0 := Lib.hid (Ex.refl w9)
    clear hw6 hw7 hw8 hw9
    go_wp2
    go_loopg [16, 17] (N - 1) (fun k v16 v17 wr => ∃ (b : Nat) (R : Int), 1 ≤ b ∧ b ≤ N ∧ v16 = .int .i64 R ∧ v17 = .int .i64 (b : Int) ∧ 0 ≤ R ∧ R ≤ 1000 ∧ Hid (R = sqs N (b - 1)) ∧ Hid (k = N - b) ∧ Ex w9 wr)
    case atStart => exact ⟨1, 0, by omega, by omega, rfl, rfl, by omega, by omega, Lib.hid (sqs_zero N).symm, Lib.hid (by omega), HX0.out⟩
    case round =>
      obtain ⟨b, R, hb1, hbN, rfl, rfl, hR0, hR1, hR, hk3, hx⟩ := hrel
      by_cases hlt : b < N
      · have hs := HSQ.out (b - 1)
        rw [show b - 1 + 1 = b by omega] at hs
        have hb3 := HSB.out b
        have HS := Lib.hid fun w2 => HSY.out b w2
        rcases HRT.out b hb1 hlt with ⟨hj, r, hr⟩ | ⟨hj, hr⟩
        · rw [hj] at HS
          rw [hj, if_pos rfl, ← hR.out] at hs
          have HRR := Lib.hid (hr)
          have HTr := Lib.hid fun w2 (k : Ex wr w2) => HT9.out.ex (hx.trans k)
          have HSS : Hid (R + 1 = sqs N (b + 1 - 1)) := Lib.hid (by rw [Nat.add_sub_cancel, hs])
          have hle : R + 1 ≤ 1000 := by rw [← hs]; omega
          clear hs hb3 hj hr
          go_wp2_with (first
            | (go_at_call 14; (with_reducible refine (HS.out _).mono ?_); rintro e w10 ⟨rfl, hw10⟩)
            | (go_at_call 15; (with_reducible refine (HRR.out _ (HTr.out _ hw10)).mono ?_); rintro e w11 ⟨rfl, hw11⟩))
          go_roundg (N - (b + 1))
          case measure => have := hk3.out; omega
          case rel => exact ⟨b + 1, R + 1, by omega, by omega, rfl, by go_num, by omega, hle, HSS, Lib.hid rfl, (hx.trans hw10).trans hw11⟩
        · rw [hj] at HS
          rw [hj, if_neg (by decide), Int.add_zero, ← hR.out] at hs
          have HRR := Lib.hid hr
          have HSS : Hid (R = sqs N (b + 1 - 1)) := Lib.hid (by rw [Nat.add_sub_cancel, hs])
          clear hs hb3 hj hr
          go_wp2_with (first
            | (go_at_call 14; (with_reducible refine (HS.out _).mono ?_); rintro e w10 ⟨rfl, hw10⟩)
            | (go_at_call 15; (with_reducible refine (HRR.out _).mono ?_); rintro e w11 ⟨rfl, hw11⟩))
          go_roundg (N - (b + 1))
          case measure => have := hk3.out; omega
          case rel => exact ⟨b + 1, R, by omega, by omega, rfl, by go_num, by omega, hR1, HSS, Lib.hid rfl, (hx.trans hw10).trans hw11⟩
      · obtain rfl : b = N := by omega
        have g1 : (2 * R == (b : Int) - 1) = true := beq_iff_eq.mpr (by rw [hR.out]; exact HSH.out)
        clear hR
        go_wp2_with (go_at_call 9; refine (tgood_zeros 3 (by omega) _ rfl _ _).mono ?_; rintro e w12 ⟨rfl, hw12⟩)
        go_ret
        exact ⟨rfl, (HX9.out.trans hx).trans hw12⟩
  · have hpb : pb (N : Int) = false := by
      cases h : pb (N : Int)
      · rfl
      · exact absurd ((pb_iff _).mp h) hp
    rw [hpb] at HIS
    have HFL := Lib.hid fun l (h : Fac N l) => fac_not hp h
    clear hpb hp hT
    go_enter Tryd.func3, Tryd.ntmps3
    go_upto_region 6 with (first
      | (go_at_call 5; refine (within_any _ _ _ (by omega) (by omega)).mono ?_; rintro e w' ⟨rfl, rfl⟩)
      | (go_at_call 6; (with_reducible refine (HIS.out _).mono ?_); rintro e w1 ⟨rfl, hw1⟩)
      | (go_at_call 7; (with_reducible refine (HFA.out _).mono ?_); rintro e w2 ⟨af, cf, lf, rfl, hF, _, hRf, hw2⟩)
      | (go_at_call 8; (with_reducible refine (HY.out _).mono ?_); rintro e w3 ⟨rfl, hw3⟩)
      | (go_at_call 9; refine (tgood_zeros 2 (by omega) _ rfl _ _).mono ?_; rintro e w4 ⟨rfl, hw4⟩))
    have HX4 := Lib.hid (((hw1.trans hw2).trans hw3).trans hw4)
    have HX5 := Lib.hid (HX4.out.alloc (.cells #[.int .i64 (N : Int), .int .i64 1] 33))
    have HEQ : Hid (Calls Tryd.prog 10 #[.slice af lf.length cf, .slice (some ⟨w4.heap.size, 0, none⟩) 1 1] (w4.alloc (.cells #[.int .i64 (N : Int), .int .i64 1] 33)) (Says (.bool false) (w4.alloc (.cells #[.int .i64 (N : Int), .int .i64 1] 33)))) := Lib.hid (by
      by_cases hl : lf.length = 1
      · obtain ⟨x, rfl⟩ := List.length_eq_one_iff.mp hl
        have hx := HFL.out _ hF.out x List.mem_cons_self
        have hr := ((hRf.out.ex hw3).ex hw4).ex ((Ex.refl w4).alloc (.cells #[.int .i64 (N : Int), .int .i64 1] 33))
        rcases hr with ⟨_, _, h⟩ | ⟨g, rfl, hc⟩
        · cases h
        · obtain ⟨c1, c2⟩ := hc 0 (by simp)
          exact powers_one x.1 N (x.2 : Nat) 1 g w4.heap.size cf 1 _ hx c1 c2 (by rw [World.cell?_alloc_new]; rfl) (by rw [World.cell?_alloc_new]; rfl)
      · exact powers_far _ 1 _ _ _ _ _ hl)
    obtain ⟨L, hL⟩ : ∃ L, lf.length = L := ⟨_, rfl⟩
    rw [hL] at HEQ ⊢
    clear hL hF hRf hw1 hw2 hw3 hw4
    go_wp2_with (go_at_call 10; (with_reducible refine (HEQ.out).mono ?_); rintro e w6 ⟨rfl, hw6⟩)
    go_ret
    exact ⟨rfl, HX5.out.trans hw6⟩

end Go.Proofs.YthlnbomapfjphaaDoor
