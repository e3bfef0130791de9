/-
  TopUnits, by contracts.
-/
import Derived.Test.YthlnbomapfjphaaTpBase
import Derived.Test.YthlnbomapfjphaaDvPhi
import Derived.Test.YthlnbomapfjphaaGnu
import Derived.Test.YthlnbomapfjphaaChJoin
import Derived.Deep.CutRange
import Derived.Deep.DeepCutAuto
namespace Go.Proofs.Ythlnbomapfjphaa
open Go.RowKit
open Eu Rs Ch Dd

theorem G_times {a m n : Int} : G a (m * n) = 1 ↔ G a m = 1 ∧ G a n = 1 := by
  unfold G
  constructor
  · intro h
    have h1 : Nat.Coprime a.natAbs (m * n).natAbs := by have : Int.gcd a (m * n) = 1 := by exact_mod_cast h
                                                        exact this
    rw [Int.natAbs_mul, Nat.coprime_mul_iff_right] at h1
    exact ⟨by exact_mod_cast h1.1, by exact_mod_cast h1.2⟩
  · rintro ⟨h1, h2⟩
    have k1 : Nat.Coprime a.natAbs m.natAbs := by have : Int.gcd a m = 1 := by exact_mod_cast h1
                                                  exact this
    have k2 : Nat.Coprime a.natAbs n.natAbs := by have : Int.gcd a n = 1 := by exact_mod_cast h2
                                                  exact this
    have : Nat.Coprime a.natAbs (m * n).natAbs := by rw [Int.natAbs_mul]; exact Nat.Coprime.mul_right k1 k2
    have e : Int.gcd a (m * n) = 1 := this
    exact_mod_cast e
theorem lcs_two {x y m n : Int} (hm : 1 ≤ m) (hn : 1 ≤ n) (hg : G m n = 1) : lcs [(x, m), (y, n)] = m * n := by
  show L (L 1 m) n = m * n
  have h1 : L 1 m = m := by
    have hp : G 1 m = 1 := by unfold G; simp
    rw [L_div (by omega) hm, hp, Int.ediv_one, Int.one_mul]
  rw [h1, L_div hm hn, hg, Int.ediv_one]
/-- The units' inverses join. -/
theorem units_join {a m n x y z : Int} (hm : 1 ≤ m) (hm2 : m ≤ 300) (hn : 1 ≤ n) (hn2 : n ≤ 300) (hg : G m n = 1) (hx0 : 0 ≤ x) (hx1 : x < m) (hx : x * a % m = 1 % m) (hy0 : 0 ≤ y) (hy1 : y < n) (hy : y * a % n = 1 % n) (hz0 : 0 ≤ z) (hz1 : z < m * n) (hz : z * a % (m * n) = 1 % (m * n)) :
    Jn [(x, m), (y, n)] z (m * n) 0 := by
  have hc : chk [(x, m), (y, n)] = 0 := chk_zero.mpr ⟨by simp, fun r hr => by
    simp at hr
    rcases hr with rfl | rfl
    · exact ⟨hm, by omega, hx0, hx1⟩
    · exact ⟨hn, by omega, hy0, hy1⟩⟩
  have down : ∀ k t : Int, 1 ≤ k → k ∣ m * n → 0 ≤ t → t < k → t * a % k = 1 % k → z % k = t := fun k t hk hd ht0 ht1 ht => by
    refine inv_uniq (x := a) ht0 ht1 (Int.emod_nonneg _ (by omega)) (Int.emod_lt_of_pos _ (by omega)) (by rw [Int.mul_comm]; exact ht) ?_
    rw [mul_emod_left]
    have := congrArg (· % k) hz
    simp only [Int.emod_emod_of_dvd _ hd] at this
    exact this
  have hs : Sol [(x, m), (y, n)] z := by
    intro r hr
    simp at hr
    rcases hr with rfl | rfl
    · exact down m x hm (Int.dvd_mul_right m n) hx0 hx1 hx
    · exact down n y hn (Int.dvd_mul_left m n) hy0 hy1 hy
  have hj := Joined.of_sol (chk_zero.mp hc).2 hs
  have hl := lcs_two (x := x) (y := y) hm hn hg
  rw [hl, Int.emod_eq_of_lt hz0 hz1] at hj
  exact .inr (.inr ⟨hc, rfl, hl.symm, hj⟩)

/-- What Inverse says, whatever came in. -/
def InvAny (a m : Int) (er : Int) (w : World) (e : Ending) (w2 : World) : Prop := ∃ x : Int, 0 ≤ x ∧ x ≤ m ∧ Hid (er = 0 → x < m ∧ x * a % m = 1 % m) ∧ Says (.tuple #[.int .i64 x, .int .i64 er]) w e w2
theorem inverse_any (a m : Int) (er : Int) (h1 : 1 ≤ m) (h2 : m ≤ 1000000) (h : (er = 0 ∧ G a m = 1) ∨ (er = 4 ∧ G a m ≠ 1)) (w : World) : Calls Try.prog 34 #[.int .i64 a, .int .i64 m] w (InvAny a m er w) := by
  rcases h with ⟨rfl, h⟩ | ⟨rfl, h⟩
  · refine (inverse_ok a m w h1 h2 h).mono ?_
    rintro e w2 ⟨x, hx0, hx1, hx, rfl, hw⟩
    exact ⟨x, hx0, by omega, Lib.hid fun _ => ⟨hx1, hx.out⟩, rfl, hw⟩
  · refine (inverse_none a m w h1 h2 h).mono ?_
    rintro e w2 ⟨rfl, hw⟩
    exact ⟨0, by omega, by omega, Lib.hid fun h => by omega, rfl, hw⟩

set_option maxRecDepth 100000 in
set_option maxHeartbeats 4000000 in
theorem topUnits_of (HP : RePutC) (m n a : Int) (w : World) (_ : I64 m) (_ : I64 n) (_ : I64 a) : Calls Try.prog 9 #[.int .i64 m, .int .i64 n, .int .i64 a] w (Says (.bool true) w) := by
  have HY := Lib.hid fun w => works_yes HP w
  obtain ⟨A, hA⟩ : ∃ A : Nat, 1 + m % 300 = (A : Int) := ⟨(1 + m % 300).toNat, by omega⟩
  obtain ⟨B, hB⟩ : ∃ B : Nat, 1 + n % 300 = (B : Int) := ⟨(1 + n % 300).toNat, by omega⟩
  obtain ⟨a1, a2⟩ : 1 ≤ A ∧ A ≤ 300 := by omega
  obtain ⟨b1, b2⟩ : 1 ≤ B ∧ B ≤ 300 := by omega
  have ab1 : 1 * 1 ≤ A * B := Nat.mul_le_mul a1 b1
  have ab2 : A * B ≤ 300 * 300 := Nat.mul_le_mul a2 b2
  have eAB : (A : Int) * (B : Int) = ((A * B : Nat) : Int) := (Int.natCast_mul A B).symm
  have HGC := Lib.hid fun w => gcd_ok A B w (by omega) (by omega) (by omega) (by omega)
  by_cases hg : G A B = 1
  · have HPA := Lib.hid fun w => phi_of A w a1 (by omega)
    have HPB := Lib.hid fun w => phi_of B w b1 (by omega)
    have HPC := Lib.hid fun w => phi_of (A * B) w (by omega) (by omega)
    rw [ph_times a1 b1 hg, ← eAB] at HPC
    have p1 := ph_bound a1
    have p2 := ph_bound b1
    obtain ⟨P, hP⟩ : ∃ P, ph A = P := ⟨_, rfl⟩
    obtain ⟨Q, hQ⟩ : ∃ Q, ph B = Q := ⟨_, rfl⟩
    rw [hP] at HPA HPC p1
    rw [hQ] at HPB HPC p2
    obtain ⟨q11, q12⟩ := abs_mul_le (a := P) (b := Q) (B := 300) (C := 300) (by omega) (by omega) (by omega) (by omega)
    obtain ⟨q41, q42⟩ := abs_mul_le (a := (A : Int)) (b := (B : Int)) (B := 300) (C := 300) (by omega) (by omega) (by omega) (by omega)
    have hab := G_times (a := a) (m := (A : Int)) (n := (B : Int))
    have hm1 : (1 : Int) ≤ (A : Int) * (B : Int) := by rw [eAB]; omega
    rw [hg] at HGC
    by_cases hab1 : G a A = 1 ∧ G a B = 1
    · obtain ⟨ha1, ha2⟩ := hab1
      have HIA := Lib.hid fun w => inverse_any a A 0 (by omega) (by omega) (.inl ⟨rfl, ha1⟩) w
      have HIB := Lib.hid fun w => inverse_any a B 0 (by omega) (by omega) (.inl ⟨rfl, ha2⟩) w
      have HIC := Lib.hid fun w => inverse_any a ((A : Int) * (B : Int)) 0 hm1 (by omega) (.inl ⟨rfl, hab.mpr ⟨ha1, ha2⟩⟩) w
      have HJ : Hid (∀ (w : World) (x y z : Int), 0 ≤ x → x < (A : Int) → x * a % (A : Int) = 1 % (A : Int) → 0 ≤ y → y < (B : Int) → y * a % (B : Int) = 1 % (B : Int) → 0 ≤ z → z < (A : Int) * (B : Int) → z * a % ((A : Int) * (B : Int)) = 1 % ((A : Int) * (B : Int)) → Calls Try.prog 36 #[.slice (some ⟨w.heap.size, 0, none⟩) 2 2] (w.alloc (.cells #[.int .i64 x, .int .i64 (A : Int), .int .i64 y, .int .i64 (B : Int)] 58)) (Says (.tuple #[.int .i64 z, .int .i64 ((A : Int) * (B : Int)), .int .i64 0]) (w.alloc (.cells #[.int .i64 x, .int .i64 (A : Int), .int .i64 y, .int .i64 (B : Int)] 58)))) :=
        Lib.hid fun w x y z hx0 hx1 hx hy0 hy1 hy hz0 hz1 hz => join_any [(x, (A : Int)), (y, (B : Int))] z ((A : Int) * (B : Int)) 0 _ 2 _ (by simp) (reads_pairs _ _ rfl _ _) (units_join (by omega) (by omega) (by omega) (by omega) hg hx0 hx1 hx hy0 hy1 hy hz0 hz1 hz)
      clear ha1 ha2 hab hg eAB hP hQ ab1 ab2 p1 p2
      go_enter Try.func9, Try.ntmps9
      go_upto_region 12 with (first
        | (go_at_call 32; (with_reducible refine (HY.out _).mono ?_); rintro e w0 ⟨rfl, hw0⟩)
        | (go_at_call 24; refine (within_any _ _ _ (by omega) (by omega)).mono ?_; rintro e w' ⟨rfl, rfl⟩)
        | (go_at_call 31; (with_reducible refine (HGC.out _).mono ?_); rintro e w1 ⟨rfl, hw1⟩)
        | (go_at_call 33; (with_reducible refine (HPA.out _).mono ?_); rintro e w2 ⟨rfl, hw2⟩)
        | (go_at_call 33; (with_reducible refine (HPB.out _).mono ?_); rintro e w3 ⟨rfl, hw3⟩)
        | (go_at_call 33; (with_reducible refine (HPC.out _).mono ?_); rintro e w4 ⟨rfl, hw4⟩)
        | (go_at_call 34; (with_reducible refine (HIA.out _).mono ?_); rintro e w5 ⟨x, hx0, hx1, hx, rfl, hw5⟩)
        | (go_at_call 34; (with_reducible refine (HIB.out _).mono ?_); rintro e w6 ⟨y, hy0, hy1, hy, rfl, hw6⟩)
        | (go_at_call 34; (with_reducible refine (HIC.out _).mono ?_); rintro e w7 ⟨z, hz0, hz1, hz, rfl, hw7⟩)
        | (go_at_call 35; refine (tgood_zeros 3 (by omega) _ rfl _ _).mono ?_; rintro e w8 ⟨rfl, hw8⟩))
      obtain ⟨x1, x2⟩ := hx.out (by first | rfl | trivial)
      obtain ⟨y1, y2⟩ := hy.out (by first | rfl | trivial)
      obtain ⟨z1, z2⟩ := hz.out (by first | rfl | trivial)
      have HJ2 := Lib.hid (HJ.out w8 x y z hx0 x1 x2 hy0 y1 y2 hz0 z1 z2)
      clear x2 y2 z2 hx hy hz HJ
      go_wp2_with (go_at_call 36; (with_reducible refine (HJ2.out).mono ?_); rintro e w9 ⟨rfl, hw9⟩)
      have HX9 := Lib.hid (((Ex.refl w8).alloc _).trans hw9)
      go_ret
      have hx9 := HX9.out
      exact ⟨by first | rfl | simp, (by repeat (first | assumption | exact Ex.refl _ | refine Ex.trans ?_ (by assumption)))⟩
    · have hno : G a ((A : Int) * (B : Int)) ≠ 1 := fun h => hab1 (hab.mp h)
      have HIC := Lib.hid fun w => inverse_any a ((A : Int) * (B : Int)) 4 hm1 (by omega) (.inr ⟨rfl, hno⟩) w
      have HG := Lib.hid hg
      by_cases ha1 : G a A = 1
      · have ha2 : G a B ≠ 1 := fun h => hab1 ⟨ha1, h⟩
        have HIA := Lib.hid fun w => inverse_any a A 0 (by omega) (by omega) (.inl ⟨rfl, ha1⟩) w
        have HIB := Lib.hid fun w => inverse_any a B 4 (by omega) (by omega) (.inr ⟨rfl, ha2⟩) w
        clear ha1 ha2 hab1 hno hab hg eAB hP hQ ab1 ab2 p1 p2
        go_enter Try.func9, Try.ntmps9
        go_upto_region 12 with (first
          | (go_at_call 32; (with_reducible refine (HY.out _).mono ?_); rintro e w0 ⟨rfl, hw0⟩)
          | (go_at_call 24; refine (within_any _ _ _ (by omega) (by omega)).mono ?_; rintro e w' ⟨rfl, rfl⟩)
          | (go_at_call 31; (with_reducible refine (HGC.out _).mono ?_); rintro e w1 ⟨rfl, hw1⟩)
          | (go_at_call 33; (with_reducible refine (HPA.out _).mono ?_); rintro e w2 ⟨rfl, hw2⟩)
          | (go_at_call 33; (with_reducible refine (HPB.out _).mono ?_); rintro e w3 ⟨rfl, hw3⟩)
          | (go_at_call 33; (with_reducible refine (HPC.out _).mono ?_); rintro e w4 ⟨rfl, hw4⟩)
          | (go_at_call 34; (with_reducible refine (HIA.out _).mono ?_); rintro e w5 ⟨x, hx0, hx1, hx, rfl, hw5⟩)
          | (go_at_call 34; (with_reducible refine (HIB.out _).mono ?_); rintro e w6 ⟨y, hy0, hy1, hy, rfl, hw6⟩)
          | (go_at_call 34; (with_reducible refine (HIC.out _).mono ?_); rintro e w7 ⟨z, hz0, hz1, hz, rfl, hw7⟩)
          | (go_at_call 35; refine (tgood_zeros 3 (by omega) _ rfl _ _).mono ?_; rintro e w8 ⟨rfl, hw8⟩))
        go_wp2
        go_ret
        exact ⟨rfl, (by repeat (first | assumption | exact Ex.refl _ | refine Ex.trans ?_ (by assumption)))⟩
      · by_cases ha2 : G a B = 1
        · have HIA := Lib.hid fun w => inverse_any a A 4 (by omega) (by omega) (.inr ⟨rfl, ha1⟩) w
          have HIB := Lib.hid fun w => inverse_any a B 0 (by omega) (by omega) (.inl ⟨rfl, ha2⟩) w
          clear ha1 ha2 hab1 hno hab hg eAB hP hQ ab1 ab2 p1 p2
          go_enter Try.func9, Try.ntmps9
          go_upto_region 12 with (first
            | (go_at_call 32; (with_reducible refine (HY.out _).mono ?_); rintro e w0 ⟨rfl, hw0⟩)
            | (go_at_call 24; refine (within_any _ _ _ (by omega) (by omega)).mono ?_; rintro e w' ⟨rfl, rfl⟩)
            | (go_at_call 31; (with_reducible refine (HGC.out _).mono ?_); rintro e w1 ⟨rfl, hw1⟩)
            | (go_at_call 33; (with_reducible refine (HPA.out _).mono ?_); rintro e w2 ⟨rfl, hw2⟩)
            | (go_at_call 33; (with_reducible refine (HPB.out _).mono ?_); rintro e w3 ⟨rfl, hw3⟩)
            | (go_at_call 33; (with_reducible refine (HPC.out _).mono ?_); rintro e w4 ⟨rfl, hw4⟩)
            | (go_at_call 34; (with_reducible refine (HIA.out _).mono ?_); rintro e w5 ⟨x, hx0, hx1, hx, rfl, hw5⟩)
            | (go_at_call 34; (with_reducible refine (HIB.out _).mono ?_); rintro e w6 ⟨y, hy0, hy1, hy, rfl, hw6⟩)
            | (go_at_call 34; (with_reducible refine (HIC.out _).mono ?_); rintro e w7 ⟨z, hz0, hz1, hz, rfl, hw7⟩)
            | (go_at_call 35; refine (tgood_zeros 3 (by omega) _ rfl _ _).mono ?_; rintro e w8 ⟨rfl, hw8⟩))
          go_wp2
          go_ret
          exact ⟨rfl, (by repeat (first | assumption | exact Ex.refl _ | refine Ex.trans ?_ (by assumption)))⟩
        · have HIA := Lib.hid fun w => inverse_any a A 4 (by omega) (by omega) (.inr ⟨rfl, ha1⟩) w
          have HIB := Lib.hid fun w => inverse_any a B 4 (by omega) (by omega) (.inr ⟨rfl, ha2⟩) w
          clear ha1 ha2 hab1 hno hab hg eAB hP hQ ab1 ab2 p1 p2
          go_enter Try.func9, Try.ntmps9
          go_upto_region 12 with (first
            | (go_at_call 32; (with_reducible refine (HY.out _).mono ?_); rintro e w0 ⟨rfl, hw0⟩)
            | (go_at_call 24; refine (within_any _ _ _ (by omega) (by omega)).mono ?_; rintro e w' ⟨rfl, rfl⟩)
            | (go_at_call 31; (with_reducible refine (HGC.out _).mono ?_); rintro e w1 ⟨rfl, hw1⟩)
            | (go_at_call 33; (with_reducible refine (HPA.out _).mono ?_); rintro e w2 ⟨rfl, hw2⟩)
            | (go_at_call 33; (with_reducible refine (HPB.out _).mono ?_); rintro e w3 ⟨rfl, hw3⟩)
            | (go_at_call 33; (with_reducible refine (HPC.out _).mono ?_); rintro e w4 ⟨rfl, hw4⟩)
            | (go_at_call 34; (with_reducible refine (HIA.out _).mono ?_); rintro e w5 ⟨x, hx0, hx1, hx, rfl, hw5⟩)
            | (go_at_call 34; (with_reducible refine (HIB.out _).mono ?_); rintro e w6 ⟨y, hy0, hy1, hy, rfl, hw6⟩)
            | (go_at_call 34; (with_reducible refine (HIC.out _).mono ?_); rintro e w7 ⟨z, hz0, hz1, hz, rfl, hw7⟩)
            | (go_at_call 35; refine (tgood_zeros 3 (by omega) _ rfl _ _).mono ?_; rintro e w8 ⟨rfl, hw8⟩))
          go_wp2
          go_ret
          exact ⟨rfl, (by repeat (first | assumption | exact Ex.refl _ | refine Ex.trans ?_ (by assumption)))⟩
  · have hgb : (G (A : Int) (B : Int) == 1) = false := by simpa using hg
    have hgb2 : (G (A : Int) (B : Int) != 1) = true := by simpa using hg
    clear eAB ab1 ab2
    go_enter Try.func9, Try.ntmps9
    go_wp2_with (first
      | (go_at_call 32; (with_reducible refine (HY.out _).mono ?_); rintro e w0 ⟨rfl, hw0⟩)
      | (go_at_call 24; refine (within_any _ _ _ (by omega) (by omega)).mono ?_; rintro e w' ⟨rfl, rfl⟩)
      | (go_at_call 31; (with_reducible refine (HGC.out _).mono ?_); rintro e w1 ⟨rfl, hw1⟩))
    go_ret
    exact ⟨rfl, (by repeat (first | assumption | exact Ex.refl _ | refine Ex.trans ?_ (by assumption)))⟩

end Go.Proofs.Ythlnbomapfjphaa
