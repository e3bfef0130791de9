/-
  Package square, walked: jacobi, Symbol.
-/
import Derived.Test.YthlnbomapfjphaaDoorSqWay
import Derived.Test.YthlnbomapfjphaaDoorGnu
namespace Go.Proofs.YthlnbomapfjphaaDoor
open Go.RowKit
open Eu Pr Rs Sq

theorem halfI {x y s T : Int} (hx : x % 2 = 0) (hy : y % 2 = 1) (hy0 : 1 ≤ y) (h : s * jac x y.toNat = T) :
    ((y % 8 = 3 ∨ y % 8 = 5) → -s * jac (x / 2) y.toNat = T) ∧ (¬ (y % 8 = 3 ∨ y % 8 = 5) → s * jac (x / 2) y.toNat = T) := by
  rw [jac_half hx (by omega)] at h
  constructor
  · intro h8
    rw [if_pos (by omega)] at h
    rw [← h, ← Int.mul_assoc, Int.mul_neg, Int.mul_one]
  · intro h8
    rw [if_neg (by omega)] at h
    rw [← h, Int.one_mul]

theorem flipI {x y s T : Int} (hx : x % 2 = 1) (hx0 : 1 ≤ x) (hy : y % 2 = 1) (hy0 : 1 ≤ y) (h : s * jac x y.toNat = T) :
    ((x % 4 = 3 ∧ y % 4 = 3) → -s * jac (y % x) x.toNat = T) ∧ (¬ (x % 4 = 3 ∧ y % 4 = 3) → s * jac (y % x) x.toNat = T) := by
  have e := jac_flip (x := x.toNat) (y := y.toNat) (by omega) (by omega)
  rw [Int.toNat_of_nonneg (by omega), Int.toNat_of_nonneg (by omega)] at e
  rw [e] at h
  constructor
  · intro h8
    rw [if_pos (by omega)] at h
    rw [← h, ← Int.mul_assoc, Int.mul_neg, Int.mul_one]
  · intro h8
    rw [if_neg (by omega)] at h
    rw [← h, Int.one_mul]

set_option maxRecDepth 100000 in
set_option maxHeartbeats 2000000 in
theorem jacobi_any (a n : Int) (w : World) (ha0 : 0 ≤ a) (ha1 : a ≤ 1000000) (hn0 : 1 ≤ n) (hn1 : n ≤ 1000000) (ho : n % 2 = 1) :
    Calls Tryd.prog 33 #[.int .i64 a, .int .i64 n] w (Says (.int .i64 (jac a n.toNat)) w) := by
  obtain ⟨T, hT⟩ : ∃ T, jac a n.toNat = T := ⟨_, rfl⟩
  have HT : Hid (1 * jac a n.toNat = T) := Lib.hid (by rw [Int.one_mul, hT])
  have HO := Lib.hid ho
  rw [hT]
  clear hT ho
  go_enter Tryd.func33, Tryd.ntmps33
  go_wp2
  go_loopg [0, 1, 5] a.toNat (fun k v0 v1 v5 wr => ∃ (x y s : Int), 0 ≤ x ∧ x ≤ 1000000 ∧ 1 ≤ y ∧ y ≤ 1000000 ∧ Hid (y % 2 = 1) ∧ -1 ≤ s ∧ s ≤ 1 ∧ v0 = .int .i64 x ∧ v1 = .int .i64 y ∧ v5 = .int .i64 s ∧ Hid (s * jac x y.toNat = T) ∧ Hid (k = x.toNat) ∧ Ex w wr)
  case atStart => exact ⟨a, n, 1, by omega, by omega, by omega, by omega, HO, by omega, by omega, rfl, rfl, rfl, HT, Lib.hid rfl, Ex.refl _⟩
  case round =>
    rename World => wo
    obtain ⟨x0, y, s0, x00, x01, y0, y1, hyo, s00, s01, rfl, rfl, rfl, hI0, hk, hx⟩ := hrel
    by_cases hz : x0 = 0
    · subst hz
      by_cases hy1 : y = 1
      · subst hy1
        have HE : Hid (s0 = T) := Lib.hid (by
          have := hI0.out
          rw [jac_end] at this
          simpa using this)
        go_wp2
        go_ret
        exact ⟨by simp [HE.out], hx⟩
      · have HE : Hid (T = 0) := Lib.hid (by
          have := hI0.out
          rw [jac_end, if_neg (by omega)] at this
          rw [← this]; simp)
        go_wp2
        go_ret
        exact ⟨by simp [HE.out], hx⟩
    · have HX0 := Lib.hid hx
      go_wp2
      go_loopg [0, 5] x0.toNat (fun m v0 v5 wr => ∃ (x s : Int), 1 ≤ x ∧ x ≤ x0 ∧ -1 ≤ s ∧ s ≤ 1 ∧ v0 = .int .i64 x ∧ v5 = .int .i64 s ∧ Hid (s * jac x y.toNat = T) ∧ Hid (m = x.toNat) ∧ Ex w wr)
      case atStart => exact ⟨x0, s0, by omega, by omega, by omega, by omega, rfl, rfl, hI0, Lib.hid rfl, HX0.out⟩
      case round =>
        obtain ⟨x, s, b0, b1, b2, b3, rfl, rfl, hI, hkk, hy⟩ := hrel
        obtain ⟨c, hc⟩ : ∃ c, -s = c := ⟨_, rfl⟩
        by_cases he : x % 2 = 0
        · have HH := Lib.hid (halfI he hyo.out y0 hI.out)
          rw [hc] at HH
          by_cases h3 : y % 8 = 3
          · have g3 : (y % 8 == 3) = true := by simp [h3]
            go_wp2
            go_roundg (x / 2).toNat
            case measure => have := hkk.out; omega
            case rel => exact ⟨x / 2, c, by omega, by omega, by omega, by omega, rfl, rfl, Lib.hid (HH.out.1 (.inl h3)), Lib.hid rfl, hy⟩
          · have g3 : (y % 8 == 3) = false := by simp [h3]
            by_cases h5 : y % 8 = 5
            · have g5 : (y % 8 == 5) = true := by simp [h5]
              go_wp2
              go_roundg (x / 2).toNat
              case measure => have := hkk.out; omega
              case rel => exact ⟨x / 2, c, by omega, by omega, by omega, by omega, rfl, rfl, Lib.hid (HH.out.1 (.inr h5)), Lib.hid rfl, hy⟩
            · have g5 : (y % 8 == 5) = false := by simp [h5]
              go_wp2
              go_roundg (x / 2).toNat
              case measure => have := hkk.out; omega
              case rel => exact ⟨x / 2, s, by omega, by omega, by omega, by omega, rfl, rfl, Lib.hid (HH.out.2 (by omega)), Lib.hid rfl, hy⟩
        · have HF := Lib.hid (flipI (by omega) b0 hyo.out y0 hI.out)
          have m0 := Int.emod_nonneg y (b := x) (by omega)
          have m1 := Int.emod_lt_of_pos y (b := x) (by omega)
          have HXO : Hid (x % 2 = 1) := Lib.hid (by omega)
          rw [hc] at HF
          by_cases h4 : x % 4 = 3
          · have g4 : (x % 4 == 3) = true := by simp [h4]
            by_cases h5 : y % 4 = 3
            · have g5 : (y % 4 == 3) = true := by simp [h5]
              go_wp2
              go_roundg (y % x).toNat
              case measure => have := hk.out; omega
              case rel => exact ⟨y % x, x, c, by omega, by omega, by omega, by omega, HXO, by omega, by omega, rfl, rfl, rfl, Lib.hid (HF.out.1 ⟨h4, h5⟩), Lib.hid rfl, hy⟩
            · have g5 : (y % 4 == 3) = false := by simp [h5]
              go_wp2
              go_roundg (y % x).toNat
              case measure => have := hk.out; omega
              case rel => exact ⟨y % x, x, s, by omega, by omega, by omega, by omega, HXO, by omega, by omega, rfl, rfl, rfl, Lib.hid (HF.out.2 (by omega)), Lib.hid rfl, hy⟩
          · have g4 : (x % 4 == 3) = false := by simp [h4]
            go_wp2
            go_roundg (y % x).toNat
            case measure => have := hk.out; omega
            case rel => exact ⟨y % x, x, s, by omega, by omega, by omega, by omega, HXO, by omega, by omega, rfl, rfl, rfl, Lib.hid (HF.out.2 (by omega)), Lib.hid rfl, hy⟩

set_option maxHeartbeats 1000000 in
theorem symbol_ok (a n : Int) (w : World) (h1 : 1 ≤ n) (h2 : n ≤ 1000000) (ho : n % 2 = 1) :
    Calls Tryd.prog 14 #[.int .i64 a, .int .i64 n] w (Says (.tuple #[.int .i64 (jac a n.toNat), .int .i64 0]) w) := by
  have b1 := Int.emod_nonneg a (b := n) (by omega)
  have b2 := Int.emod_lt_of_pos a (b := n) (by omega)
  have HE : Hid (jac (a % n) n.toNat = jac a n.toNat) := Lib.hid (by
    have := jac_emod a (n := n.toNat) (by omega)
    rwa [Int.toNat_of_nonneg (by omega)] at this)
  have g : (n % 2 == 0) = false := by simp; omega
  go_enter Tryd.func14, Tryd.ntmps14
  go_wp2_with (first
    | (go_at_call 12; (with_reducible refine (of_ok a n _ h1 h2).mono ?_); rintro e w1 ⟨rfl, hw1⟩)
    | (go_at_call 33; (with_reducible refine (jacobi_any (a % n) n _ b1 (by omega) h1 h2 ho).mono ?_); rintro e w2 ⟨rfl, hw2⟩; rw [HE.out]))
  go_ret2
  exact ⟨rfl, (by repeat (first | assumption | exact Ex.refl _ | refine Ex.trans ?_ (by assumption)))⟩

set_option maxHeartbeats 1000000 in
theorem symbol_no (a n : Int) (w : World) (h : n < 1 ∨ 1000000 < n ∨ n % 2 = 0) :
    Calls Tryd.prog 14 #[.int .i64 a, .int .i64 n] w (Says (.tuple #[.int .i64 0, .int .i64 1]) w) := by
  by_cases h1 : n < 1
  · go_enter Tryd.func14, Tryd.ntmps14
    go_wp2
    go_ret2
    exact .same
  · by_cases h2 : 1000000 < n
    · clear h
      go_enter Tryd.func14, Tryd.ntmps14
      go_wp2
      go_ret2
      exact .same
    · have h3 : n % 2 = 0 := by omega
      have g : (n % 2 == 0) = true := by simp [h3]
      clear h
      go_enter Tryd.func14, Tryd.ntmps14
      go_wp2
      go_ret2
      exact .same

end Go.Proofs.YthlnbomapfjphaaDoor
