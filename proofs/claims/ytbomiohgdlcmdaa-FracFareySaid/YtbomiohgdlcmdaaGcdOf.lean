/-
  The document's own road to the common divisor (STEIN): what GcdOf answers; Big.
-/
import Derived.Test.YtbomiohgdlcmdaaEuMath
import Derived.Test.YtbomiohgdlcmdaaLib
import Derived.Test.YtbomiohgdlcmdaaBits
namespace Go.Proofs.Ytbomiohgdlcmdaa
open Go.RowKit
open Eu

theorem pow_le2 {g t B : Nat} (h : 1 ≤ g) (hb : g * 2 ^ t ≤ B) (hB : B < 2 ^ 50) : t < 50 := by
  rcases Nat.lt_or_ge t 50 with h1 | h1
  · exact h1
  · have h2 : 2 ^ 50 ≤ 2 ^ t := Nat.pow_le_pow_right (by omega) h1
    have h3 : 1 * 2 ^ t ≤ g * 2 ^ t := Nat.mul_le_mul_right _ h
    omega

set_option maxHeartbeats 400000 in
theorem gcdOf_zero (a b : Int) (w : World) (ha : -1000000000000000 ≤ a) (ha' : a ≤ 1000000000000000) (hb : -1000000000000000 ≤ b) (hb' : b ≤ 1000000000000000) (h : a = 0 ∨ b = 0) :
    Calls Try.prog 35 #[.int .i64 a, .int .i64 b] w (Says (.int .i64 (G a b)) w) := by
  have e1 : G a b = (a.natAbs : Int) + (b.natAbs : Int) := by
    rcases h with rfl | rfl
    · rw [G_comm, G_zero']; simp
    · rw [G_zero']; simp
  have H := Lib.hid e1
  clear e1
  rcases h with rfl | rfl
  · go_enter Try.func35, Try.ntmps35
    go_wp2
    all_goals (try go_ret)
    all_goals (refine ⟨?_, Ex.refl _⟩; rw [H.out]; exact congrArg _ (int_eq (by omega)))
  · by_cases h1 : a < 0
    · go_enter Try.func35, Try.ntmps35
      go_wp2
      all_goals (try go_ret)
      all_goals (refine ⟨?_, Ex.refl _⟩; rw [H.out]; exact congrArg _ (int_eq (by omega)))
    · by_cases h2 : a = 0
      · subst h2
        go_enter Try.func35, Try.ntmps35
        go_wp2
        all_goals (try go_ret)
        all_goals (refine ⟨?_, Ex.refl _⟩; rw [H.out]; exact congrArg _ (int_eq (by omega)))
      · go_enter Try.func35, Try.ntmps35
        go_wp2
        all_goals (try go_ret)
        all_goals (refine ⟨?_, Ex.refl _⟩; rw [H.out]; exact congrArg _ (int_eq (by omega)))

set_option maxHeartbeats 400000 in
theorem gcdOf_ok (a b : Int) (w : World) (ha : -1000000000000000 ≤ a) (ha' : a ≤ 1000000000000000) (hb : -1000000000000000 ≤ b) (hb' : b ≤ 1000000000000000) (ha0 : a ≠ 0) (hb0 : b ≠ 0) :
    Calls Try.prog 35 #[.int .i64 a, .int .i64 b] w (Says (.int .i64 (G a b)) w) := by
  have fa : (a == 0) = false := by simpa using ha0
  have fb : (b == 0) = false := by simpa using hb0
  have fa' : (-a == 0) = false := by simpa using ha0
  have fb' : (-b == 0) = false := by simpa using hb0
  rcases Int.lt_or_gt_of_ne ha0 with ha1 | ha1 <;> rcases Int.lt_or_gt_of_ne hb0 with hb1 | hb1
  all_goals
    go_enter Try.func35, Try.ntmps35
    go_wp2
    go_loopg [0, 1, 5] (a.natAbs) (fun k v0 v1 v5 wr => ∃ (x y : Int) (t : Nat), 0 < x ∧ x ≤ 1000000000000000 ∧ 0 < y ∧ y ≤ 1000000000000000 ∧ v0 = .int .i64 x ∧ v1 = .int .i64 y ∧ v5 = .int .i64 t ∧ t < 50 ∧ Hid (G x y * 2 ^ t = G a b) ∧ Hid (k = x.toNat) ∧ Ex w wr)
    case atStart => exact ⟨_, _, 0, by omega, by omega, by omega, by omega, rfl, rfl, rfl, by omega, Lib.hid (by simp [G]), Lib.hid (by omega), Ex.refl _⟩
    case round =>
      obtain ⟨x, y, t, hx0, hx1, hy0, hy1, rfl, rfl, rfl, ht, hG, hk, hw⟩ := hrel
      by_cases he : x % 2 = 0 ∧ y % 2 = 0
      · obtain ⟨he1, he2⟩ := he
        have ho := or_even x y (by omega) (by omega) (by omega) (by omega) he1 he2
        have hs := Lib.hid (stein_both he1 he2)
        have hx2 : 2 ≤ x := by omega
        have hy2 : 2 ≤ y := by omega
        clear he1 he2
        go_wp2
        have hs := hs.out
        have hG := hG.out
        have hk := hk.out
        have e1 : G (x / 2) (y / 2) * 2 ^ (t + 1) = G a b := by
          rw [← hG, hs, Int.pow_succ, Int.mul_comm (2 : Int), Int.mul_assoc, Int.mul_comm (2 : Int)]
        have hp : 0 < G (x / 2) (y / 2) := by
          have := G_pos (a := x) (b := y) (.inl (by omega))
          omega
        have hb := G_le (a := a) (b := b) 1000000000000000 ha ha' hb hb'
        have ht2 : t + 1 < 50 := by
          refine pow_le2 (g := (G (x / 2) (y / 2)).toNat) (B := 1000000000000000) (by omega) ?_ (by omega)
          have : (((G (x / 2) (y / 2)).toNat * 2 ^ (t + 1) : Nat) : Int) ≤ 1000000000000000 := by
            rw [Int.natCast_mul, Int.natCast_pow, Int.toNat_of_nonneg (by omega)]
            exact Int.le_trans (Int.le_of_eq e1) hb
          omega
        go_roundg (x / 2).toNat
        case measure => omega
        case rel => exact ⟨_, _, t + 1, by omega, by omega, by omega, by omega, rfl, rfl, by go_num, ht2, Lib.hid e1, Lib.hid rfl, hw⟩
      · have ho := or_odd x y (by omega) (by omega) (by omega) (by omega) he
        have hodd := Lib.hid (stein_odd he)
        clear he
        have hG2 : Hid (∀ g, g = G x y → g * 2 ^ t = G a b) := fun g h => by rw [h]; exact hG.out
        have HT : Hid (t < 50) := ht
        obtain ⟨g0, hg0⟩ : ∃ g0, g0 = G x y := ⟨_, rfl⟩
        have Hg : Hid (G x y = g0) := hg0.symm
        have Hr : Hid (g0 % 2 = 1 ∧ g0 * 2 ^ t = G a b) := ⟨by rw [hg0]; exact hodd.out, hG2.out g0 hg0⟩
        clear hodd hG2 hg0 hG
        go_wp2
        go_loopg [0, 1] (x + y).toNat (fun k v0 v1 wr => ∃ (x y : Int), 0 < x ∧ x ≤ 1000000000000000 ∧ 0 ≤ y ∧ y ≤ 1000000000000000 ∧ v0 = .int .i64 x ∧ v1 = .int .i64 y ∧ Hid (G x y = g0) ∧ Hid (k = (x + y).toNat) ∧ Ex w wr)
        case atStart => exact ⟨_, _, by omega, by omega, by omega, by omega, rfl, rfl, Hg, Lib.hid rfl, hw⟩
        case round =>
          clear hx0 hx1 hy0 hy1 Hg ho hk
          obtain ⟨x, y, hx0, hx1, hy0, hy1, rfl, rfl, hG, hk, hw⟩ := hrel
          by_cases hy : y = 0
          · subst hy
            go_wp2
            go_ret
            have hG := hG.out
            rw [G_zero _ (by omega)] at hG
            subst hG
            have hr := Hr.out.2
            have hb := G_le (a := a) (b := b) 1000000000000000 ha ha' hb hb'
            have hb2 := G_nonneg a b
            exact ⟨congrArg _ (int_eq (by rw [hr]; exact IntWalk.wrap64_in _ (by omega))), hw⟩
          · go_wp2
            go_loopg [0] x.toNat (fun k v0 wr => ∃ (x2 : Int), 0 < x2 ∧ x2 ≤ x ∧ v0 = .int .i64 x2 ∧ Hid (G x2 y = g0) ∧ Hid (k = x2.toNat) ∧ Ex w wr)
            case atStart => exact ⟨_, by omega, by omega, rfl, hG, Lib.hid rfl, hw⟩
            case round =>
              obtain ⟨x2, hx2, hx3, rfl, hG2, hk2, hw⟩ := hrel
              have ho := and_one x2 (by omega) (by omega)
              by_cases he : x2 % 2 = 0
              · have hs := Lib.hid he
                rw [he] at ho
                clear he
                go_wp2
                have hs := hs.out
                have hk2 := hk2.out
                go_roundg (x2 / 2).toNat
                case measure => omega
                case rel => exact ⟨_, by omega, by omega, rfl, Lib.hid (by rw [stein_left hs (by rw [hG2.out]; exact Hr.out.1)]; exact hG2.out), Lib.hid rfl, hw⟩
              · have he1 : x2 % 2 = 1 := by omega
                rw [he1] at ho
                clear he he1
                go_wp2
                go_loopg [1] y.toNat (fun k v1 wr => ∃ (y2 : Int), 0 < y2 ∧ y2 ≤ y ∧ v1 = .int .i64 y2 ∧ Hid (G x2 y2 = g0) ∧ Hid (k = y2.toNat) ∧ Ex w wr)
                case atStart => exact ⟨_, by omega, by omega, rfl, hG2, Lib.hid rfl, hw⟩
                case round =>
                  clear ho
                  obtain ⟨y2, hy2, hy3, rfl, hG3, hk3, hw⟩ := hrel
                  have ho := and_one y2 (by omega) (by omega)
                  by_cases he : y2 % 2 = 0
                  · have hs := Lib.hid he
                    rw [he] at ho
                    clear he
                    go_wp2
                    have hs := hs.out
                    have hk3 := hk3.out
                    go_roundg (y2 / 2).toNat
                    case measure => omega
                    case rel => exact ⟨_, by omega, by omega, rfl, Lib.hid (by rw [stein_right hs (by rw [hG3.out]; exact Hr.out.1)]; exact hG3.out), Lib.hid rfl, hw⟩
                  · have he1 : y2 % 2 = 1 := by omega
                    rw [he1] at ho
                    clear he he1
                    by_cases hlt : y2 < x2
                    · go_wp2
                      have hk := hk.out
                      go_roundg (y2 + (x2 - y2)).toNat
                      case measure => omega
                      case rel => exact ⟨_, _, by omega, by omega, by omega, by omega, rfl, rfl, Lib.hid (by rw [stein_sub, G_comm]; exact hG3.out), Lib.hid rfl, hw⟩
                    · go_wp2
                      have hk := hk.out
                      go_roundg (x2 + (y2 - x2)).toNat
                      case measure => omega
                      case rel => exact ⟨_, _, by omega, by omega, by omega, by omega, rfl, rfl, Lib.hid (by rw [stein_sub]; exact hG3.out), Lib.hid rfl, hw⟩

theorem gcdOf_any (a b : Int) (w : World) (ha : -1000000000000000 ≤ a) (ha' : a ≤ 1000000000000000) (hb : -1000000000000000 ≤ b) (hb' : b ≤ 1000000000000000) :
    Calls Try.prog 35 #[.int .i64 a, .int .i64 b] w (Says (.int .i64 (G a b)) w) := by
  by_cases h : a = 0 ∨ b = 0
  · exact gcdOf_zero a b w ha ha' hb hb' h
  · exact gcdOf_ok a b w ha ha' hb hb' (by omega) (by omega)

/-- Beyond ten to the ninth? -/
def bigB (x : Int) : Bool := decide (x < -1000000000) || decide (1000000000 < x)

theorem bigB_yes {x : Int} (h : x < -1000000000 ∨ 1000000000 < x) : bigB x = true := by unfold bigB; simp; omega
theorem bigB_no {x : Int} (h : -1000000000 ≤ x) (h' : x ≤ 1000000000) : bigB x = false := by unfold bigB; simp; omega

end Go.Proofs.Ytbomiohgdlcmdaa
