/-
  Package square, walked: Two.
-/
import Derived.Test.YtcbaknnaacnaiaaDoorSqWay
import Derived.Test.YtcbaknnaacnaiaaDoorSmall
namespace Go.Proofs.YtcbaknnaacnaiaaDoor
open Go.RowKit
open Eu Pr Rs Sq

theorem sq_small {k B : Int} (_ : 0 ≤ k) (hB : 0 ≤ B) (h : k * k < B * B) : k < B := by
  refine Decidable.byContradiction fun hc => ?_
  have := sq_mono hB (show B ≤ k by omega)
  omega

/-- What Two answers. -/
def TwoSays (n x y e : Int) : Prop := (IsTwo n x y ∧ e = 0) ∨ (NoTwo n ∧ x = 0 ∧ y = 0 ∧ e = 4)
theorem twoSays_some (n : Int) : ∃ x y e, TwoSays n x y e := by
  rcases two_or n with ⟨x, y, h⟩ | h
  · exact ⟨x, y, 0, .inl ⟨h, rfl⟩⟩
  · exact ⟨0, 0, 4, .inr ⟨h, rfl, rfl, rfl⟩⟩

theorem two_hit {n l h x y e : Int} (hs : TwoSays n x y e) (l0 : 0 ≤ l) (lh : l ≤ h) (he : l * l + h * h = n) (hin : ∀ i k : Int, 0 ≤ i → i ≤ k → i * i + k * k = n → l ≤ i ∧ k ≤ h) : x = l ∧ y = h ∧ e = 0 := by
  rcases hs with ⟨ht, e0⟩ | ⟨hn, _⟩
  · obtain ⟨x0, xy, hsum, hmin⟩ := id ht
    have h1 := (hin x y x0 xy hsum).1
    have h2 := hmin l h l0 lh he
    obtain rfl : x = l := by omega
    exact ⟨rfl, (ht.second lh he).symm, e0⟩
  · exact absurd he (hn l h l0 lh)

theorem two_miss {n l h x y e : Int} (hs : TwoSays n x y e) (lh : h < l) (hin : ∀ i k : Int, 0 ≤ i → i ≤ k → i * i + k * k = n → l ≤ i ∧ k ≤ h) : x = 0 ∧ y = 0 ∧ e = 4 := by
  rcases hs with ⟨ht, e0⟩ | ⟨hn, h2⟩
  · obtain ⟨x0, xy, hsum, hmin⟩ := ht
    have := hin x y x0 xy hsum
    omega
  · exact h2

set_option maxRecDepth 100000 in
set_option maxHeartbeats 1000000 in
theorem two_any (n x y e : Int) (w : World) (n0 : 0 ≤ n) (n1 : n ≤ 1000000) (hs : TwoSays n x y e) :
    Calls Tryd.prog 11 #[.int .i64 n] w (Says (.tuple #[.int .i64 x, .int .i64 y, .int .i64 e]) w) := by
  have HS := Lib.hid hs
  clear hs
  go_enter Tryd.func11, Tryd.ntmps11
  go_wp2
  go_loopg [6] 1001 (fun k v6 wr => ∃ h : Int, 0 ≤ h ∧ h ≤ 1000 ∧ v6 = .int .i64 h ∧ Hid (k = (1001 - h).toNat) ∧ Ex w wr)
  case atStart => exact ⟨0, by omega, by omega, rfl, Lib.hid (by omega), Ex.refl _⟩
  case round =>
    obtain ⟨h, h0, h1, rfl, hk, hw⟩ := hrel
    have hq := Eu.mul_le (a := h) (b := h) (A := 1000) (B := 1000) (by omega) (by omega) (by omega) (by omega)
    obtain ⟨q0, q1⟩ := hq
    by_cases hlt : h * h < n
    · have hb := sq_bound h0 hlt n1
      go_wp2
      go_roundg (1001 - (h + 1)).toNat
      case measure => have := hk.out; omega
      case rel => exact ⟨h + 1, by omega, by omega, rfl, Lib.hid rfl, hw⟩
    · have HIN : Hid (∀ i k : Int, 0 ≤ i → i ≤ k → i * i + k * k = n → 0 ≤ i ∧ k ≤ h) := Lib.hid fun i k i0 ik hsum => by
        refine ⟨i0, Decidable.byContradiction fun hc => ?_⟩
        have a1 := sq_lt h0 (show h < k by omega)
        have a2 : 0 ≤ i * i := Int.mul_nonneg i0 i0
        omega
      go_wp2
      rename World => wo
      go_loopg [5, 6] (h + 1).toNat (fun k v5 v6 wr => ∃ (l g : Int), 0 ≤ l ∧ l ≤ g + 1 ∧ g ≤ h ∧ v5 = .int .i64 l ∧ v6 = .int .i64 g ∧ Hid (∀ i k : Int, 0 ≤ i → i ≤ k → i * i + k * k = n → l ≤ i ∧ k ≤ g) ∧ Hid (k = (g + 1 - l).toNat) ∧ Ex w wr)
      case atStart => exact ⟨0, h, by omega, by omega, by omega, rfl, rfl, HIN, Lib.hid (by omega), hw⟩
      case round =>
        obtain ⟨l, g, l0, lg, gh, rfl, rfl, hin, hk2, hx⟩ := hrel
        by_cases hle : l ≤ g
        · have m1 := Eu.mul_le (a := l) (b := l) (A := 1000) (B := 1000) (by omega) (by omega) (by omega) (by omega)
          have m2 := Eu.mul_le (a := g) (b := g) (A := 1000) (B := 1000) (by omega) (by omega) (by omega) (by omega)
          obtain ⟨m10, m11⟩ := m1
          obtain ⟨m20, m21⟩ := m2
          by_cases hs1 : l * l + g * g < n
          · have HN : Hid (∀ i k : Int, 0 ≤ i → i ≤ k → i * i + k * k = n → l + 1 ≤ i ∧ k ≤ g) := Lib.hid fun i k i0 ik hsum => by
              have b := hin.out i k i0 ik hsum
              refine ⟨Decidable.byContradiction fun hc => ?_, b.2⟩
              have e : i = l := by omega
              subst e
              have := sq_mono (show (0 : Int) ≤ k by omega) b.2
              omega
            go_wp2
            go_roundg (g + 1 - (l + 1)).toNat
            case measure => have := hk2.out; omega
            case rel => exact ⟨l + 1, g, by omega, by omega, by omega, rfl, rfl, HN, Lib.hid rfl, hx⟩
          · by_cases hs2 : n < l * l + g * g
            · have HN : Hid (∀ i k : Int, 0 ≤ i → i ≤ k → i * i + k * k = n → l ≤ i ∧ k ≤ g - 1) := Lib.hid fun i k i0 ik hsum => by
                have b := hin.out i k i0 ik hsum
                refine ⟨b.1, Decidable.byContradiction fun hc => ?_⟩
                have e : k = g := by omega
                subst e
                have := sq_mono l0 b.1
                omega
              have g1 : 1 ≤ g := by
                refine Decidable.byContradiction fun hc => ?_
                have : l = 0 ∧ g = 0 := by omega
                obtain ⟨rfl, rfl⟩ := this
                omega
              go_wp2
              go_roundg (g - 1 + 1 - l).toNat
              case measure => have := hk2.out; omega
              case rel => exact ⟨l, g - 1, by omega, by omega, by omega, rfl, rfl, HN, Lib.hid rfl, hx⟩
            · obtain ⟨rfl, rfl, rfl⟩ := two_hit HS.out l0 hle (by omega) hin.out
              go_wp2
              go_returns
              exact ⟨rfl, hx⟩
        · obtain ⟨rfl, rfl, rfl⟩ := two_miss HS.out (by omega) hin.out
          go_wp2
          go_returns
          exact ⟨rfl, hx⟩

set_option maxHeartbeats 400000 in
theorem two_out (n : Int) (w : World) (h : n < 0 ∨ 1000000 < n) :
    Calls Tryd.prog 11 #[.int .i64 n] w (Says (.tuple #[.int .i64 0, .int .i64 0, .int .i64 1]) w) := by
  rcases h with h | h
  all_goals
    go_enter Tryd.func11, Tryd.ntmps11
    go_wp2
    go_returns
    exact .same

end Go.Proofs.YtcbaknnaacnaiaaDoor
