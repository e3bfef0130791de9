/-
  Package square, walked: the multiplication by a prime, squared, nonSquare; math/bits.TrailingZeros; anyRoot.
-/
import Derived.Test.YthlnbomapfjphaaDoorSqJacW
import Derived.Lib.TrailingZeros
import Derived.Laws.Bits64b
namespace Go.Proofs.YthlnbomapfjphaaDoor
open Go.RowKit
open Eu Pr Rs Sq

/-- The table that TrailingZeros64 reads. -/
def Tab (w : World) : Prop := ∀ j, j < 64 → w.cell? ⟨3, j, none⟩ = some (.int .u8 (Lib.deBruijn64tab.getD j 0 : Nat))
theorem Tab.ex {w w2 : World} (h : Tab w) (hx : Ex w w2) : Tab w2 := fun j hj => hx.cell (h j hj)

theorem tz_key (x a : Nat) (hx : x < 18446744073709551616) (h0 : x ≠ 0) (hlow : x &&& (18446744073709551616 - x) = a) :
    IntKind.u64.wrap (bits BinOp.and IntKind.u64 (x : Int) (IntKind.u64.wrap (-(x : Int))) * 285870213051353865) / 288230376151711744 = ((a * 285870213051353865 % 18446744073709551616 / 288230376151711744 : Nat) : Int) := by
  have e1 : IntKind.u64.wrap (-(x : Int)) = ((18446744073709551616 - x : Nat) : Int) := by rw [IntKind.wrap_u64]; omega
  rw [e1, bits_and_u64_nat x _ hx (by omega), hlow, IntKind.wrap_u64]
  omega

set_option maxHeartbeats 1000000 in
theorem tz64_walk (x k i : Nat) (w : World) (hx0 : ((x : Int) == 0) = false)
    (key : IntKind.u64.wrap (bits BinOp.and IntKind.u64 (x : Int) (IntKind.u64.wrap (-(x : Int))) * 285870213051353865) / 288230376151711744 = (i : Int))
    (hi : i < 64) (hk : k < 64) (hc : w.cell? ⟨3, i, none⟩ = some (.int .u8 k)) :
    Calls Tryd.prog 66 #[.int .u64 x] w (Says (.int .i64 k) w) := by
  go_enter Tryd.func66, Tryd.ntmps66
  go_wp2_with (simp only [key])
  go_ret
  exact .same

theorem tz64_any (x : Nat) (w : World) (h0 : x ≠ 0) (hx : x < 18446744073709551616) (hT : Tab w) :
    Calls Tryd.prog 66 #[.int .u64 x] w (Says (.int .i64 (Lib.ctz 64 x : Nat)) w) := by
  obtain ⟨hlow, hk⟩ := Lib.lowest_bit 64 x h0 hx
  obtain ⟨hi, htab⟩ := Lib.deBruijn64_at _ hk
  have hc := hT _ hi
  rw [htab] at hc
  exact tz64_walk x _ _ w (by simp; omega) (tz_key x _ hx h0 hlow) hi hk hc

set_option maxHeartbeats 1000000 in
theorem tz_any (x : Nat) (w : World) (h0 : x ≠ 0) (hx : x < 18446744073709551616) (hT : Tab w) :
    Calls Tryd.prog 50 #[.int .u64 x] w (Says (.int .i64 (Lib.ctz 64 x : Nat)) w) := by
  have HC := Lib.hid (tz64_any x w h0 hx hT)
  have hw : IntKind.u64.wrap (x : Int) = (x : Int) := by rw [IntKind.wrap_u64]; omega
  go_enter Tryd.func50, Tryd.ntmps50
  go_wp2_with (go_at_call 66; (with_reducible refine (HC.out).mono ?_); rintro e w2 ⟨rfl, hw2⟩)
  go_ret
  exact ⟨rfl, hw2⟩

set_option maxHeartbeats 1000000 in
theorem times_any (x y p : Int) (b : Nat) (w : World) (hp : 2 ≤ p) (hp2 : p ≤ 1000000) (x0 : 0 ≤ x) (x1 : x < p) (y0 : 0 ≤ y) (y1 : y < p) (hc : w.cell? ⟨b, 0, none⟩ = some (.int .i64 p)) :
    Calls Tryd.prog 67 #[.int .i64 x, .int .i64 y, .pointer (some ⟨b, 0, none⟩)] w (Says (.int .i64 (x * y % p)) w) := by
  have m := Eu.mul_le (a := x) (b := y) (A := 1000000) (B := 1000000) (by omega) (by omega) (by omega) (by omega)
  obtain ⟨m0, m1⟩ := m
  go_enter Tryd.func67, Tryd.ntmps67
  go_wp2
  go_ret
  exact .same

theorem entered_times : Entered Tryd.prog 67 := fun _ _ => by kernel_rfl

set_option maxHeartbeats 1000000 in
theorem mult_any (p : Int) (w : World) :
    Calls Tryd.prog 52 #[.int .i64 p] w (fun e w2 => ∃ b : Nat, e = .returned (.func (.func 67) #[] #[.pointer (some ⟨b, 0, none⟩)]) ∧ w2.cell? ⟨b, 0, none⟩ = some (.int .i64 p) ∧ Ex w w2) := by
  have hb : (w.alloc (.cells #[.int .i64 p] 3)).cell? ⟨w.heap.size, 0, none⟩ = some (.int .i64 p) := by
    have := heap_alloc_new w (.cells #[.int .i64 p] 3)
    unfold World.cell?
    simp only [this]
    simp
  have HB := Lib.hid hb
  have HA := Lib.hid ((Ex.refl w).alloc (.cells #[.int .i64 p] 3))
  clear hb
  go_enter Tryd.func52, Tryd.ntmps52
  go_wp2
  go_ret
  exact ⟨_, rfl, HB.out, HA.out⟩

set_option maxHeartbeats 1000000 in
theorem squared_any (x p : Int) (k : Nat) (b : Nat) (w : World) (hp : 2 ≤ p) (hp2 : p ≤ 1000000) (x0 : 0 ≤ x) (x1 : x < p) (hk : k ≤ 64) (hc : w.cell? ⟨b, 0, none⟩ = some (.int .i64 p)) :
    Calls Tryd.prog 53 #[.int .i64 x, .int .i64 k, .func (.func 67) #[] #[.pointer (some ⟨b, 0, none⟩)]] w (Says (.int .i64 (Pw x (2 ^ k) p)) w) := by
  obtain ⟨T, hT⟩ : ∃ T, Pw x (2 ^ k) p = T := ⟨_, rfl⟩
  have HT : Hid (x ^ 2 ^ (k - 0) % p = T) := Lib.hid (by rw [← hT]; rfl)
  have HC := Lib.hid hc
  rw [hT]
  clear hT hc
  go_enter Tryd.func53, Tryd.ntmps53
  go_wp2
  go_loopg [0, 8] k (fun m v0 v8 wr => ∃ (y : Int) (i : Nat), 0 ≤ y ∧ y < p ∧ i ≤ k ∧ v0 = .int .i64 y ∧ v8 = .int .i64 i ∧ Hid (y ^ 2 ^ (k - i) % p = T) ∧ Hid (m = k - i) ∧ Ex w wr)
  case atStart => exact ⟨x, 0, x0, x1, by omega, rfl, rfl, HT, Lib.hid rfl, Ex.refl _⟩
  case round =>
    obtain ⟨y, i, y0, y1, hi, rfl, rfl, hI, hm, hw⟩ := hrel
    by_cases hlt : i < k
    · have HCy := Lib.hid (times_any y y p b _ hp hp2 y0 y1 y0 y1 (hw.cell HC.out))
      have c1 := Int.emod_nonneg (y * y) (b := p) (by omega)
      have c2 := Int.emod_lt_of_pos (y * y) (b := p) (by omega)
      have HS : Hid ((y * y % p) ^ 2 ^ (k - (i + 1)) % p = T) := Lib.hid (by
        rw [pow_emod, ← two_pow_succ, show k - (i + 1) + 1 = k - i by omega]
        exact hI.out)
      go_wp2_with (go_at_call 67; (with_reducible refine (HCy.out).mono ?_); rintro e w2 ⟨rfl, hw2⟩)
      go_roundg (k - (i + 1))
      case measure => have := hm.out; omega
      case rel => exact ⟨y * y % p, i + 1, c1, c2, by omega, rfl, by go_num, HS, Lib.hid rfl, hw.trans hw2⟩
    · have e : i = k := by omega
      subst e
      have HE : Hid (y = T) := Lib.hid (by
        have := hI.out
        rw [Nat.sub_self, Nat.pow_zero, Int.pow_succ, Int.pow_zero, Int.one_mul, Int.emod_eq_of_lt y0 y1] at this
        exact this)
      go_wp2
      go_ret
      exact ⟨by simp [HE.out], hw⟩

set_option maxHeartbeats 1000000 in
theorem nonSquare_any (p : Nat) (w : World) (hp : Prm (p : Int)) (h2 : p ≠ 2) (hb : p ≤ 1000000) :
    Calls Tryd.prog 51 #[.int .i64 p] w (fun e w2 => ∃ z : Int, 2 ≤ z ∧ z < p ∧ Hid (jac z p = -1) ∧ Says (.int .i64 z) w e w2) := by
  obtain ⟨q, q2, qp, hq⟩ := nonsq_some hp h2
  have h3 := prm_odd hp h2
  obtain ⟨ho, h3⟩ := h3
  have HJ : Hid (∀ (n : Int) (w : World), 0 ≤ n → n < p → Calls Tryd.prog 33 #[.int .i64 n, .int .i64 p] w (Says (.int .i64 (jac n p)) w)) := Lib.hid fun n w n0 n1 => jacobi_any n p w n0 (by omega) (by omega) (by omega) (by omega)
  have HQ := Lib.hid hq
  clear hq hp h2
  go_enter Tryd.func51, Tryd.ntmps51
  go_wp2
  go_loopg [3] (q - 2) (fun m v3 wr => ∃ n : Int, 2 ≤ n ∧ n ≤ q ∧ v3 = .int .i64 n ∧ Hid (m = ((q : Int) - n).toNat) ∧ Ex w wr)
  case atStart => exact ⟨2, by omega, by omega, rfl, Lib.hid (by omega), Ex.refl _⟩
  case round =>
    obtain ⟨n, n0, n1, rfl, hm, hw⟩ := hrel
    by_cases he : jac n p = -1
    · have HE := Lib.hid he
      have hg : (jac n p != -1) = false := by simp [he]
      clear he
      go_wp2_with (go_at_call 33; (with_reducible refine (HJ.out n _ (by omega) (by omega)).mono ?_); rintro e w2 ⟨rfl, hw2⟩)
      go_ret
      exact ⟨n, n0, by omega, HE, rfl, hw.trans hw2⟩
    · have hg : (jac n p != -1) = true := by simpa using he
      have hne : n ≠ q := fun h => he (by rw [h]; exact HQ.out)
      clear he
      go_wp2_with (go_at_call 33; (with_reducible refine (HJ.out n _ (by omega) (by omega)).mono ?_); rintro e w2 ⟨rfl, hw2⟩)
      go_roundg ((q : Int) - (n + 1)).toNat
      case measure => have := hm.out; omega
      case rel => exact ⟨n + 1, by omega, by omega, rfl, Lib.hid rfl, hw.trans hw2⟩

end Go.Proofs.YthlnbomapfjphaaDoor
