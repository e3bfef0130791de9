/-
  Bits of words of sixteen bits and of numbers, as naturals.
-/
import Derived.Test.YtjccpfpldbjcbaaGln
import Derived.Test.YtjccpfpldbjcbaaGro
namespace Go.Proofs.Ytjccpfpldbjcbaa
open Go.RowKit
open Ln

theorem nat_u16 (a : Nat) (ha : a < 65536) : (BitVec.ofInt 16 (a : Int)).toNat = a := by
  rw [BitVec.ofInt_natCast, BitVec.toNat_ofNat]; exact Nat.mod_eq_of_lt (by omega)
theorem nat_int (a : Nat) (ha : a < 9223372036854775808) : (BitVec.ofInt 64 (a : Int)).toNat = a := by
  rw [BitVec.ofInt_natCast, BitVec.toNat_ofNat]; exact Nat.mod_eq_of_lt (by omega)
theorem and_u16_nat (a b : Nat) (ha : a < 65536) (hb : b < 65536) : bits .and .u16 (a : Int) (b : Int) = ((a &&& b : Nat) : Int) := by
  have hx : a &&& b < 2 ^ 16 := Nat.and_lt_two_pow _ (by omega)
  show IntKind.u16.wrap ((BitVec.ofInt 16 (a : Int) &&& BitVec.ofInt 16 (b : Int)).toNat : Int) = _
  rw [BitVec.toNat_and, nat_u16 a ha, nat_u16 b hb]
  exact IntWalk.u16_in _ (by omega)
theorem xor_u16_nat (a b : Nat) (ha : a < 65536) (hb : b < 65536) : bits .xor .u16 (a : Int) (b : Int) = ((a ^^^ b : Nat) : Int) := by
  have hx : a ^^^ b < 2 ^ 16 := Nat.xor_lt_two_pow (by omega) (by omega)
  show IntKind.u16.wrap ((BitVec.ofInt 16 (a : Int) ^^^ BitVec.ofInt 16 (b : Int)).toNat : Int) = _
  rw [BitVec.toNat_xor, nat_u16 a ha, nat_u16 b hb]
  exact IntWalk.u16_in _ (by omega)
theorem or_u16_nat (a b : Nat) (ha : a < 65536) (hb : b < 65536) : bits .or .u16 (a : Int) (b : Int) = ((a ||| b : Nat) : Int) := by
  have hx : a ||| b < 2 ^ 16 := Nat.or_lt_two_pow (by omega) (by omega)
  show IntKind.u16.wrap ((BitVec.ofInt 16 (a : Int) ||| BitVec.ofInt 16 (b : Int)).toNat : Int) = _
  rw [BitVec.toNat_or, nat_u16 a ha, nat_u16 b hb]
  exact IntWalk.u16_in _ (by omega)
theorem and_int_nat (a b : Nat) (ha : a < 9223372036854775808) (hb : b < 9223372036854775808) : bits .and .i64 (a : Int) (b : Int) = ((a &&& b : Nat) : Int) := by
  have hx : a &&& b < 2 ^ 63 := Nat.and_lt_two_pow _ (by omega)
  show IntKind.i64.wrap ((BitVec.ofInt 64 (a : Int) &&& BitVec.ofInt 64 (b : Int)).toNat : Int) = _
  rw [BitVec.toNat_and, nat_int a ha, nat_int b hb]
  exact IntWalk.i64_in _ (by omega)
/-- One bit, as the code asks for it. -/
theorem bt_u16 (k w : Nat) (hw : w < 65536) : bits .and .u16 ((w : Int) / 2 ^ k) 1 = ((bt k w : Nat) : Int) := by
  have h : w / 2 ^ k < 65536 := Nat.lt_of_le_of_lt (Nat.div_le_self _ _) hw
  have key := and_u16_nat (w / 2 ^ k) 1 h (by decide)
  rw [Int.natCast_ediv, Int.natCast_pow, Nat.and_one_is_mod] at key
  exact key
theorem bt_int (k w : Nat) (hw : w < 9223372036854775808) : bits .and .i64 ((w : Int) / 2 ^ k) 1 = ((bt k w : Nat) : Int) := by
  have h : w / 2 ^ k < 9223372036854775808 := Nat.lt_of_le_of_lt (Nat.div_le_self _ _) hw
  have key := and_int_nat (w / 2 ^ k) 1 h (by decide)
  rw [Int.natCast_ediv, Int.natCast_pow, Nat.and_one_is_mod] at key
  exact key

namespace Ln
theorem on_up : ∀ n m w, w < 2 ^ n → n ≤ m → on m w = on n w := by
  intro n
  induction n with
  | zero =>
    intro m w hw _
    have : w = 0 := by simpa using hw
    rw [this, on_zero, on_zero]
  | succ n ih =>
    intro m w hw hm
    obtain ⟨m, rfl⟩ : ∃ k, m = k + 1 := ⟨m - 1, by omega⟩
    rw [on, on, ih m (w / 2) (by rw [Nat.pow_succ] at hw; omega) (by omega)]
theorem on_top : ∀ k w, on (k + 1) w = on k w + bt k w := by
  intro k
  induction k with
  | zero => intro w; rw [on, on, on, bt, Nat.pow_zero, Nat.div_one]; omega
  | succ k ih =>
    intro w
    rw [on, ih, on, bt, bt, Nat.div_div_eq_div_mul, Nat.pow_succ, Nat.mul_comm 2]
    omega
theorem bt_half (k w : Nat) : bt k (w / 2) = bt (k + 1) w := by
  unfold bt
  rw [Nat.div_div_eq_div_mul, Nat.pow_succ, Nat.mul_comm]
/-- Numbers are one if their bits are. -/
theorem bt_ext {n a b : Nat} (ha : a < 2 ^ n) (hb : b < 2 ^ n) (h : ∀ k, k < n → bt k a = bt k b) : a = b := by
  induction n generalizing a b with
  | zero => rw [Nat.pow_zero] at ha hb; omega
  | succ n ih =>
    rw [Nat.pow_succ] at ha hb
    have h0 := h 0 (by omega)
    unfold bt at h0
    rw [Nat.pow_zero, Nat.div_one, Nat.div_one] at h0
    have := ih (a := a / 2) (b := b / 2) (by omega) (by omega) fun k hk => by
      rw [bt_half, bt_half]; exact h (k + 1) (by omega)
    omega
theorem bt_test (k w : Nat) : bt k w = (w.testBit k).toNat := by
  unfold bt
  rw [Nat.testBit_eq_decide_div_mod_eq]
  rcases Nat.mod_two_eq_zero_or_one (w / 2 ^ k) with h | h <;> rw [h] <;> rfl
theorem bt_and (k a b : Nat) : bt k (a &&& b) = bt k a * bt k b := by
  rw [bt_test, bt_test, bt_test, Nat.testBit_and]
  cases a.testBit k <;> cases b.testBit k <;> rfl
theorem bt_or (k a b : Nat) : bt k (a ||| b) = if bt k a = 1 ∨ bt k b = 1 then 1 else 0 := by
  rw [bt_test, bt_test, bt_test, Nat.testBit_or]
  cases a.testBit k <;> cases b.testBit k <;> rfl
theorem bt_pow (k j : Nat) : bt k (2 ^ j) = if k = j then 1 else 0 := by
  rw [bt_test, Nat.testBit_two_pow]
  by_cases h : j = k
  · subst h; simp
  · rw [if_neg (Ne.symm h)]; simp [h]
theorem bt_zero (k : Nat) : bt k 0 = 0 := by unfold bt; simp

/-- The highest bit below k; -1 if there is none. -/
def hg : Nat → Nat → Int
  | 0, _ => -1
  | k + 1, w => if bt k w = 1 then (k : Int) else hg k w
theorem hg_none : ∀ k, hg k 0 = -1 := by
  intro k
  induction k with
  | zero => rfl
  | succ k ih => rw [hg, if_neg (by rw [bt_zero]; decide), ih]
theorem hg_top {k w : Nat} (h : Top k w) : ∀ n, k < n → hg n w = (k : Int) := by
  intro n
  induction n with
  | zero => intro h; omega
  | succ n ih =>
    intro hn
    rw [hg]
    by_cases e : k = n
    · subst e; rw [if_pos h.bt]
    · rw [if_neg (by rw [bt_high h.2 (by omega)]; decide), ih (by omega)]
end Ln

end Go.Proofs.Ytjccpfpldbjcbaa
