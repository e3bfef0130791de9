/-
  Several texts in one:
  - Bits of bytes and of numbers that are not negative, as naturals.
  - wholeref: Times, Power, Undo; wholekeep: fields.
-/
import Derived.Test.YtebijjigjlcjdaaGro
import Derived.Test.YtebijjigjlcjdaaGgf
namespace Go.Proofs.Ytebijjigjlcjdaa
open Go.RowKit
open Gf

theorem nat_u8 (a : Nat) (ha : a < 256) : (BitVec.ofInt 8 (a : Int)).toNat = a := by
  rw [BitVec.ofInt_natCast, BitVec.toNat_ofNat]; exact Nat.mod_eq_of_lt (by omega)
theorem nat_i64 (a : Nat) (ha : a < 9223372036854775808) : (BitVec.ofInt 64 (a : Int)).toNat = a := by
  rw [BitVec.ofInt_natCast, BitVec.toNat_ofNat]; exact Nat.mod_eq_of_lt (by omega)

theorem and_u8_nat (a b : Nat) (ha : a < 256) (hb : b < 256) : bits .and .u8 (a : Int) (b : Int) = ((a &&& b : Nat) : Int) := by
  have hx : a &&& b < 2 ^ 8 := Nat.and_lt_two_pow _ (by omega)
  show IntKind.u8.wrap ((BitVec.ofInt 8 (a : Int) &&& BitVec.ofInt 8 (b : Int)).toNat : Int) = _
  rw [BitVec.toNat_and, nat_u8 a ha, nat_u8 b hb]
  exact IntWalk.u8_in _ (by omega)
theorem xor_u8_nat (a b : Nat) (ha : a < 256) (hb : b < 256) : bits .xor .u8 (a : Int) (b : Int) = ((a ^^^ b : Nat) : Int) := by
  have hx : a ^^^ b < 2 ^ 8 := Nat.xor_lt_two_pow (by omega) (by omega)
  show IntKind.u8.wrap ((BitVec.ofInt 8 (a : Int) ^^^ BitVec.ofInt 8 (b : Int)).toNat : Int) = _
  rw [BitVec.toNat_xor, nat_u8 a ha, nat_u8 b hb]
  exact IntWalk.u8_in _ (by omega)
theorem xor_i64_nat (a b : Nat) (ha : a < 9223372036854775808) (hb : b < 9223372036854775808) : bits .xor .i64 (a : Int) (b : Int) = ((a ^^^ b : Nat) : Int) := by
  have hx : a ^^^ b < 2 ^ 63 := Nat.xor_lt_two_pow (by omega) (by omega)
  show IntKind.i64.wrap ((BitVec.ofInt 64 (a : Int) ^^^ BitVec.ofInt 64 (b : Int)).toNat : Int) = _
  rw [BitVec.toNat_xor, nat_i64 a ha, nat_i64 b hb]
  exact IntWalk.i64_in _ (by omega)
theorem and_i64_nat' (a b : Nat) (ha : a < 9223372036854775808) (hb : b < 9223372036854775808) : bits .and .i64 (a : Int) (b : Int) = ((a &&& b : Nat) : Int) := by
  have hx : a &&& b < 2 ^ 63 := Nat.and_lt_two_pow _ (by omega)
  show IntKind.i64.wrap ((BitVec.ofInt 64 (a : Int) &&& BitVec.ofInt 64 (b : Int)).toNat : Int) = _
  rw [BitVec.toNat_and, nat_i64 a ha, nat_i64 b hb]
  exact IntWalk.i64_in _ (by omega)

theorem u8_one (a : Nat) (ha : a < 256) : bits .and .u8 (a : Int) 1 = ((a % 2 : Nat) : Int) := by
  have := and_u8_nat a 1 ha (by decide)
  rw [Nat.and_one_is_mod] at this
  exact this
theorem i64_one (a : Nat) (ha : a < 9223372036854775808) : bits .and .i64 (a : Int) 1 = ((a % 2 : Nat) : Int) := by
  have := and_i64_nat' a 1 ha (by decide)
  rw [Nat.and_one_is_mod] at this
  exact this
theorem u8_top (a : Nat) (ha : a < 256) : bits .and .u8 (a : Int) 128 = ((128 * (a / 128) : Nat) : Int) := by
  have := and_u8_nat a 128 ha (by decide)
  have e : allB (fun a => a &&& 128 == 128 * (a / 128)) 256 = true := by decide +kernel
  have h2 : a &&& 128 = 128 * (a / 128) := by simpa using allB_iff e a ha
  rw [h2] at this
  exact this
theorem xor_u8_29 (a : Nat) (ha : a < 256) : bits .xor .u8 (a : Int) 29 = ((a ^^^ 29 : Nat) : Int) := xor_u8_nat a 29 ha (by decide)

/-- The product step by step. -/
theorem gmf_zero : ∀ n a, gmf n a 0 = 0 := by
  intro n
  induction n with
  | zero => intro a; rfl
  | succ n ih => intro a; rw [gmf, Nat.zero_mod, Nat.mul_zero, Nat.zero_div, ih]; rfl
theorem gmf_step {n a b : Nat} (h0 : b ≠ 0) (hb : b < 2 ^ n) : ∃ m, n = m + 1 ∧ b / 2 < 2 ^ m ∧ gmf n a b = (a * (b % 2)) ^^^ gmf m (xt a) (b / 2) := by
  cases n with
  | zero => exact absurd (by simpa using hb) h0
  | succ m => exact ⟨m, rfl, by rw [Nat.pow_succ] at hb; omega, rfl⟩

/-- Powers by halves. -/
theorem gp_even {a : Nat} (ha : a < 256) (n : Nat) : gp a (2 * n) = gp (gm a a) n := by
  have e2 : gp a 2 = gm a a := by rw [show 2 = 1 + 1 from rfl, gp_add ha, gp_one ha]
  rw [gp_mul ha, e2]
theorem gp_halve {a n : Nat} (ha : a < 256) (h : n % 2 = 0) : gp a n = gp (gm a a) (n / 2) := by
  rw [← gp_even ha, show 2 * (n / 2) = n by omega]
theorem gp_halve' {a n : Nat} (ha : a < 256) (h : n % 2 = 1) : gp a n = gm a (gp (gm a a) (n / 2)) := by
  rw [← gp_even ha]
  have e : n = 1 + 2 * (n / 2) := by omega
  have h2 := gp_add ha 1 (2 * (n / 2))
  rw [← e, gp_one ha] at h2
  exact h2

/-- An answer and no error. -/
def byteOk (x : Nat) : Value := .tuple #[.int .u8 (x : Int), .int .i64 0]

end Go.Proofs.Ytebijjigjlcjdaa

namespace Go.Proofs.Ytebijjigjlcjdaa
open Go.RowKit
open Gf

theorem bi_u8 (a i : Nat) (ha : a < 256) : bits .and .u8 ((a : Int) / 2 ^ i) 1 = ((bi a i : Nat) : Int) := by
  have h : a / 2 ^ i < 256 := Nat.lt_of_le_of_lt (Nat.div_le_self _ _) ha
  have := u8_one (a / 2 ^ i) h
  rw [Int.natCast_ediv, Int.natCast_pow] at this
  exact this
theorem bi_i64 (a i : Nat) (ha : a < 9223372036854775808) : bits .and .i64 ((a : Int) / 2 ^ i) 1 = ((bi a i : Nat) : Int) := by
  have h : a / 2 ^ i < 9223372036854775808 := Nat.lt_of_le_of_lt (Nat.div_le_self _ _) ha
  have := i64_one (a / 2 ^ i) h
  rw [Int.natCast_ediv, Int.natCast_pow] at this
  exact this
theorem wrap_nat {x : Nat} (h : x < 9223372036854775808) : wrap64 (x : Int) = (x : Int) := by unfold wrap64; omega
theorem pow_le_15 {n : Nat} (h : n ≤ 15) : 2 ^ n ≤ 32768 := Nat.pow_le_pow_right (n := 2) (by decide) h
theorem bit_prod (a b i j : Nat) : bi a i * bi b j ≤ 1 := by rcases bi_cases a i with h | h <;> rcases bi_cases b j with h1 | h1 <;> simp [h, h1]

theorem times_step {a b i j x : Nat} (ha : a < 256) (hb : b < 256) (hij : i + j ≤ 15) (hx : x < 9223372036854775808) :
    bits .xor .i64 (x : Int) (wrap64 (wrap64 (wrap64 (bits .and .u8 ((a : Int) / 2 ^ i) 1) * wrap64 (bits .and .u8 ((b : Int) / 2 ^ j) 1)) * 2 ^ (i + j))) = ((x ^^^ (bi a i * bi b j) * 2 ^ (i + j) : Nat) : Int) := by
  have h1 := bi_lt a i
  have h2 := bi_lt b j
  have h3 := bit_prod a b i j
  have h4 := pow_le_15 hij
  have h5 := Nat.mul_le_mul h3 h4
  rw [bi_u8 a i ha, bi_u8 b j hb, wrap_nat (by omega), wrap_nat (by omega), ← Int.natCast_mul, wrap_nat (by omega)]
  rw [show (2 : Int) ^ (i + j) = ((2 ^ (i + j) : Nat) : Int) by rw [Int.natCast_pow]; rfl, ← Int.natCast_mul, wrap_nat (by omega)]
  exact xor_i64_nat _ _ hx (by omega)

theorem trow_lt (a b i : Nat) (hi : i ≤ 8) : ∀ k, k ≤ 8 → ∀ x, x < 2 ^ 16 → trow a b i k x < 2 ^ 16 := fun k => by
  induction k with
  | zero => intro _ x hx; exact hx
  | succ k ih =>
    intro hk x hx
    rw [trow]
    refine Nat.xor_lt_two_pow (ih (by omega) x hx) ?_
    have h1 := bit_prod a b i k
    have h2 := pow_le_15 (n := i + k) (by omega)
    have h3 := Nat.mul_le_mul h1 h2
    omega
theorem trows_lt' (a b : Nat) : ∀ i, i ≤ 8 → trows a b i < 2 ^ 16 := fun i => by
  induction i with
  | zero => intro _; rw [trows]; decide
  | succ i ih => intro hi; rw [trows]; exact trow_lt a b i (by omega) 8 (by omega) _ (ih (by omega))
theorem tdown_lt : ∀ j x, x < 2 ^ 16 → tdown j x < 2 ^ 16 := fun j => by
  induction j with
  | zero => intro x hx; exact hx
  | succ j ih =>
    intro x hx
    rw [tdown]
    refine Nat.xor_lt_two_pow (ih x hx) ?_
    have h1 := bi_lt (tdown j x) (14 - j)
    have h2 : 2 ^ (6 - j) ≤ 2 ^ 6 := Nat.pow_le_pow_right (by decide) (by omega)
    have h3 := Nat.mul_le_mul (show bi (tdown j x) (14 - j) ≤ 1 by omega) (Nat.mul_le_mul_left 285 h2)
    omega

theorem byte_of {a : Int} (h : 0 ≤ a ∧ a ≤ 255) : ∃ n : Nat, n < 256 ∧ a = (n : Int) := ⟨a.toNat, by omega, by omega⟩

end Go.Proofs.Ytebijjigjlcjdaa
