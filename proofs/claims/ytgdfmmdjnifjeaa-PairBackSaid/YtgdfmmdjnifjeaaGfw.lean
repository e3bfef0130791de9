/-
  Several texts in one:
  - Bits of bytes and of numbers that are not negative, as naturals.
  - wholeref: Times, Power, Undo; wholekeep: fields.
-/
import Derived.Test.YtgdfmmdjnifjeaaGro
import Derived.Test.YtgdfmmdjnifjeaaGgf
namespace Go.Proofs.Ytgdfmmdjnifjeaa
open Go.RowKit
open Gf

theorem nat_u8 (a : Nat) (ha : a < 256) : (BitVec.ofInt 8 (a : Int)).toNat = a := by
  rw [BitVec.ofInt_natCast, BitVec.toNat_ofNat]; exact Nat.mod_eq_of_lt (by omega)
theorem nat_i64 (a : Nat) (ha : a < 9223372036854775808) : (BitVec.ofInt 64 (a : Int)).toNat = a := by
  rw [BitVec.ofInt_natCast, BitVec.toNat_ofNat]; exact Nat.mod_eq_of_lt (by omega)

theorem and_u8_nat (a b : Nat) (ha : a < 256) (hb : b < 256) : bits .and .u8 (a : Int) (b : Int) = ((a &&& b : Nat) : Int) := by
  have hx : a &&& b < 2 ^ 8 := Nat.and_lt_two_pow _ (by omega)
  show IntKind.u8.wrap ((BitVec.ofInt 8 (a : Int) &&& BitVec.ofInt 8 (b : Int)).toNat : Int) = _
  rw [BitVec.toNat_and, nat_u8 a ha, nat_u8 b hb]
  exact IntWalk.u8_in _ (by omega)
theorem xor_u8_nat (a b : Nat) (ha : a < 256) (hb : b < 256) : bits .xor .u8 (a : Int) (b : Int) = ((a ^^^ b : Nat) : Int) := by
  have hx : a ^^^ b < 2 ^ 8 := Nat.xor_lt_two_pow (by omega) (by omega)
  show IntKind.u8.wrap ((BitVec.ofInt 8 (a : Int) ^^^ BitVec.ofInt 8 (b : Int)).toNat : Int) = _
  rw [BitVec.toNat_xor, nat_u8 a ha, nat_u8 b hb]
  exact IntWalk.u8_in _ (by omega)
theorem xor_i64_nat (a b : Nat) (ha : a < 9223372036854775808) (hb : b < 9223372036854775808) : bits .xor .i64 (a : Int) (b : Int) = ((a ^^^ b : Nat) : Int) := by
  have hx : a ^^^ b < 2 ^ 63 := Nat.xor_lt_two_pow (by omega) (by omega)
  show IntKind.i64.wrap ((BitVec.ofInt 64 (a : Int) ^^^ BitVec.ofInt 64 (b : Int)).toNat : Int) = _
  rw [BitVec.toNat_xor, nat_i64 a ha, nat_i64 b hb]
  exact IntWalk.i64_in _ (by omega)
theorem and_i64_nat' (a b : Nat) (ha : a < 9223372036854775808) (hb : b < 9223372036854775808) : bits .and .i64 (a : Int) (b : Int) = ((a &&& b : Nat) : Int) := by
  have hx : a &&& b < 2 ^ 63 := Nat.and_lt_two_pow _ (by omega)
  show IntKind.i64.wrap ((BitVec.ofInt 64 (a : Int) &&& BitVec.ofInt 64 (b : Int)).toNat : Int) = _
  rw [BitVec.toNat_and, nat_i64 a ha, nat_i64 b hb]
  exact IntWalk.i64_in _ (by omega)

theorem u8_one (a : Nat) (ha : a < 256) : bits .and .u8 (a : Int) 1 = ((a % 2 : Nat) : Int) := by
  have := and_u8_nat a 1 ha (by decide)
  rw [Nat.and_one_is_mod] at this
  exact this
theorem i64_one (a : Nat) (ha : a < 9223372036854775808) : bits .and .i64 (a : Int) 1 = ((a % 2 : Nat) : Int) := by
  have := and_i64_nat' a 1 ha (by decide)
  rw [Nat.and_one_is_mod] at this
  exact this
theorem u8_top (a : Nat) (ha : a < 256) : bits .and .u8 (a : Int) 128 = ((128 * (a / 128) : Nat) : Int) := by
  have := and_u8_nat a 128 ha (by decide)
  have e : allB (fun a => a &&& 128 == 128 * (a / 128)) 256 = true := by decide +kernel
  have h2 : a &&& 128 = 128 * (a / 128) := by simpa using allB_iff e a ha
  rw [h2] at this
  exact this
theorem xor_u8_29 (a : Nat) (ha : a < 256) : bits .xor .u8 (a : Int) 29 = ((a ^^^ 29 : Nat) : Int) := xor_u8_nat a 29 ha (by decide)

set_option maxHeartbeats 400000 in
theorem timesX_any (a : Nat) (w : World) (ha : a < 256) : Calls Try.prog 35 #[.int .u8 (a : Int)] w (Says (.int .u8 ((xt a : Nat) : Int)) w) := by
  have H := u8_top a ha
  by_cases h : a < 128
  · have e : xt a = 2 * a := by unfold xt; rw [Nat.div_eq_of_lt h, Nat.mod_eq_of_lt (by omega)]; simp
    rw [Nat.div_eq_of_lt h] at H
    have H' : bits .and .u8 (a : Int) 128 = 0 := H
    go_enter Try.func35, Try.ntmps35
    go_wp2
    go_ret
    exact ⟨by rw [e]; simp; omega, Ex.refl _⟩
  · have h1 : a / 128 = 1 := by omega
    rw [h1] at H
    have H' : bits .and .u8 (a : Int) 128 = 128 := H
    have e : xt a = (2 * a % 256) ^^^ 29 := by unfold xt; rw [h1]
    have X := xor_u8_29 (2 * a % 256) (by omega)
    go_enter Try.func35, Try.ntmps35
    go_wp2
    go_ret
    exact ⟨by rw [e, ← X]; simp [Nat.mul_comm], Ex.refl _⟩

/-- The product step by step. -/
theorem gmf_zero : ∀ n a, gmf n a 0 = 0 := by
  intro n
  induction n with
  | zero => intro a; rfl
  | succ n ih => intro a; rw [gmf, Nat.zero_mod, Nat.mul_zero, Nat.zero_div, ih]; rfl
theorem gmf_step {n a b : Nat} (h0 : b ≠ 0) (hb : b < 2 ^ n) : ∃ m, n = m + 1 ∧ b / 2 < 2 ^ m ∧ gmf n a b = (a * (b % 2)) ^^^ gmf m (xt a) (b / 2) := by
  cases n with
  | zero => exact absurd (by simpa using hb) h0
  | succ m => exact ⟨m, rfl, by rw [Nat.pow_succ] at hb; omega, rfl⟩

set_option maxHeartbeats 1000000 in
theorem fmul_any (a b : Nat) (w : World) (ha : a < 256) (hb : b < 256) : Calls Try.prog 26 #[.int .u8 (a : Int), .int .u8 (b : Int)] w (Says (.int .u8 ((gm a b : Nat) : Int)) w) := by
  have HT := Lib.hid fun (a : Nat) (w : World) (h : a < 256) => timesX_any a w h
  go_enter Try.func26, Try.ntmps26
  go_wp2
  go_loopg [0, 1, 5] b (fun k v0 v1 v5 wr => ∃ a' b' q n : Nat, a' < 256 ∧ b' < 256 ∧ q < 256 ∧ v0 = .int .u8 (a' : Int) ∧ v1 = .int .u8 (b' : Int) ∧ v5 = .int .u8 (q : Int) ∧ Hid (b' < 2 ^ n) ∧ Hid (q ^^^ gmf n a' b' = gm a b) ∧ Hid (k = b') ∧ Ex w wr)
  case atStart => exact ⟨a, b, 0, 8, ha, hb, by omega, rfl, rfl, rfl, Lib.hid hb, Lib.hid (by rw [Nat.zero_xor]; rfl), Lib.hid rfl, Ex.refl _⟩
  case round =>
    obtain ⟨a', b', q, n, ha', hb', hq, rfl, rfl, rfl, hn, hI, hk, hx⟩ := hrel
    by_cases h0 : b' = 0
    · have e := hI.out
      rw [h0, gmf_zero, Nat.xor_zero] at e
      have E := Lib.hid e
      have hz : ((b' : Nat) : Int) = 0 := by omega
      clear e h0
      go_wp2
      go_ret
      exact ⟨by rw [E.out]; rfl, hx⟩
    · obtain ⟨m, rfl, hm, es⟩ := gmf_step (a := a') h0 hn.out
      have e := hI.out
      rw [es] at e
      have hnz : ((b' : Nat) : Int) ≠ 0 := by omega
      have hx2 := xt_lt ha'
      have H := u8_one b' hb'
      have X := xor_u8_nat q a' hq ha'
      have hqa : q ^^^ a' < 256 := xor_lt hq ha'
      rcases Nat.mod_two_eq_zero_or_one b' with h2 | h2
      · rw [h2, Nat.mul_zero, Nat.zero_xor] at e
        have E := Lib.hid e
        rw [h2] at H
        have H' : bits .and .u8 (b' : Int) 1 = 0 := H
        clear e es H h2 X hqa
        go_wp2_with (go_at_call 35; (with_reducible refine (HT.out a' _ ha').mono ?_); rintro e w2 ⟨rfl, hw2⟩)
        go_roundg (b' / 2)
        case measure => have := hk.out; omega
        case rel => exact ⟨xt a', b' / 2, q, m, hx2, by omega, hq, rfl, by go_num, rfl, Lib.hid hm, E, Lib.hid rfl, hx.trans hw2⟩
      · rw [h2, Nat.mul_one, ← Nat.xor_assoc] at e
        have E := Lib.hid e
        rw [h2] at H
        have H' : bits .and .u8 (b' : Int) 1 = 1 := H
        clear e es H h2
        go_wp2_with (go_at_call 35; (with_reducible refine (HT.out a' _ ha').mono ?_); rintro e w2 ⟨rfl, hw2⟩)
        go_roundg (b' / 2)
        case measure => have := hk.out; omega
        case rel => exact ⟨xt a', b' / 2, q ^^^ a', m, hx2, by omega, hqa, rfl, by go_num, rfl, Lib.hid hm, E, Lib.hid rfl, hx.trans hw2⟩

/-- Powers by halves. -/
theorem gp_even {a : Nat} (ha : a < 256) (n : Nat) : gp a (2 * n) = gp (gm a a) n := by
  have e2 : gp a 2 = gm a a := by rw [show 2 = 1 + 1 from rfl, gp_add ha, gp_one ha]
  rw [gp_mul ha, e2]
theorem gp_halve {a n : Nat} (ha : a < 256) (h : n % 2 = 0) : gp a n = gp (gm a a) (n / 2) := by
  rw [← gp_even ha, show 2 * (n / 2) = n by omega]
theorem gp_halve' {a n : Nat} (ha : a < 256) (h : n % 2 = 1) : gp a n = gm a (gp (gm a a) (n / 2)) := by
  rw [← gp_even ha]
  have e : n = 1 + 2 * (n / 2) := by omega
  have h2 := gp_add ha 1 (2 * (n / 2))
  rw [← e, gp_one ha] at h2
  exact h2

/-- An answer and no error. -/
def byteOk (x : Nat) : Value := .tuple #[.int .u8 (x : Int), .int .i64 0]

theorem fpow_no (a n : Int) (w : World) (hn : n < 0) : Calls Try.prog 20 #[.int .u8 a, .int .i64 n] w (Says (.tuple #[.int .u8 0, .int .i64 1]) w) := by
  go_enter Try.func20, Try.ntmps20
  go_wp2
  go_ret2
  exact ⟨rfl, Ex.refl _⟩

set_option maxHeartbeats 1000000 in
theorem fpow_ok (a n : Nat) (w : World) (ha : a < 256) (hn : n < 9223372036854775808) : Calls Try.prog 20 #[.int .u8 (a : Int), .int .i64 (n : Int)] w (Says (.tuple #[.int .u8 ((gp a n : Nat) : Int), .int .i64 0]) w) := by
  have HM := Lib.hid fun (a b : Nat) (w : World) (h : a < 256) (h2 : b < 256) => fmul_any a b w h h2
  go_enter Try.func20, Try.ntmps20
  go_wp2
  go_loopg [0, 1, 6] n (fun k v0 v1 v6 wr => ∃ a' n' q : Nat, a' < 256 ∧ n' < 9223372036854775808 ∧ q < 256 ∧ v0 = .int .u8 (a' : Int) ∧ v1 = .int .i64 (n' : Int) ∧ v6 = .int .u8 (q : Int) ∧ Hid (gm q (gp a' n') = gp a n) ∧ Hid (k = n') ∧ Ex w wr)
  case atStart => exact ⟨a, n, 1, ha, hn, by omega, rfl, rfl, rfl, Lib.hid (by rw [gm_comm (by omega) (gp_lt n), gm_one]), Lib.hid rfl, Ex.refl _⟩
  case round =>
    obtain ⟨a', n', q, ha', hn', hq, rfl, rfl, rfl, hI, hk, hx⟩ := hrel
    by_cases h0 : n' = 0
    · have e := hI.out
      rw [h0] at e
      rw [show gp a' 0 = 1 from rfl, gm_one] at e
      have E := Lib.hid e
      have hz : ((n' : Nat) : Int) = 0 := by omega
      clear e h0
      go_wp2
      go_ret2
      exact ⟨by rw [E.out]; rfl, hx⟩
    · have hpos : (0 : Int) < ((n' : Nat) : Int) := by omega
      have e := hI.out
      have ha2 : gm a' a' < 256 := gm_lt ha'
      rcases Nat.mod_two_eq_zero_or_one n' with h2 | h2
      · rw [gp_halve ha' h2] at e
        have E := Lib.hid e
        have hz : ((n' : Nat) : Int) % 2 = 0 := by omega
        clear e h2
        go_wp2_with (go_at_call 26; (with_reducible refine (HM.out a' a' _ ha' ha').mono ?_); rintro e w2 ⟨rfl, hw2⟩)
        go_roundg (n' / 2)
        case measure => have := hk.out; omega
        case rel => exact ⟨gm a' a', n' / 2, q, ha2, by omega, hq, rfl, by go_num, rfl, E, Lib.hid rfl, hx.trans hw2⟩
      · have hqa : gm q a' < 256 := gm_lt hq
        rw [gp_halve' ha' h2, ← gm_assoc hq ha' (gp_lt _)] at e
        have E := Lib.hid e
        have hz : ((n' : Nat) : Int) % 2 = 1 := by omega
        have HQ := Lib.hid fun w => HM.out q a' w hq ha'
        have HS := Lib.hid fun w => HM.out a' a' w ha' ha'
        clear e h2
        go_wp2_with (first
          | (go_at_call 26; (with_reducible refine (HQ.out _).mono ?_); rintro e w2 ⟨rfl, hw2⟩; have hx2 := hx.trans hw2; clear HQ hw2 hx)
          | (go_at_call 26; (with_reducible refine (HS.out _).mono ?_); rintro e w3 ⟨rfl, hw3⟩))
        go_roundg (n' / 2)
        case measure => have := hk.out; omega
        case rel => exact ⟨gm a' a', n' / 2, gm q a', ha2, by omega, hqa, rfl, by go_num, rfl, E, Lib.hid rfl, hx2.trans hw3⟩

theorem finv_no (w : World) : Calls Try.prog 41 #[.int .u8 0] w (Says (.tuple #[.int .u8 0, .int .i64 5]) w) := by
  go_enter Try.func41, Try.ntmps41
  go_wp2
  go_ret2
  exact ⟨rfl, Ex.refl _⟩
theorem finv_ok (a : Nat) (w : World) (ha : a < 256) (h0 : a ≠ 0) : Calls Try.prog 41 #[.int .u8 (a : Int)] w (Says (.tuple #[.int .u8 ((gi a : Nat) : Int), .int .i64 0]) w) := by
  have HP := fpow_ok a 254
  rw [← gi_gp ha] at HP
  have HQ : Hid (∀ w, Calls Try.prog 20 #[.int .u8 (a : Int), .int .i64 254] w (Says (.tuple #[.int .u8 ((gi a : Nat) : Int), .int .i64 0]) w)) := Lib.hid fun w => HP w ha (by decide)
  have hz : ((a : Nat) : Int) ≠ 0 := by omega
  clear HP h0
  go_enter Try.func41, Try.ntmps41
  go_wp2_with (go_at_call 20; (with_reducible refine (HQ.out _).mono ?_); rintro e w2 ⟨rfl, hw2⟩)
  go_ret2
  exact ⟨rfl, hw2⟩

end Go.Proofs.Ytgdfmmdjnifjeaa

namespace Go.Proofs.Ytgdfmmdjnifjeaa
open Go.RowKit
open Gf

theorem bi_u8 (a i : Nat) (ha : a < 256) : bits .and .u8 ((a : Int) / 2 ^ i) 1 = ((bi a i : Nat) : Int) := by
  have h : a / 2 ^ i < 256 := Nat.lt_of_le_of_lt (Nat.div_le_self _ _) ha
  have := u8_one (a / 2 ^ i) h
  rw [Int.natCast_ediv, Int.natCast_pow] at this
  exact this
theorem bi_i64 (a i : Nat) (ha : a < 9223372036854775808) : bits .and .i64 ((a : Int) / 2 ^ i) 1 = ((bi a i : Nat) : Int) := by
  have h : a / 2 ^ i < 9223372036854775808 := Nat.lt_of_le_of_lt (Nat.div_le_self _ _) ha
  have := i64_one (a / 2 ^ i) h
  rw [Int.natCast_ediv, Int.natCast_pow] at this
  exact this
theorem wrap_nat {x : Nat} (h : x < 9223372036854775808) : wrap64 (x : Int) = (x : Int) := by unfold wrap64; omega
theorem pow_le_15 {n : Nat} (h : n ≤ 15) : 2 ^ n ≤ 32768 := Nat.pow_le_pow_right (n := 2) (by decide) h
theorem bit_prod (a b i j : Nat) : bi a i * bi b j ≤ 1 := by rcases bi_cases a i with h | h <;> rcases bi_cases b j with h1 | h1 <;> simp [h, h1]

theorem times_step {a b i j x : Nat} (ha : a < 256) (hb : b < 256) (hij : i + j ≤ 15) (hx : x < 9223372036854775808) :
    bits .xor .i64 (x : Int) (wrap64 (wrap64 (wrap64 (bits .and .u8 ((a : Int) / 2 ^ i) 1) * wrap64 (bits .and .u8 ((b : Int) / 2 ^ j) 1)) * 2 ^ (i + j))) = ((x ^^^ (bi a i * bi b j) * 2 ^ (i + j) : Nat) : Int) := by
  have h1 := bi_lt a i
  have h2 := bi_lt b j
  have h3 := bit_prod a b i j
  have h4 := pow_le_15 hij
  have h5 := Nat.mul_le_mul h3 h4
  rw [bi_u8 a i ha, bi_u8 b j hb, wrap_nat (by omega), wrap_nat (by omega), ← Int.natCast_mul, wrap_nat (by omega)]
  rw [show (2 : Int) ^ (i + j) = ((2 ^ (i + j) : Nat) : Int) by rw [Int.natCast_pow]; rfl, ← Int.natCast_mul, wrap_nat (by omega)]
  exact xor_i64_nat _ _ hx (by omega)

theorem trow_lt (a b i : Nat) (hi : i ≤ 8) : ∀ k, k ≤ 8 → ∀ x, x < 2 ^ 16 → trow a b i k x < 2 ^ 16 := fun k => by
  induction k with
  | zero => intro _ x hx; exact hx
  | succ k ih =>
    intro hk x hx
    rw [trow]
    refine Nat.xor_lt_two_pow (ih (by omega) x hx) ?_
    have h1 := bit_prod a b i k
    have h2 := pow_le_15 (n := i + k) (by omega)
    have h3 := Nat.mul_le_mul h1 h2
    omega
theorem trows_lt' (a b : Nat) : ∀ i, i ≤ 8 → trows a b i < 2 ^ 16 := fun i => by
  induction i with
  | zero => intro _; rw [trows]; decide
  | succ i ih => intro hi; rw [trows]; exact trow_lt a b i (by omega) 8 (by omega) _ (ih (by omega))
theorem tdown_lt : ∀ j x, x < 2 ^ 16 → tdown j x < 2 ^ 16 := fun j => by
  induction j with
  | zero => intro x hx; exact hx
  | succ j ih =>
    intro x hx
    rw [tdown]
    refine Nat.xor_lt_two_pow (ih x hx) ?_
    have h1 := bi_lt (tdown j x) (14 - j)
    have h2 : 2 ^ (6 - j) ≤ 2 ^ 6 := Nat.pow_le_pow_right (by decide) (by omega)
    have h3 := Nat.mul_le_mul (show bi (tdown j x) (14 - j) ≤ 1 by omega) (Nat.mul_le_mul_left 285 h2)
    omega

set_option maxRecDepth 100000 in
set_option maxHeartbeats 1000000 in
theorem times_any (a b : Nat) (w : World) (ha : a < 256) (hb : b < 256) : Calls Try.prog 24 #[.int .u8 (a : Int), .int .u8 (b : Int)] w (Says (.int .u8 ((gm a b : Nat) : Int)) w) := by
  go_enter Try.func24, Try.ntmps24
  go_wp2
  go_loopg [5, 9] (8) (fun k v5 v9 wr => ∃ i : Nat, i ≤ 8 ∧ v5 = .int .i64 ((trows a b i : Nat) : Int) ∧ v9 = .int .i64 (i : Int) ∧ Hid (k = 8 - i) ∧ Ex w wr)
  case atStart => exact ⟨0, by omega, rfl, rfl, Lib.hid rfl, Ex.refl _⟩
  case round =>
    obtain ⟨i, hi, rfl, rfl, hk, hx⟩ := hrel
    by_cases h8 : i < 8
    · rename World => wo
      go_wp2
      go_loopg [5, 12] (8) (fun k v5 v12 wr => ∃ j : Nat, j ≤ 8 ∧ v5 = .int .i64 ((trow a b i j (trows a b i) : Nat) : Int) ∧ v12 = .int .i64 (j : Int) ∧ Hid (k = 8 - j) ∧ Ex w wr)
      case atStart => exact ⟨0, by omega, rfl, rfl, Lib.hid rfl, hx⟩
      case round =>
        obtain ⟨j, hj, rfl, rfl, hk2, hx2⟩ := hrel
        by_cases hj8 : j < 8
        · go_wp2
          go_quiet (fail)
          go_wp2
          go_roundg (8 - (j + 1))
          case measure => have := hk2.out; omega
          case rel =>
            have h1 := trow_lt a b i (by omega) j (by omega) _ (trows_lt' a b i (by omega))
            exact ⟨j + 1, by omega, by rw [times_step ha hb (by omega) (by omega)]; rfl, by go_num, Lib.hid rfl, hx2.drewN _⟩
        · have e : j = 8 := by omega
          subst e
          go_wp2
          go_roundg (8 - (i + 1))
          case measure => have := hk.out; omega
          case rel => exact ⟨i + 1, by omega, rfl, by go_num, Lib.hid rfl, hx2⟩
    · have e : i = 8 := by omega
      subst e
      obtain ⟨T, hT⟩ : ∃ T, trows a b 8 = T := ⟨_, rfl⟩
      have hT16 := trows_lt' a b 8 (by omega)
      have hG : tdown 7 T = gm a b := by rw [← hT]; exact tmr_gm ha hb
      rw [hT] at hT16 ⊢
      have HG := Lib.hid hG
      have hg := gm_lt (b := b) ha
      clear hG hT hk
      rename World => wo
      go_wp2
      go_loopg [5, 8] (7) (fun k v5 v8 wr => ∃ c x : Nat, 7 ≤ c ∧ c ≤ 14 ∧ x < 65536 ∧ v5 = .int .i64 (x : Int) ∧ v8 = .int .i64 (c : Int) ∧ Hid (x = tdown (14 - c) T) ∧ Hid (k = c - 7) ∧ Ex w wr)
      case atStart => exact ⟨14, T, by omega, by omega, hT16, rfl, rfl, Lib.hid rfl, Lib.hid rfl, hx⟩
      case round =>
        obtain ⟨c, x, c7, c14, hx16, rfl, rfl, hI, hk, hx2⟩ := hrel
        by_cases hc : 8 ≤ c
        · have H := bi_i64 x c (by omega)
          have e := hI.out
          have es : tdown (14 - (c - 1)) T = x ^^^ bi x c * (285 * 2 ^ (c - 8)) := by
            rw [show 14 - (c - 1) = 14 - c + 1 by omega, tdown, ← e, show 14 - (14 - c) = c by omega, show 6 - (14 - c) = c - 8 by omega]
          have hlt : x ^^^ bi x c * (285 * 2 ^ (c - 8)) < 65536 := by rw [← es]; exact tdown_lt _ _ hT16
          rcases bi_cases x c with h2 | h2
          · rw [h2, Nat.zero_mul, Nat.xor_zero] at es
            rw [h2] at H
            have H' : bits .and .i64 ((x : Int) / 2 ^ c) 1 = 0 := H
            have E := Lib.hid es
            clear H h2 es e hlt
            go_wp2
            go_roundg (c - 1 - 7)
            case measure => have := hk.out; omega
            case rel => exact ⟨c - 1, x, by omega, by omega, hx16, rfl, by go_num, Lib.hid E.out.symm, Lib.hid rfl, hx2⟩
          · rw [h2, Nat.one_mul] at es hlt
            rw [h2] at H
            have H' : bits .and .i64 ((x : Int) / 2 ^ c) 1 = 1 := H
            have E := Lib.hid es
            clear H h2 es e
            have hp : 2 ^ (c - 8) ≤ 64 := by
              have := Nat.pow_le_pow_right (n := 2) (by decide) (show c - 8 ≤ 6 by omega)
              exact this
            have X : bits .xor .i64 (x : Int) (wrap64 (285 * 2 ^ (c - 8))) = ((x ^^^ 285 * 2 ^ (c - 8) : Nat) : Int) := by
              have h1 : wrap64 (285 * 2 ^ (c - 8)) = ((285 * 2 ^ (c - 8) : Nat) : Int) := by
                have := wrap_nat (x := 285 * 2 ^ (c - 8)) (by omega)
                rw [← this, Int.natCast_mul, Int.natCast_pow]
                rfl
              rw [h1]
              exact xor_i64_nat _ _ (by omega) (by omega)
            have HX := Lib.hid X
            clear X
            go_wp2
            go_roundg (c - 1 - 7)
            case measure => have := hk.out; omega
            case rel => exact ⟨c - 1, x ^^^ 285 * 2 ^ (c - 8), by omega, by omega, hlt, by rw [HX.out], by go_num, Lib.hid E.out.symm, Lib.hid rfl, hx2⟩
        · have e7 : c = 7 := by omega
          subst e7
          have e := hI.out
          rw [show 14 - 7 = 7 by rfl, HG.out] at e
          subst e
          go_wp2
          go_ret
          exact ⟨rfl, hx2⟩

theorem byte_of {a : Int} (h : 0 ≤ a ∧ a ≤ 255) : ∃ n : Nat, n < 256 ∧ a = (n : Int) := ⟨a.toNat, by omega, by omega⟩

theorem mulH (a b v : Nat) (ha : a < 256) (hb : b < 256) (h : gm a b = v) : Hid (∀ w, Calls Try.prog 26 #[.int .u8 (a : Int), .int .u8 (b : Int)] w (Says (.int .u8 (v : Int)) w)) := Lib.hid fun w => by
  subst h
  exact fmul_any a b w ha hb

theorem powH (a n v : Nat) (ha : a < 256) (hn : n < 9223372036854775808) (h : gp a n = v) : Hid (∀ w, Calls Try.prog 20 #[.int .u8 (a : Int), .int .i64 (n : Int)] w (Says (.tuple #[.int .u8 (v : Int), .int .i64 0]) w)) := Lib.hid fun w => by
  subst h
  exact fpow_ok a n w ha hn
theorem invH (a v : Nat) (ha : a < 256) (h0 : a ≠ 0) (h : gi a = v) : Hid (∀ w, Calls Try.prog 41 #[.int .u8 (a : Int)] w (Says (.tuple #[.int .u8 (v : Int), .int .i64 0]) w)) := Lib.hid fun w => by
  subst h
  exact finv_ok a w ha h0

end Go.Proofs.Ytgdfmmdjnifjeaa
