/-
  wholeref: Times, Power, Undo; wholekeep: fields.
-/
import Derived.Test.YtpfkhodiegkigaaGfByte
import Derived.Test.YtpfkhodiegkigaaGgf
namespace Go.Proofs.Ytpfkhodiegkigaa
open Go.RowKit
open Gf

theorem bi_u8 (a i : Nat) (ha : a < 256) : bits .and .u8 ((a : Int) / 2 ^ i) 1 = ((bi a i : Nat) : Int) := by
  have h : a / 2 ^ i < 256 := Nat.lt_of_le_of_lt (Nat.div_le_self _ _) ha
  have := u8_one (a / 2 ^ i) h
  rw [Int.natCast_ediv, Int.natCast_pow] at this
  exact this
theorem bi_i64 (a i : Nat) (ha : a < 9223372036854775808) : bits .and .i64 ((a : Int) / 2 ^ i) 1 = ((bi a i : Nat) : Int) := by
  have h : a / 2 ^ i < 9223372036854775808 := Nat.lt_of_le_of_lt (Nat.div_le_self _ _) ha
  have := i64_one (a / 2 ^ i) h
  rw [Int.natCast_ediv, Int.natCast_pow] at this
  exact this
theorem wrap_nat {x : Nat} (h : x < 9223372036854775808) : wrap64 (x : Int) = (x : Int) := by unfold wrap64; omega
theorem pow_le_15 {n : Nat} (h : n ≤ 15) : 2 ^ n ≤ 32768 := Nat.pow_le_pow_right (n := 2) (by decide) h
theorem bit_prod (a b i j : Nat) : bi a i * bi b j ≤ 1 := by rcases bi_cases a i with h | h <;> rcases bi_cases b j with h1 | h1 <;> simp [h, h1]

theorem times_step {a b i j x : Nat} (ha : a < 256) (hb : b < 256) (hij : i + j ≤ 15) (hx : x < 9223372036854775808) :
    bits .xor .i64 (x : Int) (wrap64 (wrap64 (wrap64 (bits .and .u8 ((a : Int) / 2 ^ i) 1) * wrap64 (bits .and .u8 ((b : Int) / 2 ^ j) 1)) * 2 ^ (i + j))) = ((x ^^^ (bi a i * bi b j) * 2 ^ (i + j) : Nat) : Int) := by
  have h1 := bi_lt a i
  have h2 := bi_lt b j
  have h3 := bit_prod a b i j
  have h4 := pow_le_15 hij
  have h5 := Nat.mul_le_mul h3 h4
  rw [bi_u8 a i ha, bi_u8 b j hb, wrap_nat (by omega), wrap_nat (by omega), ← Int.natCast_mul, wrap_nat (by omega)]
  rw [show (2 : Int) ^ (i + j) = ((2 ^ (i + j) : Nat) : Int) by rw [Int.natCast_pow]; rfl, ← Int.natCast_mul, wrap_nat (by omega)]
  exact xor_i64_nat _ _ hx (by omega)

theorem trow_lt (a b i : Nat) (hi : i ≤ 8) : ∀ k, k ≤ 8 → ∀ x, x < 2 ^ 16 → trow a b i k x < 2 ^ 16 := fun k => by
  induction k with
  | zero => intro _ x hx; exact hx
  | succ k ih =>
    intro hk x hx
    rw [trow]
    refine Nat.xor_lt_two_pow (ih (by omega) x hx) ?_
    have h1 := bit_prod a b i k
    have h2 := pow_le_15 (n := i + k) (by omega)
    have h3 := Nat.mul_le_mul h1 h2
    omega
theorem trows_lt' (a b : Nat) : ∀ i, i ≤ 8 → trows a b i < 2 ^ 16 := fun i => by
  induction i with
  | zero => intro _; rw [trows]; decide
  | succ i ih => intro hi; rw [trows]; exact trow_lt a b i (by omega) 8 (by omega) _ (ih (by omega))
theorem tdown_lt : ∀ j x, x < 2 ^ 16 → tdown j x < 2 ^ 16 := fun j => by
  induction j with
  | zero => intro x hx; exact hx
  | succ j ih =>
    intro x hx
    rw [tdown]
    refine Nat.xor_lt_two_pow (ih x hx) ?_
    have h1 := bi_lt (tdown j x) (14 - j)
    have h2 : 2 ^ (6 - j) ≤ 2 ^ 6 := Nat.pow_le_pow_right (by decide) (by omega)
    have h3 := Nat.mul_le_mul (show bi (tdown j x) (14 - j) ≤ 1 by omega) (Nat.mul_le_mul_left 285 h2)
    omega

set_option maxRecDepth 100000 in
set_option maxHeartbeats 1000000 in
theorem times_any (a b : Nat) (w : World) (ha : a < 256) (hb : b < 256) : Calls Try.prog 13 #[.int .u8 (a : Int), .int .u8 (b : Int)] w (Says (.int .u8 ((gm a b : Nat) : Int)) w) := by
  go_enter Try.func13, Try.ntmps13
  go_wp2
  go_loopg [5, 9] (8) (fun k v5 v9 wr => ∃ i : Nat, i ≤ 8 ∧ v5 = .int .i64 ((trows a b i : Nat) : Int) ∧ v9 = .int .i64 (i : Int) ∧ Hid (k = 8 - i) ∧ Ex w wr)
  case atStart => exact ⟨0, by omega, rfl, rfl, Lib.hid rfl, Ex.refl _⟩
  case round =>
    obtain ⟨i, hi, rfl, rfl, hk, hx⟩ := hrel
    by_cases h8 : i < 8
    · rename World => wo
      go_wp2
      go_loopg [5, 12] (8) (fun k v5 v12 wr => ∃ j : Nat, j ≤ 8 ∧ v5 = .int .i64 ((trow a b i j (trows a b i) : Nat) : Int) ∧ v12 = .int .i64 (j : Int) ∧ Hid (k = 8 - j) ∧ Ex w wr)
      case atStart => exact ⟨0, by omega, rfl, rfl, Lib.hid rfl, hx⟩
      case round =>
        obtain ⟨j, hj, rfl, rfl, hk2, hx2⟩ := hrel
        by_cases hj8 : j < 8
        · go_wp2
          go_quiet (fail)
          go_wp2
          go_roundg (8 - (j + 1))
          case measure => have := hk2.out; omega
          case rel =>
            have h1 := trow_lt a b i (by omega) j (by omega) _ (trows_lt' a b i (by omega))
            exact ⟨j + 1, by omega, by rw [times_step ha hb (by omega) (by omega)]; rfl, by go_num, Lib.hid rfl, hx2.drewN _⟩
        · have e : j = 8 := by omega
          subst e
          go_wp2
          go_roundg (8 - (i + 1))
          case measure => have := hk.out; omega
          case rel => exact ⟨i + 1, by omega, rfl, by go_num, Lib.hid rfl, hx2⟩
    · have e : i = 8 := by omega
      subst e
      obtain ⟨T, hT⟩ : ∃ T, trows a b 8 = T := ⟨_, rfl⟩
      have hT16 := trows_lt' a b 8 (by omega)
      have hG : tdown 7 T = gm a b := by rw [← hT]; exact tmr_gm ha hb
      rw [hT] at hT16 ⊢
      have HG := Lib.hid hG
      have hg := gm_lt (b := b) ha
      clear hG hT hk
      rename World => wo
      go_wp2
      go_loopg [5, 8] (7) (fun k v5 v8 wr => ∃ c x : Nat, 7 ≤ c ∧ c ≤ 14 ∧ x < 65536 ∧ v5 = .int .i64 (x : Int) ∧ v8 = .int .i64 (c : Int) ∧ Hid (x = tdown (14 - c) T) ∧ Hid (k = c - 7) ∧ Ex w wr)
      case atStart => exact ⟨14, T, by omega, by omega, hT16, rfl, rfl, Lib.hid rfl, Lib.hid rfl, hx⟩
      case round =>
        obtain ⟨c, x, c7, c14, hx16, rfl, rfl, hI, hk, hx2⟩ := hrel
        by_cases hc : 8 ≤ c
        · have H := bi_i64 x c (by omega)
          have e := hI.out
          have es : tdown (14 - (c - 1)) T = x ^^^ bi x c * (285 * 2 ^ (c - 8)) := by
            rw [show 14 - (c - 1) = 14 - c + 1 by omega, tdown, ← e, show 14 - (14 - c) = c by omega, show 6 - (14 - c) = c - 8 by omega]
          have hlt : x ^^^ bi x c * (285 * 2 ^ (c - 8)) < 65536 := by rw [← es]; exact tdown_lt _ _ hT16
          rcases bi_cases x c with h2 | h2
          · rw [h2, Nat.zero_mul, Nat.xor_zero] at es
            rw [h2] at H
            have H' : bits .and .i64 ((x : Int) / 2 ^ c) 1 = 0 := H
            have E := Lib.hid es
            clear H h2 es e hlt
            go_wp2
            go_roundg (c - 1 - 7)
            case measure => have := hk.out; omega
            case rel => exact ⟨c - 1, x, by omega, by omega, hx16, rfl, by go_num, Lib.hid E.out.symm, Lib.hid rfl, hx2⟩
          · rw [h2, Nat.one_mul] at es hlt
            rw [h2] at H
            have H' : bits .and .i64 ((x : Int) / 2 ^ c) 1 = 1 := H
            have E := Lib.hid es
            clear H h2 es e
            have hp : 2 ^ (c - 8) ≤ 64 := by
              have := Nat.pow_le_pow_right (n := 2) (by decide) (show c - 8 ≤ 6 by omega)
              exact this
            have X : bits .xor .i64 (x : Int) (wrap64 (285 * 2 ^ (c - 8))) = ((x ^^^ 285 * 2 ^ (c - 8) : Nat) : Int) := by
              have h1 : wrap64 (285 * 2 ^ (c - 8)) = ((285 * 2 ^ (c - 8) : Nat) : Int) := by
                have := wrap_nat (x := 285 * 2 ^ (c - 8)) (by omega)
                rw [← this, Int.natCast_mul, Int.natCast_pow]
                rfl
              rw [h1]
              exact xor_i64_nat _ _ (by omega) (by omega)
            have HX := Lib.hid X
            clear X
            go_wp2
            go_roundg (c - 1 - 7)
            case measure => have := hk.out; omega
            case rel => exact ⟨c - 1, x ^^^ 285 * 2 ^ (c - 8), by omega, by omega, hlt, by rw [HX.out], by go_num, Lib.hid E.out.symm, Lib.hid rfl, hx2⟩
        · have e7 : c = 7 := by omega
          subst e7
          have e := hI.out
          rw [show 14 - 7 = 7 by rfl, HG.out] at e
          subst e
          go_wp2
          go_ret
          exact ⟨rfl, hx2⟩

set_option maxHeartbeats 1000000 in
theorem rpower_any (a n : Nat) (w : World) (ha : a < 256) (hn : n < 9223372036854775808) : Calls Try.prog 14 #[.int .u8 (a : Int), .int .i64 (n : Int)] w (Says (.int .u8 ((gp a n : Nat) : Int)) w) := by
  have HM := Lib.hid fun (a b : Nat) (w : World) (h : a < 256) (h2 : b < 256) => times_any a b w h h2
  obtain ⟨K, hK, hG, hc⟩ : ∃ K : Nat, K < 256 ∧ gp a K = gp a n ∧ (n ≤ 255 ∧ K = n ∨ 255 < n ∧ ((n : Int) - 1) % 255 + 1 = (K : Int)) := by
    by_cases h : n ≤ 255
    · exact ⟨n, by omega, rfl, .inl ⟨h, rfl⟩⟩
    · exact ⟨(n - 1) % 255 + 1, by omega, gp_round ha (by omega), .inr ⟨by omega, by omega⟩⟩
  obtain ⟨V, hV⟩ : ∃ V, gp a n = V := ⟨_, rfl⟩
  rw [hV] at hG ⊢
  have HG := Lib.hid hG
  clear hG hV
  go_enter Try.func14, Try.ntmps14
  rcases hc with ⟨h, hKn⟩ | ⟨h, hKe⟩
  · subst hKn
    have hb : decide ((255 : Int) < (K : Int)) = false := decide_eq_false (by omega)
    go_wp2
    go_loopg [5, 13] K (fun k v5 v13 wr => ∃ m : Nat, m ≤ K ∧ v5 = .int .u8 ((gp a m : Nat) : Int) ∧ v13 = .int .i64 (m : Int) ∧ Hid (k = K - m) ∧ Ex w wr)
    case atStart => exact ⟨0, by omega, rfl, rfl, Lib.hid rfl, Ex.refl _⟩
    case round =>
      obtain ⟨m, hm, rfl, rfl, hk, hx⟩ := hrel
      have hq := gp_lt (a := a) m
      have hq2 := gp_lt (a := a) (m + 1)
      by_cases hlt : m < K
      · have HS := Lib.hid fun w => HM.out (gp a m) a w hq ha
        go_wp2_with (go_at_call 13; (with_reducible refine (HS.out _).mono ?_); rintro e w2 ⟨rfl, hw2⟩)
        go_roundg (K - (m + 1))
        case measure => have := hk.out; omega
        case rel => exact ⟨m + 1, by omega, rfl, by go_num, Lib.hid rfl, hx.trans hw2⟩
      · have e1 : m = K := by omega
        subst e1
        go_wp2
        go_ret
        exact ⟨congrArg (fun x : Nat => Ending.returned (Value.int .u8 (x : Int))) HG.out, hx⟩
  · have hb : decide ((255 : Int) < (n : Int)) = true := decide_eq_true (by omega)
    go_wp2
    go_loopg [5, 13] K (fun k v5 v13 wr => ∃ m : Nat, m ≤ K ∧ v5 = .int .u8 ((gp a m : Nat) : Int) ∧ v13 = .int .i64 (m : Int) ∧ Hid (k = K - m) ∧ Ex w wr)
    case atStart => exact ⟨0, by omega, rfl, rfl, Lib.hid rfl, Ex.refl _⟩
    case round =>
      obtain ⟨m, hm, rfl, rfl, hk, hx⟩ := hrel
      have hq := gp_lt (a := a) m
      have hq2 := gp_lt (a := a) (m + 1)
      by_cases hlt : m < K
      · have HS := Lib.hid fun w => HM.out (gp a m) a w hq ha
        go_wp2_with (go_at_call 13; (with_reducible refine (HS.out _).mono ?_); rintro e w2 ⟨rfl, hw2⟩)
        go_roundg (K - (m + 1))
        case measure => have := hk.out; omega
        case rel => exact ⟨m + 1, by omega, rfl, by go_num, Lib.hid rfl, hx.trans hw2⟩
      · have e1 : m = K := by omega
        subst e1
        go_wp2
        go_ret
        exact ⟨congrArg (fun x : Nat => Ending.returned (Value.int .u8 (x : Int))) HG.out, hx⟩

theorem sqs_step (n a out : Nat) (ha : a < 256) (ho : out < 256) : gm out (sqs (n + 1) a) = gm (gm out (gm a a)) (sqs n (gm a a)) := by
  have h : sqs n (gm a a) < 256 := by rw [sqs_gp n _ (gm_lt ha)]; exact gp_lt _
  rw [sqs, gm_assoc ho (gm_lt ha) h]

set_option maxHeartbeats 1000000 in
theorem undo_any (a : Nat) (w : World) (ha : a < 256) : Calls Try.prog 15 #[.int .u8 (a : Int)] w (Says (.int .u8 ((gi a : Nat) : Int)) w) := by
  have HM := Lib.hid fun (a b : Nat) (w : World) (h : a < 256) (h2 : b < 256) => times_any a b w h h2
  go_enter Try.func15, Try.ntmps15
  go_wp2
  go_loopg [0, 3, 4] 7 (fun k v0 v3 v4 wr => ∃ i a' out : Nat, i ≤ 7 ∧ a' < 256 ∧ out < 256 ∧ v0 = .int .u8 (a' : Int) ∧ v3 = .int .u8 (out : Int) ∧ v4 = .int .i64 (i : Int) ∧ Hid (gm out (sqs (7 - i) a') = gi a) ∧ Hid (k = 7 - i) ∧ Ex w wr)
  case atStart => exact ⟨0, a, 1, by omega, ha, by omega, rfl, rfl, rfl, Lib.hid (by show gm 1 (gi a) = gi a; rw [gm_comm (by omega) (gi_lt ha), gm_one]), Lib.hid rfl, Ex.refl _⟩
  case round =>
    obtain ⟨i, a', out, hi, ha', ho, rfl, rfl, rfl, hI, hk, hx⟩ := hrel
    have e := hI.out
    by_cases hlt : i < 7
    · have ha2 : gm a' a' < 256 := gm_lt ha'
      have ho2 : gm out (gm a' a') < 256 := gm_lt ho
      rw [show 7 - i = 7 - (i + 1) + 1 by omega, sqs_step _ _ _ ha' ho] at e
      have E := Lib.hid e
      have HS := Lib.hid fun w => HM.out a' a' w ha' ha'
      have HT := Lib.hid fun w => HM.out out (gm a' a') w ho ha2
      clear e
      go_wp2_with (first
        | (go_at_call 13; (with_reducible refine (HS.out _).mono ?_); rintro e w2 ⟨rfl, hw2⟩; have hx2 := hx.trans hw2; clear HS hw2 hx)
        | (go_at_call 13; (with_reducible refine (HT.out _).mono ?_); rintro e w3 ⟨rfl, hw3⟩))
      go_roundg (7 - (i + 1))
      case measure => have := hk.out; omega
      case rel => exact ⟨i + 1, gm a' a', gm out (gm a' a'), by omega, ha2, ho2, rfl, rfl, by go_num, E, Lib.hid rfl, hx2.trans hw3⟩
    · have e7 : i = 7 := by omega
      subst e7
      rw [show sqs (7 - 7) a' = 1 from rfl, gm_one] at e
      subst e
      go_wp2
      go_ret
      exact ⟨rfl, hx⟩

theorem two_128 : gm 2 128 = 29 := by decide
theorem three_7 : gm 3 7 = 9 := by decide
set_option maxHeartbeats 1000000 in
theorem fields_yes (w : World) : Calls Try.prog 16 #[] w (Says (.bool true) w) := by
  have HA : Hid (∀ w, Calls Try.prog 12 #[.int .u8 2, .int .u8 128] w (Says (.int .u8 29) w)) := Lib.hid fun w => by
    have := fmul_any 2 128 w (by decide) (by decide)
    rw [two_128] at this
    exact this
  have HB : Hid (∀ w, Calls Try.prog 12 #[.int .u8 3, .int .u8 7] w (Says (.int .u8 9) w)) := Lib.hid fun w => by
    have := fmul_any 3 7 w (by decide) (by decide)
    rw [three_7] at this
    exact this
  go_enter Try.func16, Try.ntmps16
  go_wp2_with (first
    | (go_at_call 12; (with_reducible refine (HA.out _).mono ?_); rintro e w2 ⟨rfl, hw2⟩)
    | (go_at_call 12; (with_reducible refine (HB.out _).mono ?_); rintro e w3 ⟨rfl, hw3⟩))
  go_ret
  exact ⟨rfl, hw2.trans hw3⟩

end Go.Proofs.Ytpfkhodiegkigaa
