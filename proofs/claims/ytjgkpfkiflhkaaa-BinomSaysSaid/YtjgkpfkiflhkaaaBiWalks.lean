/-
  Package binom, walked: Of, check, Mod, inFactorial, Times; the document's ChooseOf and Often.
-/
import Derived.Test.YtjgkpfkiflhkaaaBiMod
import Derived.Test.YtjgkpfkiflhkaaaRsWalks
import Derived.Test.YtjgkpfkiflhkaaaPrWalks
namespace Go.Proofs.Ytjgkpfkiflhkaaa
open Go.RowKit
open Eu Pr Rs Bi

-- Of.
set_option maxHeartbeats 1000000 in
theorem bof_in (n k : Nat) (w : World) (hn : n ≤ 60) (hk : k ≤ n) : Calls Try.prog 8 #[.int .i64 n, .int .i64 k] w (Says (.tuple #[.int .i64 (ch n k : Nat), .int .i64 0]) w) := by
  obtain ⟨T, hT⟩ : ∃ T, ch n k = T := ⟨_, rfl⟩
  have HT := Lib.hid hT
  rw [hT]
  clear hT
  go_enter Try.func8, Try.ntmps8
  go_wp2
  go_loopg [6, 22] k (fun m v6 v22 wr => ∃ (i : Nat) (c : Int), i ≤ k ∧ v6 = .int .i64 c ∧ v22 = .int .i64 i ∧ Hid (c = (ch n i : Int)) ∧ Hid (m = k - i) ∧ Ex w wr)
  case atStart => exact ⟨0, 1, by omega, rfl, rfl, Lib.hid (by rw [ch_zero]; rfl), Lib.hid rfl, Ex.refl _⟩
  case round =>
    obtain ⟨i, c, hi, rfl, rfl, hc, hm, hw⟩ := hrel
    by_cases hlt : i < k
    · have hb := ch_prod (n := n) (i := i) hn (by omega)
      have hd := ch_div (n := n) (i := i) (by omega)
      have hb2 := ch_bound (n := n) (k := i) hn
      rw [← hc.out] at hb hd
      obtain ⟨p0, p1⟩ := hb
      have HD := Lib.hid hd
      have c0 : 0 ≤ c := by rw [hc.out]; omega
      have c1 : c ≤ 118264581564861424 := by rw [hc.out]; omega
      have q0 : 0 ≤ c * ((n : Int) - i) / ((i : Int) + 1) := Int.ediv_nonneg p0 (by omega)
      have q1 : c * ((n : Int) - i) / ((i : Int) + 1) ≤ 118264581564861424 := by
        have := ch_bound (n := n) (k := i + 1) hn
        omega
      clear hd hb2
      go_wp2
      go_roundg (k - (i + 1))
      case measure => have := hm.out; omega
      case rel => exact ⟨i + 1, _, by omega, rfl, by go_num, HD, Lib.hid rfl, hw⟩
    · have e : i = k := by omega
      subst e
      go_wp2
      go_ret2
      exact ⟨by rw [hc.out, HT.out]; rfl, hw⟩

set_option maxHeartbeats 1000000 in
theorem bof_out (n k : Int) (w : World) (h0 : 0 ≤ n) (h1 : n ≤ 60) (hk : k < 0 ∨ n < k) : Calls Try.prog 8 #[.int .i64 n, .int .i64 k] w (Says (.tuple #[.int .i64 0, .int .i64 0]) w) := by
  by_cases h : k < 0
  · go_enter Try.func8, Try.ntmps8
    go_wp2
    go_ret2
    exact .same
  · have h2 : 0 ≤ k := by omega
    have h3 : n < k := by omega
    clear h hk
    go_enter Try.func8, Try.ntmps8
    go_wp2
    go_ret2
    exact .same

set_option maxHeartbeats 1000000 in
theorem bof_no (n k : Int) (w : World) (h : n < 0 ∨ 60 < n) : Calls Try.prog 8 #[.int .i64 n, .int .i64 k] w (Says (.tuple #[.int .i64 0, .int .i64 1]) w) := by
  by_cases h2 : n < 0
  · go_enter Try.func8, Try.ntmps8
    go_wp2
    go_ret2
    exact .same
  · have h3 : 60 < n := by omega
    clear h
    go_enter Try.func8, Try.ntmps8
    go_wp2
    go_ret2
    exact .same

theorem bof_any (n k : Nat) (w : World) (hn : n ≤ 60) : Calls Try.prog 8 #[.int .i64 n, .int .i64 k] w (Says (.tuple #[.int .i64 (ch n k : Nat), .int .i64 0]) w) := by
  by_cases hk : k ≤ n
  · exact bof_in n k w hn hk
  · rw [ch_big n k (by omega)]
    exact bof_out n k w (by omega) (by omega) (.inr (by omega))

-- How often p divides a factorial.
set_option maxHeartbeats 1000000 in
theorem inFac_any (n p : Nat) (w : World) (hn : n ≤ 1000000000) (hp : 2 ≤ p) (hp2 : p ≤ 1000) : Calls Try.prog 20 #[.int .i64 n, .int .i64 p] w (Says (.int .i64 (often p n : Nat)) w) := by
  have hle := often_le hp n
  obtain ⟨T, hT⟩ : ∃ T, often p n = T := ⟨_, rfl⟩
  have HT := Lib.hid hT
  rw [hT] at hle ⊢
  clear hT
  go_enter Try.func20, Try.ntmps20
  go_wp2
  go_loopg [0, 5] n (fun m v0 v5 wr => ∃ (a t : Nat), a ≤ n ∧ t ≤ T ∧ v0 = .int .i64 a ∧ v5 = .int .i64 t ∧ Hid (t + often p a = T) ∧ Hid (m = a) ∧ Ex w wr)
  case atStart => exact ⟨n, 0, by omega, by omega, rfl, rfl, Lib.hid (by rw [HT.out]; omega), Lib.hid rfl, Ex.refl _⟩
  case round =>
    obtain ⟨a, t, ha, ht, rfl, rfl, hI, hm, hw⟩ := hrel
    by_cases h0 : 0 < a
    · have hst := often_step hp a
      have hlt := Nat.div_lt_self h0 (show 1 < p by omega)
      have hI2 := hI.out
      have HS : Hid (t + a / p + often p (a / p) = T) := Lib.hid (by omega)
      have hle2 : t + a / p ≤ T := by omega
      have hq : (a : Int) / (p : Int) = ((a / p : Nat) : Int) := (Int.natCast_ediv a p).symm
      obtain ⟨q, hq2⟩ : ∃ q, a / p = q := ⟨_, rfl⟩
      rw [hq2] at HS hq hlt hle2
      clear hst hI2 hq2
      go_wp2
      go_roundg q
      case measure => have := hm.out; omega
      case rel => exact ⟨q, t + q, by omega, by omega, by first | rfl | go_num, by first | rfl | go_num, HS, Lib.hid rfl, hw⟩
    · obtain rfl : a = 0 := by omega
      have he : t = T := by have := hI.out; rw [often_zero] at this; omega
      subst he
      go_wp2
      go_ret
      exact ⟨rfl, hw⟩

set_option maxHeartbeats 1000000 in
theorem refOften_any (n p : Nat) (w : World) (hn : n ≤ 1000000000) (hp : 2 ≤ p) (hp2 : p ≤ 1000) : Calls Try.prog 14 #[.int .i64 n, .int .i64 p] w (Says (.int .i64 (often p n : Nat)) w) := by
  have hle := often_le hp n
  obtain ⟨T, hT⟩ : ∃ T, often p n = T := ⟨_, rfl⟩
  have HT := Lib.hid hT
  rw [hT] at hle ⊢
  clear hT
  go_enter Try.func14, Try.ntmps14
  go_wp2
  go_loopg [0, 5] n (fun m v0 v5 wr => ∃ (a t : Nat), a ≤ n ∧ t ≤ T ∧ v0 = .int .i64 a ∧ v5 = .int .i64 t ∧ Hid (t + often p a = T) ∧ Hid (m = a) ∧ Ex w wr)
  case atStart => exact ⟨n, 0, by omega, by omega, rfl, rfl, Lib.hid (by rw [HT.out]; omega), Lib.hid rfl, Ex.refl _⟩
  case round =>
    obtain ⟨a, t, ha, ht, rfl, rfl, hI, hm, hw⟩ := hrel
    by_cases h0 : 0 < a
    · have hst := often_step hp a
      have hlt := Nat.div_lt_self h0 (show 1 < p by omega)
      have hI2 := hI.out
      have HS : Hid (t + a / p + often p (a / p) = T) := Lib.hid (by omega)
      have hle2 : t + a / p ≤ T := by omega
      have hq : (a : Int) / (p : Int) = ((a / p : Nat) : Int) := (Int.natCast_ediv a p).symm
      obtain ⟨q, hq2⟩ : ∃ q, a / p = q := ⟨_, rfl⟩
      rw [hq2] at HS hq hlt hle2
      clear hst hI2 hq2
      go_wp2
      go_roundg q
      case measure => have := hm.out; omega
      case rel => exact ⟨q, t + q, by omega, by omega, by first | rfl | go_num, by first | rfl | go_num, HS, Lib.hid rfl, hw⟩
    · obtain rfl : a = 0 := by omega
      have he : t = T := by have := hI.out; rw [often_zero] at this; omega
      subst he
      go_wp2
      go_ret
      exact ⟨rfl, hw⟩

-- check.
/-- What Mod and Times take. -/
def OkB (n k p : Int) : Prop := 0 ≤ n ∧ n ≤ 1000000000 ∧ 0 ≤ k ∧ k ≤ n ∧ p ≤ 1000 ∧ Prm p

set_option maxHeartbeats 1000000 in
theorem bcheck_ok (n k p : Int) (w : World) (h : OkB n k p) : Calls Try.prog 18 #[.int .i64 n, .int .i64 k, .int .i64 p] w (Says (.int .i64 0) w) := by
  obtain ⟨h1, h2, h3, h4, h5, hp⟩ := h
  have h6 := hp.1
  have hb := (pb_iff p).mpr hp
  clear hp
  go_enter Try.func18, Try.ntmps18
  go_wp2_with ((go_at_call 24; (with_reducible refine (is_ok p _ (by omega) (by omega)).mono ?_); rintro e w1 ⟨rfl, hw1⟩; rw [hb]))
  go_ret
  exact ⟨rfl, hw1⟩

set_option maxHeartbeats 1000000 in
theorem bcheck_no (n k p : Int) (w : World) (h : ¬ OkB n k p) : Calls Try.prog 18 #[.int .i64 n, .int .i64 k, .int .i64 p] w (Says (.int .i64 1) w) := by
  by_cases h1 : n < 0
  · clear h
    go_enter Try.func18, Try.ntmps18
    go_wp2
    go_ret
    exact .same
  by_cases h2 : 1000000000 < n
  · clear h
    go_enter Try.func18, Try.ntmps18
    go_wp2
    go_ret
    exact .same
  by_cases h3 : k < 0
  · clear h
    go_enter Try.func18, Try.ntmps18
    go_wp2
    go_ret
    exact .same
  by_cases h4 : n < k
  · clear h
    go_enter Try.func18, Try.ntmps18
    go_wp2
    go_ret
    exact .same
  by_cases h5 : 1000 < p
  · clear h
    go_enter Try.func18, Try.ntmps18
    go_wp2
    go_ret
    exact .same
  by_cases h6 : p < 0
  · clear h
    go_enter Try.func18, Try.ntmps18
    go_wp2_with ((go_at_call 24; (with_reducible refine (is_no p _ (by omega)).mono ?_); rintro e w1 ⟨rfl, hw1⟩))
    go_ret
    exact ⟨rfl, hw1⟩
  · have hb := pb_no (n := p) (fun hp => h ⟨by omega, by omega, by omega, by omega, by omega, hp⟩)
    clear h
    go_enter Try.func18, Try.ntmps18
    go_wp2_with ((go_at_call 24; (with_reducible refine (is_ok p _ (by omega) (by omega)).mono ?_); rintro e w1 ⟨rfl, hw1⟩; rw [hb]))
    go_ret
    exact ⟨rfl, hw1⟩

set_option maxHeartbeats 1000000 in
theorem bmod_no (n k p : Int) (w : World) (h : ¬ OkB n k p) : Calls Try.prog 9 #[.int .i64 n, .int .i64 k, .int .i64 p] w (Says (.tuple #[.int .i64 0, .int .i64 1]) w) := by
  have HC := Lib.hid fun w => bcheck_no n k p w h
  clear h
  go_enter Try.func9, Try.ntmps9
  go_wp2_with ((go_at_call 18; (with_reducible refine (HC.out _).mono ?_); rintro e w1 ⟨rfl, hw1⟩))
  go_ret2
  exact ⟨rfl, hw1⟩

set_option maxHeartbeats 1000000 in
theorem btimes_no (n k p : Int) (w : World) (h : ¬ OkB n k p) : Calls Try.prog 10 #[.int .i64 n, .int .i64 k, .int .i64 p] w (Says (.tuple #[.int .i64 0, .int .i64 1]) w) := by
  have HC := Lib.hid fun w => bcheck_no n k p w h
  clear h
  go_enter Try.func10, Try.ntmps10
  go_wp2_with ((go_at_call 18; (with_reducible refine (HC.out _).mono ?_); rintro e w1 ⟨rfl, hw1⟩))
  go_ret2
  exact ⟨rfl, hw1⟩

-- Times.
set_option maxHeartbeats 1000000 in
theorem btimes_ok (n k p : Nat) (w : World) (h : OkB n k p) : Calls Try.prog 10 #[.int .i64 n, .int .i64 k, .int .i64 p] w (Says (.tuple #[.int .i64 ((often p n : Int) - (often p k : Int) - (often p (n - k) : Int)), .int .i64 0]) w) := by
  have HC := Lib.hid fun w => bcheck_ok n k p w h
  obtain ⟨h1, h2, h3, h4, h5, hp⟩ := h
  have h6 := hp.1
  have e : ((n : Int) - (k : Int)) = ((n - k : Nat) : Int) := by omega
  have HN := Lib.hid fun w => inFac_any n p w (by omega) (by omega) (by omega)
  have HK := Lib.hid fun w => inFac_any k p w (by omega) (by omega) (by omega)
  have HM := Lib.hid fun w => inFac_any (n - k) p w (by omega) (by omega) (by omega)
  have b1 := often_le (p := p) (by omega) n
  have b2 := often_le (p := p) (by omega) k
  have b3 := often_le (p := p) (by omega) (n - k)
  obtain ⟨x, hx⟩ : ∃ x, often p n = x := ⟨_, rfl⟩
  obtain ⟨y, hy⟩ : ∃ y, often p k = y := ⟨_, rfl⟩
  obtain ⟨z, hz⟩ : ∃ z, often p (n - k) = z := ⟨_, rfl⟩
  rw [hx] at HN b1 ⊢
  rw [hy] at HK b2 ⊢
  rw [hz] at HM b3 ⊢
  clear hp hx hy hz
  go_enter Try.func10, Try.ntmps10
  go_wp2_with (first
    | (go_at_call 18; (with_reducible refine (HC.out _).mono ?_); rintro e w1 ⟨rfl, hw1⟩)
    | (go_at_call 20; (with_reducible refine (HN.out _).mono ?_); rintro e w2 ⟨rfl, hw2⟩; clear HN)
    | (go_at_call 20; (with_reducible refine (HK.out _).mono ?_); rintro e w3 ⟨rfl, hw3⟩)
    | (go_at_call 20; (try rw [e]); (with_reducible refine (HM.out _).mono ?_); rintro e w4 ⟨rfl, hw4⟩))
  go_ret2
  exact ⟨rfl, (by repeat (first | assumption | exact Ex.refl _ | refine Ex.trans ?_ (by assumption)))⟩

-- Mod.
set_option maxHeartbeats 4000000 in
theorem bmod_ok (n k p : Nat) (w : World) (h : OkB n k p) : Calls Try.prog 9 #[.int .i64 n, .int .i64 k, .int .i64 p] w (Says (.tuple #[.int .i64 ((ch n k : Int) % (p : Int)), .int .i64 0]) w) := by
  have HC := Lib.hid fun w => bcheck_ok n k p w h
  obtain ⟨h1, h2, h3, h4, h5, hp⟩ := h
  have h6 := hp.1
  have HP := Lib.hid hp
  obtain ⟨C, hC⟩ : ∃ C : Int, (ch n k : Int) = C := ⟨_, rfl⟩
  have HI0 : Hid ((1 : Int) * (ch n k : Int) % p = 1 * C % p) := Lib.hid (by rw [hC])
  have HB0 : Hid (¬ (p : Int) ∣ 1) := Lib.hid (not_one hp)
  rw [hC]
  clear hp hC
  go_enter Try.func9, Try.ntmps9
  go_wp2_with ((go_at_call 18; (with_reducible refine (HC.out _).mono ?_); rintro e w1 ⟨rfl, hw1⟩))
  go_loopg [0, 1, 9, 10] k (fun m v0 v1 v9 v10 wr => ∃ (a b : Nat) (t u : Int), a ≤ n ∧ b ≤ k ∧ 0 ≤ t ∧ t < p ∧ 0 ≤ u ∧ u < p ∧ v0 = .int .i64 a ∧ v1 = .int .i64 b ∧ v9 = .int .i64 t ∧ v10 = .int .i64 u ∧ Hid (t * (ch a b : Int) % p = u * C % p) ∧ Hid (¬ (p : Int) ∣ u) ∧ Hid (m = b) ∧ Ex w wr)
  case atStart => exact ⟨n, k, 1, 1, by omega, by omega, by omega, by omega, by omega, by omega, rfl, rfl, rfl, rfl, HI0, HB0, Lib.hid rfl, hw1⟩
  case round =>
    rename World => wo
    obtain ⟨a, b, t, u, ha, hb, t0, t1, u0, u1, rfl, rfl, rfl, rfl, hI, hu, hm, hx⟩ := hrel
    by_cases h0 : 0 < b
    · obtain ⟨A, hA⟩ : ∃ A, a % p = A := ⟨_, rfl⟩
      obtain ⟨B, hB⟩ : ∃ B, b % p = B := ⟨_, rfl⟩
      have eA : (a : Int) % (p : Int) = (A : Int) := by rw [← hA]; exact (Int.natCast_emod a p).symm
      have eB : (b : Int) % (p : Int) = (B : Int) := by rw [← hB]; exact (Int.natCast_emod b p).symm
      have lA : A < p := by rw [← hA]; exact Nat.mod_lt _ (by omega)
      have lB : B < p := by rw [← hB]; exact Nat.mod_lt _ (by omega)
      have HA := Lib.hid hA
      have HB := Lib.hid hB
      clear hA hB
      have HT0 : Hid (t % p = t * (ff A 0 : Int) % p) := Lib.hid (by show _ = t * ((1 : Nat) : Int) % p; rw [show ((1 : Nat) : Int) = 1 from rfl, Int.mul_one])
      have HU0 : Hid (u % p = u * (fa 0 : Int) % p) := Lib.hid (by show _ = u * ((1 : Nat) : Int) % p; rw [show ((1 : Nat) : Int) = 1 from rfl, Int.mul_one])
      go_wp2
      go_loopg [9, 10, 26] B (fun m v9 v10 v26 wr => ∃ (i : Nat) (x y : Int), i ≤ B ∧ 0 ≤ x ∧ x < p ∧ 0 ≤ y ∧ y < p ∧ v9 = .int .i64 x ∧ v10 = .int .i64 y ∧ v26 = .int .i64 i ∧ Hid (x % p = t * (ff A i : Int) % p) ∧ Hid (y % p = u * (fa i : Int) % p) ∧ Hid (m = B - i) ∧ Ex w wr)
      case atStart => exact ⟨0, t, u, by omega, by omega, by omega, by omega, by omega, rfl, rfl, rfl, HT0, HU0, Lib.hid rfl, hx⟩
      case round =>
        obtain ⟨i, x, y, hi, x0, x1, y0, y1, rfl, rfl, rfl, hX, hY, hm2, hy⟩ := hrel
        by_cases hlt : i < B
        · have m2 := Eu.mul_le (a := y) (b := (i : Int) + 1) (A := 1000000) (B := 1000000) (by omega) (by omega) (by omega) (by omega)
          obtain ⟨m2a, m2b⟩ := m2
          have e1 := Int.emod_nonneg (y * ((i : Int) + 1)) (b := (p : Int)) (by omega)
          have e2 := Int.emod_lt_of_pos (y * ((i : Int) + 1)) (b := (p : Int)) (by omega)
          have HY2 := Lib.hid (fa_step hY.out)
          by_cases hiA : i ≤ A
          · have m1 := Eu.mul_le (a := x) (b := (A : Int) - i) (A := 1000000) (B := 1000000) (by omega) (by omega) (by omega) (by omega)
            obtain ⟨m1a, m1b⟩ := m1
            have d1 := Int.emod_nonneg (x * ((A : Int) - i)) (b := (p : Int)) (by omega)
            have d2 := Int.emod_lt_of_pos (x * ((A : Int) - i)) (b := (p : Int)) (by omega)
            have HX2 := Lib.hid (ff_step hiA hX.out)
            go_wp2
            go_roundg (B - (i + 1))
            case measure => have := hm2.out; omega
            case rel => exact ⟨i + 1, _, _, by omega, d1, d2, e1, e2, by first | rfl | go_num, by first | rfl | go_num, by first | rfl | go_num, HX2, HY2, Lib.hid rfl, hy⟩
          · obtain rfl : x = 0 := by
              have := hX.out
              rw [ff_over (by omega), show ((0 : Nat) : Int) = 0 from rfl, Int.mul_zero, Int.zero_emod, Int.emod_eq_of_lt x0 x1] at this
              exact this
            have HX2 : Hid ((0 : Int) % p = t * (ff A (i + 1) : Int) % p) := Lib.hid (by rw [ff_over (by omega), show ((0 : Nat) : Int) = 0 from rfl, Int.mul_zero])
            have z1 : (0 : Int) * ((A : Int) - i) = 0 := Int.zero_mul _
            go_wp2
            go_roundg (B - (i + 1))
            case measure => have := hm2.out; omega
            case rel => exact ⟨i + 1, 0, _, by omega, by omega, by omega, e1, e2, by first | rfl | (simp; done) | go_num, by first | rfl | go_num, by first | rfl | go_num, HX2, HY2, Lib.hid rfl, hy⟩
        · have e : i = B := by omega
          subst e
          have HI2 : Hid (x * (ch (a / p) (b / p) : Int) % p = y * C % p) := Lib.hid (mod_round HP.out hI.out (by rw [HA.out, HB.out]; exact hX.out) (by rw [HB.out]; exact hY.out))
          have HU2 : Hid (¬ (p : Int) ∣ y) := Lib.hid (not_next HP.out lB hu.out hY.out)
          have hlt2 := Nat.div_lt_self h0 (show 1 < p by omega)
          have hle2 := Nat.div_le_self a p
          have eq1 : (a : Int) / (p : Int) = ((a / p : Nat) : Int) := (Int.natCast_ediv a p).symm
          have eq2 : (b : Int) / (p : Int) = ((b / p : Nat) : Int) := (Int.natCast_ediv b p).symm
          obtain ⟨a2, ha2⟩ : ∃ q, a / p = q := ⟨_, rfl⟩
          obtain ⟨b2, hb2⟩ : ∃ q, b / p = q := ⟨_, rfl⟩
          rw [ha2, hb2] at HI2
          rw [ha2] at hle2 eq1
          rw [hb2] at hlt2 eq2
          clear ha2 hb2
          go_wp2
          go_region
          go_wp2
          go_roundg b2
          case measure => have := hm.out; omega
          case rel => exact ⟨a2, b2, x, y, by omega, by omega, by omega, by omega, by omega, by omega, by first | rfl | go_num, by first | rfl | go_num, rfl, rfl, HI2, HU2, Lib.hid rfl, hy.drew⟩
    · obtain rfl : b = 0 := by omega
      have HE : Hid (t * 1 % p = u * C % p) := Lib.hid (by have := hI.out; rwa [ch_zero] at this)
      have HINV := Lib.hid fun w => inverse_ok u p w (by omega) (by omega) (prm_G HP.out hu.out)
      go_wp2_with (
        (go_at_call 19; (with_reducible refine (HINV.out _).mono ?_); rintro e w4 ⟨x, x0, x1, hxu, rfl, hw4⟩
         obtain ⟨m1a, m1b⟩ := Eu.mul_le (a := t) (b := x) (A := 1000000) (B := 1000000) (by omega) (by omega) (by omega) (by omega)
         have d1 := Int.emod_nonneg (t * x) (b := (p : Int)) (by omega)
         have d2 := Int.emod_lt_of_pos (t * x) (b := (p : Int)) (by omega)
         have HF := Lib.hid (mod_end HE.out hxu.out)))
      go_ret2
      exact ⟨by rw [← HF.out]; rfl, hx.trans hw4⟩

-- The document's choice.
set_option maxHeartbeats 1000000 in
theorem chooseOf_out (n k : Int) (w : World) (hk : k < 0 ∨ n < k) : Calls Try.prog 11 #[.int .i64 n, .int .i64 k] w (Says (.int .i64 0) w) := by
  by_cases h : k < 0
  · go_enter Try.func11, Try.ntmps11
    go_wp2
    go_ret
    exact .same
  · have h2 : 0 ≤ k := by omega
    have h3 : n < k := by omega
    clear h hk
    go_enter Try.func11, Try.ntmps11
    go_wp2
    go_ret
    exact .same

set_option maxHeartbeats 1000000 in
theorem chooseOf_in (n k : Nat) (w : World) (hn : n ≤ 60) (hk : k ≤ n) : Calls Try.prog 11 #[.int .i64 n, .int .i64 k] w (Says (.int .i64 (ch n k : Nat)) w) := by
  have HT := Lib.hid (ch_min hk)
  obtain ⟨T, hT⟩ : ∃ T, ch n k = T := ⟨_, rfl⟩
  rw [hT] at HT ⊢
  clear hT
  obtain ⟨M, hM⟩ : ∃ M, min k (n - k) = M := ⟨_, rfl⟩
  have hM2 : M ≤ n := by omega
  have HM := Lib.hid hM
  rw [hM] at HT
  clear hM
  have gk1 : decide (n < k) = false := decide_eq_false (by omega)
  have gk2 : decide ((k : Int) < 0) = false := decide_eq_false (by omega)
  go_enter Try.func11, Try.ntmps11
  go_wp2
  go_loopg [5, 6] M (fun m v5 v6 wr => ∃ (i : Nat) (c : Int), i ≤ M ∧ v5 = .int .i64 c ∧ v6 = .int .i64 ((i : Int) + 1) ∧ Hid (c = (ch n i : Int)) ∧ Hid (m = M - i) ∧ Ex w wr)
  case atStart => exact ⟨0, 1, by omega, rfl, rfl, Lib.hid (by rw [ch_zero]; rfl), Lib.hid rfl, Ex.refl _⟩
  case round =>
    obtain ⟨i, c, hi, rfl, rfl, hc, hm, hw⟩ := hrel
    by_cases hlt : i < M
    · have hb := ch_prod (n := n) (i := i) hn (by omega)
      have hd := ch_div (n := n) (i := i) (by omega)
      have hb2 := ch_bound (n := n) (k := i) hn
      rw [← hc.out] at hb hd
      have es : (n : Int) - ((i : Int) + 1) + 1 = (n : Int) - i := by omega
      obtain ⟨p0, p1⟩ := hb
      rw [← es] at p0 p1 hd
      have HD := Lib.hid hd
      have HES := Lib.hid es
      have c0 : 0 ≤ c := by rw [hc.out]; omega
      have c1 : c ≤ 118264581564861424 := by rw [hc.out]; omega
      have q0 : 0 ≤ c * ((n : Int) - ((i : Int) + 1) + 1) / ((i : Int) + 1) := Int.ediv_nonneg p0 (by omega)
      have q1 : c * ((n : Int) - ((i : Int) + 1) + 1) / ((i : Int) + 1) ≤ 118264581564861424 := by
        have := ch_bound (n := n) (k := i + 1) hn
        omega
      clear hd hb2 es
      by_cases hs : k ≤ n - k
      · have hmk : M = k := by have := HM.out; omega
        have hs2 : (k : Int) ≤ (n : Int) - (k : Int) := by omega
        subst hmk
        go_wp2
        all_goals (first | omega | skip)
        all_goals
          go_roundg (M - (i + 1))
          case measure => have := hm.out; omega
          case rel => exact ⟨i + 1, _, by omega, rfl, by go_num, HD, Lib.hid rfl, hw⟩
      · have hmk : (M : Int) = (n : Int) - (k : Int) := by have := HM.out; omega
        have hs2 : ¬ (k : Int) ≤ (n : Int) - (k : Int) := by omega
        go_wp2
        all_goals (first | omega | skip)
        all_goals
          go_roundg (M - (i + 1))
          case measure => have := hm.out; omega
          case rel => exact ⟨i + 1, _, by omega, rfl, by go_num, HD, Lib.hid rfl, hw⟩
    · have e : i = M := by omega
      subst e
      have HF : Hid (c = (T : Int)) := Lib.hid (by rw [hc.out, HT.out])
      have hMi := HM.out
      by_cases hs : k ≤ n - k
      · have hs2 : (k : Int) ≤ (n : Int) - (k : Int) := by omega
        have hik : (i : Int) = (k : Int) := by omega
        have HIK := Lib.hid hik
        have g1 : ¬ (i : Int) + 1 ≤ (k : Int) := by omega
        clear hik hMi
        go_wp2
        all_goals
          go_ret
          exact ⟨by rw [HF.out]; rfl, hw⟩
      · have hs2 : ¬ (k : Int) ≤ (n : Int) - (k : Int) := by omega
        have g1 : ¬ (i : Int) + 1 ≤ (n : Int) - (k : Int) := by omega
        clear hMi
        go_wp2
        all_goals
          go_ret
          exact ⟨by rw [HF.out]; rfl, hw⟩

set_option maxHeartbeats 1000000 in
theorem chooses_yes (w : World) : Calls Try.prog 15 #[] w (Says (.bool true) w) := by
  have H : Hid (∀ w, Calls Try.prog 8 #[.int .i64 5, .int .i64 2] w (Says (.tuple #[.int .i64 10, .int .i64 0]) w)) := Lib.hid fun w => by
    have h := bof_in 5 2 w (by omega) (by omega)
    rw [show ch 5 2 = 10 by decide] at h
    exact h
  go_enter Try.func15, Try.ntmps15
  go_wp2_with ((go_at_call 8; (with_reducible refine (H.out _).mono ?_); rintro e w1 ⟨rfl, hw1⟩))
  go_ret
  exact ⟨rfl, hw1⟩

end Go.Proofs.Ytjgkpfkiflhkaaa
