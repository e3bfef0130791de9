/-
  BinomPascal, BinomVander, walked.
-/
import Derived.Test.YtjgkpfkiflhkaaaBiWalks
import Derived.Test.YtjgkpfkiflhkaaaMix
namespace Go.Proofs.Ytjgkpfkiflhkaaa
open Go.RowKit
open Eu Pr Rs Bi

theorem ch_pascal {n k : Nat} (hk : 1 ≤ k) : ch (n + 1) k = ch n (k - 1) + ch n k := by
  obtain ⟨k, rfl⟩ : ∃ m, k = m + 1 := ⟨k - 1, by omega⟩
  rw [Nat.add_sub_cancel, ch_step]

theorem two_le {n : Nat} (h : n ≤ 60) : 2 ^ n ≤ 1152921504606846976 := by
  have : (2 : Nat) ^ n ≤ 2 ^ 60 := Nat.pow_le_pow_right (by omega) h
  simpa using this

theorem pow_fit {M : Nat} (h : M < 60) : wrap64 (2 ^ (1 + M)) = ((2 ^ (M + 1) : Nat) : Int) := by
  have h2 := two_le (n := M + 1) (by omega)
  have e : (2 : Int) ^ (1 + M) = ((2 ^ (M + 1) : Nat) : Int) := by rw [Int.natCast_pow, Nat.add_comm]; rfl
  rw [e]
  generalize 2 ^ (M + 1) = x at *
  unfold wrap64
  omega

set_option maxHeartbeats 4000000 in
theorem binomPascal_walk (n k : Int) (w : World) (_ : I64 n) (_ : I64 k) : Calls Try.prog 4 #[.int .i64 n, .int .i64 k] w (Says (.bool true) w) := by
  obtain ⟨M, hN⟩ : ∃ M : Nat, n % 60 = (M : Int) := ⟨(n % 60).toNat, by omega⟩
  have hM : M < 60 := by omega
  have k1 := Int.emod_nonneg k (b := 1 + (M : Int) + 1) (by omega)
  have k2 := Int.emod_lt_of_pos k (b := 1 + (M : Int) + 1) (by omega)
  obtain ⟨K, hK⟩ : ∃ K : Nat, k % (1 + (M : Int) + 1) = (K : Int) := ⟨(k % (1 + (M : Int) + 1)).toNat, by omega⟩
  rw [hK] at k1 k2
  have hK2 : K ≤ M + 1 := by omega
  have HN := Lib.hid hN
  have HK := Lib.hid hK
  have HALL := Lib.hid (rs_all (M + 1))
  have HA : Hid (∀ (w : World) (a b : Int), a = 1 + (M : Int) → b = K → Calls Try.prog 8 #[.int .i64 a, .int .i64 b] w (Says (.tuple #[.int .i64 (ch (M + 1) K : Nat), .int .i64 0]) w)) := Lib.hid fun w a b ha hb => by
    obtain rfl : a = ((M + 1 : Nat) : Int) := by omega
    subst hb
    exact bof_any (M + 1) K w (by omega)
  have HC : Hid (∀ (w : World) (a b : Int), a = (M : Int) → b = K → Calls Try.prog 8 #[.int .i64 a, .int .i64 b] w (Says (.tuple #[.int .i64 (ch M K : Nat), .int .i64 0]) w)) := Lib.hid fun w a b ha hb => by
    subst ha hb
    exact bof_any M K w (by omega)
  have HD : Hid (∀ (w : World) (a b : Int), a = 1 + (M : Int) → b = 1 + (M : Int) - K → Calls Try.prog 8 #[.int .i64 a, .int .i64 b] w (Says (.tuple #[.int .i64 (ch (M + 1) K : Nat), .int .i64 0]) w)) := Lib.hid fun w a b ha hb => by
    obtain rfl : a = ((M + 1 : Nat) : Int) := by omega
    obtain rfl : b = ((M + 1 - K : Nat) : Int) := by omega
    rw [← ch_sym (M + 1) K hK2]
    exact bof_any (M + 1) (M + 1 - K) w (by omega)
  obtain ⟨y, hB⟩ : ∃ y : Nat, Hid (ch (M + 1) K = y + ch M K) ∧ Hid (∀ (w : World) (a b : Int), a = (M : Int) → b = (K : Int) - 1 → Calls Try.prog 8 #[.int .i64 a, .int .i64 b] w (Says (.tuple #[.int .i64 (y : Nat), .int .i64 0]) w)) := by
    by_cases h : 1 ≤ K
    · refine ⟨ch M (K - 1), Lib.hid (ch_pascal h), Lib.hid fun w a b ha hb => ?_⟩
      obtain rfl : b = ((K - 1 : Nat) : Int) := by omega
      subst ha
      exact bof_any M (K - 1) w (by omega)
    · obtain rfl : K = 0 := by omega
      refine ⟨0, Lib.hid (by rw [ch_zero, ch_zero]), Lib.hid fun w a b ha hb => ?_⟩
      subst ha
      exact bof_out M b w (by omega) (by omega) (.inl (by omega))
  obtain ⟨HS, HB⟩ := hB
  have c1 := ch_bound (n := M + 1) (k := K) (by omega)
  obtain ⟨X, hX⟩ : ∃ X, ch (M + 1) K = X := ⟨_, rfl⟩
  obtain ⟨Z, hZ⟩ : ∃ Z, ch M K = Z := ⟨_, rfl⟩
  rw [hX] at HA HD HS c1
  rw [hZ] at HC HS
  clear hX hZ hN hK
  have hXY : X = y + Z := HS.out
  subst hXY
  go_enter Try.func4, Try.ntmps4
  go_wp2_with (first
    | (go_at_call 15; (with_reducible refine (chooses_yes _).mono ?_); rintro e w1 ⟨rfl, hw1⟩)
    | (go_at_call 16; (with_reducible refine (within_any n 60 _ (by omega) (by omega)).mono ?_); rintro e w' ⟨rfl, rfl⟩; rw [HN.out])
    | (go_at_call 16; (with_reducible refine (within_any k _ _ (by omega) (by omega)).mono ?_); rintro e w' ⟨rfl, rfl⟩; rw [HK.out])
    | (go_at_call 8; (with_reducible refine (HA.out _ _ _ (by omega) (by omega)).mono ?_); rintro e w2 ⟨rfl, hw2⟩; clear HA)
    | (go_at_call 8; (with_reducible refine (HB.out _ _ _ (by omega) (by omega)).mono ?_); rintro e w3 ⟨rfl, hw3⟩)
    | (go_at_call 8; (with_reducible refine (HC.out _ _ _ (by omega) (by omega)).mono ?_); rintro e w4 ⟨rfl, hw4⟩)
    | (go_at_call 8; (with_reducible refine (HD.out _ _ _ (by omega) (by omega)).mono ?_); rintro e w5 ⟨rfl, hw5⟩))
  go_loopg [13, 57] (M + 2) (fun m v13 v57 wr => ∃ i : Nat, i ≤ M + 2 ∧ v13 = .int .i64 (rs (M + 1) i : Nat) ∧ v57 = .int .i64 i ∧ Hid (m = M + 2 - i) ∧ Ex w wr)
  case atStart => exact ⟨0, by omega, rfl, rfl, Lib.hid rfl, (by repeat (first | assumption | exact Ex.refl _ | refine Ex.trans ?_ (by assumption)))⟩
  case round =>
    obtain ⟨i, hi, rfl, rfl, hm, hx⟩ := hrel
    by_cases hlt : i < M + 2
    · have HO : Hid (∀ (w : World) (a b : Int), a = 1 + (M : Int) → b = (i : Int) → Calls Try.prog 8 #[.int .i64 a, .int .i64 b] w (Says (.tuple #[.int .i64 (ch (M + 1) i : Nat), .int .i64 0]) w)) := Lib.hid fun w a b ha hb => by
        obtain rfl : a = ((M + 1 : Nat) : Int) := by omega
        subst hb
        exact bof_any (M + 1) i w (by omega)
      have b1 := rs_mono (M + 1) (i + 1) (M + 2) (by omega)
      rw [HALL.out] at b1
      have b2 : rs (M + 1) (i + 1) = rs (M + 1) i + ch (M + 1) i := rfl
      have b3 := two_le (n := M + 1) (by omega)
      rw [b2] at b1
      have HS := Lib.hid b2
      obtain ⟨x, hx1⟩ : ∃ x, rs (M + 1) i = x := ⟨_, rfl⟩
      obtain ⟨y, hy1⟩ : ∃ y, ch (M + 1) i = y := ⟨_, rfl⟩
      rw [hx1, hy1] at b1 HS
      rw [hy1] at HO
      rw [hx1]
      have b4 : x + y ≤ 1152921504606846976 := by omega
      clear b1 b2 b3 hx1 hy1
      go_wp2_with ((go_at_call 8; (with_reducible refine (HO.out _ _ _ (by omega) (by omega)).mono ?_); rintro e w2 ⟨rfl, hw2⟩))
      go_roundg (M + 2 - (i + 1))
      case measure => have := hm.out; omega
      case rel => exact ⟨i + 1, by omega, by rw [HS.out]; first | rfl | go_num, by go_num, Lib.hid rfl, hx.trans hw2⟩
    · obtain rfl : i = M + 2 := by omega
      rw [HALL.out]
      have hsh := pow_fit (M := M) (by omega)
      go_wp2_with (first
        | (go_at_call 17; refine (good_zeros 4 (by omega) _ rfl _ _).mono ?_; rintro e w6 ⟨rfl, hw6⟩))
      go_ret
      exact ⟨by first | rfl | (simp; done) | (simp; omega), (by repeat (first | assumption | exact Ex.refl _ | refine Ex.trans ?_ (by assumption)))⟩

set_option maxHeartbeats 4000000 in
theorem binomVander_walk (m n k : Int) (w : World) (_ : I64 m) (_ : I64 n) (_ : I64 k) : Calls Try.prog 5 #[.int .i64 m, .int .i64 n, .int .i64 k] w (Says (.bool true) w) := by
  obtain ⟨M, hM⟩ : ∃ M : Nat, m % 31 = (M : Int) := ⟨(m % 31).toNat, by omega⟩
  obtain ⟨N, hN⟩ : ∃ M : Nat, n % 31 = (M : Int) := ⟨(n % 31).toNat, by omega⟩
  obtain ⟨K, hK⟩ : ∃ M : Nat, k % 61 = (M : Int) := ⟨(k % 61).toNat, by omega⟩
  have m1 : M < 31 := by omega
  have n1 : N < 31 := by omega
  have k1 : K < 61 := by omega
  have HM := Lib.hid hM
  have HN := Lib.hid hN
  have HK := Lib.hid hK
  clear hM hN hK
  have HV := Lib.hid (vander M N K)
  have c1 := ch_bound (n := M + N) (k := K) (by omega)
  have HA : Hid (∀ (w : World) (a b : Int), a = (M : Int) + N → b = K → Calls Try.prog 8 #[.int .i64 a, .int .i64 b] w (Says (.tuple #[.int .i64 (ch (M + N) K : Nat), .int .i64 0]) w)) := Lib.hid fun w a b ha hb => by
    obtain rfl : a = ((M + N : Nat) : Int) := by omega
    subst hb
    exact bof_any (M + N) K w (by omega)
  obtain ⟨T, hT⟩ : ∃ T, ch (M + N) K = T := ⟨_, rfl⟩
  rw [hT] at HA HV c1
  clear hT
  go_enter Try.func5, Try.ntmps5
  go_wp2_with (first
    | (go_at_call 15; (with_reducible refine (chooses_yes _).mono ?_); rintro e w1 ⟨rfl, hw1⟩)
    | (go_at_call 16; (with_reducible refine (within_any m 31 _ (by omega) (by omega)).mono ?_); rintro e w' ⟨rfl, rfl⟩; rw [HM.out])
    | (go_at_call 16; (with_reducible refine (within_any n 31 _ (by omega) (by omega)).mono ?_); rintro e w' ⟨rfl, rfl⟩; rw [HN.out])
    | (go_at_call 16; (with_reducible refine (within_any k 61 _ (by omega) (by omega)).mono ?_); rintro e w' ⟨rfl, rfl⟩; rw [HK.out])
    | (go_at_call 8; (with_reducible refine (HA.out _ _ _ (by omega) (by omega)).mono ?_); rintro e w2 ⟨rfl, hw2⟩))
  go_loopg [9, 33] (K + 1) (fun m v9 v33 wr => ∃ i : Nat, i ≤ K + 1 ∧ v9 = .int .i64 (vs M N K i : Nat) ∧ v33 = .int .i64 i ∧ Hid (m = K + 1 - i) ∧ Ex w wr)
  case atStart => exact ⟨0, by omega, rfl, rfl, Lib.hid rfl, (by repeat (first | assumption | exact Ex.refl _ | refine Ex.trans ?_ (by assumption)))⟩
  case round =>
    obtain ⟨i, hi, rfl, rfl, hm, hx⟩ := hrel
    by_cases hlt : i < K + 1
    · have HO : Hid (∀ (w : World) (a b : Int), a = (M : Int) → b = (i : Int) → Calls Try.prog 8 #[.int .i64 a, .int .i64 b] w (Says (.tuple #[.int .i64 (ch M i : Nat), .int .i64 0]) w)) := Lib.hid fun w a b ha hb => by
        subst ha hb
        exact bof_any M i w (by omega)
      have HP : Hid (∀ (w : World) (a b : Int), a = (N : Int) → b = (K : Int) - i → Calls Try.prog 8 #[.int .i64 a, .int .i64 b] w (Says (.tuple #[.int .i64 (ch N (K - i) : Nat), .int .i64 0]) w)) := Lib.hid fun w a b ha hb => by
        obtain rfl : b = ((K - i : Nat) : Int) := by omega
        subst ha
        exact bof_any N (K - i) w (by omega)
      have b1 := vs_mono M N K (i + 1) (K + 1) (by omega)
      rw [HV.out] at b1
      have b2 : vs M N K (i + 1) = vs M N K i + ch M i * ch N (K - i) := rfl
      rw [b2] at b1
      have HS := Lib.hid b2
      obtain ⟨s, hs1⟩ : ∃ x, vs M N K i = x := ⟨_, rfl⟩
      obtain ⟨x, hx1⟩ : ∃ x, ch M i = x := ⟨_, rfl⟩
      obtain ⟨y, hy1⟩ : ∃ y, ch N (K - i) = y := ⟨_, rfl⟩
      have x1 := ch_bound (n := M) (k := i) (by omega)
      have y1 := ch_bound (n := N) (k := K - i) (by omega)
      rw [hs1, hx1, hy1] at b1 HS
      rw [hx1] at HO x1
      rw [hy1] at HP y1
      rw [hs1]
      have b4 : s + x * y ≤ 118264581564861424 := by omega
      have b5 : (x : Int) * (y : Int) = ((x * y : Nat) : Int) := (Int.natCast_mul x y).symm
      obtain ⟨z, hz⟩ : ∃ z, x * y = z := ⟨_, rfl⟩
      rw [hz] at b4 b5 HS
      clear b1 b2 hs1 hx1 hy1 hz
      go_wp2_with (first
        | (go_at_call 8; (with_reducible refine (HO.out _ _ _ (by omega) (by omega)).mono ?_); rintro e w2 ⟨rfl, hw2⟩; clear HO)
        | (go_at_call 8; (with_reducible refine (HP.out _ _ _ (by omega) (by omega)).mono ?_); rintro e w3 ⟨rfl, hw3⟩)
        | (go_at_call 17; refine (good_zeros 2 (by omega) _ rfl _ _).mono ?_; rintro e w4 ⟨rfl, hw4⟩))
      go_roundg (K + 1 - (i + 1))
      case measure => have := hm.out; omega
      case rel => exact ⟨i + 1, by omega, by rw [HS.out]; first | rfl | go_num, by go_num, Lib.hid rfl, (by repeat (first | assumption | exact Ex.refl _ | refine Ex.trans ?_ (by assumption)))⟩
    · obtain rfl : i = K + 1 := by omega
      rw [HV.out]
      go_wp2
      go_ret
      exact ⟨by first | rfl | (simp; done) | (simp; omega), hx⟩

end Go.Proofs.Ytjgkpfkiflhkaaa
