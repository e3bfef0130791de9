/-
  EuclidLame, walked.
-/
import Derived.Test.YtgnpchmglkabnaaKeep
namespace Go.Proofs.Ytgnpchmglkabnaa
open Go.RowKit
open Eu

/-- FIBONACCI's numbers: 0, 1, 1, 2 .. -/
def fib : Nat → Nat
  | 0 => 0
  | 1 => 1
  | n + 2 => fib n + fib (n + 1)

theorem fib_pos (n : Nat) : 0 < fib (n + 1) := by
  induction n with
  | zero => decide
  | succ n ih => show 0 < fib n + fib (n + 1); omega

theorem fib_mono_step (n : Nat) : fib (n + 1) ≤ fib (n + 2) := by show _ ≤ fib n + fib (n + 1); omega

theorem fib_mono {i j : Nat} (h : i ≤ j) (h0 : 1 ≤ i) : fib i ≤ fib j := by
  induction j with
  | zero => omega
  | succ j ih =>
    rcases Nat.lt_or_ge i (j + 1) with h1 | h1
    · have := ih (by omega)
      obtain ⟨k, rfl⟩ : ∃ k, j = k + 1 := ⟨j - 1, by omega⟩
      exact Nat.le_trans this (fib_mono_step k)
    · have : i = j + 1 := by omega
      subst this; exact Nat.le_refl _

/-- LAME. -/
theorem lame (n a b : Nat) (h : St a b = n + 1) : fib (n + 2) ≤ b ∧ (b < a → fib (n + 3) ≤ a) := by
  induction n generalizing a b with
  | zero =>
    have hb : b ≠ 0 := fun h0 => by subst h0; rw [St_zero] at h; omega
    rw [St_step a b hb] at h
    have hm : a % b = 0 := by
      refine Decidable.byContradiction fun h0 => ?_
      rw [St_step _ _ h0] at h; omega
    have e2 : fib 2 = 1 := rfl
    have e3 : fib 3 = 2 := rfl
    refine ⟨by simp only [Nat.zero_add]; omega, fun hlt => ?_⟩
    simp only [Nat.zero_add]; omega
  | succ n ih =>
    have hb : b ≠ 0 := fun h0 => by subst h0; rw [St_zero] at h; omega
    rw [St_step a b hb] at h
    obtain ⟨h1, h2⟩ := ih b (a % b) (by omega)
    have hm := Nat.mod_lt a (y := b) (by omega)
    have h3 := h2 hm
    have e4 : fib (n + 1 + 3) = fib (n + 2) + fib (n + 3) := rfl
    have e3 : fib (n + 1 + 2) = fib (n + 3) := rfl
    refine ⟨by omega, fun hlt => ?_⟩
    have h5 : b + a % b ≤ a := by
      have h6 := Nat.div_add_mod a b
      have h7 : 1 ≤ a / b := (Nat.le_div_iff_mul_le (by omega)).mpr (by omega)
      have h8 : b * 1 ≤ b * (a / b) := Nat.mul_le_mul_left b h7
      omega
    omega

theorem St_8_5 : St (8 : Int).toNat (5 : Int).toNat = 4 := by
  show St 8 5 = 4
  rw [St_step 8 5 (by omega)]
  show 1 + St 5 3 = 4
  rw [St_step 5 3 (by omega)]
  show 1 + (1 + St 3 2) = 4
  rw [St_step 3 2 (by omega)]
  show 1 + (1 + (1 + St 2 1)) = 4
  rw [St_step 2 1 (by omega)]
  show 1 + (1 + (1 + (1 + St 1 0))) = 4
  rw [St_zero]

set_option maxHeartbeats 1000000 in
theorem euclidLame_ok (a b : Int) (w : World) (ha : 0 ≤ a) (ha' : a ≤ 1000000000) (hb : 0 ≤ b) (hb' : b ≤ 1000000000) (hs : St a.toNat b.toNat ≠ 0) :
    Calls Try.prog 8 #[.int .i64 a, .int .i64 b] w (Says (.bool true) w) := by
  have e85 := St_8_5
  obtain ⟨n, hn⟩ : ∃ n, St a.toNat b.toNat = n + 1 := ⟨_, (Nat.succ_pred_eq_of_ne_zero hs).symm⟩
  obtain ⟨l1, l2⟩ := lame n _ _ hn
  have hle := St_le a.toNat b.toNat
  have hnb : n + 1 ≤ b.toNat := by omega
  have h0 : (((n + 1 : Nat) : Int) == 0) = false := by simp; omega
  have L1 : Hid (((fib (n + 2) : Nat) : Int) ≤ b) := by show _ ≤ _; omega
  have L2 : Hid (b < a → ((fib (n + 3) : Nat) : Int) ≤ a) := fun h => by have := l2 (by omega); omega
  clear l1 l2 hs hle
  go_enter Try.func8, Try.ntmps8
  go_wp2_with (first
    | (go_at_call 13; refine (steps_ok _ _ _ (by omega) (by omega) (by omega) (by omega)).mono ?_; rintro e w2 ⟨rfl, hw2⟩; first | rw [e85] | rw [hn]))
  go_loopg [9, 10, 45] n (fun k v9 v10 v45 wr => ∃ (i : Nat) (x y : Int), i ≤ n ∧ Hid (x = (fib (i + 1) : Nat)) ∧ Hid (y = (fib (i + 2) : Nat)) ∧ 0 ≤ x ∧ 0 ≤ y ∧ x ≤ 1000000000 ∧ y ≤ 1000000000 ∧ v9 = .int .i64 x ∧ v10 = .int .i64 y ∧ v45 = .int .i64 i ∧ Hid (k = n - i) ∧ Ex w wr)
  case atStart => exact ⟨0, 1, 1, by omega, Lib.hid rfl, Lib.hid rfl, by omega, by omega, by omega, by omega, rfl, rfl, rfl, Lib.hid rfl, (by repeat (first | assumption | exact Ex.refl _ | refine Ex.trans ?_ (by assumption)))⟩
  case round =>
    obtain ⟨i, x, y, hi, hx, hy, hx0, hy0, hx1, hy1, rfl, rfl, rfl, hk, hw⟩ := hrel
    by_cases hlt : i < n
    · have hs : fib (i + 3) ≤ fib (n + 2) := fib_mono (by omega) (by omega)
      have hxy : x + y = (fib (i + 3) : Nat) := by rw [hx.out, hy.out, ← Int.natCast_add]; rfl
      have hl1 := L1.out
      have hb2 : x + y ≤ 1000000000 := by omega
      have HXY := Lib.hid hxy
      clear hxy hs hl1
      go_wp2
      have hk := hk.out
      go_roundg (n - (i + 1))
      case measure => omega
      case rel => exact ⟨i + 1, y, x + y, by omega, hy, HXY, by omega, by omega, by omega, by omega, rfl, rfl, by go_num, Lib.hid rfl, hw⟩
    · have e : i = n := by omega
      subst e
      have hxy : x + y = (fib (i + 3) : Nat) := by rw [hx.out, hy.out, ← Int.natCast_add]; rfl
      have hyb : y ≤ b := by have h1 := hy.out; have h2 := L1.out; omega
      by_cases hab : a ≤ b
      · clear hxy
        go_wp2
        go_ret
        exact ⟨by simp, hw⟩
      · have hxa : x + y ≤ a := by have := L2.out (by omega); omega
        clear hxy
        go_wp2
        go_ret
        exact ⟨by simp, hw⟩

set_option maxHeartbeats 1000000 in
theorem euclidLame_none (a b : Int) (w : World) (ha : 0 ≤ a) (ha' : a ≤ 1000000000) (hb : 0 ≤ b) (hb' : b ≤ 1000000000) (hs : St a.toNat b.toNat = 0) :
    Calls Try.prog 8 #[.int .i64 a, .int .i64 b] w (Says (.bool true) w) := by
  have e85 := St_8_5
  have hb0 : b = 0 := by
    refine Decidable.byContradiction fun h0 => ?_
    rw [St_step _ _ (by omega)] at hs; omega
  subst hb0
  go_enter Try.func8, Try.ntmps8
  go_wp2_with (first
    | (go_at_call 13; refine (steps_ok _ _ _ (by omega) (by omega) (by omega) (by omega)).mono ?_; rintro e w2 ⟨rfl, hw2⟩; first | rw [e85] | rw [hs]))
  go_ret
  exact ⟨by simp, (by repeat (first | assumption | exact Ex.refl _ | refine Ex.trans ?_ (by assumption)))⟩

set_option maxHeartbeats 1000000 in
theorem euclidLame_no (a b : Int) (w : World) (h : a < 0 ∨ b < 0 ∨ 1000000000 < a ∨ 1000000000 < b) :
    Calls Try.prog 8 #[.int .i64 a, .int .i64 b] w (Says (.bool true) w) := by
  have e85 := St_8_5
  have HN := Lib.hid h
  clear h
  go_enter Try.func8, Try.ntmps8
  go_wp2_with (first
    | (go_at_call 13; (with_reducible refine (steps_ok 8 5 _ (by omega) (by omega) (by omega) (by omega)).mono ?_); rintro e w2 ⟨rfl, hw2⟩; rw [e85])
    | (go_at_call 13; (with_reducible refine (steps_no a b _ HN.out).mono ?_); rintro e w2 ⟨rfl, hw2⟩))
  go_ret
  exact ⟨by simp, (by repeat (first | assumption | exact Ex.refl _ | refine Ex.trans ?_ (by assumption)))⟩

theorem euclidLame_walk (a b : Int) (w : World) (_ : I64 a) (_ : I64 b) :
    Calls Try.prog 8 #[.int .i64 a, .int .i64 b] w (Says (.bool true) w) := by
  by_cases h : a < 0 ∨ b < 0 ∨ 1000000000 < a ∨ 1000000000 < b
  · exact euclidLame_no a b w h
  · by_cases hs : St a.toNat b.toNat = 0
    · exact euclidLame_none a b w (by omega) (by omega) (by omega) (by omega) hs
    · exact euclidLame_ok a b w (by omega) (by omega) (by omega) (by omega) hs

end Go.Proofs.Ytgnpchmglkabnaa
