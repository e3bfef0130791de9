/-
  The document's polynomials: ValueAt.
-/
import Derived.Test.YtfdhhiibhkepaaaPoRow
import Derived.Test.YtfdhhiibhkepaaaPoMore
import Derived.Test.YtfdhhiibhkepaaaPoList
import Derived.Test.YtfdhhiibhkepaaaSmall
namespace Go.Proofs.Ytfdhhiibhkepaaa
open Go.RowKit
open Pr Po

theorem val_step {p : Int} {f : List Int} {i : Nat} (hi : i < f.length) (x : Int) : (ev (f.take i) x % p + nth f i * (x ^ i % p)) % p = ev (f.take (i + 1)) x % p := by
  rw [ev_take hi, Int.emod_add_emod, ← Int.add_emod_emod, Int.mul_emod, Int.emod_emod, ← Int.mul_emod, Int.add_emod_emod]
  rfl

theorem pow_step {p : Int} (x : Int) (i : Nat) : x ^ i % p * (x % p) % p = x ^ (i + 1) % p := by
  rw [← Int.mul_emod, Int.pow_succ]

set_option maxRecDepth 100000 in
set_option maxHeartbeats 2000000 in
theorem refValue_any (p : Int) (f : List Int) (x : Int) (a : Option Addr) (ca : Nat) (w : World) (p2 : 2 ≤ p) (p9 : p ≤ 997) (hf : Bnd p f) (hl : f.length ≤ 100) (hr : Reads w .i64 a f) :
    Calls Try.prog 13 #[.int .i64 p, .slice a f.length ca, .int .i64 x] w (Says (.int .i64 (ev f x % p)) w) := by
  have h1p : (1 : Int) % p = 1 := Int.emod_eq_of_lt (by omega) (by omega)
  have HM := Lib.hid fun w2 => refmod_any x p w2 (by omega) (by omega)
  have m0 := Int.emod_nonneg x (b := p) (by omega)
  have m1 := Int.emod_lt_of_pos x (b := p) (by omega)
  have HFB := Lib.hid fun i => hf.at (by omega) i
  obtain ⟨O, hO⟩ : ∃ O : Nat → Int, ∀ i, ev (f.take i) x % p = O i := ⟨_, fun _ => rfl⟩
  obtain ⟨Y, hY⟩ : ∃ Y : Nat → Int, ∀ i, x ^ i % p = Y i := ⟨_, fun _ => rfl⟩
  have HOB : Hid (∀ i, 0 ≤ O i ∧ O i < p) := Lib.hid fun i => by
    rw [← hO]
    exact ⟨Int.emod_nonneg _ (by omega), Int.emod_lt_of_pos _ (by omega)⟩
  have HYB : Hid (∀ i, 0 ≤ Y i ∧ Y i < p) := Lib.hid fun i => by
    rw [← hY]
    exact ⟨Int.emod_nonneg _ (by omega), Int.emod_lt_of_pos _ (by omega)⟩
  have HOS : Hid (∀ i, i < f.length → (O i + nth f i * Y i) % p = O (i + 1)) := Lib.hid fun i hi => by rw [← hO, ← hO, ← hY]; exact val_step hi x
  have HYS : Hid (∀ i, Y i * (x % p) % p = Y (i + 1)) := Lib.hid fun i => by rw [← hY, ← hY]; exact pow_step x i
  have H0 : Hid (O 0 = 0) := Lib.hid (by rw [← hO, List.take_zero]; simp [ev])
  have H1 : Hid (Y 0 = 1) := Lib.hid (by rw [← hY, Int.pow_zero]; exact h1p)
  have HE : Hid (ev f x % p = O f.length) := Lib.hid (by rw [← hO, List.take_length])
  have HRF := Lib.hid fun w2 (hx : Ex w w2) => hr.ex hx
  rw [HE.out]
  obtain ⟨L, hL⟩ : ∃ L, f.length = L := ⟨_, rfl⟩
  have HL := Lib.hid hL
  obtain ⟨m, hm⟩ : ∃ m, x % p = m := ⟨_, rfl⟩
  rw [hL] at hl HOS ⊢
  rw [hm] at m0 m1 HM HYS
  clear hf hr hL hm hO hY HE
  go_enter Try.func13, Try.ntmps13
  go_wp2
  refine wp_region_wo (by kernel_rfl) (by kernel_rfl) ?_
  repeat (go_big_quiet_step (fail))
  refine wpQuiet_nil ?_
  rintro _ ⟨⟨w3, hw3⟩, rfl⟩
  simp only [h1p]
  go_wp2
  go_loopg [7, 8, 15] L (fun k v7 v8 v15 wr => ∃ i : Nat, i ≤ L ∧ v7 = .int .i64 (O i) ∧ v8 = .int .i64 (Y i) ∧ v15 = .int .i64 i ∧ Hid (k = L - i) ∧ Ex w wr)
  case atStart => exact ⟨0, by omega, by rw [H0.out], by rw [H1.out], rfl, Lib.hid rfl, (by repeat (first | assumption | exact Ex.refl _ | refine Ex.trans ?_ (by assumption)))⟩
  case round =>
    obtain ⟨i, hi, rfl, rfl, rfl, hk, hx⟩ := hrel
    by_cases hlt : i < L
    · rcases (HRF.out _ hx) with hn | ⟨bf, of_, rfl, hc⟩
      · have := HL.out; rw [hn] at this; simp at this; omega
      have hci := hc i (by have := HL.out; omega)
      obtain ⟨o0, o1⟩ := HOB.out i
      obtain ⟨y0, y1⟩ := HYB.out i
      obtain ⟨x0, x1⟩ := HFB.out i
      obtain ⟨o2, o3⟩ := HOB.out (i + 1)
      obtain ⟨y2, y3⟩ := HYB.out (i + 1)
      have hos := HOS.out i hlt
      have hys := HYS.out i
      obtain ⟨X, hX⟩ : ∃ X, nth f i = X := ⟨_, rfl⟩
      obtain ⟨A, hA⟩ : ∃ A, O i = A := ⟨_, rfl⟩
      obtain ⟨B, hB⟩ : ∃ B, Y i = B := ⟨_, rfl⟩
      rw [hX] at hci x0 x1 hos
      rw [hA] at o0 o1 hos ⊢
      rw [hB] at y0 y1 hos hys ⊢
      obtain ⟨q0, q1⟩ := Eu.mul_le (a := X) (b := B) (A := 997) (B := 997) (by omega) (by omega) (by omega) (by omega)
      obtain ⟨q2, q3⟩ := Eu.mul_le (a := B) (b := m) (A := 997) (B := 997) (by omega) (by omega) (by omega) (by omega)
      clear hc hX hA hB
      go_wp2_with (go_at_call 36; (with_reducible refine (HM.out _).mono ?_); rintro e w' ⟨rfl, rfl⟩)
      go_roundg (L - (i + 1))
      case measure => have := hk.out; omega
      case rel => exact ⟨i + 1, by omega, by go_num, by go_num, by go_num, Lib.hid rfl, hx⟩
    · have e : i = L := by omega
      subst e
      go_wp2
      go_ret
      exact ⟨rfl, hx⟩

end Go.Proofs.Ytfdhhiibhkepaaa
